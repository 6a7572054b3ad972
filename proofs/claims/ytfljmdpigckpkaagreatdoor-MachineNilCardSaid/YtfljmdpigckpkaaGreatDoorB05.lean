/- The program's countsMayBe and valuesMayBe: yes of a program that may be; The program's tasksMayBe: yes of a program that may be; The program's numbersMayBe: yes of an instruction that may be. Written by genVE.py. -/
import Derived.Test.YtfljmdpigckpkaaGreatDoorB04
namespace Go.Proofs.YtfljmdpigckpkaaGreatDoor
open Go.RowKit Go.Shelf
attribute [local go_sem] Oper.semAt_some
def Cls.o (y : Cls) : Obj := .cells #[.string y.name, .slice y.namesA y.names.length y.namesC, .slice y.fldsA y.flds.length y.fldsC] 319 (0, 0)
def Glb.o (y : Glb) : Obj := .cells #[.string y.name, .int .i64 y.ty] 90 (0, 0)
/-- A program that may be, and whose types are there. -/
structure GoodP (P : Prg) : Prop where
  may : MayP P
  glb : ∀ (i : Nat) (h : i < P.glbs.length), typB P P.glbs[i].ty = true
  fld : ∀ (i : Nat) (h : i < P.clss.length) (k : Nat) (hk : k < P.clss[i].flds.length), typB P P.clss[i].flds[k] = true
  cel : ∀ (i : Nat) (h : i < P.fns.length) (k : Nat) (hk : k < P.fns[i].code.length), P.fns[i].code[k].op = 11 → typB P P.fns[i].code[k].n = true
section
variable {w : World} {P : Prg}
theorem Prg.cls_all (h : P.In w) {i : Nat} (hi : i < P.clss.length) : ∃ g off, P.clssA = some ⟨g, off, none⟩ ∧ g < w.heap.size ∧ Cls.In w P.clss[i] ∧ w.cell? ⟨g, off + i * 3, none⟩ = some (.string P.clss[i].name) ∧ w.cell? ⟨g, off + i * 3 + 1, none⟩ = some (.slice P.clss[i].namesA P.clss[i].names.length P.clss[i].namesC) ∧ w.cell? ⟨g, off + i * 3 + 2, none⟩ = some (.slice P.clss[i].fldsA P.clss[i].flds.length P.clss[i].fldsC) := by
  obtain ⟨g, off, h1, h2, h3, h4⟩ := h.clss.2.2 i _ (List.getElem?_eq_getElem hi)
  exact ⟨g, off, h1, h2, h3, h4 0 _ rfl, h4 1 _ rfl, h4 2 _ rfl⟩
theorem Prg.glb_all (h : P.In w) {i : Nat} (hi : i < P.glbs.length) : ∃ g off, P.glbsA = some ⟨g, off, none⟩ ∧ g < w.heap.size ∧ w.cell? ⟨g, off + i * 2, none⟩ = some (.string P.glbs[i].name) ∧ w.cell? ⟨g, off + i * 2 + 1, none⟩ = some (.int .i64 P.glbs[i].ty) := by
  obtain ⟨g, off, h1, h2, h3, h4⟩ := h.glbs.2.2 i _ (List.getElem?_eq_getElem hi)
  exact ⟨g, off, h1, h2, h4 0 _ rfl, h4 1 _ rfl⟩
end
set_option maxHeartbeats 4000000 in
set_option maxRecDepth 100000 in
theorem countsMayBe_ok {P : Prg} (W : World) (h : GoodP P) : Calls Tryz.prog 197 #[P.v] W fun e W' => e = .returned (.bool true) ∧ Ext W W' := by
  have n0 := h.may.parts.n0
  have n1 := h.may.parts.n1
  have n2 := h.may.parts.n2
  have n3 := h.may.parts.n3
  have n4 := h.may.parts.n4
  have n5 := h.may.parts.n5
  have n6 := h.may.sites.2
  unfold Prg.v
  obtain ⟨W1, hW1⟩ : ∃ W1, W1 = W.alloc P.o := ⟨_, rfl⟩
  have hE1 : Ext W W1 := by rw [hW1]; exact Ext.one _ _
  have hb1 : W1.heap[W.heap.size]? = some P.o := by rw [hW1]; exact World.alloc_heap_new _ _
  obtain ⟨x0, x1, x2, x3, x4, x5, x6, x7, xl⟩ := Prg.o_cells hb1
  have HE1 := Lib.hid hE1
  have HW := Lib.hid hW1
  clear hE1 hb1 hW1 h
  go_enter Tryz.func197, Tryz.ntmps197
  go_upto_region 1 with (fail)
  change Code.wp _ _ _ _ (W.alloc P.o)
  rw [← HW.out]
  go_wp2_with fail
  go_ret
  exact ⟨by rw [← show decide ((P.sits.length : Int) ≤ 512) = true from decide_eq_true (by omega)]; rfl, HE1.out⟩
set_option maxHeartbeats 8000000 in
set_option maxRecDepth 100000 in
theorem valuesMayBe_ok {P : Prg} {W : World} (h : P.In W) (hg : GoodP P) : Calls Tryz.prog 198 #[P.v] W fun e W' => e = .returned (.bool true) ∧ Ext W W' := by
  have HTY := Lib.hid (fun (w : World) (k : Ext W w) (t : Int) (ht : typB P t = true) => isType_ok (h.kept k) ht)
  unfold Prg.v at HTY ⊢
  obtain ⟨W1, hW1⟩ : ∃ W1, W1 = W.alloc P.o := ⟨_, rfl⟩
  have hE1 : Ext W W1 := by rw [hW1]; exact Ext.one _ _
  have hb1 : W1.heap[W.heap.size]? = some P.o := by rw [hW1]; exact World.alloc_heap_new _ _
  obtain ⟨x0, x1, x2, x3, x4, x5, x6, x7, xl⟩ := Prg.o_cells hb1
  have HE1 := Lib.hid hE1
  have HB1 := Lib.hid hb1
  have HW := Lib.hid hW1
  have HP := Lib.hid h
  have HG := Lib.hid hg
  clear hE1 hb1 hW1 h hg
  go_enter Tryz.func198, Tryz.ntmps198
  go_upto_region 1 with (fail)
  change Code.wp _ _ _ _ (W.alloc P.o)
  rw [← HW.out]
  go_wp2_with fail
  clear x0 x1 x2 x3 x4 x5 x6 x7 xl HW
  go_loopg [12] P.clss.length (fun k v12 wr => ∃ (i : Nat), i + k = P.clss.length ∧ v12 = .int .i64 i ∧ Ext W wr ∧ wr.heap[W.heap.size]? = some P.o)
  case atStart => exact ⟨0, by omega, rfl, HE1.out, HB1.out⟩
  case round =>
    clear HE1 HB1
    obtain ⟨i, hik, rfl, hx, hb⟩ := hrel
    obtain ⟨wq, rfl⟩ : ∃ y, y = wr := ⟨_, rfl⟩
    obtain ⟨x0, x1, x2, x3, x4, x5, x6, x7, xl⟩ := Prg.o_cells hb
    have HX := Lib.hid hx
    have HB := Lib.hid hb
    have hll := HP.out.clssL
    rcases Nat.lt_or_ge i P.clss.length with hi | hi
    · have z0 : (i : Int) < (P.clss.length : Int) := by omega
      obtain ⟨g, off, e1, hgl, hin, c0, c1, c2⟩ := Prg.cls_all (HP.out.kept hx) hi
      have hy := (HG.out.may.parts.cls i hi)
      have hf := HG.out.fld i hi
      have HIN := Lib.hid (fun (w : World) (k : Ext wq w) => hin.kept k)
      generalize P.clss[i] = y at c0 c1 c2 hy hf HIN
      obtain ⟨hy1, hy2⟩ := hy
      have z1 : ¬ ((y.flds.length : Int) > 8) := by omega
      have z2 : ((y.names.length : Int) != (y.flds.length : Int)) = false := by simp [hy2]
      have HF := Lib.hid hf
      obtain ⟨G, hG⟩ : ∃ G, G = gk := ⟨_, rfl⟩
      have HGK := Lib.hid hG
      have HE := Lib.hid e1
      rw [e1]
      clear e1 hx hb hf hG hy2
      go_upto_region 6 with (fail)
      change Code.wp _ _ _ _ (wq.alloc y.o)
      obtain ⟨W2, hW2⟩ : ∃ W2, W2 = wq.alloc y.o := ⟨_, rfl⟩
      rw [← hW2]
      have hE2 : Ext wq W2 := by rw [hW2]; exact Ext.one _ _
      have hb2 : W2.heap[wq.heap.size]? = some y.o := by rw [hW2]; exact World.alloc_heap_new _ _
      have y2 : W2.cell? ⟨wq.heap.size, 2, none⟩ = some (.slice y.fldsA y.flds.length y.fldsC) := by simp [World.cell?, hb2, Cls.o]
      have yl := (Array.getElem?_eq_some_iff.1 hb2).1
      have HX2 := Lib.hid (HX.out.trans hE2)
      have HY2 := Lib.hid hE2
      have HB2 := Lib.hid ((hE2.kept (fun _ _ => true)).same _ _ HB.out rfl)
      clear hE2 hb2 hW2 x0 x1 x2 x3 x4 x5 x6 x7 xl c0 c1 c2 z0 z1 z2 hll hgl
      go_wp2_with fail
      clear y2 yl
      go_loopg [32] y.flds.length (fun k v32 wz => ∃ (n : Nat), n + k = y.flds.length ∧ v32 = .int .i64 n ∧ Ext W wz ∧ Ext wq wz ∧ wz.heap[W.heap.size]? = some P.o)
      case atStart => exact ⟨0, by omega, rfl, HX2.out, HY2.out, HB2.out⟩
      case round =>
        obtain ⟨n, hnk, rfl, hx, hy, hb⟩ := hrel
        clear HX2 HY2 HB2
        have HX2 := Lib.hid hx
        have HY2 := Lib.hid hy
        have HB2 := Lib.hid hb
        rcases Nat.lt_or_ge n y.flds.length with hn | hn
        · have z1 : (n : Int) < (y.flds.length : Int) := by omega
          obtain ⟨x0, x1, x2, x3, x4, x5, x6, x7, xl⟩ := Prg.o_cells hb
          obtain ⟨g2, off2, e2, hl2, d0⟩ := (HIN.out _ hy).flds.at hn
          have HT := Lib.hid (HTY.out _ hx _ (HF.out n hn))
          have hlf : (y.flds.length : Int) ≤ 8 := by omega
          have HE2 := Lib.hid e2
          generalize y.flds[n] = t at d0 HT
          have hi0 : iV t = .int .i64 t := rfl
          rw [hi0] at d0
          rw [e2]
          clear e2 hx hb hy hi0
          go_wp2_with (go_at_call 280; refine HT.out.mono ?_; rintro e w2 ⟨rfl, hx2⟩; have HX3 := Lib.hid hx2; clear hx2)
          rw [← HE2.out]
          go_roundg (gk - 1)
          case measure => omega
          case rel => exact ⟨n + 1, by omega, by go_num, HX2.out.trans HX3.out, HY2.out.trans HX3.out, (HX3.out.kept (fun _ _ => true)).same _ _ HB2.out rfl⟩
        · have z1 : ¬ (n : Int) < (y.flds.length : Int) := by omega
          have hl8 : (y.flds.length : Int) ≤ 8 := by omega
          have hll := HP.out.clssL
          have z0 : (i : Int) < P.clss.length := by omega
          clear hnk hn hx hb hy
          go_wp2_with fail
          rw [← HE.out]
          have hg := HGK.out
          go_roundg (G - 1)
          case measure => omega
          case rel => exact ⟨i + 1, by omega, by go_num, HX2.out, HB2.out⟩
    · have z0 : ¬ (i : Int) < (P.clss.length : Int) := by omega
      clear hx hb hik hi
      go_wp2_with fail
      clear x0 x1 x2 x3 x4 x5 x6 x7 xl z0 hll
      go_loopg [45] P.glbs.length (fun k v45 wr => ∃ (i : Nat), i + k = P.glbs.length ∧ v45 = .int .i64 i ∧ Ext W wr ∧ wr.heap[W.heap.size]? = some P.o)
      case atStart => exact ⟨0, by omega, rfl, HX.out, HB.out⟩
      case round =>
        clear HX HB
        obtain ⟨i, hik, rfl, hx, hb⟩ := hrel
        obtain ⟨x0, x1, x2, x3, x4, x5, x6, x7, xl⟩ := Prg.o_cells hb
        have HX := Lib.hid hx
        have HB := Lib.hid hb
        have hll := HP.out.glbsL
        rcases Nat.lt_or_ge i P.glbs.length with hi | hi
        · have z0 : (i : Int) < (P.glbs.length : Int) := by omega
          obtain ⟨g, off, e1, hgl, c0, c1⟩ := Prg.glb_all (HP.out.kept hx) hi
          have HT := Lib.hid (fun (w : World) (k : Ext W w) => HTY.out w k _ (HG.out.glb i hi))
          generalize P.glbs[i] = y at c0 c1 HT
          have HE := Lib.hid e1
          rw [e1]
          clear e1 hx hb
          go_upto_region 16 with (fail)
          change Code.wp _ _ _ _ (wr.alloc y.o)
          obtain ⟨W2, hW2⟩ : ∃ W2, W2 = wr.alloc y.o := ⟨_, rfl⟩
          rw [← hW2]
          have hE2 : Ext wr W2 := by rw [hW2]; exact Ext.one _ _
          have hb2 : W2.heap[wr.heap.size]? = some y.o := by rw [hW2]; exact World.alloc_heap_new _ _
          have y2 : W2.cell? ⟨wr.heap.size, 1, none⟩ = some (.int .i64 y.ty) := by simp [World.cell?, hb2, Glb.o]
          have yl := (Array.getElem?_eq_some_iff.1 hb2).1
          have HX2 := Lib.hid (HX.out.trans hE2)
          have hb3 := (hE2.kept (fun _ _ => true)).same _ _ HB.out rfl
          have HB2 := Lib.hid hb3
          clear x0 x1 x2 x3 x4 x5 x6 x7 xl
          obtain ⟨x0, x1, x2, x3, x4, x5, x6, x7, xl⟩ := Prg.o_cells hb3
          have HT2 := Lib.hid (HT.out _ HX2.out)
          clear hE2 hb2 hW2 c0 c1 hb3 HT hgl
          go_wp2_with (go_at_call 280; refine HT2.out.mono ?_; rintro e w2 ⟨rfl, hx2⟩; have HX3 := Lib.hid hx2; clear hx2)
          rw [← HE.out]
          go_roundg (gk - 1)
          case measure => omega
          case rel => exact ⟨i + 1, by omega, by go_num, HX2.out.trans HX3.out, (HX3.out.kept (fun _ _ => true)).same _ _ HB2.out rfl⟩
        · have z0 : ¬ (i : Int) < (P.glbs.length : Int) := by omega
          clear hx hb hik hi
          go_wp2_with fail
          go_ret
          exact ⟨rfl, HX.out⟩
end Go.Proofs.YtfljmdpigckpkaaGreatDoor

namespace Go.Proofs.YtfljmdpigckpkaaGreatDoor
open Go.RowKit Go.Shelf
attribute [local go_sem] Oper.semAt_some
@[go_sem] theorem idx4_0 (a b c d : Int) (w : World) : (Instr.index 136 (.agg #[.int .i64 a, .int .i64 b, .int .i64 c, .int .i64 d]) (.int .i64 0)).run Tryz.prog w = .ok (.int .i64 a) w := by kernel_rfl
@[go_sem] theorem idx4_1 (a b c d : Int) (w : World) : (Instr.index 136 (.agg #[.int .i64 a, .int .i64 b, .int .i64 c, .int .i64 d]) (.int .i64 1)).run Tryz.prog w = .ok (.int .i64 b) w := by kernel_rfl
@[go_sem] theorem idx4_2 (a b c d : Int) (w : World) : (Instr.index 136 (.agg #[.int .i64 a, .int .i64 b, .int .i64 c, .int .i64 d]) (.int .i64 2)).run Tryz.prog w = .ok (.int .i64 c) w := by kernel_rfl
@[go_sem] theorem idx4_3 (a b c d : Int) (w : World) : (Instr.index 136 (.agg #[.int .i64 a, .int .i64 b, .int .i64 c, .int .i64 d]) (.int .i64 3)).run Tryz.prog w = .ok (.int .i64 d) w := by kernel_rfl
theorem four4 {n : Nat} (h : n < 4) : n = 0 ∨ n = 1 ∨ n = 2 ∨ n = 3 := by omega
def Cmp.o (y : Cmp) : Obj := .cells #[.string y.name, .int .i64 y.loop, .int .i64 y.fs0, .int .i64 y.fs1, .int .i64 y.fs2, .int .i64 y.fs3] 138 (0, 0)
def Evt.o (y : Evt) : Obj := .cells #[.string y.name, .int .i64 y.loop, .bool y.on, .int .i64 y.fn] 97 (0, 0)
section
variable {w : World} {P : Prg}
theorem Prg.cmp_all (h : P.In w) {i : Nat} (hi : i < P.cmps.length) : ∃ g off, P.cmpsA = some ⟨g, off, none⟩ ∧ g < w.heap.size ∧ w.cell? ⟨g, off + i * 6, none⟩ = some (.string P.cmps[i].name) ∧ w.cell? ⟨g, off + i * 6 + 1, none⟩ = some (.int .i64 P.cmps[i].loop) ∧ w.cell? ⟨g, off + i * 6 + 2, none⟩ = some (.int .i64 P.cmps[i].fs0) ∧ w.cell? ⟨g, off + i * 6 + 3, none⟩ = some (.int .i64 P.cmps[i].fs1) ∧ w.cell? ⟨g, off + i * 6 + 4, none⟩ = some (.int .i64 P.cmps[i].fs2) ∧ w.cell? ⟨g, off + i * 6 + 5, none⟩ = some (.int .i64 P.cmps[i].fs3) := by
  obtain ⟨g, off, h1, h2, h3, h4⟩ := h.cmps.2.2 i _ (List.getElem?_eq_getElem hi)
  exact ⟨g, off, h1, h2, h4 0 _ rfl, h4 1 _ rfl, h4 2 _ rfl, h4 3 _ rfl, h4 4 _ rfl, h4 5 _ rfl⟩
theorem Prg.evt_all (h : P.In w) {i : Nat} (hi : i < P.evts.length) : ∃ g off, P.evtsA = some ⟨g, off, none⟩ ∧ g < w.heap.size ∧ w.cell? ⟨g, off + i * 4, none⟩ = some (.string P.evts[i].name) ∧ w.cell? ⟨g, off + i * 4 + 1, none⟩ = some (.int .i64 P.evts[i].loop) ∧ w.cell? ⟨g, off + i * 4 + 2, none⟩ = some (.bool P.evts[i].on) ∧ w.cell? ⟨g, off + i * 4 + 3, none⟩ = some (.int .i64 P.evts[i].fn) := by
  obtain ⟨g, off, h1, h2, h3, h4⟩ := h.evts.2.2 i _ (List.getElem?_eq_getElem hi)
  exact ⟨g, off, h1, h2, h4 0 _ rfl, h4 1 _ rfl, h4 2 _ rfl, h4 3 _ rfl⟩
end
set_option maxHeartbeats 8000000 in
set_option maxRecDepth 100000 in
theorem tasksMayBe_ok {P : Prg} {W : World} (h : P.In W) (hg : GoodP P) : Calls Tryz.prog 199 #[P.v] W fun e W' => e = .returned (.bool true) ∧ Ext W W' := by
  have HTK := Lib.hid (fun (w : World) (k : Ext W w) (f : Int) (hf : rootB P f = true) => isTask_ok (h.kept k) hf)
  unfold Prg.v at HTK ⊢
  obtain ⟨W1, hW1⟩ : ∃ W1, W1 = W.alloc P.o := ⟨_, rfl⟩
  have hE1 : Ext W W1 := by rw [hW1]; exact Ext.one _ _
  have hb1 : W1.heap[W.heap.size]? = some P.o := by rw [hW1]; exact World.alloc_heap_new _ _
  obtain ⟨x0, x1, x2, x3, x4, x5, x6, x7, xl⟩ := Prg.o_cells hb1
  have HE1 := Lib.hid hE1
  have HB1 := Lib.hid hb1
  have HW := Lib.hid hW1
  have HP := Lib.hid h
  have HG := Lib.hid hg
  clear hE1 hb1 hW1 h hg
  go_enter Tryz.func199, Tryz.ntmps199
  go_upto_region 1 with (fail)
  change Code.wp _ _ _ _ (W.alloc P.o)
  rw [← HW.out]
  go_wp2_with fail
  clear x0 x1 x2 x3 x4 x5 x6 x7 xl HW
  go_loopg [12] P.cmps.length (fun k v12 wr => ∃ (i : Nat), i + k = P.cmps.length ∧ v12 = .int .i64 i ∧ Ext W wr ∧ wr.heap[W.heap.size]? = some P.o)
  case atStart => exact ⟨0, by omega, rfl, HE1.out, HB1.out⟩
  case round =>
    clear HE1 HB1
    obtain ⟨i, hik, rfl, hx, hb⟩ := hrel
    obtain ⟨wq, rfl⟩ : ∃ y, y = wr := ⟨_, rfl⟩
    obtain ⟨x0, x1, x2, x3, x4, x5, x6, x7, xl⟩ := Prg.o_cells hb
    have HX := Lib.hid hx
    have HB := Lib.hid hb
    have hll := HP.out.cmpsL
    rcases Nat.lt_or_ge i P.cmps.length with hi | hi
    · have z0 : (i : Int) < (P.cmps.length : Int) := by omega
      obtain ⟨g, off, e1, hgl, c0, c1, c2, c3, c4, c5⟩ := Prg.cmp_all (HP.out.kept hx) hi
      have hy := (HG.out.may.parts.cmp i hi)
      generalize P.cmps[i] = y at c0 c1 c2 c3 c4 c5 hy
      have hy1 := hy.1
      have HA := Lib.hid (fun w => hy.2 ▸ amongI_ok y.loop P.loops.length w)
      have HF := Lib.hid hy1
      obtain ⟨G, hG⟩ : ∃ G, G = gk := ⟨_, rfl⟩
      have HGK := Lib.hid hG
      have HE := Lib.hid e1
      rw [e1]
      clear e1 hx hb hG hy1 hy
      go_upto_region 4 with (fail)
      change Code.wp _ _ _ _ (wq.alloc y.o)
      obtain ⟨W2, hW2⟩ : ∃ W2, W2 = wq.alloc y.o := ⟨_, rfl⟩
      rw [← hW2]
      have hE2 : Ext wq W2 := by rw [hW2]; exact Ext.one _ _
      have hb2 : W2.heap[wq.heap.size]? = some y.o := by rw [hW2]; exact World.alloc_heap_new _ _
      have y1 : W2.cell? ⟨wq.heap.size, 1, none⟩ = some (.int .i64 y.loop) := by simp [World.cell?, hb2, Cmp.o]
      have y2 : W2.cell? ⟨wq.heap.size, 2, none⟩ = some (.int .i64 y.fs0) := by simp [World.cell?, hb2, Cmp.o]
      have y3 : W2.cell? ⟨wq.heap.size, 3, none⟩ = some (.int .i64 y.fs1) := by simp [World.cell?, hb2, Cmp.o]
      have y4 : W2.cell? ⟨wq.heap.size, 4, none⟩ = some (.int .i64 y.fs2) := by simp [World.cell?, hb2, Cmp.o]
      have y5 : W2.cell? ⟨wq.heap.size, 5, none⟩ = some (.int .i64 y.fs3) := by simp [World.cell?, hb2, Cmp.o]
      have yl := (Array.getElem?_eq_some_iff.1 hb2).1
      have HX2 := Lib.hid (HX.out.trans hE2)
      have hb3 := (hE2.kept (fun _ _ => true)).same _ _ HB.out rfl
      have HB2 := Lib.hid hb3
      clear x0 x1 x2 x3 x4 x5 x6 x7 xl
      obtain ⟨x0, x1, x2, x3, x4, x5, x6, x7, xl⟩ := Prg.o_cells hb3
      clear hE2 hb2 hW2 hb3 c0 c1 c2 c3 c4 c5 z0 hll hgl
      go_wp2_with (go_at_call 272; refine (HA.out _).mono ?_; rintro e w2 ⟨rfl, hw⟩; rw [hw]; clear hw)
      clear x0 x1 x2 x3 x4 x5 x6 x7 xl y1 y2 y3 y4 y5 yl
      go_loopg [25] 4 (fun k v25 wz => ∃ (n : Nat), n + k = 4 ∧ v25 = .int .i64 n ∧ Ext W wz ∧ wz.heap[W.heap.size]? = some P.o)
      case atStart => exact ⟨0, by omega, rfl, HX2.out, HB2.out⟩
      case round =>
        obtain ⟨n, hnk, rfl, hx, hb⟩ := hrel
        clear HX2 HB2
        have HX2 := Lib.hid hx
        have HB2 := Lib.hid hb
        obtain ⟨x0, x1, x2, x3, x4, x5, x6, x7, xl⟩ := Prg.o_cells hb
        rcases Nat.lt_or_ge n 4 with hn | hn
        · obtain ⟨v, hv⟩ : ∃ v, v = fsA y n := ⟨_, rfl⟩
          have hroot : 0 ≤ v → rootB P v = true := by rw [hv]; exact HF.out n hn
          have HGK2 := Lib.hid hnk
          by_cases hv0 : v ≥ 0
          · have HT := Lib.hid (HTK.out _ hx _ (hroot hv0))
            clear hroot hx hb hnk
            rcases four4 hn with rfl | rfl | rfl | rfl
            all_goals
              simp only [fsA, List.getD, List.getElem?_cons_zero, List.getElem?_cons_succ, Option.getD_some] at hv
              subst hv
              go_wp2_with (go_at_call 281; refine HT.out.mono ?_; rintro e w2 ⟨rfl, hx2⟩; have HX3 := Lib.hid hx2; clear hx2)
              have hnk := HGK2.out
              go_roundg (gk - 1)
              case measure => omega
              case rel => first
                | exact ⟨1, by omega, rfl, HX2.out.trans HX3.out, (HX3.out.kept (fun _ _ => true)).same _ _ HB2.out rfl⟩
                | exact ⟨2, by omega, rfl, HX2.out.trans HX3.out, (HX3.out.kept (fun _ _ => true)).same _ _ HB2.out rfl⟩
                | exact ⟨3, by omega, rfl, HX2.out.trans HX3.out, (HX3.out.kept (fun _ _ => true)).same _ _ HB2.out rfl⟩
                | exact ⟨4, by omega, rfl, HX2.out.trans HX3.out, (HX3.out.kept (fun _ _ => true)).same _ _ HB2.out rfl⟩
          · clear hroot hx hb hnk
            rcases four4 hn with rfl | rfl | rfl | rfl
            all_goals
              simp only [fsA, List.getD, List.getElem?_cons_zero, List.getElem?_cons_succ, Option.getD_some] at hv
              subst hv
              go_wp2_with fail
              have hnk := HGK2.out
              go_roundg (gk - 1)
              case measure => omega
              case rel => first
                | exact ⟨1, by omega, rfl, HX2.out, HB2.out⟩
                | exact ⟨2, by omega, rfl, HX2.out, HB2.out⟩
                | exact ⟨3, by omega, rfl, HX2.out, HB2.out⟩
                | exact ⟨4, by omega, rfl, HX2.out, HB2.out⟩
        · have z1 : ¬ (n : Int) < 4 := by omega
          have hll := HP.out.cmpsL
          have z0 : (i : Int) < P.cmps.length := by omega
          clear hnk hn hx hb
          go_wp2_with fail
          rw [← HE.out]
          have hg := HGK.out
          go_roundg (G - 1)
          case measure => omega
          case rel => exact ⟨i + 1, by omega, by go_num, HX2.out, HB2.out⟩
    · have z0 : ¬ (i : Int) < (P.cmps.length : Int) := by omega
      clear hx hb hik hi
      go_wp2_with fail
      clear x0 x1 x2 x3 x4 x5 x6 x7 xl z0 hll
      go_loopg [41] P.evts.length (fun k v41 wr => ∃ (i : Nat), i + k = P.evts.length ∧ v41 = .int .i64 i ∧ Ext W wr ∧ wr.heap[W.heap.size]? = some P.o)
      case atStart => exact ⟨0, by omega, rfl, HX.out, HB.out⟩
      case round =>
        clear HX HB
        obtain ⟨i, hik, rfl, hx, hb⟩ := hrel
        obtain ⟨x0, x1, x2, x3, x4, x5, x6, x7, xl⟩ := Prg.o_cells hb
        have HX := Lib.hid hx
        have HB := Lib.hid hb
        have hll := HP.out.evtsL
        rcases Nat.lt_or_ge i P.evts.length with hi | hi
        · have z0 : (i : Int) < (P.evts.length : Int) := by omega
          obtain ⟨g, off, e1, hgl, c0, c1, c2, c3⟩ := Prg.evt_all (HP.out.kept hx) hi
          have hy := (HG.out.may.parts.evt i hi)
          generalize P.evts[i] = y at c0 c1 c2 c3 hy
          have HA := Lib.hid (fun w => hy.1 ▸ amongI_ok y.loop P.loops.length w)
          have HT := Lib.hid (fun (w : World) (k : Ext W w) => HTK.out w k _ hy.2)
          have HE := Lib.hid e1
          rw [e1]
          clear e1 hx hb hy
          go_upto_region 16 with (fail)
          change Code.wp _ _ _ _ (wr.alloc y.o)
          obtain ⟨W2, hW2⟩ : ∃ W2, W2 = wr.alloc y.o := ⟨_, rfl⟩
          rw [← hW2]
          have hE2 : Ext wr W2 := by rw [hW2]; exact Ext.one _ _
          have hb2 : W2.heap[wr.heap.size]? = some y.o := by rw [hW2]; exact World.alloc_heap_new _ _
          have y1 : W2.cell? ⟨wr.heap.size, 1, none⟩ = some (.int .i64 y.loop) := by simp [World.cell?, hb2, Evt.o]
          have y3 : W2.cell? ⟨wr.heap.size, 3, none⟩ = some (.int .i64 y.fn) := by simp [World.cell?, hb2, Evt.o]
          have yl := (Array.getElem?_eq_some_iff.1 hb2).1
          have HX2 := Lib.hid (HX.out.trans hE2)
          have hb3 := (hE2.kept (fun _ _ => true)).same _ _ HB.out rfl
          have HB2 := Lib.hid hb3
          clear x0 x1 x2 x3 x4 x5 x6 x7 xl
          obtain ⟨x0, x1, x2, x3, x4, x5, x6, x7, xl⟩ := Prg.o_cells hb3
          have HT2 := Lib.hid (HT.out _ HX2.out)
          clear hE2 hb2 hW2 c0 c1 c2 c3 hb3 HT hgl
          go_wp2_with (first
            | (go_at_call 272; refine (HA.out _).mono ?_; rintro e w2 ⟨rfl, hw⟩; rw [hw]; clear hw)
            | (go_at_call 281; refine HT2.out.mono ?_; rintro e w2 ⟨rfl, hx2⟩; have HX3 := Lib.hid hx2; clear hx2))
          rw [← HE.out]
          go_roundg (gk - 1)
          case measure => omega
          case rel => exact ⟨i + 1, by omega, by go_num, HX2.out.trans HX3.out, (HX3.out.kept (fun _ _ => true)).same _ _ HB2.out rfl⟩
        · have z0 : ¬ (i : Int) < (P.evts.length : Int) := by omega
          have HT := Lib.hid (HTK.out _ hx _ HG.out.may.parts.mn)
          clear hx hb hik hi
          go_wp2_with (go_at_call 281; refine HT.out.mono ?_; rintro e w2 ⟨rfl, hx2⟩; have HX3 := Lib.hid hx2; clear hx2)
          go_ret
          exact ⟨rfl, HX.out.trans HX3.out⟩
end Go.Proofs.YtfljmdpigckpkaaGreatDoor

namespace Go.Proofs.YtfljmdpigckpkaaGreatDoor
open Go.RowKit Go.Shelf
attribute [local go_sem] Oper.semAt_some
/-- The boxes of a program, a function, an instruction. -/
structure Box3 (B : Nat) (P : Prg) (f : Fn) (x : Ins) (w : World) : Prop where
  bp : w.heap[B]? = some P.o
  bf : w.heap[B + 1]? = some f.o
  bx : w.heap[B + 1 + 1]? = some x.o
theorem Box3.new (P : Prg) (f : Fn) (x : Ins) (W : World) : Box3 W.heap.size P f x (((W.alloc P.o).alloc f.o).alloc x.o) := by
  have k2 : Ext (W.alloc P.o) (((W.alloc P.o).alloc f.o).alloc x.o) := (Ext.one _ _).trans (Ext.one _ _)
  have k3 : Ext ((W.alloc P.o).alloc f.o) (((W.alloc P.o).alloc f.o).alloc x.o) := Ext.one _ _
  refine ⟨(k2.kept (fun _ _ => true)).same _ _ (World.alloc_heap_new _ _) rfl, (k3.kept (fun _ _ => true)).same _ _ (by have := World.alloc_heap_new (W.alloc P.o) f.o; rwa [World.size_alloc] at this) rfl, ?_⟩
  have := World.alloc_heap_new ((W.alloc P.o).alloc f.o) x.o
  rwa [World.size_alloc, World.size_alloc] at this
set_option maxHeartbeats 8000000 in
set_option maxRecDepth 100000 in
theorem numbersA {P : Prg} {f : Fn} {x : Ins} {W : World} (hi : InsOk P f x) (hop : x.op = 9 ∨ x.op = 10) : Calls Tryz.prog 283 #[P.v, f.v, x.v] W fun e W' => e = .returned (.bool true) ∧ Ext W W' := by
  have tl := hi.tl
  unfold tailB at tl
  have tl2 : inI x.n P.glbs.length = true := by rcases hop with ho | ho <;> simpa [ho] using tl
  unfold Prg.v
  unfold Fn.v Ins.v
  obtain ⟨W3, hW3⟩ : ∃ W3, W3 = ((W.alloc P.o).alloc f.o).alloc x.o := ⟨_, rfl⟩
  have hE3 : Ext W W3 := by rw [hW3]; exact ((Ext.one _ _).trans (Ext.one _ _)).trans (Ext.one _ _)
  have hb3 : Box3 W.heap.size P f x W3 := by rw [hW3]; exact Box3.new P f x W
  obtain ⟨x0, x1, x2, x3, x4, x5, x6, x7, xl⟩ := Prg.o_cells hb3.bp
  obtain ⟨f0, f1, f2, f3, fl⟩ := Fn.o_cells hb3.bf
  obtain ⟨i0, i1, i2, i3, i4, i5, i6, i7, il⟩ := Ins.o_cells hb3.bx
  have HE3 := Lib.hid hE3
  have HW := Lib.hid hW3
  have HA := Lib.hid (tl2 ▸ amongL_ok x.n P.glbs.length W3)
  clear hE3 hb3 hW3 hi tl tl2
  rcases hop with ho | ho
  all_goals
    rw [ho] at i0
    clear ho
    go_enter Tryz.func283, Tryz.ntmps283
    go_upto_region 1 with (fail)
    change Code.wp _ _ _ _ (((W.alloc P.o).alloc f.o).alloc x.o)
    rw [← HW.out]
    go_wp2_with (go_at_call 294; refine HA.out.mono ?_; rintro e w2 ⟨rfl, hw⟩; rw [hw]; clear hw)
    go_ret
    exact ⟨rfl, HE3.out⟩
set_option maxHeartbeats 8000000 in
set_option maxRecDepth 100000 in
theorem numbersB {P : Prg} {f : Fn} {x : Ins} {W : World} (hP : P.In W) (hi : InsOk P f x) (hty : x.op = 11 → typB P x.n = true) (hop : x.op = 11) : Calls Tryz.prog 283 #[P.v, f.v, x.v] W fun e W' => e = .returned (.bool true) ∧ Ext W W' := by
  have tl := hi.tl
  unfold tailB at tl
  have ht := hty hop
  have hT := fun (w : World) (k : Ext W w) => isType_ok (hP.kept k) ht
  unfold Prg.v at hT ⊢
  unfold Fn.v Ins.v
  obtain ⟨W3, hW3⟩ : ∃ W3, W3 = ((W.alloc P.o).alloc f.o).alloc x.o := ⟨_, rfl⟩
  have hE3 : Ext W W3 := by rw [hW3]; exact ((Ext.one _ _).trans (Ext.one _ _)).trans (Ext.one _ _)
  have hb3 : Box3 W.heap.size P f x W3 := by rw [hW3]; exact Box3.new P f x W
  obtain ⟨x0, x1, x2, x3, x4, x5, x6, x7, xl⟩ := Prg.o_cells hb3.bp
  obtain ⟨f0, f1, f2, f3, fl⟩ := Fn.o_cells hb3.bf
  obtain ⟨i0, i1, i2, i3, i4, i5, i6, i7, il⟩ := Ins.o_cells hb3.bx
  have HE3 := Lib.hid hE3
  have HW := Lib.hid hW3
  have HT := Lib.hid (hT W3 hE3)
  clear hE3 hb3 hW3 hi tl ht hT hP hty
  have ho := hop
  clear hop
  all_goals
    rw [ho] at i0
    clear ho
    go_enter Tryz.func283, Tryz.ntmps283
    go_upto_region 1 with (fail)
    change Code.wp _ _ _ _ (((W.alloc P.o).alloc f.o).alloc x.o)
    rw [← HW.out]
    go_wp2_with (go_at_call 280; refine HT.out.mono ?_; rintro e w2 ⟨rfl, hx2⟩; have HX2 := Lib.hid hx2; clear hx2)
    go_ret
    exact ⟨rfl, HE3.out.trans HX2.out⟩
set_option maxHeartbeats 8000000 in
set_option maxRecDepth 100000 in
theorem numbersC {P : Prg} {f : Fn} {x : Ins} {W : World} (hi : InsOk P f x) (hop : x.op = 14) : Calls Tryz.prog 283 #[P.v, f.v, x.v] W fun e W' => e = .returned (.bool true) ∧ Ext W W' := by
  have tl := hi.tl
  unfold tailB at tl
  have tl2 : inI x.n P.clss.length = true := by have ho := hop; simpa [ho] using tl
  unfold Prg.v
  unfold Fn.v Ins.v
  obtain ⟨W3, hW3⟩ : ∃ W3, W3 = ((W.alloc P.o).alloc f.o).alloc x.o := ⟨_, rfl⟩
  have hE3 : Ext W W3 := by rw [hW3]; exact ((Ext.one _ _).trans (Ext.one _ _)).trans (Ext.one _ _)
  have hb3 : Box3 W.heap.size P f x W3 := by rw [hW3]; exact Box3.new P f x W
  obtain ⟨x0, x1, x2, x3, x4, x5, x6, x7, xl⟩ := Prg.o_cells hb3.bp
  obtain ⟨f0, f1, f2, f3, fl⟩ := Fn.o_cells hb3.bf
  obtain ⟨i0, i1, i2, i3, i4, i5, i6, i7, il⟩ := Ins.o_cells hb3.bx
  have HE3 := Lib.hid hE3
  have HW := Lib.hid hW3
  have HA := Lib.hid (tl2 ▸ amongL_ok x.n P.clss.length W3)
  clear hE3 hb3 hW3 hi tl tl2
  have ho := hop
  clear hop
  all_goals
    rw [ho] at i0
    clear ho
    go_enter Tryz.func283, Tryz.ntmps283
    go_upto_region 1 with (fail)
    change Code.wp _ _ _ _ (((W.alloc P.o).alloc f.o).alloc x.o)
    rw [← HW.out]
    go_wp2_with (go_at_call 294; refine HA.out.mono ?_; rintro e w2 ⟨rfl, hw⟩; rw [hw]; clear hw)
    go_ret
    exact ⟨rfl, HE3.out⟩
set_option maxHeartbeats 8000000 in
set_option maxRecDepth 100000 in
theorem numbersD {P : Prg} {f : Fn} {x : Ins} {W : World} (hP : P.In W) (hi : InsOk P f x) (hop : x.op = 21) : Calls Tryz.prog 283 #[P.v, f.v, x.v] W fun e W' => e = .returned (.bool true) ∧ Ext W W' := by
  have tl := hi.tl
  unfold tailB at tl
  have tl2 : inI x.n P.fns.length = true ∧ ((P.fns[x.n.toNat]?).map fun g => g.caps == (x.l.length : Int)).getD false = true := by simpa [hop] using tl
  obtain ⟨hin, hcp⟩ := tl2
  obtain ⟨k, hk, hkl⟩ := inI_true hin
  have hk' : k < P.fns.length := by omega
  rw [hk] at hin hcp
  have hcp2 : (P.fns[k]).caps = (x.l.length : Int) := by simpa [hk'] using hcp
  unfold Prg.v
  unfold Fn.v Ins.v
  obtain ⟨W3, hW3⟩ : ∃ W3, W3 = ((W.alloc P.o).alloc f.o).alloc x.o := ⟨_, rfl⟩
  have hE3 : Ext W W3 := by rw [hW3]; exact ((Ext.one _ _).trans (Ext.one _ _)).trans (Ext.one _ _)
  have hb3 : Box3 W.heap.size P f x W3 := by rw [hW3]; exact Box3.new P f x W
  obtain ⟨x0, x1, x2, x3, x4, x5, x6, x7, xl⟩ := Prg.o_cells hb3.bp
  obtain ⟨f0, f1, f2, f3, fl⟩ := Fn.o_cells hb3.bf
  obtain ⟨i0, i1, i2, i3, i4, i5, i6, i7, il⟩ := Ins.o_cells hb3.bx
  have HE3 := Lib.hid hE3
  have HW := Lib.hid hW3
  obtain ⟨g, off, e1, hgl, _, _, c1, _, _⟩ := Prg.fn_at (hP.kept hE3) hk'
  rw [hcp2] at c1
  rw [hk] at i4
  rw [e1] at x3
  have HA := Lib.hid (fun w => hin ▸ amongL_ok k P.fns.length w)
  have z1 : ((x.l.length : Int) == (x.l.length : Int)) = true := by simp
  clear hE3 hb3 hW3 hi tl e1 hin hk hcp hcp2 hP
  have ho := hop
  clear hop
  all_goals
    rw [ho] at i0
    clear ho
    go_enter Tryz.func283, Tryz.ntmps283
    go_upto_region 1 with (fail)
    change Code.wp _ _ _ _ (((W.alloc P.o).alloc f.o).alloc x.o)
    rw [← HW.out]
    go_wp2_with fail
    go_quiet (first | (go_at_call 294; exact Calls.quiet_of_same (HA.out _)))
    go_wp2_with fail
    go_ret
    exact ⟨rfl, HE3.out.trans (Ext.drewN _ _)⟩
set_option maxHeartbeats 8000000 in
set_option maxRecDepth 100000 in
theorem numbersE {P : Prg} {f : Fn} {x : Ins} {W : World} (hi : InsOk P f x) (hop : x.op = 23) : Calls Tryz.prog 283 #[P.v, f.v, x.v] W fun e W' => e = .returned (.bool true) ∧ Ext W W' := by
  have tl := hi.tl
  unfold tailB at tl
  have tl2 : inI x.c P.loops.length = true ∧ inI x.n 1000001 = true := by have ho := hop; simpa [ho] using tl
  unfold Prg.v
  unfold Fn.v Ins.v
  obtain ⟨W3, hW3⟩ : ∃ W3, W3 = ((W.alloc P.o).alloc f.o).alloc x.o := ⟨_, rfl⟩
  have hE3 : Ext W W3 := by rw [hW3]; exact ((Ext.one _ _).trans (Ext.one _ _)).trans (Ext.one _ _)
  have hb3 : Box3 W.heap.size P f x W3 := by rw [hW3]; exact Box3.new P f x W
  obtain ⟨x0, x1, x2, x3, x4, x5, x6, x7, xl⟩ := Prg.o_cells hb3.bp
  obtain ⟨f0, f1, f2, f3, fl⟩ := Fn.o_cells hb3.bf
  obtain ⟨i0, i1, i2, i3, i4, i5, i6, i7, il⟩ := Ins.o_cells hb3.bx
  have HE3 := Lib.hid hE3
  have HW := Lib.hid hW3
  have HA := Lib.hid (tl2.1 ▸ amongI_ok x.c P.loops.length W3)
  have HA2 := Lib.hid (tl2.2 ▸ amongL_ok x.n 1000001 W3)
  clear hE3 hb3 hW3 hi tl tl2
  have ho := hop
  clear hop
  all_goals
    rw [ho] at i0
    clear ho
    go_enter Tryz.func283, Tryz.ntmps283
    go_upto_region 1 with (fail)
    change Code.wp _ _ _ _ (((W.alloc P.o).alloc f.o).alloc x.o)
    rw [← HW.out]
    go_wp2_with (first
      | (go_at_call 272; refine HA.out.mono ?_; rintro e w2 ⟨rfl, hw⟩; rw [hw]; clear hw)
      | (go_at_call 294; refine HA2.out.mono ?_; rintro e w2 ⟨rfl, hw⟩; rw [hw]; clear hw))
    go_ret
    exact ⟨rfl, HE3.out⟩
set_option maxHeartbeats 8000000 in
set_option maxRecDepth 100000 in
theorem numbersF {P : Prg} {f : Fn} {x : Ins} {W : World} (hi : InsOk P f x) (hop : x.op = 24) : Calls Tryz.prog 283 #[P.v, f.v, x.v] W fun e W' => e = .returned (.bool true) ∧ Ext W W' := by
  have tl := hi.tl
  unfold tailB at tl
  have tl2 : inI x.c P.loops.length = true := by have ho := hop; simpa [ho] using tl
  unfold Prg.v
  unfold Fn.v Ins.v
  obtain ⟨W3, hW3⟩ : ∃ W3, W3 = ((W.alloc P.o).alloc f.o).alloc x.o := ⟨_, rfl⟩
  have hE3 : Ext W W3 := by rw [hW3]; exact ((Ext.one _ _).trans (Ext.one _ _)).trans (Ext.one _ _)
  have hb3 : Box3 W.heap.size P f x W3 := by rw [hW3]; exact Box3.new P f x W
  obtain ⟨x0, x1, x2, x3, x4, x5, x6, x7, xl⟩ := Prg.o_cells hb3.bp
  obtain ⟨f0, f1, f2, f3, fl⟩ := Fn.o_cells hb3.bf
  obtain ⟨i0, i1, i2, i3, i4, i5, i6, i7, il⟩ := Ins.o_cells hb3.bx
  have HE3 := Lib.hid hE3
  have HW := Lib.hid hW3
  have HA := Lib.hid (tl2 ▸ amongI_ok x.c P.loops.length W3)
  clear hE3 hb3 hW3 hi tl tl2
  have ho := hop
  clear hop
  all_goals
    rw [ho] at i0
    clear ho
    go_enter Tryz.func283, Tryz.ntmps283
    go_upto_region 1 with (fail)
    change Code.wp _ _ _ _ (((W.alloc P.o).alloc f.o).alloc x.o)
    rw [← HW.out]
    go_wp2_with (go_at_call 272; refine HA.out.mono ?_; rintro e w2 ⟨rfl, hw⟩; rw [hw]; clear hw)
    go_ret
    exact ⟨rfl, HE3.out⟩
set_option maxHeartbeats 8000000 in
set_option maxRecDepth 100000 in
theorem numbersG {P : Prg} {f : Fn} {x : Ins} {W : World} (hi : InsOk P f x) (hop : x.op = 26 ∨ x.op = 27) : Calls Tryz.prog 283 #[P.v, f.v, x.v] W fun e W' => e = .returned (.bool true) ∧ Ext W W' := by
  have tl := hi.tl
  unfold tailB at tl
  have tl2 : inI x.n P.evts.length = true := by rcases hop with ho | ho <;> simpa [ho] using tl
  unfold Prg.v
  unfold Fn.v Ins.v
  obtain ⟨W3, hW3⟩ : ∃ W3, W3 = ((W.alloc P.o).alloc f.o).alloc x.o := ⟨_, rfl⟩
  have hE3 : Ext W W3 := by rw [hW3]; exact ((Ext.one _ _).trans (Ext.one _ _)).trans (Ext.one _ _)
  have hb3 : Box3 W.heap.size P f x W3 := by rw [hW3]; exact Box3.new P f x W
  obtain ⟨x0, x1, x2, x3, x4, x5, x6, x7, xl⟩ := Prg.o_cells hb3.bp
  obtain ⟨f0, f1, f2, f3, fl⟩ := Fn.o_cells hb3.bf
  obtain ⟨i0, i1, i2, i3, i4, i5, i6, i7, il⟩ := Ins.o_cells hb3.bx
  have HE3 := Lib.hid hE3
  have HW := Lib.hid hW3
  have HA := Lib.hid (tl2 ▸ amongL_ok x.n P.evts.length W3)
  clear hE3 hb3 hW3 hi tl tl2
  rcases hop with ho | ho
  all_goals
    rw [ho] at i0
    clear ho
    go_enter Tryz.func283, Tryz.ntmps283
    go_upto_region 1 with (fail)
    change Code.wp _ _ _ _ (((W.alloc P.o).alloc f.o).alloc x.o)
    rw [← HW.out]
    go_wp2_with (go_at_call 294; refine HA.out.mono ?_; rintro e w2 ⟨rfl, hw⟩; rw [hw]; clear hw)
    go_ret
    exact ⟨rfl, HE3.out⟩
set_option maxHeartbeats 8000000 in
set_option maxRecDepth 100000 in
theorem numbersH {P : Prg} {f : Fn} {x : Ins} {W : World} (hi : InsOk P f x) (hop : x.op = 31 ∨ x.op = 32) : Calls Tryz.prog 283 #[P.v, f.v, x.v] W fun e W' => e = .returned (.bool true) ∧ Ext W W' := by
  have tl := hi.tl
  unfold tailB at tl
  have tl2 : inI x.n f.code.length = true := by rcases hop with ho | ho <;> simpa [ho] using tl
  unfold Prg.v
  unfold Fn.v Ins.v
  obtain ⟨W3, hW3⟩ : ∃ W3, W3 = ((W.alloc P.o).alloc f.o).alloc x.o := ⟨_, rfl⟩
  have hE3 : Ext W W3 := by rw [hW3]; exact ((Ext.one _ _).trans (Ext.one _ _)).trans (Ext.one _ _)
  have hb3 : Box3 W.heap.size P f x W3 := by rw [hW3]; exact Box3.new P f x W
  obtain ⟨x0, x1, x2, x3, x4, x5, x6, x7, xl⟩ := Prg.o_cells hb3.bp
  obtain ⟨f0, f1, f2, f3, fl⟩ := Fn.o_cells hb3.bf
  obtain ⟨i0, i1, i2, i3, i4, i5, i6, i7, il⟩ := Ins.o_cells hb3.bx
  have HE3 := Lib.hid hE3
  have HW := Lib.hid hW3
  have HA := Lib.hid (tl2 ▸ amongL_ok x.n f.code.length W3)
  clear hE3 hb3 hW3 hi tl tl2
  rcases hop with ho | ho
  all_goals
    rw [ho] at i0
    clear ho
    go_enter Tryz.func283, Tryz.ntmps283
    go_upto_region 1 with (fail)
    change Code.wp _ _ _ _ (((W.alloc P.o).alloc f.o).alloc x.o)
    rw [← HW.out]
    go_wp2_with (go_at_call 294; refine HA.out.mono ?_; rintro e w2 ⟨rfl, hw⟩; rw [hw]; clear hw)
    go_ret
    exact ⟨rfl, HE3.out⟩
set_option maxHeartbeats 8000000 in
set_option maxRecDepth 100000 in
theorem numbersZ {P : Prg} {f : Fn} {x : Ins} {W : World} (hi : InsOk P f x) (hop : x.op = 1 ∨ x.op = 2 ∨ x.op = 3 ∨ x.op = 4 ∨ x.op = 5 ∨ x.op = 6 ∨ x.op = 7 ∨ x.op = 8 ∨ x.op = 12 ∨ x.op = 13 ∨ x.op = 15 ∨ x.op = 16 ∨ x.op = 17 ∨ x.op = 18 ∨ x.op = 19 ∨ x.op = 20 ∨ x.op = 22 ∨ x.op = 25 ∨ x.op = 28 ∨ x.op = 29 ∨ x.op = 30 ∨ x.op = 33) : Calls Tryz.prog 283 #[P.v, f.v, x.v] W fun e W' => e = .returned (.bool true) ∧ Ext W W' := by
  have tl := hi.tl
  unfold tailB at tl
  unfold Prg.v
  unfold Fn.v Ins.v
  obtain ⟨W3, hW3⟩ : ∃ W3, W3 = ((W.alloc P.o).alloc f.o).alloc x.o := ⟨_, rfl⟩
  have hE3 : Ext W W3 := by rw [hW3]; exact ((Ext.one _ _).trans (Ext.one _ _)).trans (Ext.one _ _)
  have hb3 : Box3 W.heap.size P f x W3 := by rw [hW3]; exact Box3.new P f x W
  obtain ⟨x0, x1, x2, x3, x4, x5, x6, x7, xl⟩ := Prg.o_cells hb3.bp
  obtain ⟨f0, f1, f2, f3, fl⟩ := Fn.o_cells hb3.bf
  obtain ⟨i0, i1, i2, i3, i4, i5, i6, i7, il⟩ := Ins.o_cells hb3.bx
  have HE3 := Lib.hid hE3
  have HW := Lib.hid hW3
  clear hE3 hb3 hW3 hi tl
  rcases hop with ho | ho | ho | ho | ho | ho | ho | ho | ho | ho | ho | ho | ho | ho | ho | ho | ho | ho | ho | ho | ho | ho
  all_goals
    rw [ho] at i0
    clear ho
    go_enter Tryz.func283, Tryz.ntmps283
    go_upto_region 1 with (fail)
    change Code.wp _ _ _ _ (((W.alloc P.o).alloc f.o).alloc x.o)
    rw [← HW.out]
    go_wp2_with fail
    go_ret
    exact ⟨rfl, HE3.out⟩
theorem numbers_ok {P : Prg} {f : Fn} {x : Ins} {W : World} (hP : P.In W) (hi : InsOk P f x) (hty : x.op = 11 → typB P x.n = true) : Calls Tryz.prog 283 #[P.v, f.v, x.v] W fun e W' => e = .returned (.bool true) ∧ Ext W W' := by
  have h1 := hi.op1
  have h2 := hi.op2
  by_cases hA : x.op = 9 ∨ x.op = 10
  · exact numbersA hi hA
  by_cases hB : x.op = 11
  · exact numbersB hP hi hty hB
  by_cases hC : x.op = 14
  · exact numbersC hi hC
  by_cases hD : x.op = 21
  · exact numbersD hP hi hD
  by_cases hE : x.op = 23
  · exact numbersE hi hE
  by_cases hF : x.op = 24
  · exact numbersF hi hF
  by_cases hG : x.op = 26 ∨ x.op = 27
  · exact numbersG hi hG
  by_cases hH : x.op = 31 ∨ x.op = 32
  · exact numbersH hi hH
  exact numbersZ hi (by omega)
end Go.Proofs.YtfljmdpigckpkaaGreatDoor
