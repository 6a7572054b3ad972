/- The program's countsMayBe and valuesMayBe: yes of a program that may be. -/
import Derived.Test.YtfljmdpigckpkaaGreatDoorSvB
import Derived.Test.YtfljmdpigckpkaaGreatDoorSpE
namespace Go.Proofs.YtfljmdpigckpkaaGreatDoor
open Go.RowKit Go.Shelf
attribute [local go_sem] Oper.semAt_some
def Cls.o (y : Cls) : Obj := .cells #[.string y.name, .slice y.namesA y.names.length y.namesC, .slice y.fldsA y.flds.length y.fldsC] 319 (0, 0)
def Glb.o (y : Glb) : Obj := .cells #[.string y.name, .int .i64 y.ty] 90 (0, 0)
/-- A program that may be, and whose types are there. -/
structure GoodP (P : Prg) : Prop where
  may : MayP P
  glb : ∀ (i : Nat) (h : i < P.glbs.length), typB P P.glbs[i].ty = true
  fld : ∀ (i : Nat) (h : i < P.clss.length) (k : Nat) (hk : k < P.clss[i].flds.length), typB P P.clss[i].flds[k] = true
  cel : ∀ (i : Nat) (h : i < P.fns.length) (k : Nat) (hk : k < P.fns[i].code.length), P.fns[i].code[k].op = 11 → typB P P.fns[i].code[k].n = true
section
variable {w : World} {P : Prg}
theorem Prg.cls_all (h : P.In w) {i : Nat} (hi : i < P.clss.length) : ∃ g off, P.clssA = some ⟨g, off, none⟩ ∧ g < w.heap.size ∧ Cls.In w P.clss[i] ∧ w.cell? ⟨g, off + i * 3, none⟩ = some (.string P.clss[i].name) ∧ w.cell? ⟨g, off + i * 3 + 1, none⟩ = some (.slice P.clss[i].namesA P.clss[i].names.length P.clss[i].namesC) ∧ w.cell? ⟨g, off + i * 3 + 2, none⟩ = some (.slice P.clss[i].fldsA P.clss[i].flds.length P.clss[i].fldsC) := by
  obtain ⟨g, off, h1, h2, h3, h4⟩ := h.clss.2.2 i _ (List.getElem?_eq_getElem hi)
  exact ⟨g, off, h1, h2, h3, h4 0 _ rfl, h4 1 _ rfl, h4 2 _ rfl⟩
theorem Prg.glb_all (h : P.In w) {i : Nat} (hi : i < P.glbs.length) : ∃ g off, P.glbsA = some ⟨g, off, none⟩ ∧ g < w.heap.size ∧ w.cell? ⟨g, off + i * 2, none⟩ = some (.string P.glbs[i].name) ∧ w.cell? ⟨g, off + i * 2 + 1, none⟩ = some (.int .i64 P.glbs[i].ty) := by
  obtain ⟨g, off, h1, h2, h3, h4⟩ := h.glbs.2.2 i _ (List.getElem?_eq_getElem hi)
  exact ⟨g, off, h1, h2, h4 0 _ rfl, h4 1 _ rfl⟩
end
set_option maxHeartbeats 4000000 in
set_option maxRecDepth 100000 in
theorem countsMayBe_ok {P : Prg} (W : World) (h : GoodP P) : Calls Tryz.prog 197 #[P.v] W fun e W' => e = .returned (.bool true) ∧ Ext W W' := by
  have n0 := h.may.parts.n0
  have n1 := h.may.parts.n1
  have n2 := h.may.parts.n2
  have n3 := h.may.parts.n3
  have n4 := h.may.parts.n4
  have n5 := h.may.parts.n5
  have n6 := h.may.sites.2
  unfold Prg.v
  obtain ⟨W1, hW1⟩ : ∃ W1, W1 = W.alloc P.o := ⟨_, rfl⟩
  have hE1 : Ext W W1 := by rw [hW1]; exact Ext.one _ _
  have hb1 : W1.heap[W.heap.size]? = some P.o := by rw [hW1]; exact World.alloc_heap_new _ _
  obtain ⟨x0, x1, x2, x3, x4, x5, x6, x7, xl⟩ := Prg.o_cells hb1
  have HE1 := Lib.hid hE1
  have HW := Lib.hid hW1
  clear hE1 hb1 hW1 h
  go_enter Tryz.func197, Tryz.ntmps197
  go_upto_region 1 with (fail)
  change Code.wp _ _ _ _ (W.alloc P.o)
  rw [← HW.out]
  go_wp2_with fail
  go_ret
  exact ⟨by rw [← show decide ((P.sits.length : Int) ≤ 512) = true from decide_eq_true (by omega)]; rfl, HE1.out⟩
set_option maxHeartbeats 8000000 in
set_option maxRecDepth 100000 in
theorem valuesMayBe_ok {P : Prg} {W : World} (h : P.In W) (hg : GoodP P) : Calls Tryz.prog 198 #[P.v] W fun e W' => e = .returned (.bool true) ∧ Ext W W' := by
  have HTY := Lib.hid (fun (w : World) (k : Ext W w) (t : Int) (ht : typB P t = true) => isType_ok (h.kept k) ht)
  unfold Prg.v at HTY ⊢
  obtain ⟨W1, hW1⟩ : ∃ W1, W1 = W.alloc P.o := ⟨_, rfl⟩
  have hE1 : Ext W W1 := by rw [hW1]; exact Ext.one _ _
  have hb1 : W1.heap[W.heap.size]? = some P.o := by rw [hW1]; exact World.alloc_heap_new _ _
  obtain ⟨x0, x1, x2, x3, x4, x5, x6, x7, xl⟩ := Prg.o_cells hb1
  have HE1 := Lib.hid hE1
  have HB1 := Lib.hid hb1
  have HW := Lib.hid hW1
  have HP := Lib.hid h
  have HG := Lib.hid hg
  clear hE1 hb1 hW1 h hg
  go_enter Tryz.func198, Tryz.ntmps198
  go_upto_region 1 with (fail)
  change Code.wp _ _ _ _ (W.alloc P.o)
  rw [← HW.out]
  go_wp2_with fail
  clear x0 x1 x2 x3 x4 x5 x6 x7 xl HW
  go_loopg [12] P.clss.length (fun k v12 wr => ∃ (i : Nat), i + k = P.clss.length ∧ v12 = .int .i64 i ∧ Ext W wr ∧ wr.heap[W.heap.size]? = some P.o)
  case atStart => exact ⟨0, by omega, rfl, HE1.out, HB1.out⟩
  case round =>
    clear HE1 HB1
    obtain ⟨i, hik, rfl, hx, hb⟩ := hrel
    obtain ⟨wq, rfl⟩ : ∃ y, y = wr := ⟨_, rfl⟩
    obtain ⟨x0, x1, x2, x3, x4, x5, x6, x7, xl⟩ := Prg.o_cells hb
    have HX := Lib.hid hx
    have HB := Lib.hid hb
    have hll := HP.out.clssL
    rcases Nat.lt_or_ge i P.clss.length with hi | hi
    · have z0 : (i : Int) < (P.clss.length : Int) := by omega
      obtain ⟨g, off, e1, hgl, hin, c0, c1, c2⟩ := Prg.cls_all (HP.out.kept hx) hi
      have hy := (HG.out.may.parts.cls i hi)
      have hf := HG.out.fld i hi
      have HIN := Lib.hid (fun (w : World) (k : Ext wq w) => hin.kept k)
      generalize P.clss[i] = y at c0 c1 c2 hy hf HIN
      obtain ⟨hy1, hy2⟩ := hy
      have z1 : ¬ ((y.flds.length : Int) > 8) := by omega
      have z2 : ((y.names.length : Int) != (y.flds.length : Int)) = false := by simp [hy2]
      have HF := Lib.hid hf
      obtain ⟨G, hG⟩ : ∃ G, G = gk := ⟨_, rfl⟩
      have HGK := Lib.hid hG
      have HE := Lib.hid e1
      rw [e1]
      clear e1 hx hb hf hG hy2
      go_upto_region 6 with (fail)
      change Code.wp _ _ _ _ (wq.alloc y.o)
      obtain ⟨W2, hW2⟩ : ∃ W2, W2 = wq.alloc y.o := ⟨_, rfl⟩
      rw [← hW2]
      have hE2 : Ext wq W2 := by rw [hW2]; exact Ext.one _ _
      have hb2 : W2.heap[wq.heap.size]? = some y.o := by rw [hW2]; exact World.alloc_heap_new _ _
      have y2 : W2.cell? ⟨wq.heap.size, 2, none⟩ = some (.slice y.fldsA y.flds.length y.fldsC) := by simp [World.cell?, hb2, Cls.o]
      have yl := (Array.getElem?_eq_some_iff.1 hb2).1
      have HX2 := Lib.hid (HX.out.trans hE2)
      have HY2 := Lib.hid hE2
      have HB2 := Lib.hid ((hE2.kept (fun _ _ => true)).same _ _ HB.out rfl)
      clear hE2 hb2 hW2 x0 x1 x2 x3 x4 x5 x6 x7 xl c0 c1 c2 z0 z1 z2 hll hgl
      go_wp2_with fail
      clear y2 yl
      go_loopg [32] y.flds.length (fun k v32 wz => ∃ (n : Nat), n + k = y.flds.length ∧ v32 = .int .i64 n ∧ Ext W wz ∧ Ext wq wz ∧ wz.heap[W.heap.size]? = some P.o)
      case atStart => exact ⟨0, by omega, rfl, HX2.out, HY2.out, HB2.out⟩
      case round =>
        obtain ⟨n, hnk, rfl, hx, hy, hb⟩ := hrel
        clear HX2 HY2 HB2
        have HX2 := Lib.hid hx
        have HY2 := Lib.hid hy
        have HB2 := Lib.hid hb
        rcases Nat.lt_or_ge n y.flds.length with hn | hn
        · have z1 : (n : Int) < (y.flds.length : Int) := by omega
          obtain ⟨x0, x1, x2, x3, x4, x5, x6, x7, xl⟩ := Prg.o_cells hb
          obtain ⟨g2, off2, e2, hl2, d0⟩ := (HIN.out _ hy).flds.at hn
          have HT := Lib.hid (HTY.out _ hx _ (HF.out n hn))
          have hlf : (y.flds.length : Int) ≤ 8 := by omega
          have HE2 := Lib.hid e2
          generalize y.flds[n] = t at d0 HT
          have hi0 : iV t = .int .i64 t := rfl
          rw [hi0] at d0
          rw [e2]
          clear e2 hx hb hy hi0
          go_wp2_with (go_at_call 280; refine HT.out.mono ?_; rintro e w2 ⟨rfl, hx2⟩; have HX3 := Lib.hid hx2; clear hx2)
          rw [← HE2.out]
          go_roundg (gk - 1)
          case measure => omega
          case rel => exact ⟨n + 1, by omega, by go_num, HX2.out.trans HX3.out, HY2.out.trans HX3.out, (HX3.out.kept (fun _ _ => true)).same _ _ HB2.out rfl⟩
        · have z1 : ¬ (n : Int) < (y.flds.length : Int) := by omega
          have hl8 : (y.flds.length : Int) ≤ 8 := by omega
          have hll := HP.out.clssL
          have z0 : (i : Int) < P.clss.length := by omega
          clear hnk hn hx hb hy
          go_wp2_with fail
          rw [← HE.out]
          have hg := HGK.out
          go_roundg (G - 1)
          case measure => omega
          case rel => exact ⟨i + 1, by omega, by go_num, HX2.out, HB2.out⟩
    · have z0 : ¬ (i : Int) < (P.clss.length : Int) := by omega
      clear hx hb hik hi
      go_wp2_with fail
      clear x0 x1 x2 x3 x4 x5 x6 x7 xl z0 hll
      go_loopg [45] P.glbs.length (fun k v45 wr => ∃ (i : Nat), i + k = P.glbs.length ∧ v45 = .int .i64 i ∧ Ext W wr ∧ wr.heap[W.heap.size]? = some P.o)
      case atStart => exact ⟨0, by omega, rfl, HX.out, HB.out⟩
      case round =>
        clear HX HB
        obtain ⟨i, hik, rfl, hx, hb⟩ := hrel
        obtain ⟨x0, x1, x2, x3, x4, x5, x6, x7, xl⟩ := Prg.o_cells hb
        have HX := Lib.hid hx
        have HB := Lib.hid hb
        have hll := HP.out.glbsL
        rcases Nat.lt_or_ge i P.glbs.length with hi | hi
        · have z0 : (i : Int) < (P.glbs.length : Int) := by omega
          obtain ⟨g, off, e1, hgl, c0, c1⟩ := Prg.glb_all (HP.out.kept hx) hi
          have HT := Lib.hid (fun (w : World) (k : Ext W w) => HTY.out w k _ (HG.out.glb i hi))
          generalize P.glbs[i] = y at c0 c1 HT
          have HE := Lib.hid e1
          rw [e1]
          clear e1 hx hb
          go_upto_region 16 with (fail)
          change Code.wp _ _ _ _ (wr.alloc y.o)
          obtain ⟨W2, hW2⟩ : ∃ W2, W2 = wr.alloc y.o := ⟨_, rfl⟩
          rw [← hW2]
          have hE2 : Ext wr W2 := by rw [hW2]; exact Ext.one _ _
          have hb2 : W2.heap[wr.heap.size]? = some y.o := by rw [hW2]; exact World.alloc_heap_new _ _
          have y2 : W2.cell? ⟨wr.heap.size, 1, none⟩ = some (.int .i64 y.ty) := by simp [World.cell?, hb2, Glb.o]
          have yl := (Array.getElem?_eq_some_iff.1 hb2).1
          have HX2 := Lib.hid (HX.out.trans hE2)
          have hb3 := (hE2.kept (fun _ _ => true)).same _ _ HB.out rfl
          have HB2 := Lib.hid hb3
          clear x0 x1 x2 x3 x4 x5 x6 x7 xl
          obtain ⟨x0, x1, x2, x3, x4, x5, x6, x7, xl⟩ := Prg.o_cells hb3
          have HT2 := Lib.hid (HT.out _ HX2.out)
          clear hE2 hb2 hW2 c0 c1 hb3 HT hgl
          go_wp2_with (go_at_call 280; refine HT2.out.mono ?_; rintro e w2 ⟨rfl, hx2⟩; have HX3 := Lib.hid hx2; clear hx2)
          rw [← HE.out]
          go_roundg (gk - 1)
          case measure => omega
          case rel => exact ⟨i + 1, by omega, by go_num, HX2.out.trans HX3.out, (HX3.out.kept (fun _ _ => true)).same _ _ HB2.out rfl⟩
        · have z0 : ¬ (i : Int) < (P.glbs.length : Int) := by omega
          clear hx hb hik hi
          go_wp2_with fail
          go_ret
          exact ⟨rfl, HX.out⟩
end Go.Proofs.YtfljmdpigckpkaaGreatDoor
