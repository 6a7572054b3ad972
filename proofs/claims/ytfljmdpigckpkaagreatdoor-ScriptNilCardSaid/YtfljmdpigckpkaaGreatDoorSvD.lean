/- The program's tasksMayBe: yes of a program that may be. -/
import Derived.Test.YtfljmdpigckpkaaGreatDoorSvC
namespace Go.Proofs.YtfljmdpigckpkaaGreatDoor
open Go.RowKit Go.Shelf
attribute [local go_sem] Oper.semAt_some
@[go_sem] theorem idx4_0 (a b c d : Int) (w : World) : (Instr.index 136 (.agg #[.int .i64 a, .int .i64 b, .int .i64 c, .int .i64 d]) (.int .i64 0)).run Tryz.prog w = .ok (.int .i64 a) w := by kernel_rfl
@[go_sem] theorem idx4_1 (a b c d : Int) (w : World) : (Instr.index 136 (.agg #[.int .i64 a, .int .i64 b, .int .i64 c, .int .i64 d]) (.int .i64 1)).run Tryz.prog w = .ok (.int .i64 b) w := by kernel_rfl
@[go_sem] theorem idx4_2 (a b c d : Int) (w : World) : (Instr.index 136 (.agg #[.int .i64 a, .int .i64 b, .int .i64 c, .int .i64 d]) (.int .i64 2)).run Tryz.prog w = .ok (.int .i64 c) w := by kernel_rfl
@[go_sem] theorem idx4_3 (a b c d : Int) (w : World) : (Instr.index 136 (.agg #[.int .i64 a, .int .i64 b, .int .i64 c, .int .i64 d]) (.int .i64 3)).run Tryz.prog w = .ok (.int .i64 d) w := by kernel_rfl
theorem four4 {n : Nat} (h : n < 4) : n = 0 ∨ n = 1 ∨ n = 2 ∨ n = 3 := by omega
def Cmp.o (y : Cmp) : Obj := .cells #[.string y.name, .int .i64 y.loop, .int .i64 y.fs0, .int .i64 y.fs1, .int .i64 y.fs2, .int .i64 y.fs3] 138 (0, 0)
def Evt.o (y : Evt) : Obj := .cells #[.string y.name, .int .i64 y.loop, .bool y.on, .int .i64 y.fn] 97 (0, 0)
section
variable {w : World} {P : Prg}
theorem Prg.cmp_all (h : P.In w) {i : Nat} (hi : i < P.cmps.length) : ∃ g off, P.cmpsA = some ⟨g, off, none⟩ ∧ g < w.heap.size ∧ w.cell? ⟨g, off + i * 6, none⟩ = some (.string P.cmps[i].name) ∧ w.cell? ⟨g, off + i * 6 + 1, none⟩ = some (.int .i64 P.cmps[i].loop) ∧ w.cell? ⟨g, off + i * 6 + 2, none⟩ = some (.int .i64 P.cmps[i].fs0) ∧ w.cell? ⟨g, off + i * 6 + 3, none⟩ = some (.int .i64 P.cmps[i].fs1) ∧ w.cell? ⟨g, off + i * 6 + 4, none⟩ = some (.int .i64 P.cmps[i].fs2) ∧ w.cell? ⟨g, off + i * 6 + 5, none⟩ = some (.int .i64 P.cmps[i].fs3) := by
  obtain ⟨g, off, h1, h2, h3, h4⟩ := h.cmps.2.2 i _ (List.getElem?_eq_getElem hi)
  exact ⟨g, off, h1, h2, h4 0 _ rfl, h4 1 _ rfl, h4 2 _ rfl, h4 3 _ rfl, h4 4 _ rfl, h4 5 _ rfl⟩
theorem Prg.evt_all (h : P.In w) {i : Nat} (hi : i < P.evts.length) : ∃ g off, P.evtsA = some ⟨g, off, none⟩ ∧ g < w.heap.size ∧ w.cell? ⟨g, off + i * 4, none⟩ = some (.string P.evts[i].name) ∧ w.cell? ⟨g, off + i * 4 + 1, none⟩ = some (.int .i64 P.evts[i].loop) ∧ w.cell? ⟨g, off + i * 4 + 2, none⟩ = some (.bool P.evts[i].on) ∧ w.cell? ⟨g, off + i * 4 + 3, none⟩ = some (.int .i64 P.evts[i].fn) := by
  obtain ⟨g, off, h1, h2, h3, h4⟩ := h.evts.2.2 i _ (List.getElem?_eq_getElem hi)
  exact ⟨g, off, h1, h2, h4 0 _ rfl, h4 1 _ rfl, h4 2 _ rfl, h4 3 _ rfl⟩
end
set_option maxHeartbeats 8000000 in
set_option maxRecDepth 100000 in
theorem tasksMayBe_ok {P : Prg} {W : World} (h : P.In W) (hg : GoodP P) : Calls Tryz.prog 199 #[P.v] W fun e W' => e = .returned (.bool true) ∧ Ext W W' := by
  have HTK := Lib.hid (fun (w : World) (k : Ext W w) (f : Int) (hf : rootB P f = true) => isTask_ok (h.kept k) hf)
  unfold Prg.v at HTK ⊢
  obtain ⟨W1, hW1⟩ : ∃ W1, W1 = W.alloc P.o := ⟨_, rfl⟩
  have hE1 : Ext W W1 := by rw [hW1]; exact Ext.one _ _
  have hb1 : W1.heap[W.heap.size]? = some P.o := by rw [hW1]; exact World.alloc_heap_new _ _
  obtain ⟨x0, x1, x2, x3, x4, x5, x6, x7, xl⟩ := Prg.o_cells hb1
  have HE1 := Lib.hid hE1
  have HB1 := Lib.hid hb1
  have HW := Lib.hid hW1
  have HP := Lib.hid h
  have HG := Lib.hid hg
  clear hE1 hb1 hW1 h hg
  go_enter Tryz.func199, Tryz.ntmps199
  go_upto_region 1 with (fail)
  change Code.wp _ _ _ _ (W.alloc P.o)
  rw [← HW.out]
  go_wp2_with fail
  clear x0 x1 x2 x3 x4 x5 x6 x7 xl HW
  go_loopg [12] P.cmps.length (fun k v12 wr => ∃ (i : Nat), i + k = P.cmps.length ∧ v12 = .int .i64 i ∧ Ext W wr ∧ wr.heap[W.heap.size]? = some P.o)
  case atStart => exact ⟨0, by omega, rfl, HE1.out, HB1.out⟩
  case round =>
    clear HE1 HB1
    obtain ⟨i, hik, rfl, hx, hb⟩ := hrel
    obtain ⟨wq, rfl⟩ : ∃ y, y = wr := ⟨_, rfl⟩
    obtain ⟨x0, x1, x2, x3, x4, x5, x6, x7, xl⟩ := Prg.o_cells hb
    have HX := Lib.hid hx
    have HB := Lib.hid hb
    have hll := HP.out.cmpsL
    rcases Nat.lt_or_ge i P.cmps.length with hi | hi
    · have z0 : (i : Int) < (P.cmps.length : Int) := by omega
      obtain ⟨g, off, e1, hgl, c0, c1, c2, c3, c4, c5⟩ := Prg.cmp_all (HP.out.kept hx) hi
      have hy := (HG.out.may.parts.cmp i hi)
      generalize P.cmps[i] = y at c0 c1 c2 c3 c4 c5 hy
      have hy1 := hy.1
      have HA := Lib.hid (fun w => hy.2 ▸ amongI_ok y.loop P.loops.length w)
      have HF := Lib.hid hy1
      obtain ⟨G, hG⟩ : ∃ G, G = gk := ⟨_, rfl⟩
      have HGK := Lib.hid hG
      have HE := Lib.hid e1
      rw [e1]
      clear e1 hx hb hG hy1 hy
      go_upto_region 4 with (fail)
      change Code.wp _ _ _ _ (wq.alloc y.o)
      obtain ⟨W2, hW2⟩ : ∃ W2, W2 = wq.alloc y.o := ⟨_, rfl⟩
      rw [← hW2]
      have hE2 : Ext wq W2 := by rw [hW2]; exact Ext.one _ _
      have hb2 : W2.heap[wq.heap.size]? = some y.o := by rw [hW2]; exact World.alloc_heap_new _ _
      have y1 : W2.cell? ⟨wq.heap.size, 1, none⟩ = some (.int .i64 y.loop) := by simp [World.cell?, hb2, Cmp.o]
      have y2 : W2.cell? ⟨wq.heap.size, 2, none⟩ = some (.int .i64 y.fs0) := by simp [World.cell?, hb2, Cmp.o]
      have y3 : W2.cell? ⟨wq.heap.size, 3, none⟩ = some (.int .i64 y.fs1) := by simp [World.cell?, hb2, Cmp.o]
      have y4 : W2.cell? ⟨wq.heap.size, 4, none⟩ = some (.int .i64 y.fs2) := by simp [World.cell?, hb2, Cmp.o]
      have y5 : W2.cell? ⟨wq.heap.size, 5, none⟩ = some (.int .i64 y.fs3) := by simp [World.cell?, hb2, Cmp.o]
      have yl := (Array.getElem?_eq_some_iff.1 hb2).1
      have HX2 := Lib.hid (HX.out.trans hE2)
      have hb3 := (hE2.kept (fun _ _ => true)).same _ _ HB.out rfl
      have HB2 := Lib.hid hb3
      clear x0 x1 x2 x3 x4 x5 x6 x7 xl
      obtain ⟨x0, x1, x2, x3, x4, x5, x6, x7, xl⟩ := Prg.o_cells hb3
      clear hE2 hb2 hW2 hb3 c0 c1 c2 c3 c4 c5 z0 hll hgl
      go_wp2_with (go_at_call 272; refine (HA.out _).mono ?_; rintro e w2 ⟨rfl, hw⟩; rw [hw]; clear hw)
      clear x0 x1 x2 x3 x4 x5 x6 x7 xl y1 y2 y3 y4 y5 yl
      go_loopg [25] 4 (fun k v25 wz => ∃ (n : Nat), n + k = 4 ∧ v25 = .int .i64 n ∧ Ext W wz ∧ wz.heap[W.heap.size]? = some P.o)
      case atStart => exact ⟨0, by omega, rfl, HX2.out, HB2.out⟩
      case round =>
        obtain ⟨n, hnk, rfl, hx, hb⟩ := hrel
        clear HX2 HB2
        have HX2 := Lib.hid hx
        have HB2 := Lib.hid hb
        obtain ⟨x0, x1, x2, x3, x4, x5, x6, x7, xl⟩ := Prg.o_cells hb
        rcases Nat.lt_or_ge n 4 with hn | hn
        · obtain ⟨v, hv⟩ : ∃ v, v = fsA y n := ⟨_, rfl⟩
          have hroot : 0 ≤ v → rootB P v = true := by rw [hv]; exact HF.out n hn
          have HGK2 := Lib.hid hnk
          by_cases hv0 : v ≥ 0
          · have HT := Lib.hid (HTK.out _ hx _ (hroot hv0))
            clear hroot hx hb hnk
            rcases four4 hn with rfl | rfl | rfl | rfl
            all_goals
              simp only [fsA, List.getD, List.getElem?_cons_zero, List.getElem?_cons_succ, Option.getD_some] at hv
              subst hv
              go_wp2_with (go_at_call 281; refine HT.out.mono ?_; rintro e w2 ⟨rfl, hx2⟩; have HX3 := Lib.hid hx2; clear hx2)
              have hnk := HGK2.out
              go_roundg (gk - 1)
              case measure => omega
              case rel => first
                | exact ⟨1, by omega, rfl, HX2.out.trans HX3.out, (HX3.out.kept (fun _ _ => true)).same _ _ HB2.out rfl⟩
                | exact ⟨2, by omega, rfl, HX2.out.trans HX3.out, (HX3.out.kept (fun _ _ => true)).same _ _ HB2.out rfl⟩
                | exact ⟨3, by omega, rfl, HX2.out.trans HX3.out, (HX3.out.kept (fun _ _ => true)).same _ _ HB2.out rfl⟩
                | exact ⟨4, by omega, rfl, HX2.out.trans HX3.out, (HX3.out.kept (fun _ _ => true)).same _ _ HB2.out rfl⟩
          · clear hroot hx hb hnk
            rcases four4 hn with rfl | rfl | rfl | rfl
            all_goals
              simp only [fsA, List.getD, List.getElem?_cons_zero, List.getElem?_cons_succ, Option.getD_some] at hv
              subst hv
              go_wp2_with fail
              have hnk := HGK2.out
              go_roundg (gk - 1)
              case measure => omega
              case rel => first
                | exact ⟨1, by omega, rfl, HX2.out, HB2.out⟩
                | exact ⟨2, by omega, rfl, HX2.out, HB2.out⟩
                | exact ⟨3, by omega, rfl, HX2.out, HB2.out⟩
                | exact ⟨4, by omega, rfl, HX2.out, HB2.out⟩
        · have z1 : ¬ (n : Int) < 4 := by omega
          have hll := HP.out.cmpsL
          have z0 : (i : Int) < P.cmps.length := by omega
          clear hnk hn hx hb
          go_wp2_with fail
          rw [← HE.out]
          have hg := HGK.out
          go_roundg (G - 1)
          case measure => omega
          case rel => exact ⟨i + 1, by omega, by go_num, HX2.out, HB2.out⟩
    · have z0 : ¬ (i : Int) < (P.cmps.length : Int) := by omega
      clear hx hb hik hi
      go_wp2_with fail
      clear x0 x1 x2 x3 x4 x5 x6 x7 xl z0 hll
      go_loopg [41] P.evts.length (fun k v41 wr => ∃ (i : Nat), i + k = P.evts.length ∧ v41 = .int .i64 i ∧ Ext W wr ∧ wr.heap[W.heap.size]? = some P.o)
      case atStart => exact ⟨0, by omega, rfl, HX.out, HB.out⟩
      case round =>
        clear HX HB
        obtain ⟨i, hik, rfl, hx, hb⟩ := hrel
        obtain ⟨x0, x1, x2, x3, x4, x5, x6, x7, xl⟩ := Prg.o_cells hb
        have HX := Lib.hid hx
        have HB := Lib.hid hb
        have hll := HP.out.evtsL
        rcases Nat.lt_or_ge i P.evts.length with hi | hi
        · have z0 : (i : Int) < (P.evts.length : Int) := by omega
          obtain ⟨g, off, e1, hgl, c0, c1, c2, c3⟩ := Prg.evt_all (HP.out.kept hx) hi
          have hy := (HG.out.may.parts.evt i hi)
          generalize P.evts[i] = y at c0 c1 c2 c3 hy
          have HA := Lib.hid (fun w => hy.1 ▸ amongI_ok y.loop P.loops.length w)
          have HT := Lib.hid (fun (w : World) (k : Ext W w) => HTK.out w k _ hy.2)
          have HE := Lib.hid e1
          rw [e1]
          clear e1 hx hb hy
          go_upto_region 16 with (fail)
          change Code.wp _ _ _ _ (wr.alloc y.o)
          obtain ⟨W2, hW2⟩ : ∃ W2, W2 = wr.alloc y.o := ⟨_, rfl⟩
          rw [← hW2]
          have hE2 : Ext wr W2 := by rw [hW2]; exact Ext.one _ _
          have hb2 : W2.heap[wr.heap.size]? = some y.o := by rw [hW2]; exact World.alloc_heap_new _ _
          have y1 : W2.cell? ⟨wr.heap.size, 1, none⟩ = some (.int .i64 y.loop) := by simp [World.cell?, hb2, Evt.o]
          have y3 : W2.cell? ⟨wr.heap.size, 3, none⟩ = some (.int .i64 y.fn) := by simp [World.cell?, hb2, Evt.o]
          have yl := (Array.getElem?_eq_some_iff.1 hb2).1
          have HX2 := Lib.hid (HX.out.trans hE2)
          have hb3 := (hE2.kept (fun _ _ => true)).same _ _ HB.out rfl
          have HB2 := Lib.hid hb3
          clear x0 x1 x2 x3 x4 x5 x6 x7 xl
          obtain ⟨x0, x1, x2, x3, x4, x5, x6, x7, xl⟩ := Prg.o_cells hb3
          have HT2 := Lib.hid (HT.out _ HX2.out)
          clear hE2 hb2 hW2 c0 c1 c2 c3 hb3 HT hgl
          go_wp2_with (first
            | (go_at_call 272; refine (HA.out _).mono ?_; rintro e w2 ⟨rfl, hw⟩; rw [hw]; clear hw)
            | (go_at_call 281; refine HT2.out.mono ?_; rintro e w2 ⟨rfl, hx2⟩; have HX3 := Lib.hid hx2; clear hx2))
          rw [← HE.out]
          go_roundg (gk - 1)
          case measure => omega
          case rel => exact ⟨i + 1, by omega, by go_num, HX2.out.trans HX3.out, (HX3.out.kept (fun _ _ => true)).same _ _ HB2.out rfl⟩
        · have z0 : ¬ (i : Int) < (P.evts.length : Int) := by omega
          have HT := Lib.hid (HTK.out _ hx _ HG.out.may.parts.mn)
          clear hx hb hik hi
          go_wp2_with (go_at_call 281; refine HT.out.mono ?_; rintro e w2 ⟨rfl, hx2⟩; have HX3 := Lib.hid hx2; clear hx2)
          go_ret
          exact ⟨rfl, HX.out.trans HX3.out⟩
end Go.Proofs.YtfljmdpigckpkaaGreatDoor
