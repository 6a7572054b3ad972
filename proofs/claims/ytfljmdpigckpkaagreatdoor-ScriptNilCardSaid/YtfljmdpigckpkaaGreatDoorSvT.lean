/- The program's running: the frame that runs, and its next instruction. -/
import Derived.Test.YtfljmdpigckpkaaGreatDoorSvS
namespace Go.Proofs.YtfljmdpigckpkaaGreatDoor
open Go.RowKit Go.Shelf
attribute [local go_sem] Oper.semAt_some
def inso (o a b c n l s i : Value) : Obj := .cells #[o, a, b, c, n, l, s, i] 25 (0, 0)
def zins : Obj := inso (.int .i64 0) (.int .i64 0) (.int .i64 0) (.int .i64 0) (.int .i64 0) (.slice none 0 0) (.int .i64 0) (.int .i64 0)
theorem inso_cells {w : World} {b : Nat} {v0 v1 v2 v3 v4 v5 v6 v7 : Value} (h : w.heap[b]? = some (inso v0 v1 v2 v3 v4 v5 v6 v7)) : w.cell? ⟨b, 0, none⟩ = some v0 ∧ w.cell? ⟨b, 1, none⟩ = some v1 ∧ w.cell? ⟨b, 2, none⟩ = some v2 ∧ w.cell? ⟨b, 3, none⟩ = some v3 ∧ w.cell? ⟨b, 4, none⟩ = some v4 ∧ w.cell? ⟨b, 5, none⟩ = some v5 ∧ w.cell? ⟨b, 6, none⟩ = some v6 ∧ w.cell? ⟨b, 7, none⟩ = some v7 ∧ b < w.heap.size ∧ ∀ n, w.frozen? ⟨b, n, none⟩ = false := by
  refine ⟨?_, ?_, ?_, ?_, ?_, ?_, ?_, ?_, (Array.getElem?_eq_some_iff.1 h).1, fun n => frozen_of_row w b n _ _ h⟩
  all_goals simp [World.cell?, h, inso]
theorem inso_set0 {w : World} {b : Nat} {v0 v1 v2 v3 v4 v5 v6 v7 : Value} (h : w.heap[b]? = some (inso v0 v1 v2 v3 v4 v5 v6 v7)) (u : Value) : (w.setCell ⟨b, 0, none⟩ u).heap[b]? = some (inso u v1 v2 v3 v4 v5 v6 v7) := by
  rw [heap_setCell_same w b 0 _ _ u h]; rfl
theorem inso_set1 {w : World} {b : Nat} {v0 v1 v2 v3 v4 v5 v6 v7 : Value} (h : w.heap[b]? = some (inso v0 v1 v2 v3 v4 v5 v6 v7)) (u : Value) : (w.setCell ⟨b, 1, none⟩ u).heap[b]? = some (inso v0 u v2 v3 v4 v5 v6 v7) := by
  rw [heap_setCell_same w b 1 _ _ u h]; rfl
theorem inso_set2 {w : World} {b : Nat} {v0 v1 v2 v3 v4 v5 v6 v7 : Value} (h : w.heap[b]? = some (inso v0 v1 v2 v3 v4 v5 v6 v7)) (u : Value) : (w.setCell ⟨b, 2, none⟩ u).heap[b]? = some (inso v0 v1 u v3 v4 v5 v6 v7) := by
  rw [heap_setCell_same w b 2 _ _ u h]; rfl
theorem inso_set3 {w : World} {b : Nat} {v0 v1 v2 v3 v4 v5 v6 v7 : Value} (h : w.heap[b]? = some (inso v0 v1 v2 v3 v4 v5 v6 v7)) (u : Value) : (w.setCell ⟨b, 3, none⟩ u).heap[b]? = some (inso v0 v1 v2 u v4 v5 v6 v7) := by
  rw [heap_setCell_same w b 3 _ _ u h]; rfl
theorem inso_set4 {w : World} {b : Nat} {v0 v1 v2 v3 v4 v5 v6 v7 : Value} (h : w.heap[b]? = some (inso v0 v1 v2 v3 v4 v5 v6 v7)) (u : Value) : (w.setCell ⟨b, 4, none⟩ u).heap[b]? = some (inso v0 v1 v2 v3 u v5 v6 v7) := by
  rw [heap_setCell_same w b 4 _ _ u h]; rfl
theorem inso_set5 {w : World} {b : Nat} {v0 v1 v2 v3 v4 v5 v6 v7 : Value} (h : w.heap[b]? = some (inso v0 v1 v2 v3 v4 v5 v6 v7)) (u : Value) : (w.setCell ⟨b, 5, none⟩ u).heap[b]? = some (inso v0 v1 v2 v3 v4 u v6 v7) := by
  rw [heap_setCell_same w b 5 _ _ u h]; rfl
theorem inso_set6 {w : World} {b : Nat} {v0 v1 v2 v3 v4 v5 v6 v7 : Value} (h : w.heap[b]? = some (inso v0 v1 v2 v3 v4 v5 v6 v7)) (u : Value) : (w.setCell ⟨b, 6, none⟩ u).heap[b]? = some (inso v0 v1 v2 v3 v4 v5 u v7) := by
  rw [heap_setCell_same w b 6 _ _ u h]; rfl
theorem inso_set7 {w : World} {b : Nat} {v0 v1 v2 v3 v4 v5 v6 v7 : Value} (h : w.heap[b]? = some (inso v0 v1 v2 v3 v4 v5 v6 v7)) (u : Value) : (w.setCell ⟨b, 7, none⟩ u).heap[b]? = some (inso v0 v1 v2 v3 v4 v5 v6 u) := by
  rw [heap_setCell_same w b 7 _ _ u h]; rfl
theorem inso_all {w : World} {b : Nat} {v0 v1 v2 v3 v4 v5 v6 v7 : Value} (h : w.heap[b]? = some (inso v0 v1 v2 v3 v4 v5 v6 v7)) (u0 u1 u2 u3 u4 u5 u6 u7 : Value) : ((((((((w.setCell ⟨b, 0, none⟩ u0).setCell ⟨b, 1, none⟩ u1).setCell ⟨b, 2, none⟩ u2).setCell ⟨b, 3, none⟩ u3).setCell ⟨b, 4, none⟩ u4).setCell ⟨b, 5, none⟩ u5).setCell ⟨b, 6, none⟩ u6).setCell ⟨b, 7, none⟩ u7).heap[b]? = some (inso u0 u1 u2 u3 u4 u5 u6 u7) ∧ Kept (ne' b) w ((((((((w.setCell ⟨b, 0, none⟩ u0).setCell ⟨b, 1, none⟩ u1).setCell ⟨b, 2, none⟩ u2).setCell ⟨b, 3, none⟩ u3).setCell ⟨b, 4, none⟩ u4).setCell ⟨b, 5, none⟩ u5).setCell ⟨b, 6, none⟩ u6).setCell ⟨b, 7, none⟩ u7) := by
  have hk : ∀ (w : World) (i : Nat) (u : Value), Kept (ne' b) w (w.setCell ⟨b, i, none⟩ u) := fun w i u => Kept.setCell _ fun o ho => by simp [ne']
  exact ⟨(inso_set7 (inso_set6 (inso_set5 (inso_set4 (inso_set3 (inso_set2 (inso_set1 (inso_set0 h u0) u1) u2) u3) u4) u5) u6) u7), (((((((hk _ 0 u0).trans (hk _ 1 u1)).trans (hk _ 2 u2)).trans (hk _ 3 u3)).trans (hk _ 4 u4)).trans (hk _ 5 u5)).trans (hk _ 6 u6)).trans (hk _ 7 u7)⟩
section
variable {bt g bf gr bc : Nat} {k : Nat} {R : List Int} {W : World} {Q : Prg}
set_option maxRecDepth 100000 in
theorem running_none (W : World) : Calls Tryz.prog 119 #[.pointer none] W fun e W' => e = .returned (.tuple #[.pointer none, .agg #[.int .i64 0, .int .i64 0, .int .i64 0, .int .i64 0, .int .i64 0, .slice none 0 0, .int .i64 0, .int .i64 0], .bool false]) ∧ Ext W W' := by
  have H := Lib.hid (fun w => Over_nil w)
  go_enter Tryz.func119, Tryz.ntmps119
  go_wp2_with (go_at_call 184; refine (H.out _).mono ?_; rintro e w2 ⟨rfl, hw⟩; rw [hw]; clear hw)
  refine bodyPost_ret (v := .tuple #[.pointer none, .agg #[.int .i64 0, .int .i64 0, .int .i64 0, .int .i64 0, .int .i64 0, .slice none 0 0, .int .i64 0, .int .i64 0], .bool false]) (by simp [results, Tryz.results119, go_sem]) rfl ⟨rfl, Ext.one _ _⟩
set_option maxHeartbeats 4000000 in
set_option maxRecDepth 100000 in
theorem running_th {i : Nat} (h : Th bt g bf gr bc i k R 0 W) (hc : Cod bc Q W) (hi : i < Q.fns.length) (hk : k < Q.fns[i].code.length) {y : Ins} (hy : Q.fns[i].code[k] = y) : Calls Tryz.prog 119 #[.pointer (some ⟨bt, 0, none⟩)] W fun e W' => e = .returned (.tuple #[.pointer (some ⟨bf, 0, none⟩), y.v, .bool true]) ∧ Ext W W' := by
  obtain ⟨W1, hW1⟩ : ∃ W1, W1 = W.alloc zins := ⟨_, rfl⟩
  have hx : Ext W W1 := by rw [hW1]; exact Ext.one _ _
  have hb : W1.heap[W.heap.size]? = some zins := by rw [hW1]; exact World.alloc_heap_new _ _
  have h' := h.ext hx
  have HO := Lib.hid (Over_th h')
  obtain ⟨t0, t1, t2, tl, s0, sl, f0, f1, f2, fl⟩ := h'.cells
  have HX := Lib.hid hx
  have HB := Lib.hid hb
  have HW := Lib.hid hW1
  have HT := Lib.hid h'
  have HC := Lib.hid (hc.ext hx)
  have HI := Lib.hid hi
  have HK := Lib.hid hk
  have HY := Lib.hid hy
  clear hx hb hW1 h h' hc hy
  go_enter Tryz.func119, Tryz.ntmps119
  go_upto_region 1 with (fail)
  change Code.wp _ _ _ _ (W.alloc zins)
  rw [← HW.out]
  go_wp2_with (go_at_call 184; refine HO.out.mono ?_; rintro e w2 ⟨rfl, hw⟩; rw [hw]; clear hw)
  go_quiet (fail)
  clear t0 t1 t2 tl s0 sl f0 f1 f2 fl
  go_wp2_with fail
  obtain ⟨W2, hW2⟩ : ∃ W2 : World, W2 = { (W1.drewN nq) with drawn := (W1.drewN nq).drawn + 1 } := ⟨_, rfl⟩
  refine wp_region_still_tail 23 (by kernel_rfl) (by kernel_rfl) ?_
  simp only [List.take_succ_cons, List.take_zero, List.drop_succ_cons, List.drop_zero]
  rw [← hW2]
  have hx2 : Ext W1 W2 := by rw [hW2]; exact ⟨rfl, rfl, rfl, Nat.le_refl _, fun _ _ h _ => h⟩
  clear hW2
  have hb := (hx2.kept (fun _ _ => true)).same _ _ HB.out rfl
  obtain ⟨bm, h1, _⟩ := (HC.out.ext hx2).ex
  obtain ⟨x3, _, xl⟩ := codo_cells h1
  obtain ⟨gF, oF, e1, hl1, hfi, _, _, _, c3⟩ := Prg.fn_at (HC.out.ext hx2).pin HI.out
  obtain ⟨gC, oC, e2, hl2, _, d0, d1, d2, d3, d4, d5, d6, d7⟩ := Fn.ins_at hfi HK.out
  rw [HY.out] at d0 d1 d2 d3 d4 d5 d6 d7
  obtain ⟨t0, t1, t2, tl, s0, sl, f0, f1, f2, fl⟩ := (HT.out.ext hx2).cells
  obtain ⟨z0, z1, z2, z3, z4, z5, z6, z7, zl, zf⟩ := inso_cells hb
  have q0 : (i : Int) < (Q.fns.length : Int) := by have := HI.out; omega
  have q1 : (k : Int) < (Q.fns[i].code.length : Int) := by have := HK.out; omega
  have HB2 := Lib.hid hb
  have HX2 := Lib.hid (HX.out.trans hx2)
  clear hx2 hb h1 hfi
  generalize Q.fns[i] = F at *
  rw [e1] at x3
  rw [e2] at c3
  clear e1 e2
  repeat still_step
  refine wpStill_nil ?_
  change wpList _ _ _ _ _ W2
  go_wp2_with fail
  obtain ⟨p1, p2⟩ := inso_all HB2.out (.int .i64 y.op) (.int .i64 y.a) (.int .i64 y.b) (.int .i64 y.c) (.int .i64 y.n) (.slice y.lA y.l.length y.lC) (.int .i64 y.site) (.int .i64 y.line)
  have HF := Lib.hid (ext_ne HX2.out p2 (Nat.le_refl _))
  clear z0 z1 z2 z3 z4 z5 z6 z7 zl zf
  obtain ⟨z0, z1, z2, z3, z4, z5, z6, z7, zl, zf⟩ := inso_cells p1
  refine bodyPost_ret (v := .tuple #[.pointer (some ⟨bf, 0, none⟩), y.v, .bool true]) (by simp [results, Tryz.results119, go_sem, Ins.v, z0, z1, z2, z3, z4, z5, z6, z7]) rfl ⟨rfl, HF.out⟩
end
end Go.Proofs.YtfljmdpigckpkaaGreatDoor
