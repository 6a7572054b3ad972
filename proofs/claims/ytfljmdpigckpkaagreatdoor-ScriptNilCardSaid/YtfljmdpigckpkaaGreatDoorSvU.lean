/- A step while it is done, in memory; b, c, set; must; an empty heap's Is. Written by genVU.py. -/
import Derived.Test.YtfljmdpigckpkaaGreatDoorSvT
namespace Go.Proofs.YtfljmdpigckpkaaGreatDoor
open Go.RowKit Go.Shelf
attribute [local go_sem] Oper.semAt_some
/-- What a step is given and answers, while it is done. -/
def dgo (bt bf bh : Nat) (y : Ins) (task it next err : Int) : Obj := .cells #[.pointer (some ⟨bt, 0, none⟩), .pointer (some ⟨bf, 0, none⟩), .int .i64 y.op, .int .i64 y.a, .int .i64 y.b, .int .i64 y.c, .int .i64 y.n, .slice y.lA y.l.length y.lC, .int .i64 y.site, .int .i64 y.line, .pointer (some ⟨bh, 0, none⟩), .int .i64 task, .int .i64 it, .int .i64 next, .int .i64 0, .int .i64 0, .int .i64 0, .int .i64 0, .int .i64 0, .slice none 0 0, .int .i64 err] 227 (0, 0)
theorem dgo_cells {w : World} {b bt bf bh : Nat} {y : Ins} {task it next err : Int} (h : w.heap[b]? = some (dgo bt bf bh y task it next err)) : w.cell? ⟨b, 0, none⟩ = some (.pointer (some ⟨bt, 0, none⟩)) ∧ w.cell? ⟨b, 1, none⟩ = some (.pointer (some ⟨bf, 0, none⟩)) ∧ w.cell? ⟨b, 2, none⟩ = some (.int .i64 y.op) ∧ w.cell? ⟨b, 3, none⟩ = some (.int .i64 y.a) ∧ w.cell? ⟨b, 4, none⟩ = some (.int .i64 y.b) ∧ w.cell? ⟨b, 5, none⟩ = some (.int .i64 y.c) ∧ w.cell? ⟨b, 6, none⟩ = some (.int .i64 y.n) ∧ w.cell? ⟨b, 8, none⟩ = some (.int .i64 y.site) ∧ w.cell? ⟨b, 10, none⟩ = some (.pointer (some ⟨bh, 0, none⟩)) ∧ w.cell? ⟨b, 12, none⟩ = some (.int .i64 it) ∧ w.cell? ⟨b, 13, none⟩ = some (.int .i64 next) ∧ w.cell? ⟨b, 14, none⟩ = some (.int .i64 0) ∧ w.cell? ⟨b, 15, none⟩ = some (.int .i64 0) ∧ w.cell? ⟨b, 16, none⟩ = some (.int .i64 0) ∧ w.cell? ⟨b, 17, none⟩ = some (.int .i64 0) ∧ w.cell? ⟨b, 18, none⟩ = some (.int .i64 0) ∧ w.cell? ⟨b, 19, none⟩ = some (.slice none 0 0) ∧ w.cell? ⟨b, 20, none⟩ = some (.int .i64 err) ∧ b < w.heap.size := by
  refine ⟨?_, ?_, ?_, ?_, ?_, ?_, ?_, ?_, ?_, ?_, ?_, ?_, ?_, ?_, ?_, ?_, ?_, ?_, (Array.getElem?_eq_some_iff.1 h).1⟩
  all_goals simp [World.cell?, h, dgo]
section
variable {bd bt g bf gr bc bh : Nat} {fn at' : Int} {R : List Int} {tr : Int} {y : Ins} {task it next err : Int} {W : World}
theorem Th.reg (h : Th bt g bf gr bc fn at' R tr W) {k : Nat} (hk : k < R.length) : W.cell? ⟨gr, k, none⟩ = some (.int .i64 (R.getD k 0)) ∧ gr < W.heap.size := by
  obtain ⟨g', c', e, h1, h2⟩ := own1_cell h.r hk
  obtain rfl : gr = g' := by injection e with e; injection e with e; injection e
  rw [h1]
  simp [iV, List.getD_eq_getElem?_getD, hk, h2]
theorem Th.setReg (h : Th bt g bf gr bc fn at' R tr W) (hb : bt ≠ gr) (hg : g ≠ gr) (hf : bf ≠ gr) {k : Nat} (hk : k < R.length) (n : Int) : Th bt g bf gr bc fn at' (R.set k n) tr (W.setCell ⟨gr, k, none⟩ (.int .i64 n)) ∧ (∀ m, W.frozen? ⟨gr, m, none⟩ = false) ∧ Kept (ne' gr) W (W.setCell ⟨gr, k, none⟩ (.int .i64 n)) := by
  obtain ⟨g', c', e, h1, h2, _, _, _, hkp⟩ := own1_set h.r hk n
  obtain rfl : gr = g' := by injection e with e; injection e with e; injection e
  have kk : Kept (ne' gr) W (W.setCell ⟨gr, k, none⟩ (iV n)) := hkp.mono fun b t _ hp => by simpa [ne'] using hp
  refine ⟨⟨kk.same _ _ h.t (by simp [ne', hb]), kk.same _ _ h.s (by simp [ne', hg]), ?_, ?_⟩, h2, kk⟩
  · rw [List.length_set]
    exact kk.same _ _ h.f (by simp [ne', hf])
  · rw [List.length_set]
    exact h1
set_option maxRecDepth 100000 in
theorem doA_ok (hd : W.heap[bd]? = some (dgo bt bf bh y task it next err)) (h : Th bt g bf gr bc fn at' R tr W) {k : Nat} (hy : y.a = k) (hk : k < R.length) : Calls Tryz.prog 230 #[.pointer (some ⟨bd, 0, none⟩)] W fun e W' => e = .returned (.int .i64 (R.getD k 0)) ∧ ∃ n, W' = W.drewN n := by
  obtain ⟨c0, c1, c2, c3, c4, c5, c6, c8, c10, c12, c13, c14, c15, c16, c17, c18, c19, c20, cl⟩ := dgo_cells hd
  obtain ⟨t0, t1, t2, tl, s0, sl, f0, f1, f2, fl⟩ := h.cells
  obtain ⟨r0, rl⟩ := h.reg hk
  rw [hy] at c3
  have z0 : (k : Int) < (R.length : Int) := by omega
  generalize R.getD k 0 = v at r0
  clear hd h hy hk
  go_enter Tryz.func230, Tryz.ntmps230
  go_wp2_with fail
  go_quiet (fail)
  go_wp2_with fail
  go_ret
  exact ⟨rfl, _, rfl⟩
set_option maxRecDepth 100000 in
theorem doB_ok (hd : W.heap[bd]? = some (dgo bt bf bh y task it next err)) (h : Th bt g bf gr bc fn at' R tr W) {k : Nat} (hy : y.b = k) (hk : k < R.length) : Calls Tryz.prog 214 #[.pointer (some ⟨bd, 0, none⟩)] W fun e W' => e = .returned (.int .i64 (R.getD k 0)) ∧ ∃ n, W' = W.drewN n := by
  obtain ⟨c0, c1, c2, c3, c4, c5, c6, c8, c10, c12, c13, c14, c15, c16, c17, c18, c19, c20, cl⟩ := dgo_cells hd
  obtain ⟨t0, t1, t2, tl, s0, sl, f0, f1, f2, fl⟩ := h.cells
  obtain ⟨r0, rl⟩ := h.reg hk
  rw [hy] at c4
  have z0 : (k : Int) < (R.length : Int) := by omega
  generalize R.getD k 0 = v at r0
  clear hd h hy hk
  go_enter Tryz.func214, Tryz.ntmps214
  go_wp2_with fail
  go_quiet (fail)
  go_wp2_with fail
  go_ret
  exact ⟨rfl, _, rfl⟩
set_option maxRecDepth 100000 in
theorem doC_ok (hd : W.heap[bd]? = some (dgo bt bf bh y task it next err)) (h : Th bt g bf gr bc fn at' R tr W) {k : Nat} (hy : y.c = k) (hk : k < R.length) : Calls Tryz.prog 216 #[.pointer (some ⟨bd, 0, none⟩)] W fun e W' => e = .returned (.int .i64 (R.getD k 0)) ∧ ∃ n, W' = W.drewN n := by
  obtain ⟨c0, c1, c2, c3, c4, c5, c6, c8, c10, c12, c13, c14, c15, c16, c17, c18, c19, c20, cl⟩ := dgo_cells hd
  obtain ⟨t0, t1, t2, tl, s0, sl, f0, f1, f2, fl⟩ := h.cells
  obtain ⟨r0, rl⟩ := h.reg hk
  rw [hy] at c5
  have z0 : (k : Int) < (R.length : Int) := by omega
  generalize R.getD k 0 = v at r0
  clear hd h hy hk
  go_enter Tryz.func216, Tryz.ntmps216
  go_wp2_with fail
  go_quiet (fail)
  go_wp2_with fail
  go_ret
  exact ⟨rfl, _, rfl⟩
set_option maxHeartbeats 2000000 in
set_option maxRecDepth 100000 in
theorem doSet_ok (hd : W.heap[bd]? = some (dgo bt bf bh y task it next err)) (h : Th bt g bf gr bc fn at' R tr W) (hb : bt ≠ gr) (hg : g ≠ gr) (hf : bf ≠ gr) {k : Nat} (hy : y.a = k) (hk : k < R.length) (n : Int) : Calls Tryz.prog 212 #[.pointer (some ⟨bd, 0, none⟩), .int .i64 n] W fun e W' => e = .returned (.tuple #[]) ∧ Th bt g bf gr bc fn at' (R.set k n) tr W' ∧ Kept (ne' gr) W W' := by
  have hx : Ext W W.drew := Ext.drew _
  obtain ⟨W1, hW1⟩ : ∃ W1, W1 = W.drew := ⟨_, rfl⟩
  rw [← hW1] at hx
  have hd1 := (hx.kept (fun _ _ => true)).same _ _ hd rfl
  have h1 := h.ext hx
  obtain ⟨c0, c1, c2, c3, c4, c5, c6, c8, c10, c12, c13, c14, c15, c16, c17, c18, c19, c20, cl⟩ := dgo_cells hd1
  obtain ⟨t0, t1, t2, tl, s0, sl, f0, f1, f2, fl⟩ := h1.cells
  obtain ⟨r0, rl⟩ := h1.reg hk
  obtain ⟨p1, p2, p3⟩ := h1.setReg hb hg hf hk n
  rw [hy] at c3
  have z0 : (k : Int) < (R.length : Int) := by omega
  generalize R.getD k 0 = v at r0
  have HP := Lib.hid (And.intro p1 ((hx.kept _).trans p3))
  have HW := Lib.hid hW1
  clear hd h hy hk hd1 h1 p1 p3 hx hW1
  go_enter Tryz.func212, Tryz.ntmps212
  refine wp_region_still_tail 14 (by kernel_rfl) (by kernel_rfl) ?_
  simp only [List.take_succ_cons, List.take_zero, List.drop_succ_cons, List.drop_zero]
  change wpStill _ _ W.drew _ _ _
  rw [← HW.out]
  repeat still_step
  refine wpStill_nil ?_
  change wpList _ _ _ _ _ W.drew
  rw [← HW.out]
  go_wp2_with fail
  go_end0
  exact ⟨rfl, HP.out.1, HP.out.2⟩
end
/-- A heap without objects. -/
def heapo : Obj := .cells #[.slice none 0 0, .map none] 230 (0, 0)
theorem heapo_cells {w : World} {b : Nat} (h : w.heap[b]? = some heapo) : w.cell? ⟨b, 0, none⟩ = some (.slice none 0 0) ∧ w.cell? ⟨b, 1, none⟩ = some (.map none) ∧ b < w.heap.size := by
  refine ⟨?_, ?_, (Array.getElem?_eq_some_iff.1 h).1⟩
  all_goals simp [World.cell?, h, heapo]
@[go_sem] theorem eqh_sn (b : Nat) (w : World) : (binOp .eql 65 (.pointer (some ⟨b, 0, none⟩)) (.pointer none)).run Tryz.prog w = .ok (.bool false) w := by kernel_rfl
@[go_sem] theorem eqh_nn (w : World) : (binOp .eql 65 (.pointer none) (.pointer none)).run Tryz.prog w = .ok (.bool true) w := by kernel_rfl
set_option maxRecDepth 100000 in
theorem find_none {b : Nat} {W : World} (h : W.heap[b]? = some heapo) (id : Int) : Calls Tryz.prog 324 #[.pointer (some ⟨b, 0, none⟩), .int .i64 id] W fun e W' => e = .returned (.tuple #[.pointer none, .int .i64 13]) ∧ W' = W := by
  obtain ⟨h0, h1, hl⟩ := heapo_cells h
  clear h
  by_cases z0 : id < 1
  · go_enter Tryz.func324, Tryz.ntmps324
    go_wp2_with fail
    go_ret2
    exact ⟨rfl, rfl⟩
  · have z1 : id > 0 := by omega
    go_enter Tryz.func324, Tryz.ntmps324
    go_wp2_with fail
    go_ret2
    exact ⟨rfl, rfl⟩
set_option maxRecDepth 100000 in
theorem Is_none {b : Nat} {W : World} (h : W.heap[b]? = some heapo) (id k : Int) : Calls Tryz.prog 292 #[.pointer (some ⟨b, 0, none⟩), .int .i64 id, .int .i64 k] W fun e W' => e = .returned (.bool false) ∧ W' = W := by
  have H := Lib.hid (find_none h id)
  clear h
  go_enter Tryz.func292, Tryz.ntmps292
  go_wp2_with (go_at_call 324; refine H.out.mono ?_; rintro e w2 ⟨rfl, hw⟩; rw [hw]; clear hw)
  go_ret
  exact ⟨rfl, rfl⟩
/-- A trap, as it is thrown. -/
def trapV (t : Int) : Value := .iface 116 (.int .i64 t)
set_option maxRecDepth 100000 in
theorem must_no (t : Int) (W : World) : Calls Tryz.prog 291 #[.bool false, .int .i64 t] W fun e W' => e = .panicked [{ v := trapV t, recovered := false }] ∧ W' = W := by
  go_enter Tryz.func291, Tryz.ntmps291
  go_wp2_with fail
  exact ⟨rfl, rfl, rfl⟩
section
variable {bd bt g bf gr bc bh : Nat} {fn at' : Int} {R : List Int} {tr : Int} {y : Ins} {task it next err : Int} {W : World}
set_option maxRecDepth 100000 in
theorem cell_no (hd : W.heap[bd]? = some (dgo bt bf bh y task it next err)) (hh : W.heap[bh]? = some heapo) (id : Int) : Calls Tryz.prog 227 #[.pointer (some ⟨bd, 0, none⟩), .int .i64 id] W fun e W' => e = .panicked [{ v := trapV 1, recovered := false }] ∧ Ext W W' := by
  obtain ⟨W1, hW1⟩ : ∃ W1, W1 = W.alloc (.cells #[.int .i64 0, .int .i64 0, .int .i64 0] 126) := ⟨_, rfl⟩
  have hx : Ext W W1 := by rw [hW1]; exact Ext.one _ _
  have hd1 := (hx.kept (fun _ _ => true)).same _ _ hd rfl
  have hh1 := (hx.kept (fun _ _ => true)).same _ _ hh rfl
  obtain ⟨c0, c1, c2, c3, c4, c5, c6, c8, c10, c12, c13, c14, c15, c16, c17, c18, c19, c20, cl⟩ := dgo_cells hd1
  have HI := Lib.hid (Is_none hh1 id 3)
  have HM := Lib.hid (must_no 1 W1)
  have HW := Lib.hid hW1
  have HX := Lib.hid hx
  clear hd hh hd1 hh1 hW1 hx
  go_enter Tryz.func227, Tryz.ntmps227
  go_upto_region 1 with (fail)
  change Code.wp _ _ _ _ (W.alloc (.cells #[.int .i64 0, .int .i64 0, .int .i64 0] 126))
  rw [← HW.out]
  go_wp2_with (first
    | (go_at_call 292; refine HI.out.mono ?_; rintro e w2 ⟨rfl, hw⟩; rw [hw]; clear hw)
    | (go_at_call 291; refine HM.out.mono ?_; rintro e w2 ⟨rfl, hw⟩; rw [hw]; clear hw))
  exact ⟨rfl, rfl, HX.out⟩
end
end Go.Proofs.YtfljmdpigckpkaaGreatDoor
