/- The program's among, isOp, IsSite, isType, isTask; the table of the registers that are named. Written by genVA.py. -/
import Derived.Test.YtfljmdpigckpkaaGreatDoorSpD
namespace Go.Proofs.YtfljmdpigckpkaaGreatDoor
open Go.RowKit Go.Shelf
attribute [local go_sem] Oper.semAt_some
/-- The table's cells. -/
def tabN : List Int := [0, 1, 2, 3, 3, 3, 3, 3, 1, 1, 1, 1, 2, 2, 1, 2, 2, 2, 3, 3, 2, 1, 1, 2, 2, 1, 0, 0, 2, 1, 1, 0, 1, 0]
structure Tab (W : World) : Prop where
  at' : ∀ i : Nat, i < 34 → W.cell? ⟨2, i, none⟩ = some (.int .i64 (tabN.getD i 0))
  lt : 2 < W.heap.size
theorem Tab.keep {W W' : World} {p : Nat → Option TypeId → Bool} (h : Tab W) (k : Kept p W W') (hp : ∀ t, p 2 t = true) : Tab W' :=
  ⟨fun i hi => k.cell (h.at' i hi) fun _ _ => hp _, Nat.lt_of_lt_of_le h.lt k.size⟩
theorem Tab.ext {W W' : World} (h : Tab W) (k : Ext W W') : Tab W' := h.keep (k.kept (fun _ _ => true)) fun _ => rfl
theorem inI_intro {n m : Int} (h : 0 ≤ n) (h2 : n < m) : inI n m = true := by simp [inI]; omega
set_option maxRecDepth 100000 in
theorem amongI_ok (n m : Int) (W : World) : Calls Tryz.prog 272 #[.int .i64 n, .int .i64 m] W fun e W' => e = .returned (.bool (inI n m)) ∧ W' = W := by
  by_cases h0 : n ≥ 0
  · by_cases h1 : n < m
    · have hr : inI n m = true := by simp [inI]; omega
      rw [hr]
      clear hr
      go_enter Tryz.func272, Tryz.ntmps272
      go_wp2_with fail
      go_ret
      exact ⟨rfl, rfl⟩
    · have hr : inI n m = false := by simp [inI]; omega
      rw [hr]
      clear hr
      have z9 : decide (n < m) = false := decide_eq_false h1
      go_enter Tryz.func272, Tryz.ntmps272
      go_wp2_with fail
      go_ret
      exact ⟨by rw [← z9]; rfl, rfl⟩
  · have hr : inI n m = false := by simp [inI]; omega
    rw [hr]
    clear hr
    go_enter Tryz.func272, Tryz.ntmps272
    go_wp2_with fail
    go_ret
    exact ⟨rfl, rfl⟩
set_option maxRecDepth 100000 in
theorem amongL_ok (n m : Int) (W : World) : Calls Tryz.prog 294 #[.int .i64 n, .int .i64 m] W fun e W' => e = .returned (.bool (inI n m)) ∧ W' = W := by
  by_cases h0 : n ≥ 0
  · by_cases h1 : n < m
    · have hr : inI n m = true := by simp [inI]; omega
      rw [hr]
      clear hr
      go_enter Tryz.func294, Tryz.ntmps294
      go_wp2_with fail
      go_ret
      exact ⟨rfl, rfl⟩
    · have hr : inI n m = false := by simp [inI]; omega
      rw [hr]
      clear hr
      have z9 : decide (n < m) = false := decide_eq_false h1
      go_enter Tryz.func294, Tryz.ntmps294
      go_wp2_with fail
      go_ret
      exact ⟨by rw [← z9]; rfl, rfl⟩
  · have hr : inI n m = false := by simp [inI]; omega
    rw [hr]
    clear hr
    go_enter Tryz.func294, Tryz.ntmps294
    go_wp2_with fail
    go_ret
    exact ⟨rfl, rfl⟩
set_option maxHeartbeats 4000000 in
set_option maxRecDepth 100000 in
theorem isOp_ok (o : Int) (h : 1 ≤ o) (h2 : o ≤ 33) (W : World) : Calls Tryz.prog 282 #[.int .i64 o] W fun e W' => e = .returned (.bool true) ∧ W' = W := by
  rcases ops33 h h2 with rfl | rfl | rfl | rfl | rfl | rfl | rfl | rfl | rfl | rfl | rfl | rfl | rfl | rfl | rfl | rfl | rfl | rfl | rfl | rfl | rfl | rfl | rfl | rfl | rfl | rfl | rfl | rfl | rfl | rfl | rfl | rfl | rfl
  all_goals
    clear h h2
    go_enter Tryz.func282, Tryz.ntmps282
    go_wp2_with fail
    go_ret
    exact ⟨rfl, rfl⟩
set_option maxHeartbeats 4000000 in
set_option maxRecDepth 100000 in
theorem pIsSite_ok (o : Int) (h : 1 ≤ o) (h2 : o ≤ 33) (W : World) : Calls Tryz.prog 285 #[.int .i64 o] W fun e W' => e = .returned (.bool (siteO o)) ∧ W' = W := by
  rcases ops33 h h2 with rfl | rfl | rfl | rfl | rfl | rfl | rfl | rfl | rfl | rfl | rfl | rfl | rfl | rfl | rfl | rfl | rfl | rfl | rfl | rfl | rfl | rfl | rfl | rfl | rfl | rfl | rfl | rfl | rfl | rfl | rfl | rfl | rfl
  all_goals
    clear h h2
    go_enter Tryz.func285, Tryz.ntmps285
    go_wp2_with fail
    go_ret
    exact ⟨rfl, rfl⟩
set_option maxHeartbeats 4000000 in
set_option maxRecDepth 100000 in
theorem pShared_ok (o : Int) (h : 1 ≤ o) (h2 : o ≤ 33) (W : World) : Calls Tryz.prog 120 #[.int .i64 o] W fun e W' => e = .returned (.bool (sharedO o)) ∧ W' = W := by
  rcases ops33 h h2 with rfl | rfl | rfl | rfl | rfl | rfl | rfl | rfl | rfl | rfl | rfl | rfl | rfl | rfl | rfl | rfl | rfl | rfl | rfl | rfl | rfl | rfl | rfl | rfl | rfl | rfl | rfl | rfl | rfl | rfl | rfl | rfl | rfl
  all_goals
    clear h h2
    go_enter Tryz.func120, Tryz.ntmps120
    go_wp2_with fail
    go_ret
    exact ⟨rfl, rfl⟩
/-- A type may be: the class that it names is there. -/
def typB (P : Prg) (t : Int) : Bool := decide (0 ≤ t) || inI (-1 - t) P.clss.length
set_option maxHeartbeats 1000000 in
set_option maxRecDepth 100000 in
theorem isType_ok {P : Prg} {W : World} (h : P.In W) {t : Int} (ht : typB P t = true) : Calls Tryz.prog 280 #[P.v, .int .i64 t] W fun e W' => e = .returned (.bool true) ∧ Ext W W' := by
  have hL := h.clssL
  unfold Prg.v
  obtain ⟨W1, hW1⟩ : ∃ W1, W1 = W.alloc P.o := ⟨_, rfl⟩
  have hE1 : Ext W W1 := by rw [hW1]; exact Ext.one _ _
  have hb1 : W1.heap[W.heap.size]? = some P.o := by rw [hW1]; exact World.alloc_heap_new _ _
  obtain ⟨x0, x1, x2, x3, x4, x5, x6, x7, xl⟩ := Prg.o_cells hb1
  have HE1 := Lib.hid hE1
  have HW := Lib.hid hW1
  by_cases h0 : t ≥ 0
  · clear hE1 hb1 hW1 h ht hL
    go_enter Tryz.func280, Tryz.ntmps280
    go_upto_region 1 with (fail)
    change Code.wp _ _ _ _ (W.alloc P.o)
    rw [← HW.out]
    go_wp2_with fail
    go_ret
    exact ⟨rfl, HE1.out⟩
  · have hi : inI (-1 - t) P.clss.length = true := by
      unfold typB at ht
      rw [decide_eq_false (by omega), Bool.false_or] at ht
      exact ht
    obtain ⟨k, hk, hk2⟩ := inI_true hi
    have hin := amongL_ok (-1 - t) P.clss.length W1
    rw [hi] at hin
    obtain rfl : t = -1 - (k : Int) := by omega
    have z1 : -1 - (-1 - (k : Int)) = k := by omega
    rw [z1] at hin
    have HIN := Lib.hid hin
    clear hE1 hb1 hW1 h hi ht hk hin
    go_enter Tryz.func280, Tryz.ntmps280
    go_upto_region 1 with (fail)
    change Code.wp _ _ _ _ (W.alloc P.o)
    rw [← HW.out]
    go_wp2_with (go_at_call 294; refine HIN.out.mono ?_; rintro e w2 ⟨rfl, hw⟩; rw [hw]; clear hw)
    go_ret
    exact ⟨rfl, HE1.out⟩
set_option maxHeartbeats 1000000 in
set_option maxRecDepth 100000 in
theorem isTask_ok {P : Prg} {W : World} (h : P.In W) {f : Int} (hf : rootB P f = true) : Calls Tryz.prog 281 #[P.v, .int .i64 f] W fun e W' => e = .returned (.bool true) ∧ Ext W W' := by
  obtain ⟨k, hk', rfl, hz⟩ := rootB_at hf
  unfold Prg.v
  obtain ⟨W1, hW1⟩ : ∃ W1, W1 = W.alloc P.o := ⟨_, rfl⟩
  have hE1 : Ext W W1 := by rw [hW1]; exact Ext.one _ _
  have hb1 : W1.heap[W.heap.size]? = some P.o := by rw [hW1]; exact World.alloc_heap_new _ _
  have h1 := h.kept hE1
  obtain ⟨x0, x1, x2, x3, x4, x5, x6, x7, xl⟩ := Prg.o_cells hb1
  have HE1 := Lib.hid hE1
  have HW := Lib.hid hW1
  have hin := amongI_ok k P.fns.length W1
  rw [inI_intro (by omega) (by omega)] at hin
  have HIN := Lib.hid hin
  obtain ⟨g, off, e1, hl, _, _, c1, _, _⟩ := Prg.fn_at h1 hk'
  rw [hz] at c1
  rw [e1] at x3
  have z0 : (k : Int) < (P.fns.length : Int) := by omega
  clear e1 hE1 hb1 hW1 h h1 hin hz hf
  go_enter Tryz.func281, Tryz.ntmps281
  go_upto_region 1 with (fail)
  change Code.wp _ _ _ _ (W.alloc P.o)
  rw [← HW.out]
  go_wp2_with (go_at_call 272; refine HIN.out.mono ?_; rintro e w2 ⟨rfl, hw⟩; rw [hw]; clear hw)
  go_ret
  exact ⟨rfl, HE1.out⟩
end Go.Proofs.YtfljmdpigckpkaaGreatDoor
