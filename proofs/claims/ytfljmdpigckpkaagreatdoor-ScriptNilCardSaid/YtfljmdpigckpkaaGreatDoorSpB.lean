/- The document's in, Named, Shared, IsSite, root. -/
import Derived.Test.YtfljmdpigckpkaaGreatDoorSpA
namespace Go.Proofs.YtfljmdpigckpkaaGreatDoor
open Go.RowKit Go.Shelf
attribute [local go_sem] Oper.semAt_some
def inI (n m : Int) : Bool := decide (0 ≤ n) && decide (n < m)
theorem inI_true {n m : Int} (h : inI n m = true) : ∃ k : Nat, n = k ∧ (k : Int) < m := by
  simp [inI] at h
  exact ⟨n.toNat, by omega, by omega⟩
set_option maxRecDepth 100000 in
theorem in_ok (n m : Int) (W : World) : Calls Tryz.prog 257 #[.int .i64 n, .int .i64 m] W fun e W' => e = .returned (.bool (inI n m)) ∧ W' = W := by
  by_cases h0 : n ≥ 0
  · by_cases h1 : n < m
    · have hr : inI n m = true := by simp [inI]; omega
      rw [hr]
      clear hr
      go_enter Tryz.func257, Tryz.ntmps257
      go_wp2_with fail
      go_ret
      exact ⟨rfl, rfl⟩
    · have hr : inI n m = false := by simp [inI]; omega
      rw [hr]
      clear hr
      have z9 : decide (n < m) = false := decide_eq_false h1
      go_enter Tryz.func257, Tryz.ntmps257
      go_wp2_with fail
      go_ret
      exact ⟨by rw [← z9]; rfl, rfl⟩
  · have hr : inI n m = false := by simp [inI]; omega
    rw [hr]
    clear hr
    go_enter Tryz.func257, Tryz.ntmps257
    go_wp2_with fail
    go_ret
    exact ⟨rfl, rfl⟩
/-- How many registers an operation names. -/
def namedO (o : Int) : Int := if o = 26 ∨ o = 27 ∨ o = 31 ∨ o = 33 then 0 else if o = 1 ∨ o = 8 ∨ o = 9 ∨ o = 10 ∨ o = 11 ∨ o = 14 ∨ o = 21 ∨ o = 22 ∨ o = 25 ∨ o = 29 ∨ o = 30 ∨ o = 32 then 1 else if o = 3 ∨ o = 4 ∨ o = 5 ∨ o = 6 ∨ o = 7 ∨ o = 18 ∨ o = 19 then 3 else 2
def sharedO (o : Int) : Bool := o == 9 || o == 10 || (decide (23 ≤ o) && decide (o ≤ 30))
def siteO (o : Int) : Bool := decide (9 ≤ o) && decide (o ≤ 30) && o != 20
theorem ops33 {o : Int} (h : 1 ≤ o) (h2 : o ≤ 33) : o = 1 ∨ o = 2 ∨ o = 3 ∨ o = 4 ∨ o = 5 ∨ o = 6 ∨ o = 7 ∨ o = 8 ∨ o = 9 ∨ o = 10 ∨ o = 11 ∨ o = 12 ∨ o = 13 ∨ o = 14 ∨ o = 15 ∨ o = 16 ∨ o = 17 ∨ o = 18 ∨ o = 19 ∨ o = 20 ∨ o = 21 ∨ o = 22 ∨ o = 23 ∨ o = 24 ∨ o = 25 ∨ o = 26 ∨ o = 27 ∨ o = 28 ∨ o = 29 ∨ o = 30 ∨ o = 31 ∨ o = 32 ∨ o = 33 := by omega
theorem namedO_le (o : Int) : 0 ≤ namedO o ∧ namedO o ≤ 3 := by
  unfold namedO
  split
  · omega
  · split
    · omega
    · split <;> omega
set_option maxHeartbeats 4000000 in
set_option maxRecDepth 100000 in
theorem IsSite_ok (o : Int) (h : 1 ≤ o) (h2 : o ≤ 33) (W : World) : Calls Tryz.prog 36 #[.int .i64 o] W fun e W' => e = .returned (.bool (siteO o)) ∧ W' = W := by
  rcases ops33 h h2 with rfl | rfl | rfl | rfl | rfl | rfl | rfl | rfl | rfl | rfl | rfl | rfl | rfl | rfl | rfl | rfl | rfl | rfl | rfl | rfl | rfl | rfl | rfl | rfl | rfl | rfl | rfl | rfl | rfl | rfl | rfl | rfl | rfl
  all_goals
    clear h h2
    go_enter Tryz.func36, Tryz.ntmps36
    go_wp2_with fail
    go_ret
    exact ⟨rfl, rfl⟩
set_option maxHeartbeats 4000000 in
set_option maxRecDepth 100000 in
theorem Shared_ok (o : Int) (h : 1 ≤ o) (h2 : o ≤ 33) (W : World) : Calls Tryz.prog 163 #[.int .i64 o] W fun e W' => e = .returned (.bool (sharedO o)) ∧ W' = W := by
  rcases ops33 h h2 with rfl | rfl | rfl | rfl | rfl | rfl | rfl | rfl | rfl | rfl | rfl | rfl | rfl | rfl | rfl | rfl | rfl | rfl | rfl | rfl | rfl | rfl | rfl | rfl | rfl | rfl | rfl | rfl | rfl | rfl | rfl | rfl | rfl
  all_goals
    clear h h2
    go_enter Tryz.func163, Tryz.ntmps163
    go_wp2_with fail
    go_ret
    exact ⟨rfl, rfl⟩
/-- A program as an argument, and in a box. -/
def Prg.v (P : Prg) : Value := .agg #[.slice P.loopsA P.loops.length P.loopsC, .slice P.clssA P.clss.length P.clssC, .slice P.glbsA P.glbs.length P.glbsC, .slice P.fnsA P.fns.length P.fnsC, .slice P.cmpsA P.cmps.length P.cmpsC, .slice P.evtsA P.evts.length P.evtsC, .int .i64 P.main, .slice P.sitsA P.sits.length P.sitsC]
def Prg.o (P : Prg) : Obj := .cells #[.slice P.loopsA P.loops.length P.loopsC, .slice P.clssA P.clss.length P.clssC, .slice P.glbsA P.glbs.length P.glbsC, .slice P.fnsA P.fns.length P.fnsC, .slice P.cmpsA P.cmps.length P.cmpsC, .slice P.evtsA P.evts.length P.evtsC, .int .i64 P.main, .slice P.sitsA P.sits.length P.sitsC] 35 (0, 0)
theorem Prg.o_cells {w : World} {b : Nat} {P : Prg} (h : w.heap[b]? = some P.o) : w.cell? ⟨b, 0, none⟩ = some (.slice P.loopsA P.loops.length P.loopsC) ∧ w.cell? ⟨b, 1, none⟩ = some (.slice P.clssA P.clss.length P.clssC) ∧ w.cell? ⟨b, 2, none⟩ = some (.slice P.glbsA P.glbs.length P.glbsC) ∧ w.cell? ⟨b, 3, none⟩ = some (.slice P.fnsA P.fns.length P.fnsC) ∧ w.cell? ⟨b, 4, none⟩ = some (.slice P.cmpsA P.cmps.length P.cmpsC) ∧ w.cell? ⟨b, 5, none⟩ = some (.slice P.evtsA P.evts.length P.evtsC) ∧ w.cell? ⟨b, 6, none⟩ = some (.int .i64 P.main) ∧ w.cell? ⟨b, 7, none⟩ = some (.slice P.sitsA P.sits.length P.sitsC) ∧ b < w.heap.size := by
  refine ⟨?_, ?_, ?_, ?_, ?_, ?_, ?_, ?_, (Array.getElem?_eq_some_iff.1 h).1⟩
  all_goals simp [World.cell?, h, Prg.o]
/-- A function's number, where it lies. -/
theorem Prg.fn_at {w : World} {P : Prg} (h : P.In w) {i : Nat} (hi : i < P.fns.length) : ∃ g off, P.fnsA = some ⟨g, off, none⟩ ∧ g < w.heap.size ∧ Fn.In w P.fns[i] ∧ w.cell? ⟨g, off + i * 4, none⟩ = some (.string P.fns[i].name) ∧ w.cell? ⟨g, off + i * 4 + 1, none⟩ = some (.int .i64 P.fns[i].caps) ∧ w.cell? ⟨g, off + i * 4 + 2, none⟩ = some (.int .i64 P.fns[i].regs) ∧ w.cell? ⟨g, off + i * 4 + 3, none⟩ = some (.slice P.fns[i].codeA P.fns[i].code.length P.fns[i].codeC) := by
  obtain ⟨g, off, h1, h2, h3, h4⟩ := h.fns.2.2 i _ (List.getElem?_eq_getElem hi)
  exact ⟨g, off, h1, h2, h3, h4 0 _ rfl, h4 1 _ rfl, h4 2 _ rfl, h4 3 _ rfl⟩
/-- May a function be begun without cells? -/
def rootB (P : Prg) (f : Int) : Bool := inI f P.fns.length && ((P.fns[f.toNat]?).map fun g => g.caps == 0).getD false
theorem rootB_at {P : Prg} {f : Int} (h : rootB P f = true) : ∃ (i : Nat) (h : i < P.fns.length), f = i ∧ (P.fns[i]).caps = 0 := by
  unfold rootB at h
  rw [Bool.and_eq_true] at h
  obtain ⟨k, rfl, hk⟩ := inI_true h.1
  have hk' : k < P.fns.length := by omega
  have h2 := h.2
  simp [hk'] at h2
  exact ⟨k, hk', rfl, h2⟩
end Go.Proofs.YtfljmdpigckpkaaGreatDoor
