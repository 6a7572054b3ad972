/- The document's lives: what they have; leads, May, Go, State, On, Set. -/
import Derived.Test.YtecehjcombkkaaaDoorRwA
namespace Go.Proofs.YtecehjcombkkaaaDoor
open Go.RowKit Go.Shelf
attribute [local go_sem] Oper.semAt_some
/-- May a callback be behind another one? -/
def leadsP (was which : Int) : Bool := if which = 0 then was == -1 else if which = 1 then was == 0 || was == 2 else if which = 2 then was == 1 else if which = 3 then was == 0 || was == 2 else false
def inL (n : Nat) (c : Int) : Bool := decide (0 ≤ c) && decide (c < n)
def stO (C : List Int) (c : Int) : Int := if inL C.length c = true then C.getD c.toNat 0 else -1
def mayO (C : List Int) (c w : Int) : Bool := inL C.length c && leadsP (C.getD c.toNat 0) w
def goE (C : List Int) (c w : Int) : Int := if inL C.length c && inL 4 w then if mayO C c w then 0 else 10 else 2
def goL (C : List Int) (c w : Int) : List Int := if goE C c w = 0 then C.set c.toNat w else C
def onO (E : List Bool) (e : Int) : Bool := inL E.length e && E.getD e.toNat false
def setR (E : List Bool) (e : Int) (on : Bool) : Bool := inL E.length e && (on && !E.getD e.toNat false)
def setL (E : List Bool) (e : Int) (on : Bool) : List Bool := if inL E.length e then E.set e.toNat on else E
theorem inL_true {n : Nat} {c : Int} (h : inL n c = true) : ∃ k : Nat, c = k ∧ k < n := by
  simp [inL] at h
  exact ⟨c.toNat, by omega, by omega⟩
theorem inL_nat {n k : Nat} (h : k < n) : inL n (k : Int) = true := by simp [inL]; omega
theorem inL_false {n : Nat} {c : Int} (h : inL n c = false) : c < 0 ∨ (n : Int) ≤ c := by
  simp [inL] at h; omega
theorem goL_len (C : List Int) (c w : Int) : (goL C c w).length = C.length := by unfold goL; split <;> simp
theorem setL_len (E : List Bool) (e : Int) (on : Bool) : (setL E e on).length = E.length := by unfold setL; split <;> simp
/-- The document's lives in memory; own: their blocks. -/
structure RL (own : Nat → Bool) (bw : Nat) (C : List Int) (E : List Bool) (W : World) : Prop where
  ex : ∃ v u, W.heap[bw]? = some (.cells #[v, u] 53 (0, 0)) ∧ W.ownsRow 0 3 1 v C.length (rowV iV C) ∧ W.ownsRow 0 4 1 u E.length (rowV bV E) ∧ (∀ g, v.ownBlock = some g → own g = true) ∧ ∀ g, u.ownBlock = some g → own g = true
  ob : own bw = true
  lt : ∀ b, own b = true → b < W.heap.size
  len : C.length ≤ 1000 ∧ E.length ≤ 1000
section
variable {own : Nat → Bool} {bw : Nat} {C : List Int} {E : List Bool} {W W' : World}
theorem RL.frame {p : Nat → Option TypeId → Bool} (h : RL own bw C E W) (k : Kept p W W') (hp : ∀ b t, own b = true → p b t = true) : RL own bw C E W' := by
  obtain ⟨⟨v, u, h1, h2, h3, h4, h5⟩, h6, h7, h8⟩ := h
  exact ⟨⟨v, u, k.same _ _ h1 (hp _ _ h6), k.row h2 fun g hg => hp _ _ (h4 g hg), k.row h3 fun g hg => hp _ _ (h5 g hg), h4, h5⟩, h6, fun b hb => Nat.lt_of_lt_of_le (h7 b hb) k.size, h8⟩
theorem RL.ext (h : RL own bw C E W) (x : Ext W W') : RL own bw C E W' := h.frame (x.kept (fun _ _ => true)) fun _ _ _ => rfl
theorem RL.fresh (h : RL own bw C E W) {g : Nat} (hg : W.heap.size ≤ g) : own g = false := by
  cases hc : own g with
  | false => rfl
  | true => have := h.lt g hc; omega
/-- What the walks load. -/
theorem RL.parts (h : RL own bw C E W) : ∃ A c B d, W.heap[bw]? = some (.cells #[.slice A C.length c, .slice B E.length d] 53 (0, 0)) ∧ W.cell? ⟨bw, 0, none⟩ = some (.slice A C.length c) ∧ W.cell? ⟨bw, 1, none⟩ = some (.slice B E.length d) ∧ bw < W.heap.size ∧ W.ownsRow 0 3 1 (.slice A C.length c) C.length (rowV iV C) ∧ W.ownsRow 0 4 1 (.slice B E.length d) E.length (rowV bV E) ∧ (∀ g, (Value.slice A C.length c).ownBlock = some g → own g = true) ∧ ∀ g, (Value.slice B E.length d).ownBlock = some g → own g = true := by
  obtain ⟨⟨v, u, h1, h2, h3, h4, h5⟩, h6, h7, h8⟩ := h
  obtain ⟨A, c, rfl⟩ := own_slice3 h2
  obtain ⟨B, d, rfl⟩ := own_slice3 h3
  exact ⟨A, c, B, d, h1, by simp [World.cell?, h1], by simp [World.cell?, h1], (Array.getElem?_eq_some_iff.1 h1).1, h2, h3, h4, h5⟩
set_option maxRecDepth 100000 in
theorem leads_ok (was which : Int) (W : World) : Calls Tryd.prog 35 #[.int .i64 was, .int .i64 which] W fun e W' => e = .returned (.bool (leadsP was which)) ∧ W' = W := by
  by_cases h0 : which = 0
  · subst h0
    go_enter Tryd.func35, Tryd.ntmps35
    go_wp2_with fail
    go_ret
    exact ⟨rfl, rfl⟩
  by_cases h1 : which = 1
  · subst h1
    by_cases hw : was = 0
    · subst hw
      go_enter Tryd.func35, Tryd.ntmps35
      go_wp2_with fail
      go_ret
      exact ⟨rfl, rfl⟩
    · have hb : (was == 0) = false := by simpa using hw
      have hr : leadsP was 1 = (was == 2) := by simp [leadsP, hw]
      rw [hr]
      clear hw hr
      go_enter Tryd.func35, Tryd.ntmps35
      go_wp2_with fail
      go_ret
      exact ⟨rfl, rfl⟩
  by_cases h2 : which = 2
  · subst h2
    go_enter Tryd.func35, Tryd.ntmps35
    go_wp2_with fail
    go_ret
    exact ⟨rfl, rfl⟩
  by_cases h3 : which = 3
  · subst h3
    by_cases hw : was = 0
    · subst hw
      go_enter Tryd.func35, Tryd.ntmps35
      go_wp2_with fail
      go_ret
      exact ⟨rfl, rfl⟩
    · have hb : (was == 0) = false := by simpa using hw
      have hr : leadsP was 3 = (was == 2) := by simp [leadsP, hw]
      rw [hr]
      clear hw hr
      go_enter Tryd.func35, Tryd.ntmps35
      go_wp2_with fail
      go_ret
      exact ⟨rfl, rfl⟩
  · have hr : leadsP was which = false := by simp [leadsP, h0, h1, h2, h3]
    have b0 : (which == 0) = false := by simpa using h0
    have b1 : (which == 1) = false := by simpa using h1
    have b2 : (which == 2) = false := by simpa using h2
    have b3 : (which == 3) = false := by simpa using h3
    rw [hr]
    clear h0 h1 h2 h3 hr
    go_enter Tryd.func35, Tryd.ntmps35
    go_wp2_with fail
    go_ret
    exact ⟨rfl, rfl⟩
set_option maxHeartbeats 1000000 in
set_option maxRecDepth 100000 in
theorem refMay_ok (h : RL own bw C E W) (c w : Int) : Calls Tryd.prog 27 #[.pointer (some ⟨bw, 0, none⟩), .int .i64 c, .int .i64 w] W fun e W' => e = .returned (.bool (mayO C c w)) ∧ W' = W := by
  obtain ⟨A, cc, B, d, _, x0, _, hl, hr, _⟩ := h.parts
  have hn := h.len.1
  cases hb : inL C.length c with
  | true =>
    obtain ⟨k, rfl, hk⟩ := inL_true hb
    obtain ⟨g, c2, e, y0, _⟩ := own1_cell hr hk
    cases e
    have hm : mayO C k w = leadsP C[k] w := by simp [mayO, hb, hk]
    rw [hm]
    have z0 : (k : Int) ≥ 0 := by omega
    have z1 : (k : Int) < (C.length : Int) := by omega
    have HL := Lib.hid (leads_ok C[k] w W)
    clear hm hr hb h
    unfold iV at y0
    go_enter Tryd.func27, Tryd.ntmps27
    go_wp2_with (go_at_call 35; refine HL.out.mono ?_; rintro e w2 ⟨rfl, hw⟩; rw [hw]; clear hw)
    go_ret
    exact ⟨rfl, rfl⟩
  | false =>
    have hm : mayO C c w = false := by simp [mayO, hb]
    rw [hm]
    by_cases h0 : c ≥ 0
    · have z1 : ¬ c < (C.length : Int) := by have := inL_false hb; omega
      clear hm hr hb h
      go_enter Tryd.func27, Tryd.ntmps27
      go_wp2_with fail
      go_ret
      exact ⟨rfl, rfl⟩
    · clear hm hr hb h
      go_enter Tryd.func27, Tryd.ntmps27
      go_wp2_with fail
      go_ret
      exact ⟨rfl, rfl⟩
set_option maxHeartbeats 1000000 in
set_option maxRecDepth 100000 in
theorem refState_ok (h : RL own bw C E W) (c : Int) : Calls Tryd.prog 24 #[.pointer (some ⟨bw, 0, none⟩), .int .i64 c] W fun e W' => e = .returned (.int .i64 (stO C c)) ∧ W' = W := by
  obtain ⟨A, cc, B, d, _, x0, _, hl, hr, _⟩ := h.parts
  have hn := h.len.1
  cases hb : inL C.length c with
  | true =>
    obtain ⟨k, rfl, hk⟩ := inL_true hb
    obtain ⟨g, c2, e, y0, _⟩ := own1_cell hr hk
    cases e
    have hm : stO C k = C[k] := by simp [stO, hb, hk]
    rw [hm]
    have z0 : ¬ (k : Int) < 0 := by omega
    have z1 : ¬ (k : Int) ≥ (C.length : Int) := by omega
    have z2 : (k : Int) < (C.length : Int) := by omega
    clear hm hr hb h
    unfold iV at y0
    go_enter Tryd.func24, Tryd.ntmps24
    go_wp2_with fail
    go_ret
    exact ⟨rfl, rfl⟩
  | false =>
    have hm : stO C c = -1 := by simp [stO, hb]
    rw [hm]
    by_cases h0 : c < 0
    · clear hm hr hb h
      go_enter Tryd.func24, Tryd.ntmps24
      go_wp2_with fail
      go_ret
      exact ⟨rfl, rfl⟩
    · have z1 : c ≥ (C.length : Int) := by have := inL_false hb; omega
      clear hm hr hb h
      go_enter Tryd.func24, Tryd.ntmps24
      go_wp2_with fail
      go_ret
      exact ⟨rfl, rfl⟩
set_option maxHeartbeats 1000000 in
set_option maxRecDepth 100000 in
theorem refOn_ok (h : RL own bw C E W) (e : Int) : Calls Tryd.prog 25 #[.pointer (some ⟨bw, 0, none⟩), .int .i64 e] W fun r W' => r = .returned (.bool (onO E e)) ∧ W' = W := by
  obtain ⟨A, cc, B, d, _, _, x1, hl, _, hr, _⟩ := h.parts
  have hn := h.len.2
  cases hb : inL E.length e with
  | true =>
    obtain ⟨k, rfl, hk⟩ := inL_true hb
    obtain ⟨g, c2, e, y0, _⟩ := own1_cell hr hk
    cases e
    have hm : onO E k = E[k] := by simp [onO, hb, hk]
    rw [hm]
    have z0 : (k : Int) ≥ 0 := by omega
    have z1 : (k : Int) < (E.length : Int) := by omega
    clear hm hr hb h
    unfold bV at y0
    go_enter Tryd.func25, Tryd.ntmps25
    go_wp2_with fail
    go_ret
    exact ⟨rfl, rfl⟩
  | false =>
    have hm : onO E e = false := by simp [onO, hb]
    rw [hm]
    by_cases h0 : e ≥ 0
    · have z1 : ¬ e < (E.length : Int) := by have := inL_false hb; omega
      clear hm hr hb h
      go_enter Tryd.func25, Tryd.ntmps25
      go_wp2_with fail
      go_ret
      exact ⟨rfl, rfl⟩
    · clear hm hr hb h
      go_enter Tryd.func25, Tryd.ntmps25
      go_wp2_with fail
      go_ret
      exact ⟨rfl, rfl⟩
end
end Go.Proofs.YtecehjcombkkaaaDoor
