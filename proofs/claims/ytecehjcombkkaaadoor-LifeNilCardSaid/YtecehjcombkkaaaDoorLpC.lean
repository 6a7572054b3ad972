/- The program's lives: State, wrong, May. -/
import Derived.Test.YtecehjcombkkaaaDoorLpB
namespace Go.Proofs.YtecehjcombkkaaaDoor
open Go.RowKit Go.Shelf
attribute [local go_sem] Oper.semAt_some
section
variable {own : Nat → Bool} {bw : Nat} {C : List Int} {E : List Bool} {W W' : World}
/-- What the map says of a component. -/
theorem PL.look (h : PL own bw C E W) {k : Nat} (hk : k < C.length) : ∃ bm y, W.cell? ⟨bw, 1, none⟩ = some (.map (some bm)) ∧ bw < W.heap.size ∧ C[k] = y - 1 ∧ 0 ≤ y ∧ y ≤ 4 ∧ (Instr.lookup 44 (.map (some bm)) (.int .i64 (k : Int)) false).run Tryd.prog W = .ok (.int .i64 y) W := by
  obtain ⟨bm, D, B, d, q⟩ := h.parts
  have hn := h.len.1
  obtain ⟨y, h1, h2, _⟩ := q.m.lookup_int law3 Tryd.underlying44 Tryd.underlying3 (zeroI _) (key_wf (a := (k : Int)) (wf_of ⟨by omega, by omega⟩))
  have h3 := q.c.at' k
  have h4 := h.st k
  rw [stO_nat C hk] at h3 h4
  rw [at0, show tk 0 = .int .i64 0 from rfl, h2] at h3
  have e : y = C[k] + 1 := by simpa [tk] using h3
  exact ⟨bm, y, q.x1, q.hl, by omega, by omega, by omega, h1⟩
theorem five {y : Int} (h : 0 ≤ y) (h2 : y ≤ 4) : y = 0 ∨ y = 1 ∨ y = 2 ∨ y = 3 ∨ y = 4 := by omega
theorem four {y : Int} (h : 0 ≤ y) (h2 : y < 4) : y = 0 ∨ y = 1 ∨ y = 2 ∨ y = 3 := by omega
set_option maxHeartbeats 1000000 in
set_option maxRecDepth 100000 in
theorem State_ok (h : PL own bw C E W) (c : Int) : Calls Tryd.prog 18 #[.pointer (some ⟨bw, 0, none⟩), .int .i64 c] W fun e W' => e = .returned (.int .i64 (stO C c)) ∧ Ext W W' := by
  have hh := has_ok h c
  have HX := Lib.hid (Ext.refl W)
  cases hb : inL C.length c with
  | true =>
    rw [hb] at hh
    have HH := Lib.hid hh
    obtain ⟨k, rfl, hk⟩ := inL_true hb
    obtain ⟨bm, y, x1, hl, he, l1, l2, hlk⟩ := h.look hk
    rw [stO_nat C hk, he]
    clear hb h hh he hk
    rcases five l1 l2 with rfl | rfl | rfl | rfl | rfl
    all_goals
      go_enter Tryd.func18, Tryd.ntmps18
      go_wp2_with (go_at_call 33; refine HH.out.mono ?_; rintro e w2 ⟨rfl, hw⟩; rw [hw]; clear hw)
      go_ret
      exact ⟨rfl, HX.out⟩
  | false =>
    rw [hb] at hh
    have HH := Lib.hid hh
    have hm : stO C c = -1 := by simp [stO, hb]
    rw [hm]
    clear hm hb h hh
    go_enter Tryd.func18, Tryd.ntmps18
    go_wp2_with (go_at_call 33; refine HH.out.mono ?_; rintro e w2 ⟨rfl, hw⟩; rw [hw]; clear hw)
    go_ret
    exact ⟨rfl, HX.out⟩
theorem goE_out {c w : Int} (h : inL C.length c = false) : goE C c w = 2 := by simp [goE, h]
theorem goE_wild {c w : Int} (h : ¬ (0 ≤ w ∧ w < 4)) : goE C c w = 2 := by
  have : inL 4 w = false := by simp [inL]; omega
  simp [goE, this]
theorem goE_at {k : Nat} (hk : k < C.length) {w : Int} (h : 0 ≤ w ∧ w < 4) : goE C k w = if leadsP C[k] w = true then 0 else 10 := by
  have h1 : inL 4 w = true := by simp [inL]; omega
  have h2 : inL C.length (k : Int) = true := inL_nat hk
  simp [goE, mayO, h1, h2, hk]
set_option maxHeartbeats 8000000 in
set_option maxRecDepth 100000 in
theorem wrong_ok (h : PL own bw C E W) (c w : Int) : Calls Tryd.prog 32 #[.pointer (some ⟨bw, 0, none⟩), .int .i64 c, .int .i64 w] W fun e W' => e = .returned (.int .i64 (goE C c w)) ∧ W' = W := by
  have hh := has_ok h c
  cases hb : inL C.length c with
  | true =>
    rw [hb] at hh
    have HH := Lib.hid hh
    obtain ⟨k, rfl, hk⟩ := inL_true hb
    by_cases h0 : w < 0
    · rw [goE_wild (by omega)]
      clear hb h hh
      go_enter Tryd.func32, Tryd.ntmps32
      go_wp2_with (go_at_call 33; refine HH.out.mono ?_; rintro e w2 ⟨rfl, hw⟩; rw [hw]; clear hw)
      go_ret
      exact ⟨rfl, rfl⟩
    by_cases h1 : w ≥ 4
    · rw [goE_wild (by omega)]
      clear hb h hh
      go_enter Tryd.func32, Tryd.ntmps32
      go_wp2_with (go_at_call 33; refine HH.out.mono ?_; rintro e w2 ⟨rfl, hw⟩; rw [hw]; clear hw)
      go_ret
      exact ⟨rfl, rfl⟩
    obtain ⟨bm, y, x1, hl, he, l1, l2, hlk⟩ := h.look hk
    rw [goE_at hk (by omega), he]
    have ht := h.tb
    clear hb h hh he hk
    have h0' : 0 ≤ w := by omega
    have h1' : w < 4 := by omega
    clear h0 h1
    obtain ⟨r, hr⟩ : ∃ r : Int, r = if leadsP (y - 1) w = true then 0 else 10 := ⟨_, rfl⟩
    rw [← hr]
    have HR := Lib.hid hr
    clear hr
    have t0 : W.cell? ⟨0, 0, none⟩ = some (.bool true) := ht.1 0 (by omega)
    have t1 : W.cell? ⟨0, 1, none⟩ = some (.bool false) := ht.1 1 (by omega)
    have t2 : W.cell? ⟨0, 2, none⟩ = some (.bool false) := ht.1 2 (by omega)
    have t3 : W.cell? ⟨0, 3, none⟩ = some (.bool false) := ht.1 3 (by omega)
    have t4 : W.cell? ⟨0, 4, none⟩ = some (.bool false) := ht.1 4 (by omega)
    have t5 : W.cell? ⟨0, 5, none⟩ = some (.bool true) := ht.1 5 (by omega)
    have t6 : W.cell? ⟨0, 6, none⟩ = some (.bool false) := ht.1 6 (by omega)
    have t7 : W.cell? ⟨0, 7, none⟩ = some (.bool true) := ht.1 7 (by omega)
    have t8 : W.cell? ⟨0, 8, none⟩ = some (.bool false) := ht.1 8 (by omega)
    have t9 : W.cell? ⟨0, 9, none⟩ = some (.bool false) := ht.1 9 (by omega)
    have t10 : W.cell? ⟨0, 10, none⟩ = some (.bool true) := ht.1 10 (by omega)
    have t11 : W.cell? ⟨0, 11, none⟩ = some (.bool false) := ht.1 11 (by omega)
    have t12 : W.cell? ⟨0, 12, none⟩ = some (.bool false) := ht.1 12 (by omega)
    have t13 : W.cell? ⟨0, 13, none⟩ = some (.bool true) := ht.1 13 (by omega)
    have t14 : W.cell? ⟨0, 14, none⟩ = some (.bool false) := ht.1 14 (by omega)
    have t15 : W.cell? ⟨0, 15, none⟩ = some (.bool true) := ht.1 15 (by omega)
    have t16 : W.cell? ⟨0, 16, none⟩ = some (.bool false) := ht.1 16 (by omega)
    have t17 : W.cell? ⟨0, 17, none⟩ = some (.bool false) := ht.1 17 (by omega)
    have t18 : W.cell? ⟨0, 18, none⟩ = some (.bool false) := ht.1 18 (by omega)
    have t19 : W.cell? ⟨0, 19, none⟩ = some (.bool false) := ht.1 19 (by omega)
    have tl := ht.2
    clear ht
    rcases five l1 l2 with rfl | rfl | rfl | rfl | rfl <;> rcases four h0' h1' with rfl | rfl | rfl | rfl
    all_goals
      clear l1 l2 h0' h1'
      go_enter Tryd.func32, Tryd.ntmps32
      go_wp2_with (go_at_call 33; refine HH.out.mono ?_; rintro e w2 ⟨rfl, hw⟩; rw [hw]; clear hw)
      go_ret
      exact ⟨by rw [HR.out]; rfl, rfl⟩
  | false =>
    rw [hb] at hh
    have HH := Lib.hid hh
    rw [goE_out hb]
    clear hb h hh
    go_enter Tryd.func32, Tryd.ntmps32
    go_wp2_with (go_at_call 33; refine HH.out.mono ?_; rintro e w2 ⟨rfl, hw⟩; rw [hw]; clear hw)
    go_ret
    exact ⟨rfl, rfl⟩
set_option maxHeartbeats 1000000 in
set_option maxRecDepth 100000 in
theorem May_ok (h : PL own bw C E W) (c w : Int) : Calls Tryd.prog 16 #[.pointer (some ⟨bw, 0, none⟩), .int .i64 c, .int .i64 w] W fun e W' => e = .returned (.bool (mayO C c w)) ∧ Ext W W' := by
  have hw := wrong_ok h c w
  have HX := Lib.hid (Ext.refl W)
  have hm : mayO C c w = (goE C c w == 0) := by
    unfold goE
    cases hm : mayO C c w with
    | true =>
      have h1 : inL C.length c = true := by
        unfold mayO at hm
        simp only [Bool.and_eq_true] at hm
        exact hm.1
      have h2 : inL 4 w = true := by
        unfold mayO at hm
        simp only [Bool.and_eq_true] at hm
        have := hm.2
        unfold leadsP at this
        by_cases q0 : w = 0
        · subst q0; rfl
        by_cases q1 : w = 1
        · subst q1; rfl
        by_cases q2 : w = 2
        · subst q2; rfl
        by_cases q3 : w = 3
        · subst q3; rfl
        simp [q0, q1, q2, q3] at this
      simp [h1, h2]
    | false =>
      by_cases q : (inL C.length c && inL 4 w) = true
      · simp [q]
      · simp [q]
  rw [hm]
  generalize goE C c w = z at hw ⊢
  have HW := Lib.hid hw
  clear hw hm h
  go_enter Tryd.func16, Tryd.ntmps16
  go_wp2_with (go_at_call 32; refine HW.out.mono ?_; rintro e w2 ⟨rfl, hw⟩; rw [hw]; clear hw)
  go_ret
  exact ⟨rfl, HX.out⟩
end
end Go.Proofs.YtecehjcombkkaaaDoor
