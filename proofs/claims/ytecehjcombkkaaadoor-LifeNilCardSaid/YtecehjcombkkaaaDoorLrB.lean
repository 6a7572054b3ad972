/- The document's lives: Go, Set. -/
import Derived.Test.YtecehjcombkkaaaDoorLrA
namespace Go.Proofs.YtecehjcombkkaaaDoor
open Go.RowKit Go.Shelf
attribute [local go_sem] Oper.semAt_some
section
variable {own : Nat → Bool} {bw : Nat} {C : List Int} {E : List Bool} {W W' : World}
theorem RL.set_c (h : RL own bw C E W) {k : Nat} (hk : k < C.length) (z : Int) : ∃ g c, W.cell? ⟨bw, 0, none⟩ = some (.slice (some ⟨g, 0, none⟩) C.length c) ∧ W.cell? ⟨g, k, none⟩ = some (.int .i64 C[k]) ∧ (∀ n, W.frozen? ⟨g, n, none⟩ = false) ∧ g < W.heap.size ∧ RL own bw (C.set k z) E (W.setCell ⟨g, k, none⟩ (.int .i64 z)) ∧ Kept (pQ own) W (W.setCell ⟨g, k, none⟩ (.int .i64 z)) := by
  obtain ⟨A, c, B, d, hb, x0, _, _, hr, hs, ho, ho2⟩ := h.parts
  obtain ⟨g, c', e, h1, h2, h3, h4, ⟨o, ht, hta⟩, h5⟩ := own1_set hr hk z
  cases e
  have hog : own g = true := ho g rfl
  have kk : Kept (fun b _ => b != g) W (W.setCell ⟨g, k, none⟩ (.int .i64 z)) := h5
  have hne : bw ≠ g := fun e => by rw [← e, hb] at ht; cases ht; simp [tag] at hta
  refine ⟨g, c, x0, h3, h2, h4, ⟨⟨_, _, kk.same _ _ hb (by simpa using hne), by simpa [iV] using h1, kk.row hs fun g2 hg2 => ?_, by simpa using ho, ho2⟩, h.ob, fun b hb => by simpa using h.lt b hb, by simpa using h.len⟩, kk.mono fun b t _ hp => ?_⟩
  · simp only [bne_iff_ne, ne_eq]
    rintro rfl
    obtain ⟨o2, q1, q2⟩ := own_is hs g2 hg2
    rw [ht] at q1; cases q1
    rw [hta] at q2; simp at q2
  · simp only [bne_iff_ne, ne_eq]
    rintro rfl
    simp [pQ, hog] at hp
theorem RL.set_e (h : RL own bw C E W) {k : Nat} (hk : k < E.length) (z : Bool) : ∃ g c, W.cell? ⟨bw, 1, none⟩ = some (.slice (some ⟨g, 0, none⟩) E.length c) ∧ W.cell? ⟨g, k, none⟩ = some (.bool E[k]) ∧ (∀ n, W.frozen? ⟨g, n, none⟩ = false) ∧ g < W.heap.size ∧ RL own bw C (E.set k z) (W.setCell ⟨g, k, none⟩ (.bool z)) ∧ Kept (pQ own) W (W.setCell ⟨g, k, none⟩ (.bool z)) := by
  obtain ⟨A, c, B, d, hb, _, x0, _, hs, hr, ho2, ho⟩ := h.parts
  obtain ⟨g, c', e, h1, h2, h3, h4, ⟨o, ht, hta⟩, h5⟩ := own1_set hr hk z
  cases e
  have hog : own g = true := ho g rfl
  have kk : Kept (fun b _ => b != g) W (W.setCell ⟨g, k, none⟩ (.bool z)) := h5
  have hne : bw ≠ g := fun e => by rw [← e, hb] at ht; cases ht; simp [tag] at hta
  refine ⟨g, d, x0, h3, h2, h4, ⟨⟨_, _, kk.same _ _ hb (by simpa using hne), kk.row hs fun g2 hg2 => ?_, by simpa [bV] using h1, ho2, by simpa using ho⟩, h.ob, fun b hb => by simpa using h.lt b hb, by simpa using h.len⟩, kk.mono fun b t _ hp => ?_⟩
  · simp only [bne_iff_ne, ne_eq]
    rintro rfl
    obtain ⟨o2, q1, q2⟩ := own_is hs g2 hg2
    rw [ht] at q1; cases q1
    rw [hta] at q2; simp at q2
  · simp only [bne_iff_ne, ne_eq]
    rintro rfl
    simp [pQ, hog] at hp
theorem goE_cases (C : List Int) (c w : Int) : (goE C c w = 2 ∧ ¬ (inL C.length c = true ∧ inL 4 w = true)) ∨ (inL C.length c = true ∧ inL 4 w = true ∧ ((goE C c w = 10 ∧ mayO C c w = false) ∨ (goE C c w = 0 ∧ mayO C c w = true))) := by
  unfold goE
  cases h1 : inL C.length c <;> cases h2 : inL 4 w <;> simp
set_option maxHeartbeats 2000000 in
set_option maxRecDepth 100000 in
theorem refGo_ok (h : RL own bw C E W) (c w : Int) : Calls Tryd.prog 26 #[.pointer (some ⟨bw, 0, none⟩), .int .i64 c, .int .i64 w] W fun e W' => e = .returned (.int .i64 (goE C c w)) ∧ RL own bw (goL C c w) E W' ∧ Kept (pQ own) W W' := by
  rcases goE_cases C c w with ⟨he, hn⟩ | ⟨hc, hw, ⟨he, hm⟩ | ⟨he, hm⟩⟩
  · have hg : goL C c w = C := by unfold goL; rw [if_neg (by omega)]
    rw [hg, he]
    obtain ⟨A, cc, B, d, _, x0, _, hl, _⟩ := h.parts
    have hfin : ∀ {W' : World}, W' = W → RL own bw C E W' ∧ Kept (pQ own) W W' := by rintro W' rfl; exact ⟨h, Kept.refl _ _⟩
    have HFIN := Lib.hid (show RL own bw C E W ∧ Kept (pQ own) W W from ⟨h, Kept.refl _ _⟩)
    have hlen := h.len.1
    cases hc : inL C.length c with
    | false =>
      by_cases h0 : c < 0
      · clear hn hc h hg he hfin
        go_enter Tryd.func26, Tryd.ntmps26
        go_wp2_with fail
        go_ret
        exact ⟨rfl, HFIN.out⟩
      · have z1 : c ≥ (C.length : Int) := by have := inL_false hc; omega
        clear hn hc h hg he hfin
        go_enter Tryd.func26, Tryd.ntmps26
        go_wp2_with fail
        go_ret
        exact ⟨rfl, HFIN.out⟩
    | true =>
      obtain ⟨k, rfl, hk⟩ := inL_true hc
      have z0 : ¬ (k : Int) < 0 := by omega
      have z1 : ¬ (k : Int) ≥ (C.length : Int) := by omega
      have hw : inL 4 w = false := by
        cases h4 : inL 4 w with
        | false => rfl
        | true => exact absurd ⟨hc, h4⟩ hn
      by_cases h0 : w < 0
      · clear hn hc h hg he hfin hw
        go_enter Tryd.func26, Tryd.ntmps26
        go_wp2_with fail
        go_ret
        exact ⟨rfl, HFIN.out⟩
      · have z3 : w > 3 := by have := inL_false hw; omega
        clear hn hc h hg he hfin hw
        go_enter Tryd.func26, Tryd.ntmps26
        go_wp2_with fail
        go_ret
        exact ⟨rfl, HFIN.out⟩
  · have hg : goL C c w = C := by unfold goL; rw [if_neg (by omega)]
    rw [hg, he]
    obtain ⟨A, cc, B, d, _, x0, _, hl, _⟩ := h.parts
    have HFIN := Lib.hid (show RL own bw C E W ∧ Kept (pQ own) W W from ⟨h, Kept.refl _ _⟩)
    have hlen := h.len.1
    have hmy := refMay_ok h c w
    rw [hm] at hmy
    have HMY := Lib.hid hmy
    obtain ⟨k, rfl, hk⟩ := inL_true hc
    obtain ⟨j, rfl, hj⟩ := inL_true hw
    have z0 : ¬ (k : Int) < 0 := by omega
    have z1 : ¬ (k : Int) ≥ (C.length : Int) := by omega
    have z2 : ¬ (j : Int) < 0 := by omega
    have z3 : ¬ (j : Int) > 3 := by omega
    clear hc hw h hg he hm hmy
    go_enter Tryd.func26, Tryd.ntmps26
    go_wp2_with (go_at_call 27; refine HMY.out.mono ?_; rintro e w2 ⟨rfl, hw⟩; rw [hw]; clear hw)
    go_ret
    exact ⟨rfl, HFIN.out⟩
  · have hmy := refMay_ok h c w
    rw [hm] at hmy
    have HMY := Lib.hid hmy
    have hlen := h.len.1
    obtain ⟨k, rfl, hk⟩ := inL_true hc
    obtain ⟨j, rfl, hj⟩ := inL_true hw
    have hg : goL C k j = C.set k j := by unfold goL; rw [if_pos he]; simp
    rw [hg, he]
    obtain ⟨g, c, x0, y0, yf, yl, hR, hK⟩ := h.set_c hk (j : Int)
    have HFIN := Lib.hid (And.intro hR hK)
    have hl : bw < W.heap.size := h.lt _ h.ob
    have z0 : ¬ (k : Int) < 0 := by omega
    have z1 : ¬ (k : Int) ≥ (C.length : Int) := by omega
    have z4 : (k : Int) < (C.length : Int) := by omega
    have z2 : ¬ (j : Int) < 0 := by omega
    have z3 : ¬ (j : Int) > 3 := by omega
    clear hc hw h hg he hm hmy hR hK
    go_enter Tryd.func26, Tryd.ntmps26
    go_wp2_with (go_at_call 27; refine HMY.out.mono ?_; rintro e w2 ⟨rfl, hw⟩; rw [hw]; clear hw)
    go_ret
    exact ⟨rfl, HFIN.out⟩
set_option maxHeartbeats 2000000 in
set_option maxRecDepth 100000 in
theorem refSet_ok (h : RL own bw C E W) (e : Int) (on : Bool) : Calls Tryd.prog 28 #[.pointer (some ⟨bw, 0, none⟩), .int .i64 e, .bool on] W fun r W' => r = .returned (.bool (setR E e on)) ∧ RL own bw C (setL E e on) W' ∧ Kept (pQ own) W W' := by
  cases hb : inL E.length e with
  | true =>
    obtain ⟨k, rfl, hk⟩ := inL_true hb
    have hr : setR E k on = (on && !E[k]) := by simp [setR, hb, hk]
    have hs : setL E k on = E.set k on := by simp [setL, hb]
    rw [hr, hs]
    have hlen := h.len.2
    obtain ⟨g, c, x0, y0, yf, yl, hR, hK⟩ := h.set_e hk on
    have HFIN := Lib.hid (And.intro hR hK)
    have hl : bw < W.heap.size := h.lt _ h.ob
    have z0 : ¬ (k : Int) < 0 := by omega
    have z1 : ¬ (k : Int) ≥ (E.length : Int) := by omega
    have z2 : (k : Int) < (E.length : Int) := by omega
    clear hb h hr hs hR hK
    cases on with
    | true =>
      rw [Bool.true_and]
      go_enter Tryd.func28, Tryd.ntmps28
      go_wp2_with fail
      go_ret
      exact ⟨rfl, HFIN.out⟩
    | false =>
      rw [Bool.false_and]
      go_enter Tryd.func28, Tryd.ntmps28
      go_wp2_with fail
      go_ret
      exact ⟨rfl, HFIN.out⟩
  | false =>
    have hr : setR E e on = false := by simp [setR, hb]
    have hs : setL E e on = E := by simp [setL, hb]
    rw [hr, hs]
    obtain ⟨A, cc, B, d, _, _, x1, hl, _⟩ := h.parts
    have HFIN := Lib.hid (show RL own bw C E W ∧ Kept (pQ own) W W from ⟨h, Kept.refl _ _⟩)
    have hlen := h.len.2
    by_cases h0 : e < 0
    · clear hb h hr hs
      go_enter Tryd.func28, Tryd.ntmps28
      go_wp2_with fail
      go_ret
      exact ⟨rfl, HFIN.out⟩
    · have z1 : e ≥ (E.length : Int) := by have := inL_false hb; omega
      clear hb h hr hs
      go_enter Tryd.func28, Tryd.ntmps28
      go_wp2_with fail
      go_ret
      exact ⟨rfl, HFIN.out⟩
end
end Go.Proofs.YtecehjcombkkaaaDoor
