/- Plain facts on the tokens of a text: where the first one stands, places, ends. -/
import Derived.Test.YthgpepkcjjimlaaTokK
namespace Go.Proofs.Ythgpepkcjjimlaa
open Go.RowKit

theorem line_le (l : List UInt8) (p : Nat) : ∀ k, lineOf l p ≤ lineOf l (p + k)
  | 0 => Nat.le_refl _
  | k + 1 => by
    have := line_le l p k
    rw [← Nat.add_assoc]
    simp only [lineOf]; split <;> omega
theorem line_from (l : List UInt8) (p : Nat) : ∀ k, lineOf l p = lineOf l (p + k) → fromOf l p = fromOf l (p + k)
  | 0, _ => rfl
  | k + 1, h => by
    have hm := line_le l p k
    rw [← Nat.add_assoc] at h ⊢
    simp only [lineOf] at h
    simp only [fromOf]
    split at h
    · omega
    · rename_i hc
      rw [if_neg hc]
      exact line_from l p k h
theorem place_ne_lt (l : List UInt8) (p q : Nat) (h : p < q) (h1 : lineOf l p = lineOf l q) : ¬ ((p : Int) - fromOf l p + 1 = (q : Int) - fromOf l q + 1) := by
  obtain ⟨k, rfl⟩ : ∃ k, q = p + k := ⟨q - p, by omega⟩
  have := line_from l p k h1
  omega

theorem nx_idem : ∀ (t : Bool) (l : List UInt8), nx false (l.drop (nx t l)) = 0
  | _, [] => by cases ‹Bool› <;> simp [nx]
  | true, x :: r => by
    have h1 := nx_idem false r
    have h2 := nx_idem true r
    simp only [nx]
    split
    · simpa using h1
    · simpa using h2
  | false, x :: r => by
    have h1 := nx_idem false r
    have h2 := nx_idem true r
    simp only [nx]
    split
    · simpa using h2
    · rename_i hc
      split
      · simpa using h1
      · rename_i hb
        rw [List.drop_zero]
        simp only [nx]
        rw [if_neg hc, if_neg hb]
theorem nxt_idem (l : List UInt8) (p : Nat) : nxt l (nxt l p) = nxt l p := by
  unfold nxt
  have := nx_idem false (l.drop p)
  rw [List.drop_drop] at this
  rw [this]; rfl
/-- At a place where no blank stands there is no end of a line. -/
theorem at_nb (l : List UInt8) (a : Nat) (ha : a < l.length) (h : nxt l a = a) : ¬ chr l a = 35 ∧ isB (chr l a) = false := by
  by_cases h35 : chr l a = 35
  · have h1 := nxt_hash l a ha h35
    have h2 := nxc_more l a ha (by omega)
    have h3 : a + 1 ≤ nxc l (a + 1) := by unfold nxc; omega
    omega
  · refine ⟨h35, ?_⟩
    cases hb : isB (chr l a)
    · rfl
    · have h1 := nxt_blank l a ha h35 hb
      have := nxt_ge l (a + 1)
      omega
theorem at_nl (l : List UInt8) (a : Nat) (ha : a < l.length) (h : nxt l a = a) : ¬ chr l a = 10 := by
  have := (at_nb l a ha h).2
  intro e
  rw [e] at this
  exact absurd this (by decide)

theorem toks_head : ∀ (n : Nat) (l : List UInt8) (a : Nat) (t : Tok) (r : List Tok), l.length - a ≤ n → toks l a = t :: r → ∃ q, a ≤ q ∧ q < l.length ∧ t = tokA l q
  | 0, l, a, t, r, hn, h => by rw [toks_end l a (by omega)] at h; cases h
  | n + 1, l, a, t, r, hn, h => by
    by_cases ha : a < l.length
    · by_cases hk : kindA l a = 0
      · rw [toks_skip l a ha hk] at h
        have h1 := endA_gt l a
        have h2 := nxt_ge l (endA l a)
        obtain ⟨q, h3, h4, h5⟩ := toks_head n l _ t r (by omega) h
        exact ⟨q, by omega, h4, h5⟩
      · rw [toks_one l a ha hk] at h
        injection h with h _
        exact ⟨a, Nat.le_refl _, ha, h.symm⟩
    · rw [toks_end l a ha] at h; cases h
theorem dgs_head : ∀ (n : Nat) (l : List UInt8) (a : Nat) (t : Dg) (r : List Dg), l.length - a ≤ n → dgs l a = t :: r → ∃ q, a ≤ q ∧ q < l.length ∧ t = dgA l q
  | 0, l, a, t, r, hn, h => by rw [dgs_end l a (by omega)] at h; cases h
  | n + 1, l, a, t, r, hn, h => by
    by_cases ha : a < l.length
    · by_cases hk : errA l a = 0
      · rw [dgs_skip l a ha hk] at h
        have h1 := endA_gt l a
        have h2 := nxt_ge l (endA l a)
        obtain ⟨q, h3, h4, h5⟩ := dgs_head n l _ t r (by omega) h
        exact ⟨q, by omega, h4, h5⟩
      · rw [dgs_one l a ha hk] at h
        injection h with h _
        exact ⟨a, Nat.le_refl _, ha, h.symm⟩
    · rw [dgs_end l a ha] at h; cases h
theorem textA_len (l : List UInt8) (a : Nat) (h : a < l.length) : (textA l a).length = endA l a - a := by
  have := endA_le l a h
  have := endA_gt l a
  unfold textA; simp; omega
end Go.Proofs.Ythgpepkcjjimlaa
