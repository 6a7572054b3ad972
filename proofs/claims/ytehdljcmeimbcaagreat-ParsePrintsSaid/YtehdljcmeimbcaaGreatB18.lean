/- Plain facts on the tokens of a text: where the first one stands, places, ends; detentlaw01.TokenStands: its walk. -/
import Derived.Test.YtehdljcmeimbcaaGreatB04
import Derived.Deep.CutRange
namespace Go.Proofs.YtehdljcmeimbcaaGreat
open Go.RowKit

theorem line_le (l : List UInt8) (p : Nat) : ∀ k, lineOf l p ≤ lineOf l (p + k)
  | 0 => Nat.le_refl _
  | k + 1 => by
    have := line_le l p k
    rw [← Nat.add_assoc]
    simp only [lineOf]; split <;> omega
theorem line_from (l : List UInt8) (p : Nat) : ∀ k, lineOf l p = lineOf l (p + k) → fromOf l p = fromOf l (p + k)
  | 0, _ => rfl
  | k + 1, h => by
    have hm := line_le l p k
    rw [← Nat.add_assoc] at h ⊢
    simp only [lineOf] at h
    simp only [fromOf]
    split at h
    · omega
    · rename_i hc
      rw [if_neg hc]
      exact line_from l p k h
theorem place_ne_lt (l : List UInt8) (p q : Nat) (h : p < q) (h1 : lineOf l p = lineOf l q) : ¬ ((p : Int) - fromOf l p + 1 = (q : Int) - fromOf l q + 1) := by
  obtain ⟨k, rfl⟩ : ∃ k, q = p + k := ⟨q - p, by omega⟩
  have := line_from l p k h1
  omega

theorem nx_idem : ∀ (t : Bool) (l : List UInt8), nx false (l.drop (nx t l)) = 0
  | _, [] => by cases ‹Bool› <;> simp [nx]
  | true, x :: r => by
    have h1 := nx_idem false r
    have h2 := nx_idem true r
    simp only [nx]
    split
    · simpa using h1
    · simpa using h2
  | false, x :: r => by
    have h1 := nx_idem false r
    have h2 := nx_idem true r
    simp only [nx]
    split
    · simpa using h2
    · rename_i hc
      split
      · simpa using h1
      · rename_i hb
        rw [List.drop_zero]
        simp only [nx]
        rw [if_neg hc, if_neg hb]
theorem nxt_idem (l : List UInt8) (p : Nat) : nxt l (nxt l p) = nxt l p := by
  unfold nxt
  have := nx_idem false (l.drop p)
  rw [List.drop_drop] at this
  rw [this]; rfl
/-- At a place where no blank stands there is no end of a line. -/
theorem at_nb (l : List UInt8) (a : Nat) (ha : a < l.length) (h : nxt l a = a) : ¬ chr l a = 35 ∧ isB (chr l a) = false := by
  by_cases h35 : chr l a = 35
  · have h1 := nxt_hash l a ha h35
    have h2 := nxc_more l a ha (by omega)
    have h3 : a + 1 ≤ nxc l (a + 1) := by unfold nxc; omega
    omega
  · refine ⟨h35, ?_⟩
    cases hb : isB (chr l a)
    · rfl
    · have h1 := nxt_blank l a ha h35 hb
      have := nxt_ge l (a + 1)
      omega
theorem at_nl (l : List UInt8) (a : Nat) (ha : a < l.length) (h : nxt l a = a) : ¬ chr l a = 10 := by
  have := (at_nb l a ha h).2
  intro e
  rw [e] at this
  exact absurd this (by decide)

theorem toks_head : ∀ (n : Nat) (l : List UInt8) (a : Nat) (t : Tok) (r : List Tok), l.length - a ≤ n → toks l a = t :: r → ∃ q, a ≤ q ∧ q < l.length ∧ t = tokA l q
  | 0, l, a, t, r, hn, h => by rw [toks_end l a (by omega)] at h; cases h
  | n + 1, l, a, t, r, hn, h => by
    by_cases ha : a < l.length
    · by_cases hk : kindA l a = 0
      · rw [toks_skip l a ha hk] at h
        have h1 := endA_gt l a
        have h2 := nxt_ge l (endA l a)
        obtain ⟨q, h3, h4, h5⟩ := toks_head n l _ t r (by omega) h
        exact ⟨q, by omega, h4, h5⟩
      · rw [toks_one l a ha hk] at h
        injection h with h _
        exact ⟨a, Nat.le_refl _, ha, h.symm⟩
    · rw [toks_end l a ha] at h; cases h
theorem dgs_head : ∀ (n : Nat) (l : List UInt8) (a : Nat) (t : Dg) (r : List Dg), l.length - a ≤ n → dgs l a = t :: r → ∃ q, a ≤ q ∧ q < l.length ∧ t = dgA l q
  | 0, l, a, t, r, hn, h => by rw [dgs_end l a (by omega)] at h; cases h
  | n + 1, l, a, t, r, hn, h => by
    by_cases ha : a < l.length
    · by_cases hk : errA l a = 0
      · rw [dgs_skip l a ha hk] at h
        have h1 := endA_gt l a
        have h2 := nxt_ge l (endA l a)
        obtain ⟨q, h3, h4, h5⟩ := dgs_head n l _ t r (by omega) h
        exact ⟨q, by omega, h4, h5⟩
      · rw [dgs_one l a ha hk] at h
        injection h with h _
        exact ⟨a, Nat.le_refl _, ha, h.symm⟩
    · rw [dgs_end l a ha] at h; cases h
theorem textA_len (l : List UInt8) (a : Nat) (h : a < l.length) : (textA l a).length = endA l a - a := by
  have := endA_le l a h
  have := endA_gt l a
  unfold textA; simp; omega
end Go.Proofs.YtehdljcmeimbcaaGreat

namespace Go.Proofs.YtehdljcmeimbcaaGreat
open Go.RowKit

theorem tcs_at : ∀ (T : List Tok) (i j : Nat) (t : Tok), T[i]? = some t → j < 5 → (tcs T)[i * 5 + j]? = t.cells[j]?
  | [], i, j, t, h, _ => by simp at h
  | x :: r, 0, j, t, h, hj => by
    simp at h; subst h
    unfold tcs
    rw [List.flatMap_cons, List.getElem?_append_left (by simp [Tok.cells]; omega)]
    simp
  | x :: r, i + 1, j, t, h, hj => by
    have := tcs_at r i j t (by simpa using h) hj
    unfold tcs at this ⊢
    rw [List.flatMap_cons, List.getElem?_append_right (by simp [Tok.cells]; omega), ← this]
    congr 1
    simp [Tok.cells]; omega
theorem dcs_at : ∀ (T : List Dg) (i j : Nat) (t : Dg), T[i]? = some t → j < 3 → (dcs T)[i * 3 + j]? = t.cells[j]?
  | [], i, j, t, h, _ => by simp at h
  | x :: r, 0, j, t, h, hj => by
    simp at h; subst h
    unfold dcs
    rw [List.flatMap_cons, List.getElem?_append_left (by simp [Dg.cells]; omega)]
    simp
  | x :: r, i + 1, j, t, h, hj => by
    have := dcs_at r i j t (by simpa using h) hj
    unfold dcs at this ⊢
    rw [List.flatMap_cons, List.getElem?_append_right (by simp [Dg.cells]; omega), ← this]
    congr 1
    simp [Dg.cells]; omega
/-- A list of tokens that a slice value holds, at a world's rows. -/
def Toks (w : World) (A : Option Addr) (T : List Tok) : Prop := ∀ i t, T[i]? = some t → ∃ g, A = some ⟨g, 0, none⟩ ∧ w.cell? ⟨g, i * 5, none⟩ = some (.int .i64 t.kind) ∧ w.cell? ⟨g, i * 5 + 1, none⟩ = some (.string ⟨t.text.toArray⟩) ∧ w.cell? ⟨g, i * 5 + 2, none⟩ = some (.int .i64 t.n) ∧ w.cell? ⟨g, i * 5 + 3, none⟩ = some (.int .i64 t.line) ∧ w.cell? ⟨g, i * 5 + 4, none⟩ = some (.int .i64 t.col)
def Dgs (w : World) (A : Option Addr) (D : List Dg) : Prop := ∀ i t, D[i]? = some t → ∃ g, A = some ⟨g, 0, none⟩ ∧ w.cell? ⟨g, i * 3, none⟩ = some (.int .i64 t.line) ∧ w.cell? ⟨g, i * 3 + 1, none⟩ = some (.int .i64 t.col) ∧ w.cell? ⟨g, i * 3 + 2, none⟩ = some (.int .i64 t.err)
theorem own_toks {w : World} {base : Nat} {v : Value} {T : List Tok} (h : w.ownsRow base 61 5 v T.length (tcs T)) : ∃ A cap, v = .slice A T.length cap ∧ Toks w A T := by
  by_cases h0 : 0 < T.length
  · obtain ⟨g, cap, rfl, _, _, hc⟩ := own_some h h0
    refine ⟨_, _, rfl, fun i t hi => ⟨g, rfl, ?_, ?_, ?_, ?_, ?_⟩⟩
    · exact hc (i * 5 + 0) _ (tcs_at T i 0 t hi (by omega))
    · exact hc _ _ (tcs_at T i 1 t hi (by omega))
    · exact hc _ _ (tcs_at T i 2 t hi (by omega))
    · exact hc _ _ (tcs_at T i 3 t hi (by omega))
    · exact hc _ _ (tcs_at T i 4 t hi (by omega))
  · have : T = [] := List.eq_nil_of_length_eq_zero (by omega)
    subst this
    obtain ⟨A, cap, rfl⟩ := own_form h
    exact ⟨A, cap, rfl, fun i t hi => by simp at hi⟩
theorem own_dgs {w : World} {base : Nat} {v : Value} {T : List Dg} (h : w.ownsRow base 48 3 v T.length (dcs T)) : ∃ A cap, v = .slice A T.length cap ∧ Dgs w A T := by
  by_cases h0 : 0 < T.length
  · obtain ⟨g, cap, rfl, _, _, hc⟩ := own_some h h0
    refine ⟨_, _, rfl, fun i t hi => ⟨g, rfl, ?_, ?_, ?_⟩⟩
    · exact hc (i * 3 + 0) _ (dcs_at T i 0 t hi (by omega))
    · exact hc _ _ (dcs_at T i 1 t hi (by omega))
    · exact hc _ _ (dcs_at T i 2 t hi (by omega))
  · have : T = [] := List.eq_nil_of_length_eq_zero (by omega)
    subst this
    obtain ⟨A, cap, rfl⟩ := own_form h
    exact ⟨A, cap, rfl, fun i t hi => by simp at hi⟩

theorem tok_case (l : List UInt8) (p a : Nat) (T : List Tok) (all : List Tok) (hpa : p ≤ a) (hT : T ++ toks l a = all) :
    (decide (p = a ∧ ¬ kindA l a = 0 ∧ a < l.length) = true ∧ all[T.length]? = some (tokA l p)) ∨ (decide (p = a ∧ ¬ kindA l a = 0 ∧ a < l.length) = false ∧ all.length = T.length) ∨
    (decide (p = a ∧ ¬ kindA l a = 0 ∧ a < l.length) = false ∧ ∃ q, p < q ∧ all[T.length]? = some (tokA l q)) := by
  subst hT
  by_cases h : p = a ∧ ¬ kindA l a = 0 ∧ a < l.length
  · obtain ⟨rfl, hk, ha⟩ := h
    refine .inl ⟨by simp [hk, ha], ?_⟩
    rw [toks_one l p ha hk, List.getElem?_append_right (Nat.le_refl _)]
    simp
  · right
    have hf : decide (p = a ∧ ¬ kindA l a = 0 ∧ a < l.length) = false := by simpa using h
    cases ht : toks l a with
    | nil => exact .inl ⟨hf, by simp⟩
    | cons t r =>
      refine .inr ⟨hf, ?_⟩
      obtain ⟨q, h1, h2, h3⟩ := toks_head _ l a t r (Nat.le_refl _) ht
      refine ⟨q, ?_, by rw [List.getElem?_append_right (Nat.le_refl _)]; simp [h3]⟩
      rcases Nat.lt_or_ge p q with hh | hh
      · exact hh
      · exfalso
        have : p = a := by omega
        subst this
        have : q = p := by omega
        subst this
        by_cases hk : kindA l q = 0
        · rw [toks_skip l q h2 hk] at ht
          have g1 := endA_gt l q
          have g2 := nxt_ge l (endA l q)
          obtain ⟨q', h4, h5, h6⟩ := toks_head _ l _ t r (Nat.le_refl _) ht
          have e1 : (tokA l q).line = (tokA l q').line := by rw [← h3, ← h6]
          have e2 : (tokA l q).col = (tokA l q').col := by rw [← h3, ← h6]
          simp only [tokA] at e1 e2
          exact place_ne_lt l q q' (by omega) (by omega) e2
        · exact h ⟨rfl, hk, h2⟩
theorem dg_case (l : List UInt8) (p a : Nat) (T : List Dg) (all : List Dg) (hpa : p ≤ a) (hT : T ++ dgs l a = all) :
    (decide (p = a ∧ ¬ errA l a = 0 ∧ a < l.length) = true ∧ all[T.length]? = some (dgA l p)) ∨ (decide (p = a ∧ ¬ errA l a = 0 ∧ a < l.length) = false ∧ all.length = T.length) ∨
    (decide (p = a ∧ ¬ errA l a = 0 ∧ a < l.length) = false ∧ ∃ q, p < q ∧ all[T.length]? = some (dgA l q)) := by
  subst hT
  by_cases h : p = a ∧ ¬ errA l a = 0 ∧ a < l.length
  · obtain ⟨rfl, hk, ha⟩ := h
    refine .inl ⟨by simp [hk, ha], ?_⟩
    rw [dgs_one l p ha hk, List.getElem?_append_right (Nat.le_refl _)]
    simp
  · right
    have hf : decide (p = a ∧ ¬ errA l a = 0 ∧ a < l.length) = false := by simpa using h
    cases ht : dgs l a with
    | nil => exact .inl ⟨hf, by simp⟩
    | cons t r =>
      refine .inr ⟨hf, ?_⟩
      obtain ⟨q, h1, h2, h3⟩ := dgs_head _ l a t r (Nat.le_refl _) ht
      refine ⟨q, ?_, by rw [List.getElem?_append_right (Nat.le_refl _)]; simp [h3]⟩
      rcases Nat.lt_or_ge p q with hh | hh
      · exact hh
      · exfalso
        have : p = a := by omega
        subst this
        have : q = p := by omega
        subst this
        by_cases hk : errA l q = 0
        · rw [dgs_skip l q h2 hk] at ht
          have g1 := endA_gt l q
          have g2 := nxt_ge l (endA l q)
          obtain ⟨q', h4, h5, h6⟩ := dgs_head _ l _ t r (Nat.le_refl _) ht
          have e1 : (dgA l q).line = (dgA l q').line := by rw [← h3, ← h6]
          have e2 : (dgA l q).col = (dgA l q').col := by rw [← h3, ← h6]
          simp only [dgA] at e1 e2
          exact place_ne_lt l q q' (by omega) (by omega) e2
        · exact h ⟨rfl, hk, h2⟩

/-- The relation of the loop of TokenStands. -/
def StandR (l : List UInt8) (w1 : World) (k : Nat) (v5 v6 v7 v8 v9 v10 : Value) (wr : World) : Prop :=
  ∃ (p a en nq : Nat) (T : List Tok) (D : List Dg), p + k = l.length ∧ p ≤ a ∧ nxt l a = a ∧ en ≤ a ∧ v5 = .int .i64 (lineOf l p) ∧ v6 = .int .i64 (fromOf l p) ∧ v7 = .int .i64 T.length ∧ v8 = .int .i64 D.length ∧ v9 = .int .i64 en ∧ v10 = .int .i64 p ∧
    T ++ toks l a = toks l (nxt l 0) ∧ D ++ dgs l a = dgs l (nxt l 0) ∧ wr = w1.drewN nq

end Go.Proofs.YtehdljcmeimbcaaGreat
