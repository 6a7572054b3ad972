/- What stands behind a text changes no token of it but the last one: plainly. -/
import Derived.Test.YthgpepkcjjimlaaTokL
namespace Go.Proofs.Ythgpepkcjjimlaa
open Go.RowKit

theorem chr_app (b m : List UInt8) (k : Nat) (h : k < b.length) : chr (b ++ m) k = chr b k := by
  unfold chr; rw [List.getElem?_append_left h]
theorem nx_app : ∀ (t : Bool) (b m : List UInt8), nx t b < b.length → nx t (b ++ m) = nx t b
  | t, [], m, h => by simp at h
  | true, x :: r, m, h => by
    simp only [nx, List.cons_append] at h ⊢
    split
    · rename_i hc
      rw [if_pos hc] at h
      rw [nx_app false r m (by simp at h; omega)]
    · rename_i hc
      rw [if_neg hc] at h
      rw [nx_app true r m (by simp at h; omega)]
  | false, x :: r, m, h => by
    simp only [nx, List.cons_append] at h ⊢
    split
    · rename_i hc
      rw [if_pos hc] at h
      rw [nx_app true r m (by simp at h; omega)]
    · rename_i hc
      rw [if_neg hc] at h
      split
      · rename_i hb
        rw [if_pos hb] at h
        rw [nx_app false r m (by simp at h; omega)]
      · rfl
theorem run_app (k : Int) : ∀ (b m : List UInt8), run k b < b.length → run k (b ++ m) = run k b
  | [], m, h => by simp at h
  | x :: r, m, h => by
    simp only [run, List.cons_append] at h ⊢
    split
    · rename_i hc
      rw [if_pos hc] at h
      rw [run_app k r m (by simp at h; omega)]
    · rfl
theorem nxt_app (b m : List UInt8) (p : Nat) (hp : p ≤ b.length) (h : nxt b p < b.length) : nxt (b ++ m) p = nxt b p := by
  unfold nxt at h ⊢
  rw [List.drop_append_of_le_length hp, nx_app false (b.drop p) m (by rw [List.length_drop]; omega)]
theorem ends_app (b m : List UInt8) (k : Int) (p : Nat) (hp : p ≤ b.length) (h : ends b k p < b.length) : ends (b ++ m) k p = ends b k p := by
  unfold ends at h ⊢
  rw [List.drop_append_of_le_length hp, run_app k (b.drop p) m (by rw [List.length_drop]; omega)]
theorem pre2_app (b m : List UInt8) (h : 2 ≤ b.length) : pre2 (b ++ m) = pre2 b := by
  unfold pre2; rw [List.take_append_of_le_length h]
theorem line_app (b m : List UInt8) : ∀ p, p ≤ b.length → lineOf (b ++ m) p = lineOf b p
  | 0, _ => rfl
  | p + 1, h => by simp only [lineOf]; rw [chr_app b m p (by omega), line_app b m p (by omega)]
theorem from_app (b m : List UInt8) : ∀ p, p ≤ b.length → fromOf (b ++ m) p = fromOf b p
  | 0, _ => rfl
  | p + 1, h => by simp only [fromOf]; rw [chr_app b m p (by omega), from_app b m p (by omega)]
theorem kindA_app (b m : List UInt8) (a : Nat) (h : a < b.length) : kindA (b ++ m) a = kindA b a := by
  unfold kindA; rw [chr_app b m a h]
theorem endA_app (b m : List UInt8) (a : Nat) (h : endA b a < b.length) : endA (b ++ m) a = endA b a := by
  have hg := endA_gt b a
  have hk := kindA_app b m a (by omega)
  unfold endA at h ⊢
  rw [hk]
  split
  · rfl
  · rename_i hk0
    rw [if_neg hk0] at h
    have hg' := endT_gt b (kindA b a) a
    have ha1 : a + 1 < b.length := by omega
    unfold endT at h ⊢
    rw [List.drop_append_of_le_length (by omega), pre2_app _ _ (by rw [List.length_drop]; omega)]
    split
    · rfl
    · rename_i hp
      rw [if_neg hp] at h
      exact ends_app b m _ _ (by omega) h
theorem tokA_app (b m : List UInt8) (a : Nat) (h : endA b a < b.length) : tokA (b ++ m) a = tokA b a := by
  have hg := endA_gt b a
  have hk := kindA_app b m a (by omega)
  have he := endA_app b m a h
  have ht : textA (b ++ m) a = textA b a := by
    unfold textA
    rw [he, List.drop_append_of_le_length (by omega), List.take_append_of_le_length (by rw [List.length_drop]; omega)]
  unfold tokA
  rw [hk, ht, line_app b m a (by omega), from_app b m a (by omega)]

theorem longer : ∀ (n : Nat) (b m : List UInt8) (a : Nat), b.length - a ≤ n → (toks b a).dropLast <+: toks (b ++ m) a
  | 0, b, m, a, hn => by rw [toks_end b a (by omega)]; simp
  | n + 1, b, m, a, hn => by
    by_cases ha : a < b.length
    · have hg := endA_gt b a
      have hle := endA_le b a ha
      have ha' : a < (b ++ m).length := by simp; omega
      by_cases hk : kindA b a = 0
      · have hk' := (kindA_app b m a ha).trans hk
        have e1 : endA b a = a + 1 := by simp [endA, hk]
        have e2 : endA (b ++ m) a = a + 1 := by simp [endA, hk']
        rw [toks_skip b a ha hk, toks_skip (b ++ m) a ha' hk', e1, e2]
        by_cases hx : nxt b (a + 1) < b.length
        · rw [nxt_app b m (a + 1) (by omega) hx]
          have := nxt_ge b (a + 1)
          exact longer n b m _ (by omega)
        · rw [toks_end b _ hx]; simp
      · have hk' : ¬ kindA (b ++ m) a = 0 := by rw [kindA_app b m a ha]; exact hk
        rw [toks_one b a ha hk]
        by_cases he : endA b a < b.length
        · rw [toks_one (b ++ m) a ha' hk', tokA_app b m a he, endA_app b m a he]
          by_cases hx : nxt b (endA b a) < b.length
          · rw [nxt_app b m _ hle hx]
            have h1 := nxt_ge b (endA b a)
            have ih := longer n b m (nxt b (endA b a)) (by omega)
            cases hX : toks b (nxt b (endA b a)) with
            | nil => simp
            | cons t r =>
              rw [hX] at ih
              rw [List.dropLast_cons_of_ne_nil (by simp)]
              exact (List.prefix_cons_inj _).2 ih
          · rw [toks_end b _ hx]; simp
        · rw [toks_end b (nxt b (endA b a)) (by have := nxt_ge b (endA b a); omega)]; simp
    · rw [toks_end b a ha]; simp
theorem longer0 (b m : List UInt8) : (toks b (nxt b 0)).dropLast <+: toks (b ++ m) (nxt (b ++ m) 0) := by
  by_cases hx : nxt b 0 < b.length
  · rw [nxt_app b m 0 (by omega) hx]
    exact longer _ b m _ (Nat.le_refl _)
  · rw [toks_end b _ hx]; simp
theorem longer_len (b m : List UInt8) : (toks b (nxt b 0)).length ≤ (toks (b ++ m) (nxt (b ++ m) 0)).length + 1 := by
  have := (longer0 b m).length_le
  rw [List.length_dropLast] at this
  omega
theorem longer_at (b m : List UInt8) (i : Nat) (h : i + 1 < (toks b (nxt b 0)).length) : ∃ t, (toks b (nxt b 0))[i]? = some t ∧ (toks (b ++ m) (nxt (b ++ m) 0))[i]? = some t := by
  have hp := longer0 b m
  have hi : i < (toks b (nxt b 0)).dropLast.length := by rw [List.length_dropLast]; omega
  refine ⟨(toks b (nxt b 0))[i], List.getElem?_eq_getElem (by omega), ?_⟩
  have h1 : (toks b (nxt b 0)).dropLast[i]? = some (toks b (nxt b 0))[i] := by
    rw [List.getElem?_eq_getElem hi, List.getElem_dropLast]
  exact (List.prefix_iff_getElem?.1 hp i hi).trans (by rw [← h1, List.getElem?_eq_getElem hi])
end Go.Proofs.Ythgpepkcjjimlaa
