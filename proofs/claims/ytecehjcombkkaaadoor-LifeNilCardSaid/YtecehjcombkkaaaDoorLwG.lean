/- LifeTurns, plainly. -/
import Derived.Test.YtecehjcombkkaaaDoorLwF
namespace Go.Proofs.YtecehjcombkkaaaDoor
/-- The one that is behind which callback number j is. -/
def prevP (R : List Int) : Nat → Int
  | 0 => -1
  | j + 1 => R.getD j 0
/-- The last start or stop ahead of number j. -/
def lastP (R : List Int) : Nat → Int
  | 0 => 2
  | j + 1 => if R.getD j 0 = 1 ∨ R.getD j 0 = 2 then R.getD j 0 else lastP R j
/-- Each may be behind the one ahead of it. -/
def OkR (R : List Int) : Prop := ∀ j, j < R.length → leadsP (prevP R j) (R.getD j 0) = true
theorem leads_cases {a b : Int} (h : leadsP a b = true) : (b = 0 ∧ a = -1) ∨ (b = 1 ∧ (a = 0 ∨ a = 2)) ∨ (b = 2 ∧ a = 1) ∨ (b = 3 ∧ (a = 0 ∨ a = 2)) := by
  unfold leadsP at h
  split at h
  · next h0 => exact .inl ⟨h0, by simpa using h⟩
  · split at h
    · next h1 => exact .inr (.inl ⟨h1, by simpa using h⟩)
    · split at h
      · next h2 => exact .inr (.inr (.inl ⟨h2, by simpa using h⟩))
      · split at h
        · next h3 => exact .inr (.inr (.inr ⟨h3, by simpa using h⟩))
        · cases h
theorem okR_nil : OkR [] := fun j h => absurd h (by simp)
theorem prevP_snoc (R : List Int) (z : Int) : ∀ j, j ≤ R.length → prevP (R ++ [z]) j = prevP R j
  | 0, _ => rfl
  | j + 1, h => by
    show (R ++ [z]).getD j 0 = R.getD j 0
    rw [List.getD_eq_getElem?_getD, List.getD_eq_getElem?_getD, List.getElem?_append_left (by omega)]
theorem okR_snoc {R : List Int} {z : Int} (h : OkR R) (hz : leadsP (prevP R R.length) z = true) : OkR (R ++ [z]) := fun j hj => by
  rw [List.length_append, List.length_singleton] at hj
  rw [prevP_snoc R z j (by omega)]
  by_cases e : j = R.length
  · subst e
    have : (R ++ [z]).getD R.length 0 = z := by simp [List.getD_eq_getElem?_getD]
    rw [this]
    exact hz
  · have : (R ++ [z]).getD j 0 = R.getD j 0 := by rw [List.getD_eq_getElem?_getD, List.getD_eq_getElem?_getD, List.getElem?_append_left (by omega)]
    rw [this]
    exact h j (by omega)
theorem prevP_last (R : List Int) (z : Int) : prevP (R ++ [z]) (R ++ [z]).length = z := by
  rw [List.length_append, List.length_singleton]
  show (R ++ [z]).getD R.length 0 = z
  simp [List.getD_eq_getElem?_getD]
/-- What the last start or stop is beside the one ahead. -/
theorem okR_last {R : List Int} (h : OkR R) : ∀ j, j ≤ R.length → (prevP R j = -1 ∨ prevP R j = 0 ∨ prevP R j = 2 → lastP R j = 2) ∧ (prevP R j = 1 → lastP R j = 1) ∧ (0 < j → prevP R j ≠ -1)
  | 0, _ => ⟨fun _ => rfl, fun h => by simp [prevP] at h, fun h => absurd h (by omega)⟩
  | j + 1, hj => by
    obtain ⟨i1, i2, i3⟩ := okR_last h j (by omega)
    have hl := leads_cases (h j (by omega))
    show (R.getD j 0 = -1 ∨ R.getD j 0 = 0 ∨ R.getD j 0 = 2 → (if R.getD j 0 = 1 ∨ R.getD j 0 = 2 then R.getD j 0 else lastP R j) = 2) ∧ (R.getD j 0 = 1 → (if R.getD j 0 = 1 ∨ R.getD j 0 = 2 then R.getD j 0 else lastP R j) = 1) ∧ (0 < j + 1 → R.getD j 0 ≠ -1)
    generalize R.getD j 0 = z at hl ⊢
    rcases hl with ⟨rfl, e⟩ | ⟨rfl, e⟩ | ⟨rfl, e⟩ | ⟨rfl, e⟩
    · exact ⟨fun _ => by simpa using i1 (.inl e), fun h => by simp at h, fun _ => by simp⟩
    · simp
    · simp
    · simp
/-- All that LifeTurns asks of a row of callbacks that were. -/
theorem okR_all {R : List Int} (h : OkR R) {j : Nat} (hj : j < R.length) : (R[j] = 0 ↔ j = 0) ∧ (R[j] = 3 → j + 1 = R.length ∧ lastP R j ≠ 1) ∧ (R[j] = 1 ∨ R[j] = 2 → R[j] ≠ lastP R j) := by
  have hz : R.getD j 0 = R[j] := by simp [List.getD_eq_getElem?_getD, hj]
  have hl := leads_cases (h j hj)
  obtain ⟨i1, i2, i3⟩ := okR_last h j (by omega)
  rw [hz] at hl
  refine ⟨⟨fun e => ?_, fun e => ?_⟩, fun e => ⟨?_, ?_⟩, fun e => ?_⟩
  · rcases Nat.eq_zero_or_pos j with q | q
    · exact q
    · have := i3 q; omega
  · subst e
    have : prevP R 0 = -1 := rfl
    omega
  · rcases Nat.lt_or_ge (j + 1) R.length with q | q
    · have h2 := leads_cases (h (j + 1) q)
      have : prevP R (j + 1) = R[j] := hz
      omega
    · omega
  · have : lastP R j = 2 := i1 (by omega)
    omega
  · rcases hl with ⟨a, b⟩ | ⟨a, b⟩ | ⟨a, b⟩ | ⟨a, b⟩
    · omega
    · have := i1 (by omega); omega
    · have := i2 b; omega
    · omega
theorem lastP_next (R : List Int) {j : Nat} (hj : j < R.length) : lastP R (j + 1) = if R[j] = 1 ∨ R[j] = 2 then R[j] else lastP R j := by
  have hz : R.getD j 0 = R[j] := by simp [List.getD_eq_getElem?_getD, hj]
  show (if R.getD j 0 = 1 ∨ R.getD j 0 = 2 then R.getD j 0 else lastP R j) = _
  rw [hz]
/-- Go and May of the one component. -/
theorem go_one (st z : Int) : mayO [st] 0 z = leadsP st z ∧ (leadsP st z = true → goE [st] 0 z = 0 ∧ goL [st] 0 z = [z]) ∧ (leadsP st z = false → (goE [st] 0 z == 0) = false ∧ goL [st] 0 z = [st]) := by
  have hm : mayO [st] 0 z = leadsP st z := by simp [mayO, inL]
  refine ⟨hm, fun h => ?_, fun h => ?_⟩
  · have h4 : inL 4 z = true := by rcases leads_cases h with ⟨rfl, _⟩ | ⟨rfl, _⟩ | ⟨rfl, _⟩ | ⟨rfl, _⟩ <;> decide
    have h0 : goE [st] 0 z = 0 := by unfold goE; rw [hm, h, h4]; simp [inL]
    exact ⟨h0, by unfold goL; rw [if_pos h0]; simp⟩
  · have h0 : goE [st] 0 z = 10 ∨ goE [st] 0 z = 2 := by
      unfold goE; rw [hm, h]
      split
      · left; simp
      · right; rfl
    have h1 : ¬ goE [st] 0 z = 0 := by omega
    exact ⟨by simpa using h1, by unfold goL; rw [if_neg h1]⟩
end Go.Proofs.YtecehjcombkkaaaDoor
