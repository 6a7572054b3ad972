/- Heaps, plainly: what stands at which place of a list; what is mended upward and downward. -/
import Derived.Test.YtmbdglolpagjdaaChecked
namespace Go.Proofs.Ytmbdglolpagjdaa

/-- A strict order in which what is not ahead of one another counts as the same. -/
structure Swo {α : Type} (lt : α → α → Bool) : Prop where
  asym : ∀ x y, lt x y = true → lt y x = false
  ntr : ∀ x y z, lt x y = false → lt y z = false → lt x z = false
theorem Swo.irr {α : Type} {lt : α → α → Bool} (h : Swo lt) (x : α) : lt x x = false := by
  cases e : lt x x
  · rfl
  · have := h.asym x x e; rw [e] at this; exact this
theorem Swo.tr {α : Type} {lt : α → α → Bool} (h : Swo lt) {x y z : α} (h1 : lt x y = true) (h2 : lt y z = true) : lt x z = true := by
  cases e : lt x z
  · have h3 := h.ntr x z y e (h.asym y z h2)
    rw [h3] at h1; cases h1
  · rfl
theorem Swo.below {α : Type} {lt : α → α → Bool} (h : Swo lt) {x y z : α} (h1 : lt x y = true) (h2 : lt z y = false) : lt z x = false := by
  cases e : lt z x
  · rfl
  · have := h.tr e h1; rw [h2] at this; cases this

section
variable {α : Type} (lt : α → α → Bool)
/-- k does not stand ahead of what stands over it. -/
def okAt (f : Nat → α) (k : Nat) : Prop := lt (f k) (f ((k - 1) / 2)) = false
def Heap (f : Nat → α) (n : Nat) : Prop := ∀ k, 0 < k → k < n → okAt lt f k
/-- A heap but for what stands at j, which may want to go up. -/
def HU (f : Nat → α) (n j : Nat) : Prop := (∀ k, 0 < k → k < n → k ≠ j → okAt lt f k) ∧ ∀ c, 0 < c → c < n → (c - 1) / 2 = j → 0 < j → lt (f c) (f ((j - 1) / 2)) = false
/-- A heap but for what stands at i, which may want to go down (or up, if it is at its beginning i0). -/
def HD (f : Nat → α) (n i0 i : Nat) : Prop := (∀ k, 0 < k → k < n → k ≠ i → (k - 1) / 2 ≠ i → okAt lt f k) ∧ (∀ c, 0 < c → c < n → (c - 1) / 2 = i → 0 < i → lt (f c) (f ((i - 1) / 2)) = false) ∧ (i ≠ i0 → okAt lt f i) ∧ i0 ≤ i
def sw (f : Nat → α) (i j : Nat) : Nat → α := fun k => if k = i then f j else if k = j then f i else f k
variable {lt}
theorem HU.zero {f : Nat → α} {n : Nat} (h : HU lt f n 0) : Heap lt f n := fun k h0 hk => h.1 k h0 hk (by omega)
theorem HU.stop {f : Nat → α} {n j : Nat} (h : HU lt f n j) (ho : lt (f j) (f ((j - 1) / 2)) = false) : Heap lt f n := fun k h0 hk => by
  by_cases e : k = j
  · subst e; exact ho
  · exact h.1 k h0 hk e
theorem HU.step (S : Swo lt) {f : Nat → α} {n j : Nat} (h : HU lt f n j) (hj : 0 < j) (hn : j < n) (ho : lt (f j) (f ((j - 1) / 2)) = true) : HU lt (sw f ((j - 1) / 2) j) n ((j - 1) / 2) := by
  obtain ⟨i, hi⟩ : ∃ i, i = (j - 1) / 2 := ⟨_, rfl⟩
  rw [← hi] at ho ⊢
  have hij : i < j := by omega
  constructor
  · intro k h0 hk hki
    unfold okAt sw
    rw [if_neg hki]
    by_cases hkj : k = j
    · subst hkj
      rw [if_pos rfl, if_pos hi.symm]
      exact S.asym _ _ ho
    · rw [if_neg hkj]
      by_cases hp : (k - 1) / 2 = i
      · rw [if_pos hp]
        have h1 := h.1 k h0 hk hkj
        unfold okAt at h1
        rw [hp] at h1
        exact S.below ho h1
      · rw [if_neg hp]
        by_cases hq : (k - 1) / 2 = j
        · rw [if_pos hq]
          have := h.2 k h0 hk hq hj
          rwa [← hi] at this
        · rw [if_neg hq]
          exact h.1 k h0 hk hkj
  · intro c h0 hc hp h0i
    have hoi := h.1 i h0i (by omega) (by omega)
    unfold okAt at hoi
    unfold sw
    rw [if_neg (by omega), if_neg (show (i - 1) / 2 ≠ i by omega), if_neg (show (i - 1) / 2 ≠ j by omega)]
    by_cases hcj : c = j
    · rw [if_pos hcj]; exact hoi
    · rw [if_neg hcj]
      have h1 := h.1 c h0 hc hcj
      unfold okAt at h1
      rw [hp] at h1
      exact S.ntr _ _ _ h1 hoi

/-- The first of the two below i: j is one of them, and none of them is ahead of it. -/
def Fst (lt : α → α → Bool) (f : Nat → α) (n i j : Nat) : Prop := j < n ∧ (j = 2 * i + 1 ∨ j = 2 * i + 2) ∧ ∀ c, c < n → (c = 2 * i + 1 ∨ c = 2 * i + 2) → lt (f c) (f j) = false
theorem par_two {c i : Nat} (h0 : 0 < c) : (c - 1) / 2 = i ↔ c = 2 * i + 1 ∨ c = 2 * i + 2 := by omega
theorem HD.step (S : Swo lt) {f : Nat → α} {n i0 i j : Nat} (h : HD lt f n i0 i) (hj : Fst lt f n i j) (ho : lt (f j) (f i) = true) : HD lt (sw f i j) n i0 j := by
  obtain ⟨h1, h2, h3, h4⟩ := h
  obtain ⟨j1, j2, j3⟩ := hj
  have hij : i < j := by omega
  have hpj : (j - 1) / 2 = i := by omega
  refine ⟨?_, ?_, ?_, by omega⟩
  · intro k h0 hk hkj hp
    unfold okAt sw
    rw [if_neg hkj, if_neg hp]
    by_cases hki : k = i
    · subst hki
      rw [if_pos rfl, if_neg (show (k - 1) / 2 ≠ k by omega)]
      exact h2 j (by omega) j1 hpj h0
    · rw [if_neg hki]
      by_cases hq : (k - 1) / 2 = i
      · rw [if_pos hq]
        exact j3 k hk (by omega)
      · rw [if_neg hq]
        exact h1 k h0 hk hki hq
  · intro c h0 hc hp hj0
    unfold sw
    rw [if_neg (by omega), if_neg (by omega), hpj, if_pos rfl]
    have := h1 c h0 hc (by omega) (by omega)
    unfold okAt at this
    rwa [hp] at this
  · intro _
    unfold okAt sw
    rw [if_neg (by omega), if_pos rfl, hpj, if_pos rfl]
    exact S.asym _ _ ho
theorem HD.stop {f : Nat → α} {n i0 i : Nat} (h : HD lt f n i0 i) (hc : ∀ c, c < n → (c = 2 * i + 1 ∨ c = 2 * i + 2) → lt (f c) (f i) = false) : (i ≠ i0 → Heap lt f n) ∧ (i = i0 → HU lt f n i0) := by
  obtain ⟨h1, h2, h3, h4⟩ := h
  have hk : ∀ k, 0 < k → k < n → k ≠ i → okAt lt f k := fun k h0 hk hki => by
    by_cases hp : (k - 1) / 2 = i
    · unfold okAt; rw [hp]; exact hc k hk (by omega)
    · exact h1 k h0 hk hki hp
  refine ⟨fun hne k h0 hkn => ?_, fun e => ?_⟩
  · by_cases hki : k = i
    · subst hki; exact h3 hne
    · exact hk k h0 hkn hki
  · subst e
    exact ⟨hk, fun c h0 hcn hp hi => h2 c h0 hcn hp hi⟩
theorem Heap.down {f : Nat → α} {n m i : Nat} (h : Heap lt f n) (hm : m ≤ n) (S : Swo lt) (x : α) : HD lt (fun k => if k = i then x else f k) m i i := by
  refine ⟨?_, ?_, fun e => absurd rfl e, Nat.le_refl _⟩
  · intro k h0 hk hki hp
    unfold okAt
    dsimp only
    rw [if_neg hki, if_neg hp]
    exact h k h0 (by omega)
  · intro c h0 hc hp hi
    dsimp only
    rw [if_neg (by omega), if_neg (by omega)]
    have h1 := h c h0 (by omega)
    have h2 := h i hi (by omega)
    unfold okAt at h1 h2
    rw [hp] at h1
    exact S.ntr _ _ _ h1 h2
theorem Heap.push {f g : Nat → α} {n : Nat} (h : Heap lt f n) (he : ∀ k, k < n → g k = f k) : HU lt g (n + 1) n := by
  refine ⟨fun k h0 hk hkn => ?_, fun c h0 hc hp hn => by omega⟩
  have := h k h0 (by omega)
  unfold okAt at this ⊢
  rw [he k (by omega), he _ (by omega)]; exact this
theorem Heap.ext {f g : Nat → α} {n : Nat} (h : Heap lt f n) (he : ∀ k, k < n → g k = f k) : Heap lt g n := fun k h0 hk => by
  have := h k h0 hk
  unfold okAt at this ⊢
  rw [he k hk, he _ (by omega)]; exact this
theorem HU.ext {f g : Nat → α} {n j : Nat} (h : HU lt f n j) (hj : j < n) (he : ∀ k, k < n → g k = f k) : HU lt g n j := by
  refine ⟨fun k h0 hk hkj => ?_, fun c h0 hc hp hn => ?_⟩
  · have := h.1 k h0 hk hkj
    unfold okAt at this ⊢
    rw [he k hk, he _ (by omega)]; exact this
  · rw [he c hc, he _ (by omega)]; exact h.2 c h0 hc hp hn
theorem HD.ext {f g : Nat → α} {n i0 i : Nat} (h : HD lt f n i0 i) (hi : i < n) (he : ∀ k, k < n → g k = f k) : HD lt g n i0 i := by
  obtain ⟨h1, h2, h3, h4⟩ := h
  refine ⟨fun k h0 hk hki hp => ?_, fun c h0 hc hp hn => ?_, fun e => ?_, h4⟩
  · have := h1 k h0 hk hki hp
    unfold okAt at this ⊢
    rw [he k hk, he _ (by omega)]; exact this
  · rw [he c hc, he _ (by omega)]; exact h2 c h0 hc hp hn
  · have := h3 e
    unfold okAt at this ⊢
    rw [he i hi, he _ (by omega)]; exact this
end

section
variable {α : Type} [Inhabited α]
def nth (l : List α) (k : Nat) : α := l[k]!
def swp (l : List α) (i j : Nat) : List α := (l.set i (nth l j)).set j (nth l i)
theorem nth_lt {l : List α} {k : Nat} (h : k < l.length) : nth l k = l[k] := by simp [nth, h]
theorem nth_some {l : List α} {k : Nat} (h : k < l.length) : l[k]? = some (nth l k) := by rw [nth_lt h]; exact List.getElem?_eq_getElem h
theorem nth_mem {l : List α} {k : Nat} (h : k < l.length) : nth l k ∈ l := by rw [nth_lt h]; exact List.getElem_mem h
theorem swp_len (l : List α) (i j : Nat) : (swp l i j).length = l.length := by simp [swp]
theorem nth_swp {l : List α} {i j : Nat} (k : Nat) (hk : k < l.length) : nth (swp l i j) k = sw (nth l) i j k := by
  rw [nth_lt (by rw [swp_len]; exact hk)]
  unfold swp sw
  simp only [List.getElem_set]
  by_cases h1 : j = k
  · subst h1
    rw [if_pos rfl]
    by_cases h2 : j = i
    · rw [if_pos h2, h2]
    · rw [if_neg h2, if_pos rfl]
  · rw [if_neg h1]
    by_cases h2 : i = k
    · rw [if_pos h2, if_pos h2.symm]
    · rw [if_neg h2, if_neg (Ne.symm h2), if_neg (Ne.symm h1), nth_lt hk]
theorem swp_perm {l : List α} {i j : Nat} (hi : i < l.length) (hj : j < l.length) : (swp l i j).Perm l := by
  unfold swp
  rw [nth_lt hi, nth_lt hj]
  exact List.set_set_perm hi hj
theorem nth_left {a t : List α} {k : Nat} (h : k < a.length) : nth (a ++ t) k = nth a k := by
  rw [nth_lt h, nth_lt (by simp; omega)]; simp [List.getElem_append_left, h]
theorem swp_left {a t : List α} {i j : Nat} (hi : i < a.length) (hj : j < a.length) : swp (a ++ t) i j = swp a i j ++ t := by
  unfold swp
  rw [nth_left hi, nth_left hj, List.set_append_left _ _ hi, List.set_append_left _ _ (by simpa using hj)]
end
end Go.Proofs.Ytmbdglolpagjdaa
