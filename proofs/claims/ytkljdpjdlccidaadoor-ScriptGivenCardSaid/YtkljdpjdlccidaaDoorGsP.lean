/- Stable sorting, plainly: what is laid into what is sorted, stretches that are merged, blocks. -/
import Derived.Test.YtkljdpjdlccidaaDoorGsA
namespace Go.Proofs.YtkljdpjdlccidaaDoor
section
variable {α : Type} {lt : α → α → Bool}
/-- One more is laid into what is sorted. -/
theorem ins_end (h : SwoS lt) {S : List α} (hS : SoS lt S) (x : α) (q : Nat) (h1 : ∀ s ∈ S.drop q, lt x s = true) (h2 : q = 0 ∨ ∃ y, S[q - 1]? = some y ∧ lt x y = false) : mgS lt S [x] = S.take q ++ x :: S.drop q := by
  have e := (List.take_append_drop q S).symm
  have hS' := hS
  rw [e, SoS.app] at hS'
  have hL : ∀ l ∈ S.take q, ∀ y ∈ ([x] : List α), lt y l = false := by
    intro l hl y hy
    obtain rfl : y = x := by simpa using hy
    rcases h2 with rfl | ⟨z, hz, hyz⟩
    · simp at hl
    · obtain ⟨i, hi, rfl⟩ := List.getElem_of_mem hl
      rw [List.getElem_take]
      rw [List.length_take] at hi
      by_cases hq : i = q - 1
      · subst hq
        have := (List.getElem?_eq_some_iff.1 hz)
        obtain ⟨_, hz2⟩ := this
        rw [hz2]; exact hyz
      · have hlt : i < q - 1 := by omega
        obtain ⟨hq2, hz2⟩ := List.getElem?_eq_some_iff.1 hz
        have e2 := (List.take_append_drop (q - 1) S).symm
        have hS2 := hS
        rw [e2, SoS.app] at hS2
        have hz3 : z ∈ S.drop (q - 1) := by
          rw [List.drop_eq_getElem_cons hq2, hz2]
          exact List.mem_cons_self ..
        have hi3 : S[i] ∈ S.take (q - 1) := List.mem_iff_getElem.2 ⟨i, by rw [List.length_take]; omega, by rw [List.getElem_take]⟩
        exact h.ntr _ _ _ hyz (hS2.2.2 _ hi3 _ hz3)
  have k1 := mgS_split (lt := lt) _ (S.take q) [] (S.drop q) [x] rfl hL (by simp)
  have k2 := mgS_split (lt := lt) _ [] [x] (S.drop q) [] rfl (by simp) (by intro y hy s hs; obtain rfl : y = x := (by simpa using hy); exact h1 s hs)
  rw [List.nil_append, List.append_nil, mgS_nil, nil_mgS] at k2
  rw [List.take_append_drop, List.nil_append, mgS_nil, k2] at k1
  simpa using k1
/-- One ahead of what is sorted. -/
theorem one_left (h : SwoS lt) {Y : List α} (hY : SoS lt Y) (x : α) (u : Nat) (h1 : u = 0 ∨ ∃ y, Y[u - 1]? = some y ∧ lt y x = true) (h2 : u ≥ Y.length ∨ ∃ y, Y[u]? = some y ∧ lt y x = false) : mgS lt [x] Y = Y.take u ++ x :: Y.drop u := by
  have a1 : ∀ y ∈ Y.take u, lt y x = true := by
    intro y hy
    rcases h1 with rfl | ⟨z, hz, hzx⟩
    · simp at hy
    · obtain ⟨i, hi, rfl⟩ := List.getElem_of_mem hy
      rw [List.getElem_take]
      rw [List.length_take] at hi
      obtain ⟨hq2, hz2⟩ := List.getElem?_eq_some_iff.1 hz
      by_cases hq : i = u - 1
      · subst hq; rw [hz2]; exact hzx
      · have hS2 := hY
        rw [(List.take_append_drop (u - 1) Y).symm, SoS.app] at hS2
        have hz3 : z ∈ Y.drop (u - 1) := by
          rw [List.drop_eq_getElem_cons hq2, hz2]
          exact List.mem_cons_self ..
        have hi3 : Y[i] ∈ Y.take (u - 1) := List.mem_iff_getElem.2 ⟨i, by rw [List.length_take]; omega, by rw [List.getElem_take]⟩
        have h3 := hS2.2.2 _ hi3 _ hz3
        cases h4 : lt Y[i] x with
        | true => rfl
        | false =>
          have := h.ntr _ _ _ h3 h4
          rw [hzx] at this
          cases this
  have a2 : ∀ y ∈ Y.drop u, lt y x = false := by
    intro y hy
    rcases h2 with h2 | ⟨z, hz, hzx⟩
    · rw [List.drop_of_length_le h2] at hy; simp at hy
    · obtain ⟨hq2, hz2⟩ := List.getElem?_eq_some_iff.1 hz
      have hS2 := hY
      rw [(List.take_append_drop u Y).symm, SoS.app, List.drop_eq_getElem_cons hq2, hz2] at hS2
      rw [List.drop_eq_getElem_cons hq2, hz2] at hy
      rcases List.mem_cons.1 hy with rfl | hy
      · exact hzx
      · exact h.ntr _ _ _ (hS2.2.1.1 y hy) hzx
  have k1 := mgS_split (lt := lt) _ [] (Y.take u) [x] (Y.drop u) rfl (by simp) (by intro y hy z hz; obtain rfl : z = x := (by simpa using hz); exact a1 y hy)
  have k2 := mgS_split (lt := lt) _ [x] [] [] (Y.drop u) rfl (by intro z hz y hy; obtain rfl : z = x := (by simpa using hz); exact a2 y hy) (by simp)
  rw [List.nil_append, List.append_nil, mgS_nil, nil_mgS] at k2
  rw [List.take_append_drop, List.nil_append, nil_mgS, k2] at k1
  simpa using k1
/-- One behind what is sorted. -/
theorem one_right (h : SwoS lt) {X : List α} (hX : SoS lt X) (y : α) (u : Nat) (h1 : u = 0 ∨ ∃ x, X[u - 1]? = some x ∧ lt y x = false) (h2 : u ≥ X.length ∨ ∃ x, X[u]? = some x ∧ lt y x = true) : mgS lt X [y] = X.take u ++ y :: X.drop u := by
  refine ins_end h hX y u ?_ h1
  intro x hx
  rcases h2 with h2 | ⟨z, hz, hzx⟩
  · rw [List.drop_of_length_le h2] at hx; simp at hx
  · obtain ⟨hq2, hz2⟩ := List.getElem?_eq_some_iff.1 hz
    have hS2 := hX
    rw [(List.take_append_drop u X).symm, SoS.app, List.drop_eq_getElem_cons hq2, hz2] at hS2
    rw [List.drop_eq_getElem_cons hq2, hz2] at hx
    rcases List.mem_cons.1 hx with rfl | hx
    · exact hzx
    · have h3 := hS2.2.1.1 x hx
      cases h4 : lt y x with
      | true => rfl
      | false =>
        have := h.ntr _ _ _ h4 h3
        rw [hzx] at this
        cases this
/-- Two sorted stretches, each parted so that all of the first parts are ahead of all of the second ones. -/
theorem sym_split (h : SwoS lt) {X Y : List α} (hX : SoS lt X) (hY : SoS lt Y) (s e : Nat) (h1 : s = 0 ∨ e ≥ Y.length ∨ ∃ x y, X[s - 1]? = some x ∧ Y[e]? = some y ∧ lt y x = false) (h2 : s ≥ X.length ∨ e = 0 ∨ ∃ x y, X[s]? = some x ∧ Y[e - 1]? = some y ∧ lt y x = true) :
    mgS lt X Y = mgS lt (X.take s) (Y.take e) ++ mgS lt (X.drop s) (Y.drop e) := by
  have hX2 := hX
  have hY2 := hY
  rw [(List.take_append_drop s X).symm, SoS.app] at hX2
  rw [(List.take_append_drop e Y).symm, SoS.app] at hY2
  have k := mgS_split (lt := lt) _ (X.take s) (Y.take e) (X.drop s) (Y.drop e) rfl ?_ ?_
  · rwa [List.take_append_drop, List.take_append_drop] at k
  · intro x hx y hy
    rcases h1 with rfl | h1 | ⟨x0, y0, hx0, hy0, h0⟩
    · simp at hx
    · rw [List.drop_of_length_le h1] at hy; simp at hy
    · -- x is not behind x0, y not ahead of y0
      obtain ⟨q1, q2⟩ := List.getElem?_eq_some_iff.1 hx0
      obtain ⟨r1, r2⟩ := List.getElem?_eq_some_iff.1 hy0
      have hxx : lt x0 x = false ∨ x = x0 := by
        obtain ⟨i, hi, rfl⟩ := List.getElem_of_mem hx
        rw [List.getElem_take]
        rw [List.length_take] at hi
        by_cases hq : i = s - 1
        · subst hq; exact .inr q2
        · left
          have hS2 := hX
          rw [(List.take_append_drop (s - 1) X).symm, SoS.app] at hS2
          exact hS2.2.2 _ (List.mem_iff_getElem.2 ⟨i, by rw [List.length_take]; omega, by rw [List.getElem_take]⟩) _ (by rw [List.drop_eq_getElem_cons q1, q2]; exact List.mem_cons_self ..)
      have hyy : lt y y0 = false ∨ y = y0 := by
        have hS2 := hY2.2.1
        rw [List.drop_eq_getElem_cons r1, r2] at hS2 hy
        rcases List.mem_cons.1 hy with rfl | hy
        · exact .inr rfl
        · exact .inl (hS2.1 y hy)
      have t1 : lt y x0 = false := by
        rcases hyy with hyy | rfl
        · exact h.ntr _ _ _ hyy h0
        · exact h0
      rcases hxx with hxx | rfl
      · exact h.ntr _ _ _ t1 hxx
      · exact t1
  · intro y hy x hx
    rcases h2 with h2 | rfl | ⟨x0, y0, hx0, hy0, h0⟩
    · rw [List.drop_of_length_le h2] at hx; simp at hx
    · simp at hy
    · obtain ⟨q1, q2⟩ := List.getElem?_eq_some_iff.1 hx0
      obtain ⟨r1, r2⟩ := List.getElem?_eq_some_iff.1 hy0
      have hyy : lt y0 y = false ∨ y = y0 := by
        obtain ⟨i, hi, rfl⟩ := List.getElem_of_mem hy
        rw [List.getElem_take]
        rw [List.length_take] at hi
        by_cases hq : i = e - 1
        · subst hq; exact .inr r2
        · left
          have hS2 := hY
          rw [(List.take_append_drop (e - 1) Y).symm, SoS.app] at hS2
          exact hS2.2.2 _ (List.mem_iff_getElem.2 ⟨i, by rw [List.length_take]; omega, by rw [List.getElem_take]⟩) _ (by rw [List.drop_eq_getElem_cons r1, r2]; exact List.mem_cons_self ..)
      have hxx : lt x x0 = false ∨ x = x0 := by
        have hS2 := hX2.2.1
        rw [List.drop_eq_getElem_cons q1, q2] at hS2 hx
        rcases List.mem_cons.1 hx with rfl | hx
        · exact .inr rfl
        · exact .inl (hS2.1 x hx)
      cases h4 : lt y x with
      | true => rfl
      | false =>
        exfalso
        have t1 : lt y0 x = false := by
          rcases hyy with hyy | rfl
          · exact h.ntr _ _ _ hyy h4
          · exact h4
        have t2 : lt y0 x0 = false := by
          rcases hxx with hxx | rfl
          · exact h.ntr _ _ _ t1 hxx
          · exact t1
        rw [h0] at t2
        cases t2
theorem SoS.take {X : List α} (h : SoS lt X) (n : Nat) : SoS lt (X.take n) := by
  rw [(List.take_append_drop n X).symm, SoS.app] at h
  exact h.1
theorem SoS.drop {X : List α} (h : SoS lt X) (n : Nat) : SoS lt (X.drop n) := by
  rw [(List.take_append_drop n X).symm, SoS.app] at h
  exact h.2.1
/-! ### Blocks of so many, each sorted -/
def bsF (lt : α → α → Bool) (B : Nat) : Nat → List α → List α
  | 0, _ => []
  | f + 1, T => if T.length = 0 then [] else soS lt (T.take B) ++ bsF lt B f (T.drop B)
def bsS (lt : α → α → Bool) (B : Nat) (T : List α) : List α := bsF lt B T.length T
theorem bsF_fuel {B : Nat} (hB : 0 < B) : ∀ (f g : Nat) (T : List α), T.length ≤ f → T.length ≤ g → bsF lt B f T = bsF lt B g T
  | 0, 0, _, _, _ => rfl
  | 0, g + 1, T, h, _ => by
    have : T.length = 0 := by omega
    simp [bsF, this]
  | f + 1, 0, T, _, h => by
    have : T.length = 0 := by omega
    simp [bsF, this]
  | f + 1, g + 1, T, h1, h2 => by
    simp only [bsF]
    split
    · rfl
    · rw [bsF_fuel hB f g (T.drop B) (by rw [List.length_drop]; omega) (by rw [List.length_drop]; omega)]
theorem bsS_nil (B : Nat) : bsS lt B ([] : List α) = [] := rfl
theorem bsS_step {B : Nat} (hB : 0 < B) (T : List α) : bsS lt B T = soS lt (T.take B) ++ bsS lt B (T.drop B) := by
  by_cases h : T.length = 0
  · rw [List.length_eq_zero_iff.1 h]; simp [bsS, bsF, soS]
  · obtain ⟨n, hn⟩ : ∃ n, T.length = n + 1 := ⟨T.length - 1, by omega⟩
    unfold bsS
    rw [hn]
    simp only [bsF, if_neg h]
    rw [bsF_fuel hB n (T.drop B).length (T.drop B) (by rw [List.length_drop]; omega) (Nat.le_refl _)]
theorem bsS_one {B : Nat} (hB : 0 < B) {T : List α} (h : T.length ≤ B) : bsS lt B T = soS lt T := by
  rw [bsS_step hB, List.take_of_length_le h, List.drop_of_length_le h, bsS_nil, List.append_nil]
theorem bsS_snoc {B : Nat} (hB : 0 < B) : ∀ (q : Nat) (A C : List α), A.length = B * q → C.length ≤ B → bsS lt B (A ++ C) = bsS lt B A ++ soS lt C
  | 0, A, C, hA, hC => by
    obtain rfl : A = [] := List.length_eq_zero_iff.1 (by simpa using hA)
    rw [List.nil_append, bsS_nil, List.nil_append, bsS_one hB hC]
  | q + 1, A, C, hA, hC => by
    have hA' : A.length = B * q + B := by rw [hA, Nat.mul_succ]
    rw [bsS_step hB (A ++ C), bsS_step hB A, List.take_append_of_le_length (by omega), List.drop_append_of_le_length (by omega), bsS_snoc hB q (A.drop B) C (by rw [List.length_drop]; omega) hC, List.append_assoc]
theorem bsS_length {B : Nat} (hB : 0 < B) : ∀ (n : Nat) (T : List α), T.length = n → (bsS lt B T).length = n := fun n => by
  induction n using Nat.strongRecOn with
  | ind n ih =>
    intro T hT
    by_cases h : n = 0
    · rw [List.length_eq_zero_iff.1 (hT.trans h), h]; rfl
    · rw [bsS_step hB, List.length_append, soS_length, ih (n - B) (by omega) (T.drop B) (by rw [List.length_drop]; omega), List.length_take]
      omega
/-- Two blocks made one. -/
theorem bsS_two (h : SwoS lt) {B : Nat} (hB : 0 < B) (C1 C2 D : List α) (h1 : C1.length = B) (h2 : C2.length ≤ B) (h3 : C2.length = B ∨ D = []) : bsS lt B (C1 ++ C2 ++ D) = soS lt C1 ++ soS lt C2 ++ bsS lt B D ∧ mgS lt (soS lt C1) (soS lt C2) = soS lt (C1 ++ C2) := by
  refine ⟨?_, mgS_soS h C1 C2⟩
  rw [bsS_step hB, List.append_assoc, List.take_append_of_le_length (by omega), List.drop_append_of_le_length (by omega), List.take_of_length_le (by omega), List.drop_of_length_le (by omega), List.nil_append]
  rcases h3 with h3 | rfl
  · rw [bsS_step hB, List.take_append_of_le_length (by omega), List.drop_append_of_le_length (by omega), List.take_of_length_le (by omega), List.drop_of_length_le (by omega), List.nil_append, List.append_assoc]
  · rw [List.append_nil, bsS_one hB h2, bsS_nil, List.append_nil]
end
end Go.Proofs.YtkljdpjdlccidaaDoor
