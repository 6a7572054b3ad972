/- Stable sorting, plainly: merging, its laws, and what is sorted. -/
import Derived.Test.YtkljdpjdlccidaaDoorProg
namespace Go.Proofs.YtkljdpjdlccidaaDoor
section
variable {α : Type} (lt : α → α → Bool)
/-- An order of things that may be alike. -/
structure SwoS : Prop where
  asym : ∀ x y, lt x y = true → lt y x = false
  ntr : ∀ x y z, lt x y = false → lt y z = false → lt x z = false
def mgS : List α → List α → List α
  | [], Y => Y
  | X, [] => X
  | x :: xs, y :: ys => if lt y x then y :: mgS (x :: xs) ys else x :: mgS xs (y :: ys)
termination_by X Y => X.length + Y.length
variable {lt}
theorem mgS_nil (X : List α) : mgS lt X [] = X := by cases X <;> simp [mgS]
theorem nil_mgS (Y : List α) : mgS lt [] Y = Y := by simp [mgS]
theorem mgS_cons (x : α) (xs : List α) (y : α) (ys : List α) : mgS lt (x :: xs) (y :: ys) = if lt y x then y :: mgS lt (x :: xs) ys else x :: mgS lt xs (y :: ys) := by rw [mgS]
theorem mgS_len : ∀ (n : Nat) (X Y : List α), X.length + Y.length = n → (mgS lt X Y).length = n
  | n, [], Y, h => by rw [nil_mgS]; simpa using h
  | n, x :: xs, [], h => by rw [mgS_nil]; simpa using h
  | n, x :: xs, y :: ys, h => by
    rw [mgS_cons]
    simp only [List.length_cons] at h
    split
    · rw [List.length_cons, mgS_len (n - 1) (x :: xs) ys (by simp; omega)]; omega
    · rw [List.length_cons, mgS_len (n - 1) xs (y :: ys) (by simp; omega)]; omega
theorem mgS_length (X Y : List α) : (mgS lt X Y).length = X.length + Y.length := mgS_len _ X Y rfl
theorem mem_mgS {z : α} : ∀ (n : Nat) (X Y : List α), X.length + Y.length = n → z ∈ mgS lt X Y → z ∈ X ∨ z ∈ Y
  | n, [], Y, _, h => by rw [nil_mgS] at h; exact .inr h
  | n, x :: xs, [], _, h => by rw [mgS_nil] at h; exact .inl h
  | n, x :: xs, y :: ys, hn, h => by
    rw [mgS_cons] at h
    simp only [List.length_cons] at hn
    split at h
    · rcases List.mem_cons.1 h with rfl | h
      · exact .inr (List.mem_cons_self ..)
      · rcases mem_mgS (n - 1) _ _ (by simp; omega) h with h | h
        · exact .inl h
        · exact .inr (List.mem_cons_of_mem _ h)
    · rcases List.mem_cons.1 h with rfl | h
      · exact .inl (List.mem_cons_self ..)
      · rcases mem_mgS (n - 1) _ _ (by simp; omega) h with h | h
        · exact .inl (List.mem_cons_of_mem _ h)
        · exact .inr h
theorem mgS_split : ∀ (n : Nat) (L1 R1 L2 R2 : List α), L1.length + R1.length = n → (∀ x ∈ L1, ∀ y ∈ R2, lt y x = false) → (∀ y ∈ R1, ∀ x ∈ L2, lt y x = true) → mgS lt (L1 ++ L2) (R1 ++ R2) = mgS lt L1 R1 ++ mgS lt L2 R2
  | _, [], [], L2, R2, _, _, _ => by simp [nil_mgS]
  | n, [], r :: R1, L2, R2, hn, h1, h2 => by
    have ih := mgS_split (n - 1) [] R1 L2 R2 (by simp at hn ⊢; omega) h1 fun y hy x hx => h2 y (List.mem_cons_of_mem _ hy) x hx
    cases L2 with
    | nil => simp [nil_mgS]
    | cons x L2 =>
      simp only [List.nil_append, List.cons_append, nil_mgS] at ih ⊢
      rw [mgS_cons, h2 r (List.mem_cons_self ..) x (List.mem_cons_self ..), if_pos rfl, ih]
  | n, l :: L1, [], L2, R2, hn, h1, h2 => by
    have ih := mgS_split (n - 1) L1 [] L2 R2 (by simp at hn ⊢; omega) (fun x hx y hy => h1 x (List.mem_cons_of_mem _ hx) y hy) h2
    cases R2 with
    | nil => simp [mgS_nil]
    | cons y R2 =>
      simp only [List.nil_append, List.cons_append, mgS_nil] at ih ⊢
      rw [mgS_cons, h1 l (List.mem_cons_self ..) y (List.mem_cons_self ..), if_neg (by simp), ih]
  | n, l :: L1, r :: R1, L2, R2, hn, h1, h2 => by
    simp only [List.cons_append]
    rw [mgS_cons, mgS_cons]
    split
    · have ih := mgS_split (n - 1) (l :: L1) R1 L2 R2 (by simp at hn ⊢; omega) h1 fun y hy x hx => h2 y (List.mem_cons_of_mem _ hy) x hx
      simp only [List.cons_append] at ih ⊢
      rw [ih]
    · have ih := mgS_split (n - 1) L1 (r :: R1) L2 R2 (by simp at hn ⊢; omega) (fun x hx y hy => h1 x (List.mem_cons_of_mem _ hx) y hy) h2
      simp only [List.cons_append] at ih ⊢
      rw [ih]
theorem SwoS.tr (h : SwoS lt) {x y z : α} (h1 : lt x y = true) (h2 : lt y z = true) : lt x z = true := by
  cases h3 : lt x z with
  | true => rfl
  | false =>
    have := h.ntr x z y h3 (h.asym _ _ h2)
    rw [h1] at this
    cases this
theorem mgS_assoc (h : SwoS lt) : ∀ (n : Nat) (A B C : List α), A.length + B.length + C.length = n → mgS lt (mgS lt A B) C = mgS lt A (mgS lt B C)
  | _, [], B, C, _ => by simp [nil_mgS]
  | _, a :: A, [], C, _ => by simp [nil_mgS, mgS_nil]
  | _, a :: A, b :: B, [], _ => by simp [mgS_nil]
  | n, a :: A, b :: B, c :: C, hn => by
    simp only [List.length_cons] at hn
    have i1 := mgS_assoc h (n - 1) (a :: A) (b :: B) C (by simp; omega)
    have i2 := mgS_assoc h (n - 1) (a :: A) B (c :: C) (by simp; omega)
    have i3 := mgS_assoc h (n - 1) A (b :: B) (c :: C) (by simp; omega)
    rw [mgS_cons a A b B, mgS_cons b B c C]
    cases hba : lt b a with
    | true =>
      simp only [if_true]
      rw [mgS_cons b _ c C]
      cases hcb : lt c b with
      | true =>
        simp only [if_true]
        rw [mgS_cons a A c, h.tr hcb hba]
        simp only [if_true]
        rw [mgS_cons a A b B, hba] at i1
        simp only [if_true] at i1
        rw [i1]
      | false =>
        simp only [Bool.false_eq_true, if_false]
        rw [mgS_cons a A b, hba]
        simp only [if_true]
        rw [i2]
    | false =>
      simp only [Bool.false_eq_true, if_false]
      rw [mgS_cons a _ c C]
      cases hcb : lt c b with
      | true =>
        simp only [if_true]
        rw [mgS_cons a A c]
        cases hca : lt c a with
        | true =>
          simp only [if_true]
          rw [mgS_cons a A b B, hba] at i1
          simp only [Bool.false_eq_true, if_false] at i1
          rw [i1]
        | false =>
          simp only [Bool.false_eq_true, if_false]
          rw [i3, mgS_cons b B c C, hcb]
          simp only [if_true]
      | false =>
        simp only [Bool.false_eq_true, if_false]
        rw [h.ntr c b a hcb hba, mgS_cons a A b, hba]
        simp only [Bool.false_eq_true, if_false]
        rw [i3, mgS_cons b B c C, hcb]
        simp only [Bool.false_eq_true, if_false]
/-! ### What is sorted -/
def SoS (lt : α → α → Bool) : List α → Prop
  | [] => True
  | x :: r => (∀ y ∈ r, lt y x = false) ∧ SoS lt r
theorem SoS.app {X Y : List α} : SoS lt (X ++ Y) ↔ SoS lt X ∧ SoS lt Y ∧ ∀ x ∈ X, ∀ y ∈ Y, lt y x = false := by
  induction X with
  | nil => simp [SoS]
  | cons x X ih =>
    simp only [List.cons_append, SoS, ih, List.mem_append, List.mem_cons]
    constructor
    · rintro ⟨h1, h2, h3, h4⟩
      refine ⟨⟨fun y hy => h1 y (.inl hy), h2⟩, h3, ?_⟩
      rintro z (rfl | hz) y hy
      · exact h1 y (.inr hy)
      · exact h4 z hz y hy
    · rintro ⟨⟨h1, h2⟩, h3, h4⟩
      refine ⟨?_, h2, h3, fun z hz y hy => h4 z (.inr hz) y hy⟩
      rintro y (hy | hy)
      · exact h1 y hy
      · exact h4 x (.inl rfl) y hy
theorem SoS.mgS (h : SwoS lt) : ∀ (n : Nat) (X Y : List α), X.length + Y.length = n → SoS lt X → SoS lt Y → SoS lt (mgS lt X Y)
  | _, [], Y, _, _, hY => by rw [nil_mgS]; exact hY
  | _, x :: X, [], _, hX, _ => by rw [mgS_nil]; exact hX
  | n, x :: X, y :: Y, hn, hX, hY => by
    simp only [List.length_cons] at hn
    rw [mgS_cons]
    cases hyx : lt y x with
    | true =>
      simp only [if_true]
      refine ⟨fun z hz => ?_, SoS.mgS h (n - 1) _ _ (by simp; omega) hX hY.2⟩
      rcases mem_mgS _ _ _ rfl hz with hz | hz
      · have hxy := h.asym _ _ hyx
        rcases List.mem_cons.1 hz with rfl | hz
        · exact hxy
        · exact h.ntr _ _ _ (hX.1 z hz) hxy
      · exact hY.1 z hz
    | false =>
      simp only [Bool.false_eq_true, if_false]
      refine ⟨fun z hz => ?_, SoS.mgS h (n - 1) _ _ (by simp; omega) hX.2 hY⟩
      rcases mem_mgS _ _ _ rfl hz with hz | hz
      · exact hX.1 z hz
      · rcases List.mem_cons.1 hz with rfl | hz
        · exact hyx
        · exact h.ntr _ _ _ (hY.1 z hz) hyx
/-- A list, sorted: each one is laid behind those that are not behind it. -/
def soS (lt : α → α → Bool) (l : List α) : List α := l.foldl (fun s x => mgS lt s [x]) []
theorem soS_nil : soS lt ([] : List α) = [] := rfl
theorem soS_snoc (l : List α) (x : α) : soS lt (l ++ [x]) = mgS lt (soS lt l) [x] := by simp [soS]
theorem soS_length (l : List α) : (soS lt l).length = l.length := by
  suffices H : ∀ (l s : List α), (l.foldl (fun s x => mgS lt s [x]) s).length = s.length + l.length by have := H l []; simpa [soS] using this
  intro l
  induction l with
  | nil => intro s; simp
  | cons x l ih => intro s; simp only [List.foldl_cons, ih, mgS_length, List.length_cons, List.length_nil]; omega
theorem soS_mem {l : List α} {x : α} (h : x ∈ soS lt l) : x ∈ l := by
  suffices H : ∀ (l s : List α), x ∈ l.foldl (fun s x => mgS lt s [x]) s → x ∈ s ∨ x ∈ l by simpa using H l [] h
  intro l
  induction l with
  | nil => intro s h; exact .inl h
  | cons y l ih =>
    intro s h
    rcases ih _ h with h | h
    · rcases mem_mgS _ _ _ rfl h with h | h
      · exact .inl h
      · exact .inr (by simp at h; simp [h])
    · exact .inr (List.mem_cons_of_mem _ h)
theorem snocS {p : List α → Prop} (h0 : p []) (h1 : ∀ l x, p l → p (l ++ [x])) : ∀ l, p l := fun l => by
  suffices H : ∀ n (l : List α), l.length = n → p l from H _ l rfl
  intro n
  induction n with
  | zero => intro l h; rw [List.length_eq_zero_iff.1 h]; exact h0
  | succ n ih =>
    intro l h
    have hne : l ≠ [] := by intro e; rw [e] at h; simp at h
    rw [← List.dropLast_concat_getLast hne]
    exact h1 _ _ (ih _ (by simp; omega))
theorem soS_soS (h : SwoS lt) (l : List α) : SoS lt (soS lt l) := by
  induction l using snocS with
  | h0 => exact trivial
  | h1 l x ih => rw [soS_snoc]; exact SoS.mgS h _ _ _ rfl ih ⟨by simp, trivial⟩
theorem mgS_soS (h : SwoS lt) (A : List α) : ∀ B : List α, mgS lt (soS lt A) (soS lt B) = soS lt (A ++ B) := by
  intro B
  induction B using snocS with
  | h0 => simp [soS_nil, mgS_nil]
  | h1 B x ih => rw [soS_snoc, ← mgS_assoc h _ _ _ _ rfl, ih, ← List.append_assoc, soS_snoc]
/-- What is sorted comes in two parts, where one kind is ahead of the other one. -/
theorem soS_parts (h : SwoS lt) (p : α → Bool) : ∀ l : List α, (∀ x ∈ l, ∀ y ∈ l, p x = true → p y = false → lt x y = true) → soS lt l = soS lt (l.filter p) ++ soS lt (l.filter fun x => !p x) := by
  intro l
  induction l using snocS with
  | h0 => intro _; rfl
  | h1 l x ih =>
    intro hp
    have ih := ih fun y hy z hz => hp y (List.mem_append_left _ hy) z (List.mem_append_left _ hz)
    rw [soS_snoc, ih, List.filter_append, List.filter_append]
    have hx : x ∈ l ++ [x] := by simp
    cases hpx : p x with
    | true =>
      have e1 : [x].filter p = [x] := by simp [hpx]
      have e2 : ([x].filter fun x => !p x) = [] := by simp [hpx]
      rw [e1, e2, List.append_nil, soS_snoc]
      have := mgS_split (lt := lt) _ (soS lt (l.filter p)) [x] (soS lt (l.filter fun x => !p x)) [] rfl (by simp) (by
        intro y hy z hz
        obtain rfl : y = x := by simpa using hy
        have hz := soS_mem hz
        obtain ⟨hz, hpz⟩ := List.mem_filter.1 hz
        exact hp y hx z (List.mem_append_left _ hz) hpx (by simpa using hpz))
      rw [List.append_nil, mgS_nil] at this
      exact this
    | false =>
      have e1 : [x].filter p = [] := by simp [hpx]
      have e2 : ([x].filter fun x => !p x) = [x] := by simp [hpx]
      rw [e1, e2, List.append_nil, soS_snoc]
      have := mgS_split (lt := lt) _ (soS lt (l.filter p)) [] (soS lt (l.filter fun x => !p x)) [x] rfl (by
        intro z hz y hy
        obtain rfl : y = x := by simpa using hy
        have hz := soS_mem hz
        obtain ⟨hz, hpz⟩ := List.mem_filter.1 hz
        exact h.asym _ _ (hp z (List.mem_append_left _ hz) y hx (by simpa using hpz) hpx)) (by simp)
      rw [List.nil_append, mgS_nil] at this
      exact this
/-- What is sorted already stays. -/
theorem soS_self : ∀ l : List α, SoS lt l → soS lt l = l := by
  intro l
  induction l using snocS with
  | h0 => intro _; rfl
  | h1 l x ih =>
    intro hs
    obtain ⟨h1, -, h3⟩ := SoS.app.1 hs
    rw [soS_snoc, ih h1]
    have := mgS_split (lt := lt) _ l [] [] [x] rfl h3 (by simp)
    simpa [mgS_nil, nil_mgS] using this
end
end Go.Proofs.YtkljdpjdlccidaaDoor
