/- The grammar comes to an end; it looks at no token behind the one that is wrong; Each part of the grammar comes to an end, and looks at no token behind the one that is wrong; Each part of the grammar comes to an end. -/
import Derived.Test.YtehdljcmeimbcaaGreatB03
namespace Go.Proofs.YtehdljcmeimbcaaGreat

/-- What stands behind is put in the place of what stood there. -/
def swap (y z r : List Tok) : List Tok := r.take (r.length - y.length) ++ z
theorem swap_app (x y z : List Tok) : swap y z (x ++ y) = x ++ z := by simp [swap]
/-- A part of the grammar, N: where a token is there. -/
structure Lk (f : List Tok → Out) : Prop where
  badS : ∀ r e r', f r = .bad e r' → r' <:+ r
  okS : ∀ r d k r', f r = .ok d k r' → r' <:+ r
  bad : ∀ x y z e r', f (x ++ y) = .bad e r' → y.length < r'.length → f (x ++ z) = .bad e (swap y z r')
  ok : ∀ x y z d k r', f (x ++ y) = .ok d k r' → y.length < r'.length → f (x ++ z) = .ok d k (swap y z r')
  four : ∀ r e, f r = .bad e [] → r ≠ [] → e = 4
structure LkE (f : List Tok → Out) : Prop extends Lk f where
  four0 : ∀ e r', f [] = .bad e r' → e = 4

theorem suf_len {x y : List Tok} (h : x <:+ y) : x.length ≤ y.length := h.length_le
/-- What is longer than what stands behind reaches into what stands ahead. -/
theorem suf_split {r x y : List Tok} (h : r <:+ x ++ y) (hl : y.length < r.length) : ∃ x', x' <:+ x ∧ x' ≠ [] ∧ r = x' ++ y := by
  obtain ⟨p, hp⟩ := h
  rcases List.append_eq_append_iff.1 hp with ⟨a, h1, h2⟩ | ⟨c, h1, h2⟩
  · refine ⟨a, ⟨p, h1.symm⟩, fun e => ?_, h2⟩
    subst e
    rw [h2] at hl
    simp at hl
  · have h3 := congrArg List.length h2
    simp at h3
    omega

theorem loc_ok (d : Nd) (k : Fo) : LkE fun r => .ok d k r :=
  { badS := fun r e r' h => by cases h
    okS := fun r d' k' r' h => by injection h with _ _ h; subst h; exact List.suffix_refl _
    bad := fun x y z e r' h _ => by cases h
    ok := fun x y z d' k' r' h _ => by injection h with h1 h2 h; subst h1 h2 h; rw [swap_app]
    four := fun r e h _ => by cases h
    four0 := fun e r' h => by cases h }
theorem loc_bad4 : LkE fun r => .bad 4 r :=
  { badS := fun r e r' h => by injection h with _ h; subst h; exact List.suffix_refl _
    okS := fun r d' k' r' h => by cases h
    bad := fun x y z e r' h _ => by injection h with h1 h; subst h1 h; rw [swap_app]
    ok := fun x y z d' k' r' h _ => by cases h
    four := fun r e h _ => by injection h with h _; exact h.symm
    four0 := fun e r' h => by injection h with h _; exact h.symm }
theorem loc_bad (er : Int) : Lk fun r => .bad er r :=
  { badS := fun r e r' h => by injection h with _ h; subst h; exact List.suffix_refl _
    okS := fun r d' k' r' h => by cases h
    bad := fun x y z e r' h _ => by injection h with h1 h; subst h1 h; rw [swap_app]
    ok := fun x y z d' k' r' h _ => by cases h
    four := fun r e h hr => by injection h with _ h; exact absurd h hr }
theorem loc_dry : LkE fun _ => .dry :=
  { badS := fun r e r' h => by cases h
    okS := fun r d' k' r' h => by cases h
    bad := fun x y z e r' h _ => by cases h
    ok := fun x y z d' k' r' h _ => by cases h
    four := fun r e h _ => by cases h
    four0 := fun e r' h => by cases h }
theorem loc_nil (d : Nd) (k : Fo) : LkE fun _ => .ok d k [] :=
  { badS := fun r e r' h => by cases h
    okS := fun r d' k' r' h => by injection h with _ _ h; subst h; exact List.nil_suffix
    bad := fun x y z e r' h _ => by cases h
    ok := fun x y z d' k' r' h hl => by injection h with _ _ h; subst h; simp at hl
    four := fun r e h _ => by cases h
    four0 := fun e r' h => by cases h }
theorem and_bad {o : Out} {g : Nd → Fo → List Tok → Out} {e : Int} {r : List Tok} (h : o.and g = .bad e r) : o = .bad e r ∨ ∃ d k r1, o = .ok d k r1 ∧ g d k r1 = .bad e r := by
  cases o with
  | dry => cases h
  | bad e' r' => exact .inl h
  | ok d k r1 => exact .inr ⟨d, k, r1, rfl, h⟩
theorem and_ok {o : Out} {g : Nd → Fo → List Tok → Out} {d : Nd} {k : Fo} {r : List Tok} (h : o.and g = .ok d k r) : ∃ d1 k1 r1, o = .ok d1 k1 r1 ∧ g d1 k1 r1 = .ok d k r := by
  cases o with
  | dry => cases h
  | bad e' r' => cases h
  | ok d1 k1 r1 => exact ⟨d1, k1, r1, rfl, h⟩
theorem loc_and {f : List Tok → Out} {g : Nd → Fo → List Tok → Out} (hf : Lk f) (hg : ∀ d k, LkE (g d k)) : Lk fun r => (f r).and (g) := by
  have okr : ∀ x y z d k r1, f (x ++ y) = .ok d k r1 → y.length < r1.length → ∃ x', r1 = x' ++ y ∧ f (x ++ z) = .ok d k (x' ++ z) := fun x y z d k r1 h hl => by
    obtain ⟨x', _, _, rfl⟩ := suf_split (hf.okS _ _ _ _ h) hl
    exact ⟨x', rfl, by rw [hf.ok x y z d k _ h hl, swap_app]⟩
  refine ⟨fun r e r' h => ?_, fun r d k r' h => ?_, fun x y z e r' h hl => ?_, fun x y z d k r' h hl => ?_, fun r e h hr => ?_⟩
  · rcases and_bad h with h | ⟨d, k, r1, h1, h2⟩
    · exact hf.badS _ _ _ h
    · exact ((hg d k).badS _ _ _ h2).trans (hf.okS _ _ _ _ h1)
  · obtain ⟨d1, k1, r1, h1, h2⟩ := and_ok h
    exact ((hg d1 k1).okS _ _ _ _ h2).trans (hf.okS _ _ _ _ h1)
  · rcases and_bad h with h | ⟨d, k, r1, h1, h2⟩
    · simp only [hf.bad x y z e r' h hl]; rfl
    · have hs := suf_len ((hg d k).badS _ _ _ h2)
      obtain ⟨x', rfl, h3⟩ := okr x y z d k r1 h1 (by omega)
      simp only [h3]
      exact (hg d k).bad x' y z e r' h2 hl
  · obtain ⟨d1, k1, r1, h1, h2⟩ := and_ok h
    have hs := suf_len ((hg d1 k1).okS _ _ _ _ h2)
    obtain ⟨x', rfl, h3⟩ := okr x y z d1 k1 r1 h1 (by omega)
    simp only [h3]
    exact (hg d1 k1).ok x' y z d k r' h2 hl
  · rcases and_bad h with h | ⟨d, k, r1, h1, h2⟩
    · exact hf.four _ _ h hr
    · by_cases h0 : r1 = []
      · subst h0; exact (hg d k).four0 _ _ h2
      · exact (hg d k).four _ _ h2 h0
theorem locE_and {f : List Tok → Out} {g : Nd → Fo → List Tok → Out} (hf : LkE f) (hg : ∀ d k, LkE (g d k)) : LkE fun r => (f r).and (g) :=
  ⟨loc_and hf.toLk hg, fun e r' h => by
    rcases and_bad h with h | ⟨d, k, r1, h1, h2⟩
    · exact hf.four0 _ _ h
    · have := hf.okS _ _ _ _ h1
      have h0 : r1 = [] := by simpa using this
      subst h0
      exact (hg d k).four0 _ _ h2⟩
/-- What hangs on the first token alone. -/
def HeadB (c : List Tok → Bool) : Prop := ∀ t a b, c (t :: a) = c (t :: b)
theorem loc_if {c : List Tok → Bool} {f g : List Tok → Out} (hc : HeadB c) (hf : Lk f) (hg : Lk g) : Lk fun r => if c r = true then f r else g r := by
  have key : ∀ x y z : List Tok, x ≠ [] → c (x ++ y) = c (x ++ z) := fun x y z hx => by
    cases x with
    | nil => exact absurd rfl hx
    | cons t x => exact hc t _ _
  have ne : ∀ (h : List Tok → Out), Lk h → ∀ x y : List Tok, ∀ r', (∃ e, h (x ++ y) = .bad e r') ∨ (∃ d k, h (x ++ y) = .ok d k r') → y.length < r'.length → x ≠ [] := fun h hh x y r' h1 hl hx => by
    subst hx
    rcases h1 with ⟨e, h1⟩ | ⟨d, k, h1⟩
    · have := suf_len (hh.badS _ _ _ h1); simp at this; omega
    · have := suf_len (hh.okS _ _ _ _ h1); simp at this; omega
  refine ⟨fun r e r' h => ?_, fun r d k r' h => ?_, fun x y z e r' h hl => ?_, fun x y z d k r' h hl => ?_, fun r e h hr => ?_⟩
  · split at h
    · exact hf.badS _ _ _ h
    · exact hg.badS _ _ _ h
  · split at h
    · exact hf.okS _ _ _ _ h
    · exact hg.okS _ _ _ _ h
  · by_cases hcx : c (x ++ y) = true
    · simp only [hcx, if_true] at h
      have hx := ne f hf x y r' (.inl ⟨e, h⟩) hl
      rw [key x y z hx] at hcx
      simp only [hcx, if_true]
      exact hf.bad x y z e r' h hl
    · simp only [hcx] at h
      have hx := ne g hg x y r' (.inl ⟨e, h⟩) hl
      rw [key x y z hx] at hcx
      simp only [hcx]
      exact hg.bad x y z e r' h hl
  · by_cases hcx : c (x ++ y) = true
    · simp only [hcx, if_true] at h
      have hx := ne f hf x y r' (.inr ⟨d, k, h⟩) hl
      rw [key x y z hx] at hcx
      simp only [hcx, if_true]
      exact hf.ok x y z d k r' h hl
    · simp only [hcx] at h
      have hx := ne g hg x y r' (.inr ⟨d, k, h⟩) hl
      rw [key x y z hx] at hcx
      simp only [hcx]
      exact hg.ok x y z d k r' h hl
  · split at h
    · exact hf.four _ _ h hr
    · exact hg.four _ _ h hr
/-- A test that fails where no token is: what is asked of its arm is asked where one is. -/
theorem locE_if {c : List Tok → Bool} {f g : List Tok → Out} (hc : HeadB c) (h0 : c [] = false) (hf : Lk f) (hg : LkE g) : LkE fun r => if c r = true then f r else g r :=
  ⟨loc_if hc hf hg.toLk, fun e r' h => by simp only [h0] at h; exact hg.four0 _ _ h⟩
theorem locE_if' {c : List Tok → Bool} {f g : List Tok → Out} (hc : HeadB c) (hf : LkE f) (hg : LkE g) : LkE fun r => if c r = true then f r else g r :=
  ⟨loc_if hc hf.toLk hg.toLk, fun e r' h => by
    split at h
    · exact hf.four0 _ _ h
    · exact hg.four0 _ _ h⟩
/-- The first token is passed. -/
theorem loc_tail {F : Tok → List Tok → Out} (hF : ∀ t, LkE (F t)) : Lk fun r => F (hd r) r.tail := by
  refine ⟨fun r e r' h => ?_, fun r d k r' h => ?_, fun x y z e r' h hl => ?_, fun x y z d k r' h hl => ?_, fun r e h hr => ?_⟩
  · exact ((hF _).badS _ _ _ h).trans (List.tail_suffix r)
  · exact ((hF _).okS _ _ _ _ h).trans (List.tail_suffix r)
  · cases x with
    | nil =>
      have h1 := suf_len ((hF _).badS _ _ _ h)
      simp at h1; omega
    | cons t x => exact (hF t).bad x y z e r' h hl
  · cases x with
    | nil =>
      have h1 := suf_len ((hF _).okS _ _ _ _ h)
      simp at h1; omega
    | cons t x => exact (hF t).ok x y z d k r' h hl
  · cases r with
    | nil => exact absurd rfl hr
    | cons t r =>
      by_cases h0 : r = []
      · subst h0; exact (hF t).four0 _ _ h
      · exact (hF t).four _ _ h h0
theorem headK (k : Int) (l : List (List UInt8)) : HeadB fun r => seesK k r l := fun _ _ _ => rfl
theorem headN (k : Int) : HeadB fun r => (hd r).kind == k := fun _ _ _ => rfl
theorem head_ty : HeadB isTyT := fun _ _ _ => rfl
theorem loc_tk {c : List Tok → Bool} (hc : HeadB c) (h0 : c [] = false) {F : Tok → List Tok → Out} (hF : ∀ t, LkE (F t)) : LkE fun r => tk (c r) r F := locE_if hc h0 (loc_tail hF) loc_bad4
theorem loc_tkM (l : List (List UInt8)) {F : Tok → List Tok → Out} (hF : ∀ t, LkE (F t)) : LkE fun r => tkM l r F := loc_tk (headK 4 l) rfl hF
theorem loc_tkW (l : List (List UInt8)) {F : Tok → List Tok → Out} (hF : ∀ t, LkE (F t)) : LkE fun r => tkW l r F := loc_tk (headK 2 l) rfl hF
theorem loc_tkK (k : Int) (hk : ((0 : Int) == k) = false) {F : Tok → List Tok → Out} (hF : ∀ t, LkE (F t)) : LkE fun r => tkK k r F := loc_tk (headN k) hk hF
theorem loc_ent (m : Nat) {F : Tok → List Tok → Out} (hF : ∀ t, LkE (F t)) : Lk fun r => ent m r F := by
  unfold ent
  by_cases hm : m = 64
  · simp only [hm, if_true]; exact loc_bad 5
  · simp only [hm, if_false]; exact loc_tail hF
theorem loc_useO : LkE useO := loc_tkK 1 rfl fun _ => loc_ok _ _
theorem loc_tyO : LkE tyO := loc_tk head_ty rfl fun _ => loc_ok _ _
theorem loc_onO : LkE onO := loc_tkW _ fun _ => loc_useO
theorem loc_memO : LkE memO := loc_tkK 1 rfl fun _ => locE_and loc_tyO fun _ _ => loc_tkM _ fun _ => loc_ok _ _
theorem loc_lifeO {b : List Tok → Out} (hb : LkE b) : LkE (lifeO b) := loc_tkW _ fun _ => locE_and hb fun _ _ => loc_ok _ _
end Go.Proofs.YtehdljcmeimbcaaGreat

namespace Go.Proofs.YtehdljcmeimbcaaGreat

theorem loc_head {F : Tok → List Tok → Out} (hF : ∀ t, LkE (F t)) : LkE fun r => F (hd r) r := by
  refine ⟨⟨fun r e r' h => (hF _).badS _ _ _ h, fun r d k r' h => (hF _).okS _ _ _ _ h, fun x y z e r' h hl => ?_, fun x y z d k r' h hl => ?_, fun r e h hr => (hF _).four _ _ h hr⟩, fun e r' h => (hF _).four0 _ _ h⟩
  · cases x with
    | nil =>
      have h1 := suf_len ((hF _).badS _ _ _ h)
      simp at h1; omega
    | cons t x => exact (hF t).bad (t :: x) y z e r' h hl
  · cases x with
    | nil =>
      have h1 := suf_len ((hF _).okS _ _ _ _ h)
      simp at h1; omega
    | cons t x => exact (hF t).ok (t :: x) y z d k r' h hl
theorem head_emp : HeadB fun r => r.isEmpty := fun _ _ _ => rfl
theorem locE_emp {f g : List Tok → Out} (hf : LkE f) (hg : LkE g) : LkE fun r => if r = [] then f r else g r := by
  have h := locE_if' head_emp hf hg
  have e : (fun r : List Tok => if r.isEmpty = true then f r else g r) = fun r => if r = [] then f r else g r := by
    funext r; cases r <;> rfl
  rw [e] at h
  exact h
set_option maxRecDepth 10000 in
theorem loc_P : ∀ (n : Nat) (g : Gr) (m : Nat), LkE fun r => P n g r m
  | 0, g, m => by simp only [P]; exact loc_dry
  | n + 1, g, m => by
    have ih := loc_P n
    cases g with
    | decls acc => simp only [P]; exact locE_emp (loc_nil _ _) (locE_and (ih _ _) fun d k => ih _ _)
    | decl =>
      simp only [P]
      refine locE_if (headK 2 _) rfl (loc_tail (F := fun t r => tkK 1 r fun nm r' => tkM [[59]] r' fun _ r' => .ok (at_ t 2 nm.text 0) .nil r') fun t => loc_tkK 1 rfl fun nm => loc_tkM _ fun _ => loc_ok _ _) ?_
      refine locE_if (headK 2 _) rfl (loc_tail (F := fun t r => tkK 1 r fun nm r' => tkM [[123]] r' fun _ r' => P n (.members t nm .nil) r' m) fun t => loc_tkK 1 rfl fun nm => loc_tkM _ fun _ => ih _ _) ?_
      refine locE_if (headK 2 _) rfl (loc_tail (F := fun t r => tkK 1 r fun nm r' => (tyO r').and fun y yk r' => tkM [[59]] r' fun _ r' => .ok (at_ t 6 nm.text 0) (one y yk) r') fun t => loc_tkK 1 rfl fun nm => locE_and loc_tyO fun y yk => loc_tkM _ fun _ => loc_ok _ _) ?_
      refine locE_if (headK 2 _) rfl (loc_tail (F := fun t r => tkK 1 r fun nm r' => (P n .block r' m).and fun d k r' => .ok (at_ t 7 nm.text 0) (one d k) r') fun t => loc_tkK 1 rfl fun nm => locE_and (ih _ _) fun d k => loc_ok _ _) ?_
      refine locE_if (headK 2 _) rfl (loc_tail (F := fun t r => tkK 1 r fun nm r' => (onO r').and fun u uk r' => tkM [[123]] r' fun _ r' => P n (.lives t nm (one u uk)) r' m) fun t => loc_tkK 1 rfl fun nm => locE_and loc_onO fun u uk => loc_tkM _ fun _ => ih _ _) ?_
      refine locE_if (headK 2 _) rfl (loc_tail (F := fun t r => tkK 1 r fun nm r' => (onO r').and fun u uk r' => tkW [[111, 110], [111, 102, 102]] r' fun x r' => (P n .block r' m).and fun d k r' => .ok (at_ t 10 nm.text (if x.text = [111, 110] then 1 else 0)) ((one u uk).app (one d k)) r') fun t => loc_tkK 1 rfl fun nm => locE_and loc_onO fun u uk => loc_tkW _ fun x => locE_and (ih _ _) fun d k => loc_ok _ _) ?_
      exact loc_tkW _ fun t => locE_and (ih _ _) fun d k => loc_ok _ _
    | members t nm acc =>
      simp only [P]
      exact locE_if (headK 4 _) rfl (loc_tail (F := fun _ r => .ok (at_ t 3 nm.text 0) acc r) fun _ => loc_ok _ _) (locE_and loc_memO fun d k => ih _ _)
    | lives t nm acc =>
      simp only [P]
      exact locE_if (headK 4 _) rfl (loc_tail (F := fun _ r => .ok (at_ t 8 nm.text 0) acc r) fun _ => loc_ok _ _) (locE_and (loc_lifeO (ih _ _)) fun d k => ih _ _)
    | block => simp only [P]; exact locE_if (headK 4 _) rfl (loc_ent m fun t => ih _ _) loc_bad4
    | stmts t acc =>
      simp only [P]
      exact locE_if (headK 4 _) rfl (loc_tail (F := fun _ r => .ok (at_ t 12 [] 0) acc r) fun _ => loc_ok _ _) (locE_and (ih _ _) fun d k => ih _ _)
    | stmt =>
      simp only [P]
      refine locE_if (headK 2 _) rfl (loc_tail (F := fun t r => tkK 1 r fun nm r' => (tyO r').and fun y yk r' => tkM [[61]] r' fun _ r' => (P n .term r' m).and fun d k r' => tkM [[59]] r' fun _ r' => .ok (at_ t 13 nm.text 0) ((one y yk).app (one d k)) r') fun t => loc_tkK 1 rfl fun nm => locE_and loc_tyO fun y yk => loc_tkM _ fun _ => locE_and (ih _ _) fun d k => loc_tkM _ fun _ => loc_ok _ _) ?_
      refine locE_if (headK 2 _) rfl (loc_tail (F := fun t r => (P n .term r m).and fun d k r' => tkM [[59]] r' fun _ r' => .ok (at_ t (actKind t.text) [] 0) (one d k) r') fun t => locE_and (ih _ _) fun d k => loc_tkM _ fun _ => loc_ok _ _) ?_
      refine locE_if (headK 2 _) rfl (loc_tail (F := fun t r => tkK 1 r fun nm r' => (P n .term r' m).and fun d k r' =>
        if seesW r' [[97, 102, 116, 101, 114]] = true then tkK 3 r'.tail fun x r' => P n (.to (at_ t 19 nm.text x.n) (one d k)) r' m
        else if seesW r' [[102, 114, 111, 110, 116]] = true then P n (.to (at_ t 19 nm.text (-1)) (one d k)) r'.tail m
        else P n (.to (at_ t 19 nm.text 0) (one d k)) r' m) fun t => loc_tkK 1 rfl fun nm => locE_and (ih _ _) fun d k =>
          locE_if (headK 2 _) rfl (loc_tail (F := fun _ r => tkK 3 r fun x r' => P n (.to (at_ t 19 nm.text x.n) (one d k)) r' m) fun _ => loc_tkK 3 rfl fun x => ih _ _)
            (locE_if (headK 2 _) rfl (loc_tail (F := fun _ r => P n (.to (at_ t 19 nm.text (-1)) (one d k)) r m) fun _ => ih _ _) (ih _ _))) ?_
      refine locE_if (headK 2 _) rfl (loc_tail (F := fun t r => (P n .term r m).and fun d k r' => P n (.to (at_ t 20 [] 0) (one d k)) r' m) fun t => locE_and (ih _ _) fun d k => ih _ _) ?_
      refine locE_if (headK 2 _) rfl (loc_tail (F := fun t r => tkK 1 r fun nm r' => tkM [[59]] r' fun _ r' => .ok (at_ t (if t.text = [100, 105, 115, 97, 98, 108, 101] then 22 else 21) nm.text 0) .nil r') fun t => loc_tkK 1 rfl fun nm => loc_tkM _ fun _ => loc_ok _ _) ?_
      refine locE_if (headK 2 _) rfl (loc_tail (F := fun t r => (P n .term r m).and fun d k r' => (P n .block r' m).and fun d' k' r' =>
        if seesW r' [[101, 108, 115, 101]] = true then (P n .block r'.tail m).and fun d'' k'' r' => .ok (at_ t 23 [] 0) ((one d k).app ((one d' k').app (one d'' k''))) r'
        else .ok (at_ t 23 [] 0) ((one d k).app ((one d' k').app (one (at_ t 12 [] 0) .nil))) r') fun t => locE_and (ih _ _) fun d k => locE_and (ih _ _) fun d' k' =>
          locE_if (headK 2 _) rfl (loc_tail (F := fun _ r => (P n .block r m).and fun d'' k'' r' => .ok (at_ t 23 [] 0) ((one d k).app ((one d' k').app (one d'' k''))) r') fun _ => locE_and (ih _ _) fun d'' k'' => loc_ok _ _) (loc_ok _ _)) ?_
      refine locE_if (headK 2 _) rfl (loc_tail (F := fun t r => (P n .term r m).and fun d k r' => (P n .block r' m).and fun d' k' r' => .ok (at_ t 24 [] 0) ((one d k).app (one d' k')) r') fun t => locE_and (ih _ _) fun d k => locE_and (ih _ _) fun d' k' => loc_ok _ _) ?_
      refine locE_if (headK 2 _) rfl (loc_tail (F := fun t r => tkM [[59]] r fun _ r' => .ok (at_ t 25 [] 0) .nil r') fun t => loc_tkM _ fun _ => loc_ok _ _) ?_
      exact loc_head (F := fun t r => (P n .var r m).and fun d k r' => tkM [[61]] r' fun _ r' => (P n .term r' m).and fun d' k' r' => tkM [[59]] r' fun _ r' => .ok (at_ t 14 [] 0) ((one d k).app (one d' k')) r') fun t =>
        locE_and (ih _ _) fun d k => loc_tkM _ fun _ => locE_and (ih _ _) fun d' k' => loc_tkM _ fun _ => loc_ok _ _
    | var =>
      simp only [P]
      refine locE_and (ih _ _) fun d k => ?_
      by_cases h : isVarK d.kind = true
      · simp only [h, if_true]; exact loc_ok _ _
      · simp only [h]; exact loc_bad4
    | term =>
      simp only [P]
      exact locE_and (ih _ _) fun d k => locE_if (headK 4 _) rfl (loc_tail (F := fun t r => (P n .sum r m).and fun d' k' r'' => .ok (at_ t 32 t.text 0) ((one d k).app (one d' k')) r'') fun t => locE_and (ih _ _) fun d' k' => loc_ok _ _) (loc_ok _ _)
    | sum => simp only [P]; exact locE_and (ih _ _) fun d k => ih _ _
    | sumL d k =>
      simp only [P]
      exact locE_if (headK 4 _) rfl (loc_tail (F := fun t r => (P n .product r m).and fun d' k' r' => P n (.sumL (at_ t 32 t.text 0) ((one d k).app (one d' k'))) r' m) fun t => locE_and (ih _ _) fun d' k' => ih _ _) (loc_ok _ _)
    | product => simp only [P]; exact locE_and (ih _ _) fun d k => ih _ _
    | prodL d k =>
      simp only [P]
      exact locE_if (headK 4 _) rfl (loc_tail (F := fun t r => (P n .unary r m).and fun d' k' r' => P n (.prodL (at_ t 32 t.text 0) ((one d k).app (one d' k'))) r' m) fun t => locE_and (ih _ _) fun d' k' => ih _ _) (loc_ok _ _)
    | unary =>
      simp only [P]
      exact locE_if (headK 2 _) rfl (loc_ent m fun t => locE_and (ih _ _) fun d k => loc_ok _ _) (ih _ _)
    | tight => simp only [P]; exact locE_and (ih _ _) fun d k => ih _ _
    | tightL d k =>
      simp only [P]
      exact locE_if (headK 4 _) rfl (loc_tail (F := fun t r => tkK 1 r fun nm r' => P n (.tightL (at_ t 30 nm.text 0) (one d k)) r' m) fun t => loc_tkK 1 rfl fun nm => ih _ _)
        (locE_if (headK 4 _) rfl (loc_ent m fun t => locE_and (ih _ _) fun d' k' => loc_tkM _ fun _ => ih _ _) (loc_ok _ _))
    | first =>
      simp only [P]
      refine locE_if (headN 3) rfl (loc_tail (F := fun t r => .ok (at_ t 26 [] t.n) .nil r) fun t => loc_ok _ _) ?_
      refine locE_if (headK 2 _) rfl (loc_tail (F := fun t r => .ok (at_ t 27 [] 0) .nil r) fun t => loc_ok _ _) ?_
      refine locE_if (headK 2 _) rfl (loc_tail (F := fun t r => .ok (at_ t 28 [] 0) .nil r) fun t => loc_ok _ _) ?_
      refine locE_if (headK 2 _) rfl (loc_tail (F := fun t r => tkK 1 r fun nm r' => .ok (at_ t 33 nm.text 0) .nil r') fun t => loc_tkK 1 rfl fun nm => loc_ok _ _) ?_
      refine locE_if (headK 2 _) rfl (loc_tail (F := fun t r => (P n .block r m).and fun d k r' => .ok (at_ t 36 [] 0) (one d k) r') fun t => locE_and (ih _ _) fun d k => loc_ok _ _) ?_
      exact locE_if (headK 4 _) rfl (loc_ent m fun t => locE_and (ih _ _) fun d k => loc_tkM _ fun _ => loc_ok _ _) loc_useO
    | _ =>
      rename_i d acc
      simp only [P]
      exact locE_if (headK 2 _) rfl (loc_tail (F := fun _ r => (P n .var r m).and fun d' k' r' => tkM [[59]] r' fun _ r' => .ok d (acc.app (one d' k')) r') fun _ => locE_and (ih _ _) fun d' k' => loc_tkM _ fun _ => loc_ok _ _) (loc_tkM _ fun _ => loc_ok _ _)

/-- What is no lack of rounds is the same. -/
def Le (o o' : Out) : Prop := o ≠ .dry → o' = o
theorem le_rfl' (o : Out) : Le o o := fun _ => rfl
theorem le_and {o o' : Out} {g g' : Nd → Fo → List Tok → Out} (h : Le o o') (hg : ∀ d k r, Le (g d k r) (g' d k r)) : Le (o.and g) (o'.and g') := fun hn => by
  have h1 : o ≠ .dry := fun e => hn (by rw [e]; rfl)
  rw [h h1]
  cases o with
  | dry => exact absurd rfl h1
  | bad e r => rfl
  | ok d k r => exact hg d k r hn
theorem le_ite {c : Prop} [Decidable c] {a b a' b' : Out} (ha : Le a a') (hb : Le b b') : Le (if c then a else b) (if c then a' else b') := by
  by_cases h : c
  · simp only [h, if_true]; exact ha
  · simp only [h, if_false]; exact hb
theorem le_tk {c : Bool} {r : List Tok} {f f' : Tok → List Tok → Out} (h : ∀ t r, Le (f t r) (f' t r)) : Le (tk c r f) (tk c r f') := le_ite (h _ _) (le_rfl' _)
theorem le_tkM {l : List (List UInt8)} {r : List Tok} {f f' : Tok → List Tok → Out} (h : ∀ t r, Le (f t r) (f' t r)) : Le (tkM l r f) (tkM l r f') := le_tk h
theorem le_tkW {l : List (List UInt8)} {r : List Tok} {f f' : Tok → List Tok → Out} (h : ∀ t r, Le (f t r) (f' t r)) : Le (tkW l r f) (tkW l r f') := le_tk h
theorem le_tkK {k : Int} {r : List Tok} {f f' : Tok → List Tok → Out} (h : ∀ t r, Le (f t r) (f' t r)) : Le (tkK k r f) (tkK k r f') := le_tk h
theorem le_ent {m : Nat} {r : List Tok} {f f' : Tok → List Tok → Out} (h : ∀ t r, Le (f t r) (f' t r)) : Le (ent m r f) (ent m r f') := le_ite (le_rfl' _) (h _ _)
theorem le_life {b b' : List Tok → Out} {r : List Tok} (h : ∀ r, Le (b r) (b' r)) : Le (lifeO b r) (lifeO b' r) := le_tkW fun _ _ => le_and (h _) fun _ _ _ => le_rfl' _
theorem le_P : ∀ (n : Nat) (g : Gr) (r : List Tok) (m : Nat), Le (P n g r m) (P (n + 1) g r m)
  | 0, g, r, m => fun h => absurd (by simp only [P]) h
  | n + 1, g, r, m => by
    have ih := le_P n
    cases g <;> simp only [P] <;> (repeat' (first | exact ih _ _ _ | exact le_rfl' _ | apply le_and | apply le_ite | apply le_tkM | apply le_tkW | apply le_tkK | apply le_ent | apply le_life | intro))
theorem P_more {n : Nat} {g : Gr} {r : List Tok} {m : Nat} (h : P n g r m ≠ .dry) : ∀ j, P (n + j) g r m = P n g r m
  | 0 => rfl
  | j + 1 => by
    have h1 := P_more h j
    rw [← Nat.add_assoc, le_P (n + j) g r m (by rw [h1]; exact h), h1]
theorem P_same {n n' : Nat} {g : Gr} {r : List Tok} {m : Nat} (h : P n g r m ≠ .dry) (h' : P n' g r m ≠ .dry) : P n g r m = P n' g r m := by
  rcases Nat.le_total n n' with hl | hl
  · obtain ⟨j, rfl⟩ := Nat.exists_eq_add_of_le hl
    exact (P_more h j).symm
  · obtain ⟨j, rfl⟩ := Nat.exists_eq_add_of_le hl
    exact P_more h' j
end Go.Proofs.YtehdljcmeimbcaaGreat

namespace Go.Proofs.YtehdljcmeimbcaaGreat

def Nst (f : List Tok → Out) : Prop := ∀ r d k r', r ≠ [] → f r = .ok d k r' → r'.length < r.length
def Sst (f : List Tok → Out) : Prop := ∀ r d k r', f r = .ok d k r' → r'.length < r.length
theorem n_tail {F : Tok → List Tok → Out} (hF : ∀ t, LkE (F t)) : Nst fun r => F (hd r) r.tail := fun r d k r' hr h => by
  have h1 := suf_len ((hF _).okS _ _ _ _ h)
  cases r with
  | nil => exact absurd rfl hr
  | cons t r => simp at h1 ⊢; omega
theorem n_ent (m : Nat) {F : Tok → List Tok → Out} (hF : ∀ t, LkE (F t)) : Nst fun r => ent m r F := fun r d k r' hr h => by
  simp only [ent] at h
  split at h
  · cases h
  · exact n_tail hF r d k r' hr h
theorem p_if {c : List Tok → Bool} {f g : List Tok → Out} (_ : HeadB c) (h0 : c [] = false) (hf : Nst f) (hg : Sst g) : Sst fun r => if c r = true then f r else g r := fun r d k r' h => by
  by_cases hc : c r = true
  · simp only [hc, if_true] at h
    exact hf r d k r' (fun e => by rw [e, h0] at hc; cases hc) h
  · simp only [hc] at h
    exact hg r d k r' h
theorem s_bad (e : Int) : Sst fun r => .bad e r := fun r d k r' h => by cases h
theorem p_tk {c : List Tok → Bool} (hc : HeadB c) (h0 : c [] = false) {F : Tok → List Tok → Out} (hF : ∀ t, LkE (F t)) : Sst fun r => tk (c r) r F := p_if hc h0 (n_tail hF) (s_bad 4)
theorem p_tkW (l : List (List UInt8)) {F : Tok → List Tok → Out} (hF : ∀ t, LkE (F t)) : Sst fun r => tkW l r F := p_tk (headK 2 l) rfl hF
theorem p_tkM (l : List (List UInt8)) {F : Tok → List Tok → Out} (hF : ∀ t, LkE (F t)) : Sst fun r => tkM l r F := p_tk (headK 4 l) rfl hF
theorem p_tkK (k : Int) (hk : ((0 : Int) == k) = false) {F : Tok → List Tok → Out} (hF : ∀ t, LkE (F t)) : Sst fun r => tkK k r F := p_tk (headN k) hk hF
theorem p_and {f : List Tok → Out} {g : Nd → Fo → List Tok → Out} (hf : Sst f) (hg : ∀ d k, LkE (g d k)) : Sst fun r => (f r).and g := fun r d k r' h => by
  obtain ⟨d1, k1, r1, h1, h2⟩ := and_ok h
  have := hf _ _ _ _ h1
  have := suf_len ((hg d1 k1).okS _ _ _ _ h2)
  omega
theorem p_head {F : Tok → List Tok → Out} (hF : ∀ t, Sst (F t)) : Sst fun r => F (hd r) r := fun r d k r' h => hF _ r d k r' h
theorem s_dry : Sst fun _ => .dry := fun r d k r' h => by cases h
theorem p_useO : Sst useO := p_tkK 1 rfl fun _ => loc_ok _ _
theorem p_memO : Sst memO := p_tkK 1 rfl fun _ => locE_and loc_tyO fun _ _ => loc_tkM _ fun _ => loc_ok _ _
theorem p_lifeO {b : List Tok → Out} (hb : LkE b) : Sst (lifeO b) := p_tkW _ fun _ => locE_and hb fun _ _ => loc_ok _ _
theorem st_decl (n m : Nat) : Sst fun r => P n .decl r m := by
  cases n with
  | zero => simp only [P]; exact s_dry
  | succ n =>
    simp only [P]
    refine p_if (headK 2 _) rfl (n_tail (F := fun t r => tkK 1 r fun nm r' => tkM [[59]] r' fun _ r' => .ok (at_ t 2 nm.text 0) .nil r') fun t => loc_tkK 1 rfl fun nm => loc_tkM _ fun _ => loc_ok _ _) ?_
    refine p_if (headK 2 _) rfl (n_tail (F := fun t r => tkK 1 r fun nm r' => tkM [[123]] r' fun _ r' => P n (.members t nm .nil) r' m) fun t => loc_tkK 1 rfl fun nm => loc_tkM _ fun _ => loc_P _ _ _) ?_
    refine p_if (headK 2 _) rfl (n_tail (F := fun t r => tkK 1 r fun nm r' => (tyO r').and fun y yk r' => tkM [[59]] r' fun _ r' => .ok (at_ t 6 nm.text 0) (one y yk) r') fun t => loc_tkK 1 rfl fun nm => locE_and loc_tyO fun y yk => loc_tkM _ fun _ => loc_ok _ _) ?_
    refine p_if (headK 2 _) rfl (n_tail (F := fun t r => tkK 1 r fun nm r' => (P n .block r' m).and fun d k r' => .ok (at_ t 7 nm.text 0) (one d k) r') fun t => loc_tkK 1 rfl fun nm => locE_and (loc_P _ _ _) fun d k => loc_ok _ _) ?_
    refine p_if (headK 2 _) rfl (n_tail (F := fun t r => tkK 1 r fun nm r' => (onO r').and fun u uk r' => tkM [[123]] r' fun _ r' => P n (.lives t nm (one u uk)) r' m) fun t => loc_tkK 1 rfl fun nm => locE_and loc_onO fun u uk => loc_tkM _ fun _ => loc_P _ _ _) ?_
    refine p_if (headK 2 _) rfl (n_tail (F := fun t r => tkK 1 r fun nm r' => (onO r').and fun u uk r' => tkW [[111, 110], [111, 102, 102]] r' fun x r' => (P n .block r' m).and fun d k r' => .ok (at_ t 10 nm.text (if x.text = [111, 110] then 1 else 0)) ((one u uk).app (one d k)) r') fun t => loc_tkK 1 rfl fun nm => locE_and loc_onO fun u uk => loc_tkW _ fun x => locE_and (loc_P _ _ _) fun d k => loc_ok _ _) ?_
    exact p_tkW _ fun t => locE_and (loc_P _ _ _) fun d k => loc_ok _ _
theorem st_first (n m : Nat) : Sst fun r => P n .first r m := by
  cases n with
  | zero => simp only [P]; exact s_dry
  | succ n =>
    simp only [P]
    refine p_if (headN 3) rfl (n_tail (F := fun t r => .ok (at_ t 26 [] t.n) .nil r) fun t => loc_ok _ _) ?_
    refine p_if (headK 2 _) rfl (n_tail (F := fun t r => .ok (at_ t 27 [] 0) .nil r) fun t => loc_ok _ _) ?_
    refine p_if (headK 2 _) rfl (n_tail (F := fun t r => .ok (at_ t 28 [] 0) .nil r) fun t => loc_ok _ _) ?_
    refine p_if (headK 2 _) rfl (n_tail (F := fun t r => tkK 1 r fun nm r' => .ok (at_ t 33 nm.text 0) .nil r') fun t => loc_tkK 1 rfl fun nm => loc_ok _ _) ?_
    refine p_if (headK 2 _) rfl (n_tail (F := fun t r => (P n .block r m).and fun d k r' => .ok (at_ t 36 [] 0) (one d k) r') fun t => locE_and (loc_P _ _ _) fun d k => loc_ok _ _) ?_
    exact p_if (headK 4 _) rfl (n_ent m fun t => locE_and (loc_P _ _ _) fun d k => loc_tkM _ fun _ => loc_ok _ _) p_useO
theorem st_tight (n m : Nat) : Sst fun r => P n .tight r m := by
  cases n with
  | zero => simp only [P]; exact s_dry
  | succ n => simp only [P]; exact p_and (st_first n m) fun d k => loc_P _ _ _
theorem st_var (n m : Nat) : Sst fun r => P n .var r m := by
  cases n with
  | zero => simp only [P]; exact s_dry
  | succ n =>
    simp only [P]
    refine p_and (st_tight n m) fun d k => ?_
    by_cases h : isVarK d.kind = true
    · simp only [h, if_true]; exact loc_ok _ _
    · simp only [h]; exact loc_bad4
theorem st_stmt (n m : Nat) : Sst fun r => P n .stmt r m := by
  cases n with
  | zero => simp only [P]; exact s_dry
  | succ n =>
    have hv := st_var n m
    simp only [P]
    refine p_if (headK 2 _) rfl (n_tail (F := fun t r => tkK 1 r fun nm r' => (tyO r').and fun y yk r' => tkM [[61]] r' fun _ r' => (P n .term r' m).and fun d k r' => tkM [[59]] r' fun _ r' => .ok (at_ t 13 nm.text 0) ((one y yk).app (one d k)) r') fun t => loc_tkK 1 rfl fun nm => locE_and loc_tyO fun y yk => loc_tkM _ fun _ => locE_and (loc_P _ _ _) fun d k => loc_tkM _ fun _ => loc_ok _ _) ?_
    refine p_if (headK 2 _) rfl (n_tail (F := fun t r => (P n .term r m).and fun d k r' => tkM [[59]] r' fun _ r' => .ok (at_ t (actKind t.text) [] 0) (one d k) r') fun t => locE_and (loc_P _ _ _) fun d k => loc_tkM _ fun _ => loc_ok _ _) ?_
    refine p_if (headK 2 _) rfl (n_tail (F := fun t r => tkK 1 r fun nm r' => (P n .term r' m).and fun d k r' =>
          if seesW r' [[97, 102, 116, 101, 114]] = true then tkK 3 r'.tail fun x r' => P n (.to (at_ t 19 nm.text x.n) (one d k)) r' m
          else if seesW r' [[102, 114, 111, 110, 116]] = true then P n (.to (at_ t 19 nm.text (-1)) (one d k)) r'.tail m
          else P n (.to (at_ t 19 nm.text 0) (one d k)) r' m) fun t => loc_tkK 1 rfl fun nm => locE_and (loc_P _ _ _) fun d k =>
        locE_if (headK 2 _) rfl (loc_tail (F := fun _ r => tkK 3 r fun x r' => P n (.to (at_ t 19 nm.text x.n) (one d k)) r' m) fun _ => loc_tkK 3 rfl fun x => loc_P _ _ _)
              (locE_if (headK 2 _) rfl (loc_tail (F := fun _ r => P n (.to (at_ t 19 nm.text (-1)) (one d k)) r m) fun _ => loc_P _ _ _) (loc_P _ _ _))) ?_
    refine p_if (headK 2 _) rfl (n_tail (F := fun t r => (P n .term r m).and fun d k r' => P n (.to (at_ t 20 [] 0) (one d k)) r' m) fun t => locE_and (loc_P _ _ _) fun d k => loc_P _ _ _) ?_
    refine p_if (headK 2 _) rfl (n_tail (F := fun t r => tkK 1 r fun nm r' => tkM [[59]] r' fun _ r' => .ok (at_ t (if t.text = [100, 105, 115, 97, 98, 108, 101] then 22 else 21) nm.text 0) .nil r') fun t => loc_tkK 1 rfl fun nm => loc_tkM _ fun _ => loc_ok _ _) ?_
    refine p_if (headK 2 _) rfl (n_tail (F := fun t r => (P n .term r m).and fun d k r' => (P n .block r' m).and fun d' k' r' =>
          if seesW r' [[101, 108, 115, 101]] = true then (P n .block r'.tail m).and fun d'' k'' r' => .ok (at_ t 23 [] 0) ((one d k).app ((one d' k').app (one d'' k''))) r'
          else .ok (at_ t 23 [] 0) ((one d k).app ((one d' k').app (one (at_ t 12 [] 0) .nil))) r') fun t => locE_and (loc_P _ _ _) fun d k => locE_and (loc_P _ _ _) fun d' k' =>
        locE_if (headK 2 _) rfl (loc_tail (F := fun _ r => (P n .block r m).and fun d'' k'' r' => .ok (at_ t 23 [] 0) ((one d k).app ((one d' k').app (one d'' k''))) r') fun _ => locE_and (loc_P _ _ _) fun d'' k'' => loc_ok _ _) (loc_ok _ _)) ?_
    refine p_if (headK 2 _) rfl (n_tail (F := fun t r => (P n .term r m).and fun d k r' => (P n .block r' m).and fun d' k' r' => .ok (at_ t 24 [] 0) ((one d k).app (one d' k')) r') fun t => locE_and (loc_P _ _ _) fun d k => locE_and (loc_P _ _ _) fun d' k' => loc_ok _ _) ?_
    refine p_if (headK 2 _) rfl (n_tail (F := fun t r => tkM [[59]] r fun _ r' => .ok (at_ t 25 [] 0) .nil r') fun t => loc_tkM _ fun _ => loc_ok _ _) ?_
    exact p_head (F := fun t r => (P n .var r m).and fun d k r' => tkM [[61]] r' fun _ r' => (P n .term r' m).and fun d' k' r' => tkM [[59]] r' fun _ r' => .ok (at_ t 14 [] 0) ((one d k).app (one d' k')) r') fun t =>
        p_and hv fun d k => loc_tkM _ fun _ => locE_and (loc_P _ _ _) fun d' k' => loc_tkM _ fun _ => loc_ok _ _

def rk : Gr → Nat
  | .decls _ => 1 | .decl => 0 | .members _ _ _ => 0 | .lives _ _ _ => 0 | .block => 0 | .stmts _ _ => 5 | .stmt => 4 | .to _ _ => 0 | .var => 3
  | .term => 6 | .sum => 5 | .sumL _ _ => 0 | .product => 4 | .prodL _ _ => 0 | .unary => 3 | .tight => 2 | .tightL _ _ => 0 | .first => 1
theorem nd_and {o : Out} {g : Nd → Fo → List Tok → Out} (h : o ≠ .dry) (hg : ∀ d k r, o = .ok d k r → g d k r ≠ .dry) : o.and g ≠ .dry := by
  cases o with
  | dry => exact absurd rfl h
  | bad e r => intro h; cases h
  | ok d k r => exact hg d k r rfl
theorem nd_ite {c : Prop} [Decidable c] {a b : Out} (ha : c → a ≠ .dry) (hb : ¬ c → b ≠ .dry) : (if c then a else b) ≠ .dry := by
  by_cases h : c
  · simp only [h, if_true]; exact ha h
  · simp only [h, if_false]; exact hb h
theorem nd_tk {c : Bool} {r : List Tok} {f : Tok → List Tok → Out} (h : f (hd r) r.tail ≠ .dry) : tk c r f ≠ .dry := nd_ite (fun _ => h) fun _ h => by cases h
theorem nd_tkp {c : Bool} {r : List Tok} {f : Tok → List Tok → Out} (h : c = true → f (hd r) r.tail ≠ .dry) : tk c r f ≠ .dry := nd_ite h fun _ h => by cases h
theorem nd_ent {m : Nat} {r : List Tok} {f : Tok → List Tok → Out} (h : f (hd r) r.tail ≠ .dry) : ent m r f ≠ .dry := nd_ite (fun _ h => by cases h) fun _ => h
theorem nd_ok (d : Nd) (k : Fo) (r : List Tok) : Out.ok d k r ≠ .dry := fun h => by cases h
theorem nd_bad (e : Int) (r : List Tok) : Out.bad e r ≠ .dry := fun h => by cases h
theorem pos_k {k : Int} {r : List Tok} {l : List (List UInt8)} (hk : ((0 : Int) == k) = false) (h : seesK k r l = true) : 0 < r.length := by
  cases r with
  | nil => simp [seesK, hd, hk] at h
  | cons t r => simp
theorem pos_n {k : Int} {r : List Tok} (hk : ((0 : Int) == k) = false) (h : ((hd r).kind == k) = true) : 0 < r.length := by
  cases r with
  | nil => simp only [hd, List.headD_nil] at h; rw [hk] at h; cases h
  | cons t r => simp
theorem okl {n m : Nat} {g : Gr} {r r' : List Tok} {d : Nd} {k : Fo} (h : P n g r m = .ok d k r') : r'.length ≤ r.length := suf_len ((loc_P n g m).okS _ _ _ _ h)
theorem tl (r : List Tok) : r.tail.length = r.length - 1 := List.length_tail
theorem tyl {r r' : List Tok} {d : Nd} {k : Fo} (h : tyO r = .ok d k r') : r'.length ≤ r.length := suf_len (loc_tyO.okS _ _ _ _ h)
theorem onl {r r' : List Tok} {d : Nd} {k : Fo} (h : onO r = .ok d k r') : r'.length ≤ r.length := suf_len (loc_onO.okS _ _ _ _ h)
theorem nd_ty (r : List Tok) : tyO r ≠ .dry := nd_tk (nd_ok _ _ _)
theorem nd_use (r : List Tok) : useO r ≠ .dry := by unfold useO tkK; exact nd_tk (nd_ok _ _ _)
theorem nd_on (r : List Tok) : onO r ≠ .dry := by unfold onO tkW; exact nd_tk (nd_use _)
theorem nd_mem (r : List Tok) : memO r ≠ .dry := by
  unfold memO tkK tkM
  exact nd_tk (nd_and (nd_ty _) fun _ _ _ _ => nd_tk (nd_ok _ _ _))

theorem fuel : ∀ (n : Nat) (g : Gr) (r : List Tok) (m : Nat), 16 * r.length + rk g < n → P n g r m ≠ .dry
  | 0, _, _, _, h => absurd h (Nat.not_lt_zero _)
  | n + 1, g, r, m, h => by
    have ih := fun (g' : Gr) (r' : List Tok) (m' : Nat) (h' : 16 * r'.length + rk g' < n) => fuel n g' r' m' h'
    have h2 : 16 * r.length + rk g ≤ n := by omega
    clear h
    have ht := tl r
    have htt : ∀ r' : List Tok, r'.tail.length ≤ r'.length := fun r' => by rw [tl]; omega
    cases g with
    | decls acc =>
      simp only [P, rk] at h2 ⊢
      refine nd_ite (fun _ => nd_ok _ _ _) fun hr => nd_and (ih _ _ _ (by simp only [rk]; omega)) fun d k r' hk => ih _ _ _ ?_
      have := st_decl n m r d k r' hk
      simp only [rk]; omega
    | decl =>
      simp only [P, rk] at h2 ⊢
      refine nd_ite (fun hc => ?_) fun _ => ?_
      · exact nd_tk (nd_tk (nd_ok _ _ _))
      refine nd_ite (fun hc => ?_) fun _ => ?_
      · have hp := pos_k rfl hc
        have h3 := htt r.tail
        have h4 := htt r.tail.tail
        exact nd_tk (nd_tk (ih _ _ _ (by simp only [rk]; omega)))
      refine nd_ite (fun hc => ?_) fun _ => ?_
      · exact nd_tk (nd_and (nd_ty _) fun _ _ _ _ => nd_tk (nd_ok _ _ _))
      refine nd_ite (fun hc => ?_) fun _ => ?_
      · have hp := pos_k rfl hc
        have h3 := htt r.tail
        exact nd_tk (nd_and (ih _ _ _ (by simp only [rk]; omega)) fun _ _ _ _ => nd_ok _ _ _)
      refine nd_ite (fun hc => ?_) fun _ => ?_
      · have hp := pos_k rfl hc
        have h3 := htt r.tail
        refine nd_tk (nd_and (nd_on _) fun d k r' hk => nd_tk (ih _ _ _ ?_))
        have h4 := onl hk
        have h5 := htt r'
        simp only [rk]; omega
      refine nd_ite (fun hc => ?_) fun _ => ?_
      · have hp := pos_k rfl hc
        have h3 := htt r.tail
        refine nd_tk (nd_and (nd_on _) fun d k r' hk => nd_tk (nd_and (ih _ _ _ ?_) fun _ _ _ _ => nd_ok _ _ _))
        have h4 := onl hk
        have h5 := htt r'
        simp only [rk]; omega
      refine nd_tkp fun hc => ?_
      have hp := pos_k rfl hc
      exact nd_and (ih _ _ _ (by simp only [rk]; omega)) fun _ _ _ _ => nd_ok _ _ _
    | members t nm acc =>
      simp only [P, rk] at h2 ⊢
      refine nd_ite (fun _ => nd_ok _ _ _) fun _ => nd_and (nd_mem _) fun d k r' hk => ih _ _ _ ?_
      have := p_memO r d k r' hk
      simp only [rk]; omega
    | lives t nm acc =>
      simp only [P, rk] at h2 ⊢
      refine nd_ite (fun _ => nd_ok _ _ _) fun _ => nd_and ?_ fun d k r' hk => ih _ _ _ ?_
      · unfold lifeO tkW
        refine nd_tkp fun hc => ?_
        have hp := pos_k rfl hc
        exact nd_and (ih _ _ _ (by simp only [rk]; omega)) fun _ _ _ _ => nd_ok _ _ _
      · have := p_lifeO (loc_P n .block m) r d k r' hk
        simp only [rk]; omega
    | block =>
      simp only [P, rk] at h2 ⊢
      refine nd_ite (fun hc => ?_) fun _ => nd_bad _ _
      have hp := pos_k rfl hc
      exact nd_ent (ih _ _ _ (by simp only [rk]; omega))
    | stmts t acc =>
      simp only [P, rk] at h2 ⊢
      refine nd_ite (fun _ => nd_ok _ _ _) fun _ => nd_and (ih _ _ _ (by simp only [rk]; omega)) fun d k r' hk => ih _ _ _ ?_
      have := st_stmt n m r d k r' hk
      simp only [rk]; omega
    | stmt =>
      simp only [P, rk] at h2 ⊢
      have h3 := htt r.tail
      refine nd_ite (fun hc => ?_) fun _ => ?_
      · have hp := pos_k rfl hc
        refine nd_tk (nd_and (nd_ty _) fun d k r' hk => nd_tk (nd_and (ih _ _ _ ?_) fun _ _ _ _ => nd_tk (nd_ok _ _ _)))
        have h4 := tyl hk
        have h5 := htt r'
        simp only [rk]; omega
      refine nd_ite (fun hc => ?_) fun _ => ?_
      · have hp := pos_k rfl hc
        exact nd_and (ih _ _ _ (by simp only [rk]; omega)) fun _ _ _ _ => nd_tk (nd_ok _ _ _)
      refine nd_ite (fun hc => ?_) fun _ => ?_
      · have hp := pos_k rfl hc
        refine nd_tk (nd_and (ih _ _ _ (by simp only [rk]; omega)) fun d k r' hk => ?_)
        have h4 := okl hk
        have h5 := htt r'
        have h6 := htt r'.tail
        refine nd_ite (fun _ => nd_tk (ih _ _ _ (by simp only [rk]; omega))) fun _ => nd_ite (fun _ => ih _ _ _ (by simp only [rk]; omega)) fun _ => ih _ _ _ (by simp only [rk]; omega)
      refine nd_ite (fun hc => ?_) fun _ => ?_
      · have hp := pos_k rfl hc
        refine nd_and (ih _ _ _ (by simp only [rk]; omega)) fun d k r' hk => ih _ _ _ ?_
        have h4 := okl hk
        simp only [rk]; omega
      refine nd_ite (fun hc => ?_) fun _ => ?_
      · exact nd_tk (nd_tk (nd_ok _ _ _))
      refine nd_ite (fun hc => ?_) fun _ => ?_
      · have hp := pos_k rfl hc
        refine nd_and (ih _ _ _ (by simp only [rk]; omega)) fun d k r' hk => ?_
        have h4 := okl hk
        refine nd_and (ih _ _ _ (by simp only [rk]; omega)) fun d' k' r'' hk' => ?_
        have h5 := okl hk'
        have h6 := htt r''
        exact nd_ite (fun _ => nd_and (ih _ _ _ (by simp only [rk]; omega)) fun _ _ _ _ => nd_ok _ _ _) fun _ => nd_ok _ _ _
      refine nd_ite (fun hc => ?_) fun _ => ?_
      · have hp := pos_k rfl hc
        refine nd_and (ih _ _ _ (by simp only [rk]; omega)) fun d k r' hk => ?_
        have h4 := okl hk
        exact nd_and (ih _ _ _ (by simp only [rk]; omega)) fun _ _ _ _ => nd_ok _ _ _
      refine nd_ite (fun hc => ?_) fun _ => ?_
      · exact nd_tk (nd_ok _ _ _)
      refine nd_and (ih _ _ _ (by simp only [rk]; omega)) fun d k r' hk => nd_tk (nd_and (ih _ _ _ ?_) fun _ _ _ _ => nd_tk (nd_ok _ _ _))
      have h4 := st_var n m r d k r' hk
      have h5 := htt r'
      simp only [rk]; omega
    | var =>
      simp only [P, rk] at h2 ⊢
      exact nd_and (ih _ _ _ (by simp only [rk]; omega)) fun _ _ _ _ => nd_ite (fun _ => nd_ok _ _ _) fun _ => nd_bad _ _
    | term =>
      simp only [P, rk] at h2 ⊢
      refine nd_and (ih _ _ _ (by simp only [rk]; omega)) fun d k r' hk => nd_ite (fun hc => ?_) fun _ => nd_ok _ _ _
      have hp := pos_k rfl hc
      have h4 := okl hk
      have h5 := tl r'
      exact nd_and (ih _ _ _ (by simp only [rk]; omega)) fun _ _ _ _ => nd_ok _ _ _
    | sum =>
      simp only [P, rk] at h2 ⊢
      refine nd_and (ih _ _ _ (by simp only [rk]; omega)) fun d k r' hk => ih _ _ _ ?_
      have h4 := okl hk
      simp only [rk]; omega
    | sumL d k =>
      simp only [P, rk] at h2 ⊢
      refine nd_ite (fun hc => ?_) fun _ => nd_ok _ _ _
      have hp := pos_k rfl hc
      refine nd_and (ih _ _ _ (by simp only [rk]; omega)) fun d k r' hk => ih _ _ _ ?_
      have h4 := okl hk
      simp only [rk]; omega
    | product =>
      simp only [P, rk] at h2 ⊢
      refine nd_and (ih _ _ _ (by simp only [rk]; omega)) fun d k r' hk => ih _ _ _ ?_
      have h4 := okl hk
      simp only [rk]; omega
    | prodL d k =>
      simp only [P, rk] at h2 ⊢
      refine nd_ite (fun hc => ?_) fun _ => nd_ok _ _ _
      have hp := pos_k rfl hc
      refine nd_and (ih _ _ _ (by simp only [rk]; omega)) fun d k r' hk => ih _ _ _ ?_
      have h4 := okl hk
      simp only [rk]; omega
    | unary =>
      simp only [P, rk] at h2 ⊢
      refine nd_ite (fun hc => ?_) fun _ => ih _ _ _ (by simp only [rk]; omega)
      have hp := pos_k rfl hc
      exact nd_ent (nd_and (ih _ _ _ (by simp only [rk]; omega)) fun _ _ _ _ => nd_ok _ _ _)
    | tight =>
      simp only [P, rk] at h2 ⊢
      refine nd_and (ih _ _ _ (by simp only [rk]; omega)) fun d k r' hk => ih _ _ _ ?_
      have h4 := okl hk
      simp only [rk]; omega
    | tightL d k =>
      simp only [P, rk] at h2 ⊢
      have h3 := htt r.tail
      refine nd_ite (fun hc => ?_) fun _ => nd_ite (fun hc => ?_) fun _ => nd_ok _ _ _
      · have hp := pos_k rfl hc
        exact nd_tk (ih _ _ _ (by simp only [rk]; omega))
      · have hp := pos_k rfl hc
        refine nd_ent (nd_and (ih _ _ _ (by simp only [rk]; omega)) fun d k r' hk => nd_tk (ih _ _ _ ?_))
        have h4 := okl hk
        have h5 := htt r'
        simp only [rk]; omega
    | first =>
      simp only [P, rk] at h2 ⊢
      refine nd_ite (fun _ => nd_ok _ _ _) fun _ => nd_ite (fun _ => nd_ok _ _ _) fun _ => nd_ite (fun _ => nd_ok _ _ _) fun _ => nd_ite (fun _ => nd_tk (nd_ok _ _ _)) fun _ => nd_ite (fun hc => ?_) fun _ => nd_ite (fun hc => ?_) fun _ => nd_use _
      · have hp := pos_k rfl hc
        exact nd_and (ih _ _ _ (by simp only [rk]; omega)) fun _ _ _ _ => nd_ok _ _ _
      · have hp := pos_k rfl hc
        exact nd_ent (nd_and (ih _ _ _ (by simp only [rk]; omega)) fun _ _ _ _ => nd_tk (nd_ok _ _ _))
    | _ =>
      rename_i d acc
      simp only [P, rk] at h2 ⊢
      refine nd_ite (fun hc => ?_) fun _ => nd_tk (nd_ok _ _ _)
      have hp := pos_k rfl hc
      exact nd_and (ih _ _ _ (by simp only [rk]; omega)) fun _ _ _ _ => nd_tk (nd_ok _ _ _)

/-- What the grammar says of tokens. -/
def PT (T : List Tok) : Out := P (16 * T.length + 2) (.decls .nil) T 0
theorem PT_nd (T : List Tok) : PT T ≠ .dry := fuel _ _ _ _ (by simp only [rk]; omega)
theorem PT_of {n : Nat} {T : List Tok} (h : P n (.decls .nil) T 0 ≠ .dry) : P n (.decls .nil) T 0 = PT T := P_same h (PT_nd T)
/-- An error stands where the tokens from there on do. -/
theorem PT_suf {T : List Tok} {e : Int} {r : List Tok} (h : PT T = .bad e r) : r <:+ T := (loc_P _ _ _).badS _ _ _ h
/-- What stands behind the token that is wrong does not matter. -/
theorem PT_behind {x y z r : List Tok} {e : Int} (hr : r ≠ []) (h : PT (x ++ (r ++ y)) = .bad e (r ++ y)) : PT (x ++ (r ++ z)) = .bad e (r ++ z) := by
  rw [← List.append_assoc] at h ⊢
  have hl : y.length < (r ++ y).length := by
    cases r with
    | nil => exact absurd rfl hr
    | cons t r => simp; omega
  have hy := P_more (PT_nd ((x ++ r) ++ y)) (16 * ((x ++ r) ++ z).length + 2)
  have hb := (loc_P (16 * ((x ++ r) ++ y).length + 2 + (16 * ((x ++ r) ++ z).length + 2)) (.decls .nil) 0).bad (x ++ r) y z e (r ++ y) (hy.trans h) hl
  rw [swap_app] at hb
  rw [← PT_of (by rw [hb]; intro h; cases h), hb]
/-- What stands ahead of it is the beginning of some program. -/
theorem PT_ahead {x r : List Tok} {e : Int} (h : PT (x ++ r) = .bad e r) : (∃ d k s, PT x = .ok d k s) ∨ PT x = .bad 4 [] := by
  cases hx : PT x with
  | dry => exact absurd hx (PT_nd x)
  | ok d k s => exact .inl ⟨d, k, s, rfl⟩
  | bad e' s =>
    by_cases hs : s = []
    · subst hs
      by_cases hxe : x = []
      · subst hxe
        have h1 : PT [] = .ok ⟨1, [], 0, 1, 1⟩ .nil [] := rfl
        rw [h1] at hx; cases hx
      · rw [(loc_P _ _ _).four _ _ hx hxe]; exact .inr rfl
    · exfalso
      obtain ⟨p, rfl⟩ := PT_suf hx
      have h2 : PT (p ++ (s ++ [])) = .bad e' (s ++ []) := by simpa using hx
      have h3 := PT_behind (z := r) hs h2
      rw [← List.append_assoc, h] at h3
      injection h3 with _ h3
      have h4 := congrArg List.length h3
      rw [List.length_append] at h4
      exact hs (List.eq_nil_of_length_eq_zero (by omega))
end Go.Proofs.YtehdljcmeimbcaaGreat
