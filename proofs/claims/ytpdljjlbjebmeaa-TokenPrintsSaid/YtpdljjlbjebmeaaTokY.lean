/- Texts of tokens, one after another: what is read of them. -/
import Derived.Test.YtpdljjlbjebmeaaTokN
import Derived.Test.YtpdljjlbjebmeaaTokM
namespace Go.Proofs.Ytpdljjlbjebmeaa
open Go.RowKit

def Tok.core (t : Tok) : Int × List UInt8 × Int := (t.kind, t.text, t.n)
def J (l : List UInt8) : List (Int × List UInt8 × Int) := (toks l (nxt l 0)).map Tok.core
def E (l : List UInt8) : List Int := (dgs l (nxt l 0)).map Dg.err

theorem drop_pre (p x : List UInt8) (a : Nat) : (p ++ x).drop (p.length + a) = x.drop a := by
  rw [List.drop_append]; simp
theorem chr_pre (p x : List UInt8) (a : Nat) : chr (p ++ x) (p.length + a) = chr x a := by
  unfold chr; rw [List.getElem?_append_right (by omega)]; simp
theorem nxt_pre (p x : List UInt8) (a : Nat) : nxt (p ++ x) (p.length + a) = p.length + nxt x a := by
  unfold nxt; rw [drop_pre]; omega
theorem kindA_pre (p x : List UInt8) (a : Nat) : kindA (p ++ x) (p.length + a) = kindA x a := by
  unfold kindA; rw [chr_pre]
theorem endA_pre (p x : List UInt8) (a : Nat) : endA (p ++ x) (p.length + a) = p.length + endA x a := by
  unfold endA endT ends
  rw [kindA_pre, drop_pre, show p.length + a + 1 = p.length + (a + 1) by omega, drop_pre]
  split
  · rfl
  · split <;> omega
theorem textA_pre (p x : List UInt8) (a : Nat) : textA (p ++ x) (p.length + a) = textA x a := by
  unfold textA; rw [drop_pre, endA_pre]; congr 1; omega
theorem core_pre (p x : List UInt8) (a : Nat) : (tokA (p ++ x) (p.length + a)).core = (tokA x a).core := by
  unfold tokA Tok.core; rw [kindA_pre, textA_pre]
theorem errA_pre (p x : List UInt8) (a : Nat) : errA (p ++ x) (p.length + a) = errA x a := by
  unfold errA; rw [kindA_pre, textA_pre]

theorem toks_pre : ∀ (n : Nat) (p x : List UInt8) (a : Nat), x.length - a ≤ n → (toks (p ++ x) (p.length + a)).map Tok.core = (toks x a).map Tok.core
  | 0, p, x, a, hn => by rw [toks_end x a (by omega), toks_end (p ++ x) _ (by simp; omega)]
  | n + 1, p, x, a, hn => by
    by_cases ha : a < x.length
    · have ha' : p.length + a < (p ++ x).length := by simp; omega
      have h1 := endA_gt x a
      have h2 := nxt_ge x (endA x a)
      have ih := toks_pre n p x (nxt x (endA x a)) (by omega)
      rw [← nxt_pre, ← endA_pre] at ih
      by_cases hk : kindA x a = 0
      · rw [toks_skip x a ha hk, toks_skip (p ++ x) _ ha' ((kindA_pre p x a).trans hk), ih]
      · rw [toks_one x a ha hk, toks_one (p ++ x) _ ha' (by rw [kindA_pre]; exact hk), List.map_cons, List.map_cons, ih, core_pre]
    · rw [toks_end x a ha, toks_end (p ++ x) _ (by simp; omega)]
theorem dgs_pre : ∀ (n : Nat) (p x : List UInt8) (a : Nat), x.length - a ≤ n → (dgs (p ++ x) (p.length + a)).map Dg.err = (dgs x a).map Dg.err
  | 0, p, x, a, hn => by rw [dgs_end x a (by omega), dgs_end (p ++ x) _ (by simp; omega)]
  | n + 1, p, x, a, hn => by
    by_cases ha : a < x.length
    · have ha' : p.length + a < (p ++ x).length := by simp; omega
      have h1 := endA_gt x a
      have h2 := nxt_ge x (endA x a)
      have ih := dgs_pre n p x (nxt x (endA x a)) (by omega)
      rw [← nxt_pre, ← endA_pre] at ih
      by_cases hk : errA x a = 0
      · rw [dgs_skip x a ha hk, dgs_skip (p ++ x) _ ha' ((errA_pre p x a).trans hk), ih]
      · rw [dgs_one x a ha hk, dgs_one (p ++ x) _ ha' (by rw [errA_pre]; exact hk), List.map_cons, List.map_cons, ih]
        simp only [dgA, errA_pre]
    · rw [dgs_end x a ha, dgs_end (p ++ x) _ (by simp; omega)]

/-- What is passed over ahead of a text changes nothing. -/
theorem J_skip (p x : List UInt8) (h : nxt (p ++ x) 0 = p.length + nxt x 0) : J (p ++ x) = J x ∧ E (p ++ x) = E x := by
  unfold J E
  rw [h]
  exact ⟨toks_pre _ p x _ (Nat.le_refl _), dgs_pre _ p x _ (Nat.le_refl _)⟩

/-- A byte at which every token ends. -/
def stopC (c : UInt8) : Bool := [32, 9, 10, 13, 35].contains c
theorem stop_goes (c : UInt8) (h : stopC c = true) (k : Int) : goes k (c.toNat : Int) = false := by
  simp [stopC] at h
  rcases h with rfl | rfl | rfl | rfl | rfl <;> (unfold goes; split; decide; split <;> decide)
theorem stop_ne (c : UInt8) (h : stopC c = true) : c ≠ 61 := by
  intro e; subst e; exact absurd h (by decide)

theorem run_to (k : Int) (c : UInt8) (r : List UInt8) (hc : goes k (c.toNat : Int) = false) : ∀ b : List UInt8, run k b = b.length → run k (b ++ c :: r) = b.length
  | [], _ => by simp [run, hc]
  | x :: b, h => by
    simp only [run] at h
    split at h
    · rename_i hx
      simp only [List.cons_append, run, hx, if_true, List.length_cons]
      rw [run_to k c r hc b (by simp at h; omega)]
    · simp at h

/-- A text that is one token and no more. -/
def One (t : Tok) : Prop := ∃ τ : Tok, toks t.text (nxt t.text 0) = [τ] ∧ dgs t.text (nxt t.text 0) = [] ∧ τ.core = t.core

theorem One.all {t : Tok} (h : One t) : 0 < t.text.length ∧ nxt t.text 0 = 0 ∧ ¬ kindA t.text 0 = 0 ∧ endA t.text 0 = t.text.length ∧ (tokA t.text 0).core = t.core ∧ errA t.text 0 = 0 := by
  obtain ⟨τ, h1, h2, h3⟩ := h
  obtain ⟨q, hq1, hq2, rfl⟩ := toks_head _ _ _ _ _ (Nat.le_refl _) h1
  have ht : textA t.text q = t.text := congrArg (fun x => x.2.1) h3
  have hl := textA_len t.text q hq2
  have hle := endA_le t.text q hq2
  rw [ht] at hl
  have hq : q = 0 := by omega
  subst hq
  have hn : nxt t.text 0 = 0 := by omega
  rw [hn] at h1 h2
  have hk : ¬ kindA t.text 0 = 0 := by
    intro hk
    have he : endA t.text 0 = 1 := by simp [endA, hk]
    rw [toks_skip t.text 0 hq2 hk, toks_end _ _ (by have := nxt_ge t.text (endA t.text 0); omega)] at h1
    cases h1
  refine ⟨hq2, hn, hk, by omega, h3, ?_⟩
  by_cases he : errA t.text 0 = 0
  · exact he
  · rw [dgs_one t.text 0 hq2 he] at h2; cases h2

theorem One.end_ {t : Tok} (h : One t) (c : UInt8) (r : List UInt8) (hc : stopC c = true) : endA (t.text ++ c :: r) 0 = t.text.length := by
  obtain ⟨h0, _, hk, he, _, _⟩ := h.all
  have hk' := kindA_app t.text (c :: r) 0 h0
  unfold endA at he ⊢
  rw [hk', if_neg hk]
  rw [if_neg hk] at he
  unfold endT at he ⊢
  rw [List.drop_zero] at he ⊢
  by_cases hp : pre2 t.text = true
  · have hl := pre2_len _ hp
    rw [if_pos hp] at he
    rw [pre2_app _ _ hl, if_pos hp, he]
  · rw [if_neg hp] at he
    have hp' : ¬ pre2 (t.text ++ c :: r) = true := by
      rcases Nat.lt_or_ge t.text.length 2 with h2 | h2
      · match hx : t.text, h0, h2 with
        | [x], _, _ =>
          simp [pre2]
          intro _
          exact stop_ne c hc
      · rw [pre2_app _ _ h2]; exact hp
    rw [if_neg hp']
    unfold ends at he ⊢
    rw [List.drop_append_of_le_length (by omega), run_to _ c r (stop_goes c hc _) (t.text.drop 1) (by rw [List.length_drop]; rw [Nat.zero_add] at he; omega), List.length_drop]
    omega

theorem One.more {t : Tok} (h : One t) (c : UInt8) (r : List UInt8) (hc : stopC c = true) : J (t.text ++ c :: r) = t.core :: J (c :: r) ∧ E (t.text ++ c :: r) = E (c :: r) := by
  obtain ⟨h0, hn, hk, he, hcore, herr⟩ := h.all
  have he' := h.end_ c r hc
  have hk' := kindA_app t.text (c :: r) 0 h0
  have hn' : nxt (t.text ++ c :: r) 0 = 0 := by
    rw [nxt_app t.text (c :: r) 0 (by omega) (by omega), hn]
  have ht : textA (t.text ++ c :: r) 0 = textA t.text 0 := by
    unfold textA
    rw [he', he]
    simp
  have hlen : 0 < (t.text ++ c :: r).length := by simp; omega
  have hnx := nxt_pre t.text (c :: r) 0
  rw [Nat.add_zero] at hnx
  unfold J E
  rw [hn', toks_one _ 0 hlen (by rw [hk']; exact hk), dgs_skip _ 0 hlen (by unfold errA at herr ⊢; rw [hk', ht]; exact herr), he', hnx]
  refine ⟨?_, dgs_pre _ _ _ _ (Nat.le_refl _)⟩
  rw [List.map_cons, toks_pre _ _ _ _ (Nat.le_refl _)]
  congr 1
  rw [← hcore]
  unfold tokA Tok.core
  rw [hk', ht]

theorem One.last {t : Tok} (h : One t) : J t.text = [t.core] ∧ E t.text = [] := by
  obtain ⟨τ, h1, h2, h3⟩ := h
  unfold J E
  rw [h1, h2]
  simp [h3]

theorem J_blank (c : UInt8) (r : List UInt8) (hc : [32, 9, 10, 13].contains c = true) : J (c :: r) = J r ∧ E (c :: r) = E r := by
  have := J_skip [c] r (by
    have h0 : chr ([c] ++ r) 0 = (c.toNat : Int) := rfl
    rw [nxt_blank ([c] ++ r) 0 (by simp) (by rw [h0]; simp at hc; rcases hc with rfl | rfl | rfl | rfl <;> decide) (by rw [h0]; simp at hc; rcases hc with rfl | rfl | rfl | rfl <;> decide)]
    exact nxt_pre [c] r 0)
  exact this

theorem J_nil : J [] = [] ∧ E [] = [] := ⟨rfl, rfl⟩

/-- The printed text. -/
def more (T : List Tok) : List UInt8 := T.flatMap fun t => 32 :: t.text
def pr : List Tok → List UInt8
  | [] => []
  | t :: r => t.text ++ more r
def prn (T : List Tok) : List UInt8 := if T = [] then [] else pr T ++ [10]
theorem pr_snoc (T : List Tok) (t : Tok) : pr (T ++ [t]) = (if 0 < T.length then pr T ++ [32] else pr T) ++ t.text := by
  cases T with
  | nil => simp [pr, more]
  | cons a r => simp [pr, more]

theorem more_ok : ∀ (T : List Tok), (∀ t ∈ T, One t) → J (more T ++ [10]) = T.map Tok.core ∧ E (more T ++ [10]) = []
  | [], _ => by
    have := J_blank 10 [] (by decide)
    exact ⟨this.1, this.2⟩
  | t :: r, h => by
    have ih := more_ok r (fun x hx => h x (List.mem_cons_of_mem _ hx))
    have h1 := h t List.mem_cons_self
    have e1 : more (t :: r) ++ [10] = 32 :: (t.text ++ (more r ++ [10])) := by simp [more]
    obtain ⟨c, x, hcx, hc⟩ : ∃ c x, more r ++ [10] = c :: x ∧ stopC c = true := by
      cases r with
      | nil => exact ⟨10, [], rfl, by decide⟩
      | cons a s => exact ⟨32, a.text ++ (more s ++ [10]), by simp [more], by decide⟩
    have hb := J_blank 32 (t.text ++ (more r ++ [10])) (by decide)
    rw [e1, hb.1, hb.2]
    rw [hcx] at ih ⊢
    have := h1.more c x hc
    rw [this.1, this.2, ih.1, ih.2]
    exact ⟨rfl, rfl⟩

theorem prn_ok (T : List Tok) (h : ∀ t ∈ T, One t) : J (prn T) = T.map Tok.core ∧ E (prn T) = [] := by
  cases T with
  | nil => exact J_nil
  | cons t r =>
    have h1 := h t List.mem_cons_self
    have e1 : prn (t :: r) = t.text ++ (more r ++ [10]) := by simp [prn, pr]
    have ih := more_ok r (fun x hx => h x (List.mem_cons_of_mem _ hx))
    obtain ⟨c, x, hcx, hc⟩ : ∃ c x, more r ++ [10] = c :: x ∧ stopC c = true := by
      cases r with
      | nil => exact ⟨10, [], rfl, by decide⟩
      | cons a s => exact ⟨32, a.text ++ (more s ++ [10]), by simp [more], by decide⟩
    rw [e1]
    rw [hcx] at ih ⊢
    have := h1.more c x hc
    rw [this.1, this.2, ih.1, ih.2]
    exact ⟨rfl, rfl⟩

/-- What may stand between: blanks, or a comment of blanks. -/
def gapB (g : List UInt8) : Prop := ∀ i, i < g.length → (chr g i = 32 ∨ chr g i = 9 ∨ chr g i = 13 ∨ chr g i = 10 ∨ (i = 0 ∧ chr g i = 35))
def wide (g : List UInt8) (T : List Tok) : List UInt8 := T.flatMap fun t => g ++ 10 :: t.text
theorem wide_snoc (g : List UInt8) (T : List Tok) (t : Tok) : wide g (T ++ [t]) = wide g T ++ g ++ [10] ++ t.text := by simp [wide]

theorem nx_blanks : ∀ (g x : List UInt8), (∀ c ∈ g, [32, 9, 10, 13].contains c = true) → nx true (g ++ 10 :: x) = g.length + 1 + nx false x ∧ nx false (g ++ 10 :: x) = g.length + 1 + nx false x
  | [], x, _ => by
    have e1 : isB 10 = true := by decide
    constructor
    · simp [nx]; omega
    · simp [nx, e1]; omega
  | c :: g, x, h => by
    have ih := nx_blanks g x (fun y hy => h y (List.mem_cons_of_mem _ hy))
    have hc := h c List.mem_cons_self
    have hb : isB (c.toNat : Int) = true := by simp at hc; rcases hc with rfl | rfl | rfl | rfl <;> decide
    have h35 : ¬ (c.toNat : Int) = 35 := by simp at hc; rcases hc with rfl | rfl | rfl | rfl <;> decide
    simp only [List.cons_append, nx, List.length_cons, if_neg h35, if_pos hb]
    rw [ih.1, ih.2]
    refine ⟨?_, by omega⟩
    split <;> omega

theorem gap_skip (g x : List UInt8) (h : gapB g) : J (g ++ 10 :: x) = J x ∧ E (g ++ 10 :: x) = E x := by
  have hap : g ++ 10 :: x = (g ++ [10]) ++ x := by simp
  rw [hap]
  refine J_skip (g ++ [10]) x ?_
  rw [← hap]
  unfold nxt
  rw [List.drop_zero, List.drop_zero]
  have key : ∀ (y : List UInt8), (∀ i, i < y.length → (chr y i = 32 ∨ chr y i = 9 ∨ chr y i = 13 ∨ chr y i = 10)) → ∀ c ∈ y, [32, 9, 10, 13].contains c = true := by
    intro y hy c hc
    obtain ⟨i, hi, rfl⟩ := List.mem_iff_getElem.1 hc
    have h1 := hy i hi
    unfold chr at h1
    rw [List.getElem?_eq_getElem hi] at h1
    simp only [Option.getD_some] at h1
    generalize y[i] = c at h1
    have e : ∀ n : Nat, n < 256 → (c.toNat : Int) = n → c = UInt8.ofNat n := by
      intro n hn h2
      apply UInt8.toNat_inj.1
      simp
      omega
    rcases h1 with h1 | h1 | h1 | h1
    · rw [e 32 (by omega) h1]; decide
    · rw [e 9 (by omega) h1]; decide
    · rw [e 13 (by omega) h1]; decide
    · rw [e 10 (by omega) h1]; decide
  cases g with
  | nil =>
    have := (nx_blanks [] x (by simp)).2
    simp at this ⊢
    omega
  | cons c y =>
    have hy := key y (fun i hi => by
      have h1 := h (i + 1) (by simp; omega)
      have h2 : chr (c :: y) (i + 1) = chr y i := by simp [chr]
      rw [h2] at h1
      omega)
    have h0 := h 0 (by simp)
    have e0 : chr (c :: y) 0 = (c.toNat : Int) := rfl
    rw [e0] at h0
    have hn := nx_blanks y x hy
    simp only [List.cons_append, nx]
    by_cases h35 : (c.toNat : Int) = 35
    · rw [if_pos h35, hn.1]; simp; omega
    · have hb : isB (c.toNat : Int) = true := by
        rcases h0 with h0 | h0 | h0 | h0 | ⟨_, h0⟩
        · rw [h0]; decide
        · rw [h0]; decide
        · rw [h0]; decide
        · rw [h0]; decide
        · exact absurd h0 h35
      rw [if_neg h35, if_pos hb, hn.2]; simp; omega

theorem gap_head (g x : List UInt8) (h : gapB g) : ∃ c y, g ++ 10 :: x = c :: y ∧ stopC c = true := by
  cases g with
  | nil => exact ⟨10, x, rfl, by decide⟩
  | cons c y =>
    refine ⟨c, y ++ 10 :: x, rfl, ?_⟩
    have h0 := h 0 (by simp)
    have e0 : chr (c :: y) 0 = (c.toNat : Int) := rfl
    rw [e0] at h0
    have e : ∀ n : Nat, n < 256 → (c.toNat : Int) = n → c = UInt8.ofNat n := by
      intro n hn h2
      apply UInt8.toNat_inj.1
      simp
      omega
    rcases h0 with h1 | h1 | h1 | h1 | ⟨_, h1⟩
    · rw [e 32 (by omega) h1]; decide
    · rw [e 9 (by omega) h1]; decide
    · rw [e 13 (by omega) h1]; decide
    · rw [e 10 (by omega) h1]; decide
    · rw [e 35 (by omega) h1]; decide

theorem wide_ok (g : List UInt8) (hg : gapB g) : ∀ (T : List Tok), (∀ t ∈ T, One t) → J (wide g T) = T.map Tok.core ∧ E (wide g T) = []
  | [], _ => J_nil
  | t :: r, h => by
    have ih := wide_ok g hg r (fun x hx => h x (List.mem_cons_of_mem _ hx))
    have h1 := h t List.mem_cons_self
    have e1 : wide g (t :: r) = g ++ 10 :: (t.text ++ wide g r) := by simp [wide]
    have hs := gap_skip g (t.text ++ wide g r) hg
    rw [e1, hs.1, hs.2]
    cases hr : r with
    | nil =>
      have := h1.last
      simpa [wide] using this
    | cons a s =>
      have e2 : wide g (a :: s) = g ++ 10 :: (a.text ++ wide g s) := by simp [wide]
      obtain ⟨c, y, hcy, hc⟩ := gap_head g (a.text ++ wide g s) hg
      rw [hr, e2, hcy] at ih
      rw [e2, hcy]
      have := h1.more c y hc
      rw [this.1, this.2, ih.1, ih.2]
      exact ⟨rfl, rfl⟩

theorem core_len {l : List UInt8} {T : List Tok} (h : J l = T.map Tok.core) : (toks l (nxt l 0)).length = T.length := by
  have := congrArg List.length h
  simpa [J] using this
theorem core_at {l : List UInt8} {T : List Tok} (h : J l = T.map Tok.core) (i : Nat) (t : Tok) (hi : T[i]? = some t) : ∃ τ, (toks l (nxt l 0))[i]? = some τ ∧ τ.kind = t.kind ∧ τ.text = t.text ∧ τ.n = t.n := by
  have h1 : (J l)[i]? = some t.core := by rw [h, List.getElem?_map, hi]; rfl
  unfold J at h1
  rw [List.getElem?_map] at h1
  cases hx : (toks l (nxt l 0))[i]? with
  | none => rw [hx] at h1; cases h1
  | some τ =>
    rw [hx] at h1
    simp only [Option.map_some, Option.some.injEq, Tok.core, Prod.mk.injEq] at h1
    exact ⟨τ, rfl, h1.1, h1.2.1, h1.2.2⟩
theorem err_nil {l : List UInt8} (h : E l = []) : dgs l (nxt l 0) = [] := by
  simpa [E] using h
theorem wide_len (g : List UInt8) : ∀ T : List Tok, (∀ t ∈ T, t.text.length ≤ 40) → (wide g T).length ≤ T.length * (g.length + 41)
  | [], _ => by simp [wide]
  | t :: r, h => by
    have ih := wide_len g r (fun x hx => h x (List.mem_cons_of_mem _ hx))
    have h1 := h t List.mem_cons_self
    have e1 : wide g (t :: r) = g ++ 10 :: (t.text ++ wide g r) := by simp [wide]
    rw [e1, List.length_append, List.length_cons, List.length_append, List.length_cons, Nat.add_mul]
    omega
theorem more_len : ∀ T : List Tok, (∀ t ∈ T, t.text.length ≤ 40) → (more T).length ≤ T.length * 41
  | [], _ => by simp [more]
  | t :: r, h => by
    have ih := more_len r (fun x hx => h x (List.mem_cons_of_mem _ hx))
    have h1 := h t List.mem_cons_self
    have e1 : more (t :: r) = 32 :: (t.text ++ more r) := by simp [more]
    rw [e1, List.length_cons, List.length_append, List.length_cons]
    omega
theorem pr_len (T : List Tok) (h : ∀ t ∈ T, t.text.length ≤ 40) : (pr T).length ≤ T.length * 41 := by
  cases T with
  | nil => simp [pr]
  | cons t r =>
    have ih := more_len r (fun x hx => h x (List.mem_cons_of_mem _ hx))
    have h1 := h t List.mem_cons_self
    simp only [pr, List.length_append, List.length_cons]
    omega
end Go.Proofs.Ytpdljjlbjebmeaa
