/- Texts of tokens: what is read of them, and what is read of a page. -/
import Derived.Test.YtehdljcmeimbcaaGreatB20
import Derived.Test.YtehdljcmeimbcaaGreatB18
import Derived.Test.YtehdljcmeimbcaaGreatB21
import Derived.Test.YtehdljcmeimbcaaGreatB01
namespace Go.Proofs.YtehdljcmeimbcaaGreat
set_option linter.unusedVariables false
set_option linter.unusedSimpArgs false
open Go.RowKit

def Tok.core (t : Tok) : Int × List UInt8 × Int := (t.kind, t.text, t.n)
def J (l : List UInt8) : List (Int × List UInt8 × Int) := (toks l (nxt l 0)).map Tok.core
def E (l : List UInt8) : List Int := (dgs l (nxt l 0)).map Dg.err

theorem drop_pre (p x : List UInt8) (a : Nat) : (p ++ x).drop (p.length + a) = x.drop a := by
  rw [List.drop_append]; simp
theorem chr_pre (p x : List UInt8) (a : Nat) : chr (p ++ x) (p.length + a) = chr x a := by
  unfold chr; rw [List.getElem?_append_right (by omega)]; simp
theorem nxt_pre (p x : List UInt8) (a : Nat) : nxt (p ++ x) (p.length + a) = p.length + nxt x a := by
  unfold nxt; rw [drop_pre]; omega
theorem kindA_pre (p x : List UInt8) (a : Nat) : kindA (p ++ x) (p.length + a) = kindA x a := by
  unfold kindA; rw [chr_pre]
theorem endA_pre (p x : List UInt8) (a : Nat) : endA (p ++ x) (p.length + a) = p.length + endA x a := by
  unfold endA endT ends
  rw [kindA_pre, drop_pre, show p.length + a + 1 = p.length + (a + 1) by omega, drop_pre]
  split
  · rfl
  · split <;> omega
theorem textA_pre (p x : List UInt8) (a : Nat) : textA (p ++ x) (p.length + a) = textA x a := by
  unfold textA; rw [drop_pre, endA_pre]; congr 1; omega
theorem core_pre (p x : List UInt8) (a : Nat) : (tokA (p ++ x) (p.length + a)).core = (tokA x a).core := by
  unfold tokA Tok.core; rw [kindA_pre, textA_pre]
theorem errA_pre (p x : List UInt8) (a : Nat) : errA (p ++ x) (p.length + a) = errA x a := by
  unfold errA; rw [kindA_pre, textA_pre]

theorem toks_pre : ∀ (n : Nat) (p x : List UInt8) (a : Nat), x.length - a ≤ n → (toks (p ++ x) (p.length + a)).map Tok.core = (toks x a).map Tok.core
  | 0, p, x, a, hn => by rw [toks_end x a (by omega), toks_end (p ++ x) _ (by simp; omega)]
  | n + 1, p, x, a, hn => by
    by_cases ha : a < x.length
    · have ha' : p.length + a < (p ++ x).length := by simp; omega
      have h1 := endA_gt x a
      have h2 := nxt_ge x (endA x a)
      have ih := toks_pre n p x (nxt x (endA x a)) (by omega)
      rw [← nxt_pre, ← endA_pre] at ih
      by_cases hk : kindA x a = 0
      · rw [toks_skip x a ha hk, toks_skip (p ++ x) _ ha' ((kindA_pre p x a).trans hk), ih]
      · rw [toks_one x a ha hk, toks_one (p ++ x) _ ha' (by rw [kindA_pre]; exact hk), List.map_cons, List.map_cons, ih, core_pre]
    · rw [toks_end x a ha, toks_end (p ++ x) _ (by simp; omega)]
theorem dgs_pre : ∀ (n : Nat) (p x : List UInt8) (a : Nat), x.length - a ≤ n → (dgs (p ++ x) (p.length + a)).map Dg.err = (dgs x a).map Dg.err
  | 0, p, x, a, hn => by rw [dgs_end x a (by omega), dgs_end (p ++ x) _ (by simp; omega)]
  | n + 1, p, x, a, hn => by
    by_cases ha : a < x.length
    · have ha' : p.length + a < (p ++ x).length := by simp; omega
      have h1 := endA_gt x a
      have h2 := nxt_ge x (endA x a)
      have ih := dgs_pre n p x (nxt x (endA x a)) (by omega)
      rw [← nxt_pre, ← endA_pre] at ih
      by_cases hk : errA x a = 0
      · rw [dgs_skip x a ha hk, dgs_skip (p ++ x) _ ha' ((errA_pre p x a).trans hk), ih]
      · rw [dgs_one x a ha hk, dgs_one (p ++ x) _ ha' (by rw [errA_pre]; exact hk), List.map_cons, List.map_cons, ih]
        simp only [dgA, errA_pre]
    · rw [dgs_end x a ha, dgs_end (p ++ x) _ (by simp; omega)]

/-- What is passed over ahead of a text changes nothing. -/
theorem J_skip (p x : List UInt8) (h : nxt (p ++ x) 0 = p.length + nxt x 0) : J (p ++ x) = J x ∧ E (p ++ x) = E x := by
  unfold J E
  rw [h]
  exact ⟨toks_pre _ p x _ (Nat.le_refl _), dgs_pre _ p x _ (Nat.le_refl _)⟩

/-- A byte at which every token ends. -/
def stopC (c : UInt8) : Bool := [32, 9, 10, 13, 35, 59, 46, 91, 93, 41].contains c
theorem stop_goes (c : UInt8) (h : stopC c = true) (k : Int) : goes k (c.toNat : Int) = false := by
  simp [stopC] at h
  rcases h with rfl | rfl | rfl | rfl | rfl | rfl | rfl | rfl | rfl | rfl <;> (unfold goes; split; decide; split <;> decide)
theorem stop_ne (c : UInt8) (h : stopC c = true) : c ≠ 61 := by
  intro e; subst e; exact absurd h (by decide)

theorem run_to (k : Int) (c : UInt8) (r : List UInt8) (hc : goes k (c.toNat : Int) = false) : ∀ b : List UInt8, run k b = b.length → run k (b ++ c :: r) = b.length
  | [], _ => by simp [run, hc]
  | x :: b, h => by
    simp only [run] at h
    split at h
    · rename_i hx
      simp only [List.cons_append, run, hx, if_true, List.length_cons]
      rw [run_to k c r hc b (by simp at h; omega)]
    · simp at h

/-- A text that is one token and no more. -/
def One (t : Tok) : Prop := ∃ τ : Tok, toks t.text (nxt t.text 0) = [τ] ∧ dgs t.text (nxt t.text 0) = [] ∧ τ.core = t.core

theorem One.all {t : Tok} (h : One t) : 0 < t.text.length ∧ nxt t.text 0 = 0 ∧ ¬ kindA t.text 0 = 0 ∧ endA t.text 0 = t.text.length ∧ (tokA t.text 0).core = t.core ∧ errA t.text 0 = 0 := by
  obtain ⟨τ, h1, h2, h3⟩ := h
  obtain ⟨q, hq1, hq2, rfl⟩ := toks_head _ _ _ _ _ (Nat.le_refl _) h1
  have ht : textA t.text q = t.text := congrArg (fun x => x.2.1) h3
  have hl := textA_len t.text q hq2
  have hle := endA_le t.text q hq2
  rw [ht] at hl
  have hq : q = 0 := by omega
  subst hq
  have hn : nxt t.text 0 = 0 := by omega
  rw [hn] at h1 h2
  have hk : ¬ kindA t.text 0 = 0 := by
    intro hk
    have he : endA t.text 0 = 1 := by simp [endA, hk]
    rw [toks_skip t.text 0 hq2 hk, toks_end _ _ (by have := nxt_ge t.text (endA t.text 0); omega)] at h1
    cases h1
  refine ⟨hq2, hn, hk, by omega, h3, ?_⟩
  by_cases he : errA t.text 0 = 0
  · exact he
  · rw [dgs_one t.text 0 hq2 he] at h2; cases h2

theorem One.end_ {t : Tok} (h : One t) (c : UInt8) (r : List UInt8) (hc : stopC c = true) : endA (t.text ++ c :: r) 0 = t.text.length := by
  obtain ⟨h0, _, hk, he, _, _⟩ := h.all
  have hk' := kindA_app t.text (c :: r) 0 h0
  unfold endA at he ⊢
  rw [hk', if_neg hk]
  rw [if_neg hk] at he
  unfold endT at he ⊢
  rw [List.drop_zero] at he ⊢
  by_cases hp : pre2 t.text = true
  · have hl := pre2_len _ hp
    rw [if_pos hp] at he
    rw [pre2_app _ _ hl, if_pos hp, he]
  · rw [if_neg hp] at he
    have hp' : ¬ pre2 (t.text ++ c :: r) = true := by
      rcases Nat.lt_or_ge t.text.length 2 with h2 | h2
      · match hx : t.text, h0, h2 with
        | [x], _, _ =>
          simp [pre2]
          intro _
          exact stop_ne c hc
      · rw [pre2_app _ _ h2]; exact hp
    rw [if_neg hp']
    unfold ends at he ⊢
    rw [List.drop_append_of_le_length (by omega), run_to _ c r (stop_goes c hc _) (t.text.drop 1) (by rw [List.length_drop]; rw [Nat.zero_add] at he; omega), List.length_drop]
    omega

theorem One.more {t : Tok} (h : One t) (c : UInt8) (r : List UInt8) (hc : stopC c = true) : J (t.text ++ c :: r) = t.core :: J (c :: r) ∧ E (t.text ++ c :: r) = E (c :: r) := by
  obtain ⟨h0, hn, hk, he, hcore, herr⟩ := h.all
  have he' := h.end_ c r hc
  have hk' := kindA_app t.text (c :: r) 0 h0
  have hn' : nxt (t.text ++ c :: r) 0 = 0 := by
    rw [nxt_app t.text (c :: r) 0 (by omega) (by omega), hn]
  have ht : textA (t.text ++ c :: r) 0 = textA t.text 0 := by
    unfold textA
    rw [he', he]
    simp
  have hlen : 0 < (t.text ++ c :: r).length := by simp; omega
  have hnx := nxt_pre t.text (c :: r) 0
  rw [Nat.add_zero] at hnx
  unfold J E
  rw [hn', toks_one _ 0 hlen (by rw [hk']; exact hk), dgs_skip _ 0 hlen (by unfold errA at herr ⊢; rw [hk', ht]; exact herr), he', hnx]
  refine ⟨?_, dgs_pre _ _ _ _ (Nat.le_refl _)⟩
  rw [List.map_cons, toks_pre _ _ _ _ (Nat.le_refl _)]
  congr 1
  rw [← hcore]
  unfold tokA Tok.core
  rw [hk', ht]

theorem One.last {t : Tok} (h : One t) : J t.text = [t.core] ∧ E t.text = [] := by
  obtain ⟨τ, h1, h2, h3⟩ := h
  unfold J E
  rw [h1, h2]
  simp [h3]

theorem J_blank (c : UInt8) (r : List UInt8) (hc : [32, 9, 10, 13].contains c = true) : J (c :: r) = J r ∧ E (c :: r) = E r := by
  have := J_skip [c] r (by
    have h0 : chr ([c] ++ r) 0 = (c.toNat : Int) := rfl
    rw [nxt_blank ([c] ++ r) 0 (by simp) (by rw [h0]; simp at hc; rcases hc with rfl | rfl | rfl | rfl <;> decide) (by rw [h0]; simp at hc; rcases hc with rfl | rfl | rfl | rfl <;> decide)]
    exact nxt_pre [c] r 0)
  exact this

theorem J_nil : J [] = [] ∧ E [] = [] := ⟨rfl, rfl⟩

/-- What a text that is one token is read as. -/
def cr (s : List UInt8) : Int × List UInt8 × Int := (tkind (kindA s 0) s, s, tnum (kindA s 0) s)
def ct (s : List UInt8) : Tok := ⟨(cr s).1, s, (cr s).2.2, 0, 0⟩
def Sg1 (s : List UInt8) : Prop := One (ct s)
theorem ct_text (s : List UInt8) : (ct s).text = s := rfl
theorem ct_core (s : List UInt8) : (ct s).core = cr s := rfl
/-- A text that is one token: closed facts. -/
def sgB (s : List UInt8) : Bool := decide (0 < s.length) && decide (nxt s 0 = 0) && decide (kindA s 0 ≠ 0) && decide (endA s 0 = s.length) && decide (errA s 0 = 0)
theorem sg_of {s : List UInt8} (h : sgB s = true) : Sg1 s := by
  simp only [sgB, Bool.and_eq_true, decide_eq_true_eq] at h
  obtain ⟨⟨⟨⟨h0, hn⟩, hk⟩, he⟩, hr⟩ := h
  have e1 : nxt s s.length = s.length := nxt_end s _ (Nat.le_refl _)
  refine ⟨tokA s 0, ?_, ?_, ?_⟩
  · rw [ct_text, hn, toks_one s 0 h0 hk, he, e1, toks_end s _ (Nat.lt_irrefl _)]
  · rw [ct_text, hn, dgs_skip s 0 h0 hr, he, e1, dgs_end s _ (Nat.lt_irrefl _)]
  · have ht : textA s 0 = s := by unfold textA; rw [he]; simp
    show (tkind (kindA s 0) (textA s 0), textA s 0, tnum (kindA s 0) (textA s 0)) = cr s
    rw [ht]; rfl

/-- A mark that no other one goes on from, with whatever behind it. -/
theorem mark_any (c : UInt8) (hc : c = 46 ∨ c = 91 ∨ c = 40) (r : List UInt8) : J (c :: r) = cr [c] :: J r ∧ E (c :: r) = E r := by
  have hc0 : chr (c :: r) 0 = (c.toNat : Int) := rfl
  have hk : kindA (c :: r) 0 = 4 := by unfold kindA; rw [hc0]; rcases hc with rfl | rfl | rfl <;> decide
  have hn : nxt (c :: r) 0 = 0 := nxt_stop _ 0 (by simp) (by rw [hc0]; rcases hc with rfl | rfl | rfl <;> decide) (by rw [hc0]; rcases hc with rfl | rfl | rfl <;> decide)
  have hr : run 4 r = 0 := by
    cases r with
    | nil => rfl
    | cons x y => simp [run, goes]
  have he : endA (c :: r) 0 = 1 := by
    unfold endA
    rw [hk, if_neg (by decide)]
    unfold endT
    rw [if_neg (by rcases hc with rfl | rfl | rfl <;> simp [pre2])]
    unfold ends
    simp [hr]
  have ht : textA (c :: r) 0 = [c] := by unfold textA; rw [he]; simp
  have hx := nxt_pre [c] r 0
  have hx1 : nxt (c :: r) 1 = 1 + nxt r 0 := hx
  have hkc : kindA [c] 0 = 4 := hk
  have h0 : 0 < (c :: r).length := by simp
  have her : errA (c :: r) 0 = 0 := by unfold errA; rw [hk, if_neg (by decide)]; rfl
  unfold J E
  rw [hn, toks_one _ 0 h0 (by rw [hk]; decide), dgs_skip _ 0 h0 her, he, hx1]
  refine ⟨?_, dgs_pre _ [c] r _ (Nat.le_refl _)⟩
  rw [List.map_cons, show (toks (c :: r) (1 + nxt r 0)).map Tok.core = (toks r (nxt r 0)).map Tok.core from toks_pre _ [c] r _ (Nat.le_refl _)]
  congr 1
  unfold tokA Tok.core cr
  rw [hk, ht, hkc]

theorem J_blanks : ∀ (b r : List UInt8), (∀ c ∈ b, c = 32) → J (b ++ r) = J r ∧ E (b ++ r) = E r
  | [], _, _ => ⟨rfl, rfl⟩
  | c :: b, r, h => by
    have ih := J_blanks b r (fun x hx => h x (List.mem_cons_of_mem _ hx))
    have hc := h c List.mem_cons_self
    subst hc
    have := J_blank 32 (b ++ r) (by decide)
    exact ⟨this.1.trans ih.1, this.2.trans ih.2⟩

/-- The tokens of a page's parts. -/
def cores : List Pa → List (Int × List UInt8 × Int)
  | [] => []
  | .tok s :: r => cr s :: cores r
  | .line _ :: r => cores r
  | .kid _ :: r => cores r
theorem cores_app : ∀ a b : List Pa, cores (a ++ b) = cores a ++ cores b
  | [], _ => rfl
  | .tok s :: r, b => by simp [cores, cores_app r b]
  | .line _ :: r, b => by simp [cores, cores_app r b]
  | .kid _ :: r, b => by simp [cores, cores_app r b]
def paOk : Pa → Prop
  | .tok s => Sg1 s
  | .line _ => True
  | .kid _ => False
theorem opens_is {s : List UInt8} (h : opens s = true) : s = [46] ∨ s = [91] ∨ s = [40] := by
  simp only [opens, Bool.or_eq_true, beq_iff_eq] at h
  rcases h with (h | h) | h
  · exact .inl h
  · exact .inr (.inl h)
  · exact .inr (.inr h)
theorem closes_is {s : List UInt8} (h : closes s = true) : ∃ c, s = [c] ∧ stopC c = true := by
  simp [closes] at h
  rcases h with (((rfl | rfl) | rfl) | rfl) | rfl <;> exact ⟨_, rfl, by decide⟩
theorem blanks_all (m : Int) : ∀ c ∈ blanks m, c = 32 := fun _ h => List.eq_of_mem_replicate h

theorem page_read : ∀ (l : List Pa) (p : Pg), (∀ x ∈ l, paOk x) → ∃ x, (p.puts l).text = p.text ++ x ∧ J x = cores l ∧ E x = [] ∧ (p.last ≠ [] → opens p.last = false → x = [] ∨ ∃ c r, x = c :: r ∧ stopC c = true)
  | [], p, _ => ⟨[], by simp [Pg.puts], rfl, rfl, fun _ _ => .inl rfl⟩
  | .kid _ :: _, _, h => (h _ List.mem_cons_self).elim
  | .line k :: r, p, h => by
    obtain ⟨x, h1, h2, h3, _⟩ := page_read r ⟨p.text ++ [10], [], p.margin + k⟩ (fun y hy => h y (List.mem_cons_of_mem _ hy))
    refine ⟨10 :: x, ?_, ?_, ?_, fun _ _ => .inr ⟨10, x, rfl, by decide⟩⟩
    · show (Pg.puts ⟨p.text ++ [10], [], p.margin + k⟩ r).text = _
      rw [h1]; simp
    · exact (J_blank 10 x (by decide)).1.trans h2
    · exact (J_blank 10 x (by decide)).2.trans h3
  | .tok s :: r, p, h => by
    obtain ⟨x, h1, h2, h3, h4⟩ := page_read r ⟨p.text ++ glue p.last s p.margin ++ s, s, p.margin⟩ (fun y hy => h y (List.mem_cons_of_mem _ hy))
    have hs : Sg1 s := h _ List.mem_cons_self
    have hs0 : 0 < s.length := hs.all.1
    have hne : s ≠ [] := by intro e; rw [e] at hs0; simp at hs0
    have key : J (s ++ x) = cr s :: J x ∧ E (s ++ x) = E x := by
      cases ho : opens s
      · rcases h4 hne ho with rfl | ⟨c, y, rfl, hc⟩
        · rw [List.append_nil]
          exact hs.last
        · exact hs.more c y hc
      · rcases opens_is ho with rfl | rfl | rfl <;> exact mark_any _ (by decide) x
    have hg : ∀ c ∈ glue p.last s p.margin, c = 32 := by
      unfold glue
      intro c hc
      split at hc
      · exact blanks_all _ c hc
      · split at hc
        · simpa using hc
        · cases hc
    have hb := J_blanks (glue p.last s p.margin) (s ++ x) hg
    refine ⟨glue p.last s p.margin ++ (s ++ x), ?_, ?_, ?_, fun hl ho => .inr ?_⟩
    · show (Pg.puts ⟨p.text ++ glue p.last s p.margin ++ s, s, p.margin⟩ r).text = _
      rw [h1]; simp
    · rw [hb.1, key.1, h2]; rfl
    · rw [hb.2, key.2, h3]
    · unfold glue
      rw [if_neg hl]
      split
      · exact ⟨32, s ++ x, rfl, by decide⟩
      · rename_i ha
        have hcl : closes s = true := by
          simp [apart, ho] at ha
          exact ha
        obtain ⟨c, rfl, hc⟩ := closes_is hcl
        exact ⟨c, x, rfl, hc⟩
theorem page_text (l : List Pa) (h : ∀ x ∈ l, paOk x) : J ((Pg.mk [] [] 0).puts l).text = cores l ∧ E ((Pg.mk [] [] 0).puts l).text = [] := by
  obtain ⟨x, h1, h2, h3, _⟩ := page_read l ⟨[], [], 0⟩ h
  rw [h1]
  exact ⟨h2, h3⟩
end Go.Proofs.YtehdljcmeimbcaaGreat
