/- The grammar on a page's tokens: what stands around, and terms. -/
import Derived.Test.YtehdljcmeimbcaaGreatB32
import Derived.Test.YtehdljcmeimbcaaGreatB33
namespace Go.Proofs.YtehdljcmeimbcaaGreat
set_option linter.unusedVariables false
set_option linter.unusedSimpArgs false

abbrev Co := Int × List UInt8 × Int
/-- A twig, a forest without places. -/
def Nd.bare (d : Nd) : Nd := ⟨d.kind, d.text, d.n, 0, 0⟩
def Fo.bare : Fo → Fo
  | .nil => .nil
  | .cons d k r => .cons d.bare k.bare r.bare
theorem bare_app : ∀ f g : Fo, (f.app g).bare = f.bare.app g.bare
  | .nil, _ => rfl
  | .cons d k r, g => by simp [Fo.app, Fo.bare, bare_app r g]
theorem bare_one (d : Nd) (k : Fo) : (one d k).bare = one d.bare k.bare := rfl
theorem app_assoc : ∀ f g h : Fo, (f.app g).app h = f.app (g.app h)
  | .nil, _, _ => rfl
  | .cons d k r, g, h => by simp [Fo.app, app_assoc r g h]
theorem app_one (d : Nd) (k r : Fo) : (one d k).app r = .cons d k r := rfl

/-- With rounds enough a part of the grammar comes to that. -/
def Pe (q : Gr) (T : List Tok) (m : Nat) (o : Out) : Prop := ∃ N, ∀ n, N ≤ n → P n q T m = o
theorem pe_step {q : Gr} {T : List Tok} {m : Nat} {o : Out} (h : ∃ N, ∀ n, N ≤ n → P (n + 1) q T m = o) : Pe q T m o := by
  obtain ⟨N, h⟩ := h
  refine ⟨N + 1, fun n hn => ?_⟩
  obtain ⟨j, rfl⟩ : ∃ j, n = j + 1 := ⟨n - 1, by omega⟩
  exact h j (by omega)
theorem cons_of {T : List Tok} {c : Co} {R : List Co} (h : T.map Tok.core = c :: R) : ∃ t T', T = t :: T' ∧ t.core = c ∧ T'.map Tok.core = R := by
  cases T with
  | nil => cases h
  | cons t T' =>
    simp only [List.map_cons, List.cons.injEq] at h
    exact ⟨t, T', rfl, h.1, h.2⟩
theorem sees_c {t : Tok} {c : Co} (h : t.core = c) (k : Int) (T : List Tok) (l : List (List UInt8)) : seesK k (t :: T) l = (c.1 == k && l.contains c.2.1) := by
  subst h
  rfl
theorem kind_c {t : Tok} {c : Co} (h : t.core = c) (k : Int) (T : List Tok) : ((hd (t :: T)).kind == k) = (c.1 == k) := by
  subst h
  rfl
theorem text_c {t : Tok} {c : Co} (h : t.core = c) : t.text = c.2.1 := by
  subst h
  rfl
theorem num_c {t : Tok} {c : Co} (h : t.core = c) : t.n = c.2.2 := by
  subst h
  rfl
/-- Does a row begin with a mark (a word) out of these? -/
def begK (k : Int) (l : List (List UInt8)) : List Co → Bool
  | [] => false
  | c :: _ => c.1 == k && l.contains c.2.1
theorem sees_beg (k : Int) (hk : ((0 : Int) == k) = false) (T : List Tok) (l : List (List UInt8)) : seesK k T l = begK k l (T.map Tok.core) := by
  cases T with
  | nil =>
    show ((0 : Int) == k && _) = false
    rw [hk]; rfl
  | cons t r => rfl
theorem beg_sub {k : Int} {l l' : List (List UInt8)} (hs : (l.all fun x => l'.contains x) = true) {X : List Co} (h : begK k l' X = false) : begK k l X = false := by
  cases X with
  | nil => rfl
  | cons c r =>
    simp only [begK] at h ⊢
    rw [Bool.and_eq_false_iff] at h ⊢
    rcases h with h | h
    · exact .inl h
    · refine .inr ?_
      rw [Bool.eq_false_iff] at h ⊢
      exact fun e => h (List.all_eq_true.1 hs _ (List.contains_iff_mem.1 e))

/-- A tree that is read is the one that is wanted, but for places. -/
def Eqv (d : Nd) (k : Fo) (X : List Co) (d' : Nd) (k' : Fo) (T' : List Tok) : Prop := T'.map Tok.core = X ∧ d'.bare = d.bare ∧ k'.bare = k.bare

def m5 : List (List UInt8) := [[46], [91]]
def m3 : List (List UInt8) := [[46], [91], [42]]
def m1 : List (List UInt8) := [[46], [91], [42], [43], [45], [60], [61, 61]]

/-- A tree's tokens are read by each level of terms. -/
def Rd5 (M : Nat) (d : Nd) (k : Fo) (S : List Co) : Prop := ∀ T X, T.map Tok.core = S ++ X → ∃ d' k' T', Eqv d k X d' k' T' ∧ ∀ o, Pe (.tightL d' k') T' M o → Pe .tight T M o
def Rd4 (M : Nat) (d : Nd) (k : Fo) (S : List Co) : Prop := ∀ T X, T.map Tok.core = S ++ X → begK 4 m5 X = false → ∃ d' k' T', Eqv d k X d' k' T' ∧ Pe .unary T M (.ok d' k' T')
def Rd3 (M : Nat) (d : Nd) (k : Fo) (S : List Co) : Prop := ∀ T X, T.map Tok.core = S ++ X → begK 4 m5 X = false → ∃ d' k' T', Eqv d k X d' k' T' ∧ ∀ o, Pe (.prodL d' k') T' M o → Pe .product T M o
def Rd2 (M : Nat) (d : Nd) (k : Fo) (S : List Co) : Prop := ∀ T X, T.map Tok.core = S ++ X → begK 4 m3 X = false → ∃ d' k' T', Eqv d k X d' k' T' ∧ ∀ o, Pe (.sumL d' k') T' M o → Pe .sum T M o
def Rd1 (M : Nat) (d : Nd) (k : Fo) (S : List Co) : Prop := ∀ T X, T.map Tok.core = S ++ X → begK 4 m1 X = false → ∃ d' k' T', Eqv d k X d' k' T' ∧ Pe .term T M (.ok d' k' T')

theorem tightL_stop {T : List Tok} {X : List Co} (h : T.map Tok.core = X) (hX : begK 4 m5 X = false) (d : Nd) (k : Fo) (M : Nat) : Pe (.tightL d k) T M (.ok d k T) := by
  refine pe_step ⟨0, fun n _ => ?_⟩
  rw [P, if_neg, if_neg]
  · show ¬ seesK 4 T _ = true
    rw [sees_beg 4 rfl, h, beg_sub (l' := m5) (by decide) hX]; decide
  · show ¬ seesK 4 T _ = true
    rw [sees_beg 4 rfl, h, beg_sub (l' := m5) (by decide) hX]; decide
theorem prodL_stop {T : List Tok} {X : List Co} (h : T.map Tok.core = X) (hX : begK 4 m3 X = false) (d : Nd) (k : Fo) (M : Nat) : Pe (.prodL d k) T M (.ok d k T) := by
  refine pe_step ⟨0, fun n _ => ?_⟩
  rw [P, if_neg]
  show ¬ seesK 4 T _ = true
  rw [sees_beg 4 rfl, h, beg_sub (l' := m3) (by decide) hX]; decide
theorem sumL_stop {T : List Tok} {X : List Co} (h : T.map Tok.core = X) (hX : begK 4 [[43], [45]] X = false) (d : Nd) (k : Fo) (M : Nat) : Pe (.sumL d k) T M (.ok d k T) := by
  refine pe_step ⟨0, fun n _ => ?_⟩
  rw [P, if_neg]
  show ¬ seesK 4 T _ = true
  rw [sees_beg 4 rfl, h, hX]; decide

theorem pe_tight {T T1 : List Tok} {M : Nat} {d : Nd} {k : Fo} {o : Out} (h1 : Pe .first T M (.ok d k T1)) (h2 : Pe (.tightL d k) T1 M o) : Pe .tight T M o := by
  obtain ⟨N1, h1⟩ := h1
  obtain ⟨N2, h2⟩ := h2
  refine pe_step ⟨max N1 N2, fun n hn => ?_⟩
  rw [P, h1 n (by omega)]
  exact h2 n (by omega)
theorem pe_product {T T1 : List Tok} {M : Nat} {d : Nd} {k : Fo} {o : Out} (h1 : Pe .unary T M (.ok d k T1)) (h2 : Pe (.prodL d k) T1 M o) : Pe .product T M o := by
  obtain ⟨N1, h1⟩ := h1
  obtain ⟨N2, h2⟩ := h2
  refine pe_step ⟨max N1 N2, fun n hn => ?_⟩
  rw [P, h1 n (by omega)]
  exact h2 n (by omega)
theorem pe_sum {T T1 : List Tok} {M : Nat} {d : Nd} {k : Fo} {o : Out} (h1 : Pe .product T M (.ok d k T1)) (h2 : Pe (.sumL d k) T1 M o) : Pe .sum T M o := by
  obtain ⟨N1, h1⟩ := h1
  obtain ⟨N2, h2⟩ := h2
  refine pe_step ⟨max N1 N2, fun n hn => ?_⟩
  rw [P, h1 n (by omega)]
  exact h2 n (by omega)

/-- With what a term begins. -/
def w6 : List (List UInt8) := [[110, 117, 108, 108], [105, 116], [110, 101, 119], [102, 110], [97, 114, 114], [108, 101, 110]]
def w4 : List (List UInt8) := [[110, 117, 108, 108], [105, 116], [110, 101, 119], [102, 110]]
def Beg (l : List (List UInt8)) (S : List Co) : Prop := ∃ c S', S = c :: S' ∧ (c.1 = 2 → l.contains c.2.1 = true) ∧ (c.1 = 4 → c.2.1 = [40])
theorem Beg.app {l : List (List UInt8)} {S : List Co} (h : Beg l S) (X : List Co) : Beg l (S ++ X) := by
  obtain ⟨c, S', rfl, hc⟩ := h
  exact ⟨c, S' ++ X, rfl, hc⟩
theorem Beg.w6 {S : List Co} (h : Beg w4 S) : Beg w6 S := by
  obtain ⟨c, S', rfl, hc, h4⟩ := h
  refine ⟨c, S', rfl, fun e => ?_, h4⟩
  have := hc e
  exact List.all_eq_true.1 (by decide : (w4.all fun x => Go.Proofs.YtehdljcmeimbcaaGreat.w6.contains x) = true) _ (List.contains_iff_mem.1 this)
/-- Words that none of these are. -/
theorem Beg.no {l : List (List UInt8)} {S : List Co} (h : Beg l S) (l' : List (List UInt8)) (hd : (l.all fun x => !l'.contains x) = true) : begK 2 l' S = false := by
  obtain ⟨c, S', rfl, hc, _⟩ := h
  simp only [begK]
  rw [Bool.and_eq_false_iff]
  by_cases h2 : c.1 = 2
  · exact .inr (by simpa using List.all_eq_true.1 hd _ (List.contains_iff_mem.1 (hc h2)))
  · exact .inl (by simpa using h2)

/-- Nor is it a mark but a parenthesis. -/
theorem Beg.no4 {l : List (List UInt8)} {S : List Co} (h : Beg l S) (l' : List (List UInt8)) (hd : l'.contains [40] = false) : begK 4 l' S = false := by
  obtain ⟨c, S', rfl, _, h4⟩ := h
  simp only [begK]
  rw [Bool.and_eq_false_iff]
  by_cases h2 : c.1 = 4
  · rw [h4 h2]
    exact .inr hd
  · exact .inl (by simpa using h2)

/-- A term's tokens, read at all levels up to b. -/
structure TmK (M : Nat) (b : Int) (d : Nd) (k : Fo) (S : List Co) : Prop where
  beg : Beg w6 S
  b5 : 5 ≤ b → Beg w4 S
  r1 : Rd1 M d k S
  r2 : 2 ≤ b → Rd2 M d k S
  r3 : 3 ≤ b → Rd3 M d k S
  r4 : 4 ≤ b → Rd4 M d k S
  r5 : 5 ≤ b → Rd5 M d k S

theorem r1_of2 {M : Nat} {d : Nd} {k : Fo} {S : List Co} (h : Rd2 M d k S) : Rd1 M d k S := fun T X hT hX => by
  obtain ⟨d', k', T', he, hp⟩ := h T X hT (beg_sub (l' := m1) (by decide) hX)
  refine ⟨d', k', T', he, ?_⟩
  obtain ⟨N, hN⟩ := hp _ (sumL_stop he.1 (beg_sub (l' := m1) (by decide) hX) d' k' M)
  refine pe_step ⟨N, fun n hn => ?_⟩
  rw [P, hN n hn]
  show (if _ then _ else _) = _
  rw [if_neg]
  show ¬ seesK 4 T' _ = true
  rw [sees_beg 4 rfl, he.1, beg_sub (l' := m1) (by decide) hX]; decide
theorem r2_of3 {M : Nat} {d : Nd} {k : Fo} {S : List Co} (h : Rd3 M d k S) : Rd2 M d k S := fun T X hT hX => by
  obtain ⟨d', k', T', he, hp⟩ := h T X hT (beg_sub (l' := m3) (by decide) hX)
  exact ⟨d', k', T', he, fun o ho => pe_sum (hp _ (prodL_stop he.1 hX d' k' M)) ho⟩
theorem r3_of4 {M : Nat} {d : Nd} {k : Fo} {S : List Co} (h : Rd4 M d k S) : Rd3 M d k S := fun T X hT hX => by
  obtain ⟨d', k', T', he, hp⟩ := h T X hT hX
  exact ⟨d', k', T', he, fun o ho => pe_product hp ho⟩
theorem r4_of5 {M : Nat} {d : Nd} {k : Fo} {S : List Co} (hb : Beg w4 S) (h : Rd5 M d k S) : Rd4 M d k S := fun T X hT hX => by
  obtain ⟨d', k', T', he, hp⟩ := h T X hT
  refine ⟨d', k', T', he, ?_⟩
  obtain ⟨N, hN⟩ := hp _ (tightL_stop he.1 hX d' k' M)
  refine pe_step ⟨N, fun n hn => ?_⟩
  rw [P, if_neg, hN n hn]
  show ¬ seesK 2 T _ = true
  rw [sees_beg 2 rfl, hT, (hb.app X).no _ (by decide)]
  decide
theorem TmK.of5 {M : Nat} {b : Int} (hb : b ≤ 5) {d : Nd} {k : Fo} {S : List Co} (hw : Beg w4 S) (h : Rd5 M d k S) : TmK M b d k S :=
  have h4 := r4_of5 hw h
  have h3 := r3_of4 h4
  have h2 := r2_of3 h3
  ⟨hw.w6, fun _ => hw, r1_of2 h2, fun _ => h2, fun _ => h3, fun _ => h4, fun _ => h⟩
theorem TmK.of4 {M : Nat} {d : Nd} {k : Fo} {S : List Co} (hw : Beg w6 S) (h4 : Rd4 M d k S) : TmK M 4 d k S :=
  have h3 := r3_of4 h4
  have h2 := r2_of3 h3
  ⟨hw, fun h => absurd h (by decide), r1_of2 h2, fun _ => h2, fun _ => h3, fun _ => h4, fun h => absurd h (by decide)⟩
theorem TmK.of3 {M : Nat} {d : Nd} {k : Fo} {S : List Co} (hw : Beg w6 S) (h3 : Rd3 M d k S) : TmK M 3 d k S :=
  have h2 := r2_of3 h3
  ⟨hw, fun h => absurd h (by decide), r1_of2 h2, fun _ => h2, fun _ => h3, fun h => absurd h (by decide), fun h => absurd h (by decide)⟩
theorem TmK.of2 {M : Nat} {d : Nd} {k : Fo} {S : List Co} (hw : Beg w6 S) (h2 : Rd2 M d k S) : TmK M 2 d k S :=
  ⟨hw, fun h => absurd h (by decide), r1_of2 h2, fun _ => h2, fun h => absurd h (by decide), fun h => absurd h (by decide), fun h => absurd h (by decide)⟩
theorem TmK.of1 {M : Nat} {d : Nd} {k : Fo} {S : List Co} (hw : Beg w6 S) (h1 : Rd1 M d k S) : TmK M 1 d k S :=
  ⟨hw, fun h => absurd h (by decide), h1, fun h => absurd h (by decide), fun h => absurd h (by decide), fun h => absurd h (by decide), fun h => absurd h (by decide)⟩

/-- What first reads is read tightly. -/
theorem r5_first {M : Nat} {d : Nd} {k : Fo} {S : List Co} (h : ∀ T X, T.map Tok.core = S ++ X → ∃ d' k' T', Eqv d k X d' k' T' ∧ Pe .first T M (.ok d' k' T')) : Rd5 M d k S := fun T X hT => by
  obtain ⟨d', k', T', he, hp⟩ := h T X hT
  exact ⟨d', k', T', he, fun o ho => pe_tight hp ho⟩
/-- A term in parentheses. -/
theorem r5_paren {M : Nat} (hM : M ≠ 64) {d : Nd} {k : Fo} {S : List Co} (h : Rd1 (M + 1) d k S) : Rd5 M d k (cr [40] :: (S ++ [cr [41]])) := r5_first fun T X hT => by
  rw [List.cons_append, List.append_assoc, List.cons_append, List.nil_append] at hT
  obtain ⟨t, T1, rfl, ht, hT1⟩ := cons_of hT
  have e0 : cr [40] = (4, [40], 0) := by decide
  have e1 : cr [41] = (4, [41], 0) := by decide
  rw [e0] at ht
  obtain ⟨d', k', T2, he, N, hp⟩ := h T1 _ hT1 (by rw [e1]; rfl)
  obtain ⟨hT2, hd, hk⟩ := he
  obtain ⟨t2, T3, rfl, ht2, hT3⟩ := cons_of hT2
  rw [e1] at ht2
  refine ⟨d', k', T3, ⟨hT3, hd, hk⟩, pe_step ⟨N, fun n hn => ?_⟩⟩
  have hW : ∀ l, seesW (t :: T1) l = false := fun l => sees_c ht 2 T1 l
  have hM4 : seesM (t :: T1) [[40]] = true := sees_c ht 4 T1 _
  rw [P, if_neg (by rw [kind_c ht]; decide), if_neg (by rw [hW]; decide), if_neg (by rw [hW]; decide), if_neg (by rw [hW]; decide), if_neg (by rw [hW]; decide), if_pos hM4]
  unfold ent
  rw [if_neg hM]
  show (P n .term T1 (M + 1)).and _ = _
  rw [hp n hn]
  show tkM _ (t2 :: T3) _ = _
  unfold tkM tk
  rw [if_pos (show seesM (t2 :: T3) [[41]] = true from sees_c ht2 4 T3 _)]
  rfl
end Go.Proofs.YtehdljcmeimbcaaGreat
