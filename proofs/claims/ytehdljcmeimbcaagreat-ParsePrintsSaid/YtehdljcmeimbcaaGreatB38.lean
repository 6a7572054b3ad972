/- The grammar on a page's tokens: types, members, lives, declarations; The text of a tree that may be is read as that tree, but for places. -/
import Derived.Test.YtehdljcmeimbcaaGreatB37
namespace Go.Proofs.YtehdljcmeimbcaaGreat
set_option linter.unusedVariables false
set_option linter.unusedSimpArgs false

section
variable {M : Nat} {d : Nd} {k : Fo}
theorem ptW_yes {s : List UInt8} {l : List (List UInt8)} {t : Tok} (ht : t.core = (2, s, 0)) (hl : l.contains s = true) (T : List Tok) (f : Tok → List Tok → Out) : tkW l (t :: T) f = f t T := by
  unfold tkW tk
  rw [if_pos (show seesW (t :: T) l = true from (sees_c ht 2 _ _).trans (by simpa using hl))]
  rfl
theorem ty_5 (hk : d.kind = 5) (hok : ndOk isNm d (k.nds.map (·.kind)) = true) : ∀ T X, T.map Tok.core = cores (spelled d k) ++ X → ∃ d' k' T', Eqv d k X d' k' T' ∧ tyO T = .ok d' k' T' := by
  have h1 := kids_of hok
  rw [hk] at h1
  obtain rfl := kids_0 (k := k) h1
  intro T X hT
  have eS : cores (spelled d .nil) = [cr d.text] := by rw [sp0]; simp [parts, hk, put, cores]
  have ht : isTy isNm d.text = true := by
    have := hok
    simp only [ndOk, Bool.and_eq_true] at this
    have := this.1.1.2
    unfold textOk at this
    rwa [if_pos hk] at this
  have hc : cr d.text = (1, d.text, 0) ∨ (cr d.text = (2, d.text, 0) ∧ tyWords.contains d.text = true) := by
    simp only [isTy, Bool.or_eq_true, beq_iff_eq] at ht
    rcases ht with ((((ht | ht) | ht) | ht) | ht) | ht
    · rw [ht]; exact .inr ⟨by decide, by decide⟩
    · rw [ht]; exact .inr ⟨by decide, by decide⟩
    · rw [ht]; exact .inr ⟨by decide, by decide⟩
    · rw [ht]; exact .inr ⟨by decide, by decide⟩
    · rw [ht]; exact .inr ⟨by decide, by decide⟩
    · exact .inl (sg_name ht).2
  rw [eS] at hT
  obtain ⟨t, T1, rfl, hx, hT1⟩ := cons_of hT
  have htx : t.text = d.text := text_c hx
  refine ⟨at_ t 5 t.text 0, .nil, T1, ⟨hT1, nd_ext hk htx.symm (num_0 hok (by omega) (by omega) (by omega) (by omega)), rfl⟩, ?_⟩
  have hy : isTyT (t :: T1) = true := by
    unfold isTyT
    rw [Bool.or_eq_true]
    rcases hc with hc | ⟨hc, hw⟩
    · rw [hc] at hx
      exact .inl (kind_c hx 1 T1)
    · rw [hc] at hx
      exact .inr ((sees_c hx 2 T1 _).trans (by simpa using hw))
  unfold tyO tk
  rw [if_pos hy]
  rfl
theorem me_4 (hk : d.kind = 4) (hok : ndOk isNm d (k.nds.map (·.kind)) = true) (hr : k.rd M d 0) : (cores (spelled d k) ≠ [] ∧ begK 4 [[125]] (cores (spelled d k)) = false) ∧ ∀ T X, T.map Tok.core = cores (spelled d k) ++ X → ∃ d' k' T', Eqv d k X d' k' T' ∧ memO T = .ok d' k' T' := by
  have h1 := kids_of hok
  rw [hk] at h1
  obtain ⟨d0, k0, r, rfl, ha, h1⟩ := kids_c (k := k) (zs := []) h1
  obtain rfl := kids_0 (k := r) h1
  have hc := (sg_name (text_n hok (by omega) (by omega) (by rw [hk]; rfl))).2
  have eS : cores (spelled d (.cons d0 k0 .nil)) = cr d.text :: (kcs d 0 d0 k0 ++ [cr [59]]) := by
    rw [sp1]; unfold kcs; generalize inPar (prn d 0 d0) (spelled d0 k0) = q0; simp [parts, hk, put, cores, cores_app]
  rw [eS, hc, sem]
  refine ⟨⟨List.cons_ne_nil _ _, rfl⟩, fun T X hT => ?_⟩
  simp only [List.cons_append, List.append_assoc] at hT
  obtain ⟨x, T1, rfl, hx, hT1⟩ := cons_of hT
  obtain ⟨y, yk, T2, ⟨hT2, hd0, hk0⟩, hy⟩ := type0 hr ha (by simp [must, hk]) T1 _ hT1
  obtain ⟨z, T3, rfl, hz, hT3⟩ := cons_of hT2
  refine ⟨at_ x 4 x.text 0, one y yk, T3, ⟨hT3, nd_ext hk (text_c hx).symm (num_0 hok (by omega) (by omega) (by omega) (by omega)), by rw [bare_one, hd0, hk0]; rfl⟩, ?_⟩
  unfold memO
  rw [ptK_yes hx rfl, hy]
  show tkM _ (z :: T3) _ = _
  rw [ptM_yes hz]
theorem lf_9 (hk : d.kind = 9) (hok : ndOk isNm d (k.nds.map (·.kind)) = true) (hr : k.rd M d 0) : (cores (spelled d k) ≠ [] ∧ begK 4 [[125]] (cores (spelled d k)) = false) ∧ ∀ T X, T.map Tok.core = cores (spelled d k) ++ X → ∃ d' k' T', Eqv d k X d' k' T' ∧ ∃ N, ∀ n, N ≤ n → lifeO (fun r => P n .block r M) T = .ok d' k' T' := by
  have h1 := kids_of hok
  rw [hk] at h1
  obtain ⟨d0, k0, r, rfl, ha, h1⟩ := kids_c (k := k) (zs := []) h1
  obtain rfl := kids_0 (k := r) h1
  have hn := num_of hok
  rw [hk] at hn
  have hn' : d.n = 0 ∨ d.n = 1 ∨ d.n = 2 ∨ d.n = 3 := by
    simp [numOk] at hn
    omega
  have hc : cr (lifeT d.n) = (2, lifeT d.n, 0) ∧ lifeWords.contains (lifeT d.n) = true ∧ ((lifeWords.idxOf (lifeT d.n) : Nat) : Int) = d.n := by
    rcases hn' with h | h | h | h <;> rw [h] <;> decide
  obtain ⟨HB, _⟩ := block0 hr ha (by simp [must, hk])
  have eS : cores (spelled d (.cons d0 k0 .nil)) = cr (lifeT d.n) :: kcs d 0 d0 k0 := by
    rw [sp1]; unfold kcs; generalize inPar (prn d 0 d0) (spelled d0 k0) = q0; simp [parts, hk, put, cores, cores_app]
  rw [eS, hc.1]
  refine ⟨⟨List.cons_ne_nil _ _, rfl⟩, fun T X hT => ?_⟩
  simp only [List.cons_append, List.append_assoc] at hT
  obtain ⟨x, T1, rfl, hx, hT1⟩ := cons_of hT
  obtain ⟨b, bk, T2, ⟨hT2, hd0, hk0⟩, N, hN⟩ := HB T1 X hT1
  refine ⟨at_ x 9 [] (lifeWords.idxOf x.text), one b bk, T2, ⟨hT2, nd_ext hk (text_0 hok (by omega) (by omega) (by rw [hk]; rfl)) (by rw [show x.text = lifeT d.n from text_c hx, hc.2.2]), by rw [bare_one, hd0, hk0]; rfl⟩, N, fun n hn => ?_⟩
  unfold lifeO
  rw [ptW_yes hx hc.2.1]
  show (P n .block T1 M).and _ = _
  rw [hN n hn]
  rfl
/-- A name that is used. -/
theorem use0 {d0 : Nd} {k0 r : Fo} (hf : (Fo.cons d0 k0 r).fit isNm = true) (ha : isK 29 d0.kind = true) (hp : must d 0 ≤ 0) : ∀ T X, T.map Tok.core = kcs d 0 d0 k0 ++ X → ∃ d' k' T', Eqv d0 k0 X d' k' T' ∧ useO T = .ok d' k' T' := by
  have hk : d0.kind = 29 := by simpa [isK] using ha
  have hok : ndOk isNm d0 (k0.nds.map (·.kind)) = true := by
    simp only [Fo.fit, Bool.and_eq_true] at hf
    exact hf.1.1
  have h1 := kids_of hok
  rw [hk] at h1
  obtain rfl := kids_0 (k := k0) h1
  have hc := (sg_name (text_n hok (by omega) (by omega) (by rw [hk]; rfl))).2
  intro T X hT
  have eS : cores (spelled d0 .nil) = [cr d0.text] := by rw [sp0]; simp [parts, hk, put, cores]
  rw [kc_plain hp, eS] at hT
  obtain ⟨t, T1, rfl, ht, hT1, hu, _⟩ := useO_at hc hT
  exact ⟨_, _, _, ⟨hT1, nd_ext hk rfl (num_0 hok (by omega) (by omega) (by omega) (by omega)), rfl⟩, hu⟩

/-- The loops of members and of lives. -/
theorem members_read (p : Nd) (hp : ∀ i, must p i ≤ 0) : ∀ (f : Fo) (i : Nat), f.rd M p i → rowOk [] (isK 4) (f.nds.map (·.kind)) = true → ∀ (T : List Tok) (X : List Co) (t x : Tok) (acc : Fo),
    T.map Tok.core = (f.seqs p i).flatMap cores ++ (cr [125] :: X) → ∃ f' T', T'.map Tok.core = X ∧ f'.bare = f.bare ∧ Pe (.members t x acc) T M (.ok (at_ t 3 x.text 0) (acc.app f') T')
  | .nil, i, _, _, T, X, t, x, acc, hT => by
    rw [seqs_nil, List.flatMap_nil, List.nil_append, rbr] at hT
    obtain ⟨y, T1, rfl, hy, hT1⟩ := cons_of hT
    refine ⟨.nil, T1, hT1, rfl, pe_step ⟨0, fun n _ => ?_⟩⟩
    rw [P, if_pos (by exact sees_c hy 4 _ _), Fo.app_nil]
    rfl
  | .cons d k r, i, hr, hs, T, X, t, x, acc, hT => by
    obtain ⟨hk, hr⟩ := hr
    simp only [nds_cons, List.map_cons, rowOk, List.all_cons, Bool.and_eq_true] at hs
    have h4 : d.kind = 4 := by simpa [isK] using hs.1
    obtain ⟨⟨hne, hb⟩, H⟩ := (hk.pl (by rw [h4]; rfl)).me h4
    rw [fs_cons, kc_plain (hp i), List.append_assoc] at hT
    obtain ⟨d', k', T1, ⟨hT1, hd, hk'⟩, hN⟩ := H T _ hT
    obtain ⟨f', T2, hT2, hf, N2, hN2⟩ := members_read p hp r (i + 1) hr (by simpa [rowOk] using hs.2) T1 X t x (acc.app (one d' k')) hT1
    refine ⟨.cons d' k' f', T2, hT2, by simp [Fo.bare, hd, hk', hf], pe_step ⟨N2, fun n hn => ?_⟩⟩
    rw [P, if_neg, hN]
    · show P n (.members t x (acc.app (one d' k'))) T1 M = _
      rw [hN2 n (by omega), app_assoc, app_one]
    · show ¬ seesK 4 T _ = true
      rw [sees_beg 4 rfl, hT, beg_ne hne, hb]; decide
theorem lives_read (p : Nd) (hp : ∀ i, must p i ≤ 0) : ∀ (f : Fo) (i : Nat), f.rd M p i → rowOk [] (isK 9) (f.nds.map (·.kind)) = true → ∀ (T : List Tok) (X : List Co) (t x : Tok) (acc : Fo),
    T.map Tok.core = (f.seqs p i).flatMap cores ++ (cr [125] :: X) → ∃ f' T', T'.map Tok.core = X ∧ f'.bare = f.bare ∧ Pe (.lives t x acc) T M (.ok (at_ t 8 x.text 0) (acc.app f') T')
  | .nil, i, _, _, T, X, t, x, acc, hT => by
    rw [seqs_nil, List.flatMap_nil, List.nil_append, rbr] at hT
    obtain ⟨y, T1, rfl, hy, hT1⟩ := cons_of hT
    refine ⟨.nil, T1, hT1, rfl, pe_step ⟨0, fun n _ => ?_⟩⟩
    rw [P, if_pos (by exact sees_c hy 4 _ _), Fo.app_nil]
    rfl
  | .cons d k r, i, hr, hs, T, X, t, x, acc, hT => by
    obtain ⟨hk, hr⟩ := hr
    simp only [nds_cons, List.map_cons, rowOk, List.all_cons, Bool.and_eq_true] at hs
    have h4 : d.kind = 9 := by simpa [isK] using hs.1
    obtain ⟨⟨hne, hb⟩, H⟩ := (hk.pl (by rw [h4]; rfl)).lf h4
    rw [fs_cons, kc_plain (hp i), List.append_assoc] at hT
    obtain ⟨d', k', T1, ⟨hT1, hd, hk'⟩, N, hN⟩ := H T _ hT
    obtain ⟨f', T2, hT2, hf, N2, hN2⟩ := lives_read p hp r (i + 1) hr (by simpa [rowOk] using hs.2) T1 X t x (acc.app (one d' k')) hT1
    refine ⟨.cons d' k' f', T2, hT2, by simp [Fo.bare, hd, hk', hf], pe_step ⟨max N N2, fun n hn => ?_⟩⟩
    rw [P, if_neg, hN n (by omega)]
    · show P n (.lives t x (acc.app (one d' k'))) T1 M = _
      rw [hN2 n (by omega), app_assoc, app_one]
    · show ¬ seesK 4 T _ = true
      rw [sees_beg 4 rfl, hT, beg_ne hne, hb]; decide

/-- What a declaration's reading is. -/
def DcK (m : Nat) (d : Nd) (k : Fo) (S : List Co) : Prop := S ≠ [] ∧ RdG .decl m d k S
theorem dc_2 (hk : d.kind = 2) (hok : ndOk isNm d (k.nds.map (·.kind)) = true) : DcK M d k (cores (spelled d k)) := by
  have h1 := kids_of hok
  rw [hk] at h1
  obtain rfl := kids_0 (k := k) h1
  have hx0 := (sg_name (text_n hok (by omega) (by omega) (by rw [hk]; rfl))).2
  have hc : cr [108, 111, 111, 112, 101, 114] = (2, [108, 111, 111, 112, 101, 114], 0) := by decide
  have eS : cores (spelled d .nil) = [cr [108, 111, 111, 112, 101, 114], cr d.text, cr [59]] := by rw [sp0]; simp [parts, hk, put, cores]
  rw [eS, hc, hx0, sem]
  refine ⟨List.cons_ne_nil _ _, fun T X hT => ?_⟩
  obtain ⟨t, T1, rfl, ht, hT1⟩ := cons_of hT
  obtain ⟨x, T2, rfl, hx, hT2⟩ := cons_of hT1
  obtain ⟨z, T3, rfl, hz, hT3⟩ := cons_of hT2
  refine ⟨at_ t 2 x.text 0, .nil, T3, ⟨hT3, nd_ext hk (text_c hx).symm (num_0 hok (by omega) (by omega) (by omega) (by omega)), rfl⟩, pe_step ⟨0, fun n _ => ?_⟩⟩
  have hW : ∀ l, seesW (t :: x :: z :: T3) l = l.contains [108, 111, 111, 112, 101, 114] := fun l => sees_c ht 2 _ l
  rw [P, if_pos (by rw [hW]; decide)]
  show tkK 1 (x :: z :: T3) _ = _
  rw [ptK_yes hx rfl, ptM_yes hz]
  rfl
theorem dc_3 (hk : d.kind = 3) (hok : ndOk isNm d (k.nds.map (·.kind)) = true) (hr : k.rd M d 0) : DcK M d k (cores (spelled d k)) := by
  have h1 := kids_of hok
  rw [hk] at h1
  have hx0 := (sg_name (text_n hok (by omega) (by omega) (by rw [hk]; rfl))).2
  have hc : cr [99, 108, 97, 115, 115] = (2, [99, 108, 97, 115, 115], 0) := by decide
  have eS : cores (spelled d k) = cr [99, 108, 97, 115, 115] :: cr d.text :: cr [123] :: ((k.seqs d 0).flatMap cores ++ [cr [125]]) := by
    have hK := Fo.seqs_len d k 0
    unfold spelled
    generalize k.seqs d 0 = Q at hK ⊢
    have hfl := flat_kidsP [] Q
    rw [List.nil_append] at hfl
    have hfl2 : ((List.range k.len).map Pa.kid).flatMap (put Q) = Q.flatten := by
      rw [← hK, List.range_eq_range']
      exact hfl
    have hcf : ∀ Q : List (List Pa), cores Q.flatten = Q.flatMap cores := by
      intro Q
      induction Q with
      | nil => rfl
      | cons a b ih => rw [List.flatten_cons, cores_app, ih, List.flatMap_cons]
    have ep : parts d k.len k.more = [.tok [99, 108, 97, 115, 115], .tok d.text, .tok [123]] ++ (List.range k.len).map .kid ++ [.tok [125]] := by simp [parts, hk]
    rw [ep, List.flatMap_append, List.flatMap_append, hfl2, cores_app, cores_app, hcf]
    rfl
  rw [eS, hc, hx0, lbr]
  refine ⟨List.cons_ne_nil _ _, fun T X hT => ?_⟩
  simp only [List.cons_append, List.append_assoc] at hT
  obtain ⟨t, T1, rfl, ht, hT1⟩ := cons_of hT
  obtain ⟨x, T2, rfl, hx, hT2⟩ := cons_of hT1
  obtain ⟨z, T3, rfl, hz, hT3⟩ := cons_of hT2
  obtain ⟨f', T4, hT4, hf, N, hN⟩ := members_read d (fun i => by simp [must, hk]) k 0 hr h1 T3 X t x .nil hT3
  refine ⟨at_ t 3 x.text 0, f', T4, ⟨hT4, nd_ext hk (text_c hx).symm (num_0 hok (by omega) (by omega) (by omega) (by omega)), hf⟩, pe_step ⟨N, fun n hn => ?_⟩⟩
  have hW : ∀ l, seesW (t :: x :: z :: T3) l = l.contains [99, 108, 97, 115, 115] := fun l => sees_c ht 2 _ l
  rw [P, if_neg (by rw [hW]; decide), if_pos (by rw [hW]; decide)]
  show tkK 1 (x :: z :: T3) _ = _
  rw [ptK_yes hx rfl, ptM_yes hz]
  exact hN n hn
theorem dc_6 (hk : d.kind = 6) (hok : ndOk isNm d (k.nds.map (·.kind)) = true) (hr : k.rd M d 0) : DcK M d k (cores (spelled d k)) := by
  have h1 := kids_of hok
  rw [hk] at h1
  obtain ⟨d0, k0, r, rfl, ha, h1⟩ := kids_c (k := k) (zs := []) h1
  obtain rfl := kids_0 (k := r) h1
  have hx0 := (sg_name (text_n hok (by omega) (by omega) (by rw [hk]; rfl))).2
  have hc : cr [118, 97, 114] = (2, [118, 97, 114], 0) := by decide
  have eS : cores (spelled d (.cons d0 k0 .nil)) = cr [118, 97, 114] :: cr d.text :: (kcs d 0 d0 k0 ++ [cr [59]]) := by
    rw [sp1]; unfold kcs; generalize inPar (prn d 0 d0) (spelled d0 k0) = q0; simp [parts, hk, put, cores, cores_app]
  rw [eS, hc, hx0, sem]
  refine ⟨List.cons_ne_nil _ _, fun T X hT => ?_⟩
  simp only [List.cons_append, List.append_assoc] at hT
  obtain ⟨t, T1, rfl, ht, hT1⟩ := cons_of hT
  obtain ⟨x, T2, rfl, hx, hT2⟩ := cons_of hT1
  obtain ⟨y, yk, T3, ⟨hT3, hd0, hk0⟩, hy⟩ := type0 hr ha (by simp [must, hk]) T2 _ hT2
  obtain ⟨z, T4, rfl, hz, hT4⟩ := cons_of hT3
  refine ⟨at_ t 6 x.text 0, one y yk, T4, ⟨hT4, nd_ext hk (text_c hx).symm (num_0 hok (by omega) (by omega) (by omega) (by omega)), by rw [bare_one, hd0, hk0]; rfl⟩, pe_step ⟨0, fun n hn => ?_⟩⟩
  have hW : ∀ l, seesW (t :: x :: T2) l = l.contains [118, 97, 114] := fun l => sees_c ht 2 _ l
  rw [P, if_neg (by rw [hW]; decide), if_neg (by rw [hW]; decide), if_pos (by rw [hW]; decide)]
  show tkK 1 (x :: T2) _ = _
  rw [ptK_yes hx rfl, hy]
  show tkM _ (z :: T4) _ = _
  rw [ptM_yes hz]
  rfl
theorem dc_7 (hk : d.kind = 7) (hok : ndOk isNm d (k.nds.map (·.kind)) = true) (hr : k.rd M d 0) : DcK M d k (cores (spelled d k)) := by
  have h1 := kids_of hok
  rw [hk] at h1
  obtain ⟨d0, k0, r, rfl, ha, h1⟩ := kids_c (k := k) (zs := []) h1
  obtain rfl := kids_0 (k := r) h1
  have hx0 := (sg_name (text_n hok (by omega) (by omega) (by rw [hk]; rfl))).2
  have hc : cr [102, 110] = (2, [102, 110], 0) := by decide
  obtain ⟨HB, _⟩ := block0 hr ha (by simp [must, hk])
  have eS : cores (spelled d (.cons d0 k0 .nil)) = cr [102, 110] :: cr d.text :: kcs d 0 d0 k0 := by
    rw [sp1]; unfold kcs; generalize inPar (prn d 0 d0) (spelled d0 k0) = q0; simp [parts, hk, put, cores, cores_app]
  rw [eS, hc, hx0]
  refine ⟨List.cons_ne_nil _ _, fun T X hT => ?_⟩
  simp only [List.cons_append, List.append_assoc] at hT
  obtain ⟨t, T1, rfl, ht, hT1⟩ := cons_of hT
  obtain ⟨x, T2, rfl, hx, hT2⟩ := cons_of hT1
  obtain ⟨b, bk, T3, ⟨hT3, hd0, hk0⟩, N, hN⟩ := HB T2 X hT2
  refine ⟨at_ t 7 x.text 0, one b bk, T3, ⟨hT3, nd_ext hk (text_c hx).symm (num_0 hok (by omega) (by omega) (by omega) (by omega)), by rw [bare_one, hd0, hk0]; rfl⟩, pe_step ⟨N, fun n hn => ?_⟩⟩
  have hW : ∀ l, seesW (t :: x :: T2) l = l.contains [102, 110] := fun l => sees_c ht 2 _ l
  rw [P, if_neg (by rw [hW]; decide), if_neg (by rw [hW]; decide), if_neg (by rw [hW]; decide), if_pos (by rw [hW]; decide)]
  show tkK 1 (x :: T2) _ = _
  rw [ptK_yes hx rfl, hN n hn]
  rfl
theorem dc_8 (hk : d.kind = 8) (hok : ndOk isNm d (k.nds.map (·.kind)) = true) (hf : k.fit isNm = true) (hr : k.rd M d 0) : DcK M d k (cores (spelled d k)) := by
  have h1 := kids_of hok
  rw [hk] at h1
  obtain ⟨d0, k0, r, rfl, ha, h1⟩ := kids_c (k := k) (zs := []) h1
  have hx0 := (sg_name (text_n hok (by omega) (by omega) (by rw [hk]; rfl))).2
  have hc : cr [99, 111, 109, 112] = (2, [99, 111, 109, 112], 0) := by decide
  have ho : cr [111, 110] = (2, [111, 110], 0) := by decide
  have eS : cores (spelled d (.cons d0 k0 r)) = cr [99, 111, 109, 112] :: cr d.text :: cr [111, 110] :: (kcs d 0 d0 k0 ++ (cr [123] :: ((r.seqs d 1).flatMap cores ++ [cr [125]]))) := by
    rw [spr]
    have hK : (inPar (prn d 0 d0) (spelled d0 k0) :: r.seqs d 1).length = (Fo.cons d0 k0 r).len := Fo.seqs_len d (.cons d0 k0 r) 0
    rw [← hK]
    have hb := braced_cores (inPar (prn d 0 d0) (spelled d0 k0) :: r.seqs d 1) 1 (by simp)
    unfold kcs
    generalize inPar (prn d 0 d0) (spelled d0 k0) = q0 at hb ⊢
    generalize r.seqs d 1 = Q at hb ⊢
    have ep : parts d (q0 :: Q).length (Fo.cons d0 k0 r).more = [.tok [99, 111, 109, 112], .tok d.text, .tok [111, 110], .kid 0] ++ braced (q0 :: Q).length 1 := by simp [parts, hk]
    rw [ep, List.flatMap_append, cores_app, hb]
    simp [put, cores, cores_app]
  rw [eS, hc, hx0, ho, lbr]
  refine ⟨List.cons_ne_nil _ _, fun T X hT => ?_⟩
  simp only [List.cons_append, List.append_assoc] at hT
  obtain ⟨t, T1, rfl, ht, hT1⟩ := cons_of hT
  obtain ⟨x, T2, rfl, hx, hT2⟩ := cons_of hT1
  obtain ⟨y, T3, rfl, hy, hT3⟩ := cons_of hT2
  obtain ⟨u, uk, T4, ⟨hT4, hd0, hk0⟩, hu⟩ := use0 hf ha (by simp [must, hk]) T3 _ hT3
  obtain ⟨z, T5, rfl, hz, hT5⟩ := cons_of hT4
  obtain ⟨f', T6, hT6, hf', N, hN⟩ := lives_read d (fun i => by simp [must, hk]) r 1 hr.2 h1 T5 X t x (one u uk) hT5
  refine ⟨at_ t 8 x.text 0, (one u uk).app f', T6, ⟨hT6, nd_ext hk (text_c hx).symm (num_0 hok (by omega) (by omega) (by omega) (by omega)), by rw [bare_app, bare_one, hd0, hk0, hf']; rfl⟩, pe_step ⟨N, fun n hn => ?_⟩⟩
  have hW : ∀ l, seesW (t :: x :: y :: T3) l = l.contains [99, 111, 109, 112] := fun l => sees_c ht 2 _ l
  rw [P, if_neg (by rw [hW]; decide), if_neg (by rw [hW]; decide), if_neg (by rw [hW]; decide), if_neg (by rw [hW]; decide), if_pos (by rw [hW]; decide)]
  show tkK 1 (x :: y :: T3) _ = _
  rw [ptK_yes hx rfl]
  unfold onO
  rw [ptW_yes hy (by decide), hu]
  show tkM _ (z :: T5) _ = _
  rw [ptM_yes hz]
  exact hN n hn
theorem dc_10 (hk : d.kind = 10) (hok : ndOk isNm d (k.nds.map (·.kind)) = true) (hf : k.fit isNm = true) (hr : k.rd M d 0) : DcK M d k (cores (spelled d k)) := by
  have h1 := kids_of hok
  rw [hk] at h1
  obtain ⟨d0, k0, r, rfl, ha, h1⟩ := kids_c (k := k) (zs := [isK 12]) h1
  obtain ⟨d1, k1, r, rfl, hb, h1⟩ := kids_c (k := r) (zs := []) h1
  obtain rfl := kids_0 (k := r) h1
  have hn := num_of hok
  rw [hk] at hn
  have hn' : d.n = 0 ∨ d.n = 1 := by
    simp [numOk] at hn
    omega
  have hx0 := (sg_name (text_n hok (by omega) (by omega) (by rw [hk]; rfl))).2
  have hc : cr [101, 118, 101, 110, 116] = (2, [101, 118, 101, 110, 116], 0) := by decide
  have ho : cr [111, 110] = (2, [111, 110], 0) := by decide
  obtain ⟨w, hw, hwc, hwl, hwn⟩ : ∃ w, (if d.n = 0 then [111, 102, 102] else [111, 110]) = w ∧ cr w = (2, w, 0) ∧ ([[111, 110], [111, 102, 102]] : List (List UInt8)).contains w = true ∧ (if w = [111, 110] then (1 : Int) else 0) = d.n := by
    rcases hn' with h | h
    · exact ⟨[111, 102, 102], by rw [h]; rfl, by decide, by decide, by rw [h]; decide⟩
    · exact ⟨[111, 110], by rw [h]; rfl, by decide, by decide, by rw [h]; decide⟩
  obtain ⟨HB, _⟩ := block0 (i := 1) hr.2 hb (by simp [must, hk])
  have eS : cores (spelled d (.cons d0 k0 (.cons d1 k1 .nil))) = cr [101, 118, 101, 110, 116] :: cr d.text :: cr [111, 110] :: (kcs d 0 d0 k0 ++ (cr w :: kcs d 1 d1 k1)) := by
    rw [sp2, ← hw]; unfold kcs; generalize inPar (prn d 0 d0) (spelled d0 k0) = q0; generalize inPar (prn d 1 d1) (spelled d1 k1) = q1; simp [parts, hk, put, cores, cores_app]
  rw [eS, hc, hx0, ho, hwc]
  refine ⟨List.cons_ne_nil _ _, fun T X hT => ?_⟩
  simp only [List.cons_append, List.append_assoc] at hT
  obtain ⟨t, T1, rfl, ht, hT1⟩ := cons_of hT
  obtain ⟨x, T2, rfl, hx, hT2⟩ := cons_of hT1
  obtain ⟨y, T3, rfl, hy, hT3⟩ := cons_of hT2
  obtain ⟨u, uk, T4, ⟨hT4, hd0, hk0⟩, hu⟩ := use0 hf ha (by simp [must, hk]) T3 _ hT3
  obtain ⟨z, T5, rfl, hz, hT5⟩ := cons_of hT4
  obtain ⟨b, bk, T6, ⟨hT6, hd1, hk1⟩, N, hN⟩ := HB T5 X hT5
  have hzt : z.text = w := text_c hz
  refine ⟨at_ t 10 x.text (if z.text = [111, 110] then 1 else 0), (one u uk).app (one b bk), T6, ⟨hT6, nd_ext hk (text_c hx).symm (by rw [hzt, hwn]), by rw [bare_app, bare_one, bare_one, hd0, hk0, hd1, hk1]; rfl⟩, pe_step ⟨N, fun n hn => ?_⟩⟩
  have hW : ∀ l, seesW (t :: x :: y :: T3) l = l.contains [101, 118, 101, 110, 116] := fun l => sees_c ht 2 _ l
  rw [P, if_neg (by rw [hW]; decide), if_neg (by rw [hW]; decide), if_neg (by rw [hW]; decide), if_neg (by rw [hW]; decide), if_neg (by rw [hW]; decide), if_pos (by rw [hW]; decide)]
  show tkK 1 (x :: y :: T3) _ = _
  rw [ptK_yes hx rfl]
  unfold onO
  rw [ptW_yes hy (by decide), hu]
  show tkW _ (z :: T5) _ = _
  rw [ptW_yes hz hwl, hN n hn]
  rfl
theorem dc_11 (hk : d.kind = 11) (hok : ndOk isNm d (k.nds.map (·.kind)) = true) (hr : k.rd M d 0) : DcK M d k (cores (spelled d k)) := by
  have h1 := kids_of hok
  rw [hk] at h1
  obtain ⟨d0, k0, r, rfl, ha, h1⟩ := kids_c (k := k) (zs := []) h1
  obtain rfl := kids_0 (k := r) h1
  have hc : cr [109, 97, 105, 110] = (2, [109, 97, 105, 110], 0) := by decide
  obtain ⟨HB, _⟩ := block0 hr ha (by simp [must, hk])
  have eS : cores (spelled d (.cons d0 k0 .nil)) = cr [109, 97, 105, 110] :: kcs d 0 d0 k0 := by
    rw [sp1]; unfold kcs; generalize inPar (prn d 0 d0) (spelled d0 k0) = q0; simp [parts, hk, put, cores, cores_app]
  rw [eS, hc]
  refine ⟨List.cons_ne_nil _ _, fun T X hT => ?_⟩
  simp only [List.cons_append, List.append_assoc] at hT
  obtain ⟨t, T1, rfl, ht, hT1⟩ := cons_of hT
  obtain ⟨b, bk, T3, ⟨hT3, hd0, hk0⟩, N, hN⟩ := HB T1 X hT1
  refine ⟨at_ t 11 [] 0, one b bk, T3, ⟨hT3, nd_ext hk (text_0 hok (by omega) (by omega) (by rw [hk]; rfl)) (num_0 hok (by omega) (by omega) (by omega) (by omega)), by rw [bare_one, hd0, hk0]; rfl⟩, pe_step ⟨N, fun n hn => ?_⟩⟩
  have hW : ∀ l, seesW (t :: T1) l = l.contains [109, 97, 105, 110] := fun l => sees_c ht 2 _ l
  rw [P, if_neg (by rw [hW]; decide), if_neg (by rw [hW]; decide), if_neg (by rw [hW]; decide), if_neg (by rw [hW]; decide), if_neg (by rw [hW]; decide), if_neg (by rw [hW]; decide), ptW_yes ht (by decide), hN n hn]
  rfl
end
end Go.Proofs.YtehdljcmeimbcaaGreat

namespace Go.Proofs.YtehdljcmeimbcaaGreat
set_option linter.unusedVariables false
set_option linter.unusedSimpArgs false

/-- The tokens of parts. -/
def tks : List Pa → List (List UInt8)
  | [] => []
  | .tok s :: r => s :: tks r
  | .line _ :: r => tks r
  | .kid _ :: r => tks r
theorem tks_app : ∀ a b : List Pa, tks (a ++ b) = tks a ++ tks b
  | [], _ => rfl
  | .tok s :: r, b => by simp [tks, tks_app r b]
  | .line _ :: r, b => by simp [tks, tks_app r b]
  | .kid _ :: r, b => by simp [tks, tks_app r b]
theorem tks_mem : ∀ (l : List Pa) {s : List UInt8}, Pa.tok s ∈ l → s ∈ tks l
  | [], _, h => by cases h
  | .tok s :: r, x, h => by
    rcases List.mem_cons.1 h with h | h
    · cases h
      exact List.mem_cons_self
    · exact List.mem_cons_of_mem _ (tks_mem r h)
  | .line _ :: r, x, h => by
    rcases List.mem_cons.1 h with h | h
    · cases h
    · exact tks_mem r h
  | .kid _ :: r, x, h => by
    rcases List.mem_cons.1 h with h | h
    · cases h
    · exact tks_mem r h
theorem tks_lines (len : Nat) : ∀ c nth, tks (kidLines len c nth) = []
  | 0, _ => rfl
  | c + 1, nth => tks_lines len c (nth + 1)
theorem tks_braced (len start : Nat) : tks (braced len start) = [[123], [125]] := by
  unfold braced
  split
  · rfl
  · simp [tks, tks_app, tks_lines]
theorem tks_kids : ∀ l : List Nat, tks (l.map Pa.kid) = []
  | [] => rfl
  | _ :: r => tks_kids r
theorem tks_root : ∀ l : List Nat, tks (l.flatMap fun i => [Pa.kid i, Pa.line 0]) = []
  | [] => rfl
  | _ :: r => by simpa [tks] using tks_root r
theorem tks_to (n : Nat) : ∀ s ∈ tks (toV n), Sg1 s := by
  unfold toV
  split
  · simp only [tks, List.forall_mem_cons]
    exact ⟨sg_of (by decide), fun _ h => by cases h⟩
  · exact fun _ h => by cases h
theorem mem_app {α : Type} {p : α → Prop} {a b : List α} : (∀ s ∈ a ++ b, p s) ↔ (∀ s ∈ a, p s) ∧ ∀ s ∈ b, p s := by
  simp only [List.mem_append]
  exact ⟨fun h => ⟨fun s hs => h s (.inl hs), fun s hs => h s (.inr hs)⟩, fun h s hs => hs.elim (h.1 s) (h.2 s)⟩
theorem mem_none {α : Type} {p : α → Prop} : ∀ s ∈ ([] : List α), p s := fun _ h => by cases h

theorem sg_type {s : List UInt8} (h : isTy isNm s = true) : Sg1 s := by
  simp only [isTy, Bool.or_eq_true, beq_iff_eq] at h
  rcases h with ((((h | h) | h) | h) | h) | h
  · rw [h]; exact sg_of (by decide)
  · rw [h]; exact sg_of (by decide)
  · rw [h]; exact sg_of (by decide)
  · rw [h]; exact sg_of (by decide)
  · rw [h]; exact sg_of (by decide)
  · exact (sg_name h).1
theorem sg_sign {s : List UInt8} (h : isSg s = true) : Sg1 s := by
  simp only [isSg, Bool.or_eq_true, beq_iff_eq] at h
  rcases h with (((h | h) | h) | h) | h
  · rw [h]; exact sg_of (by decide)
  · rw [h]; exact sg_of (by decide)
  · rw [h]; exact sg_of (by decide)
  · rw [h]; exact sg_of (by decide)
  · rw [h]; exact sg_of (by decide)
theorem sg_life (n : Int) : Sg1 (lifeT n) := by
  unfold lifeT
  split
  · exact sg_of (by decide)
  · split
    · exact sg_of (by decide)
    · split <;> exact sg_of (by decide)

theorem kind_rng {d : Nd} {L : List Int} (h : ndOk isNm d L = true) : 1 ≤ d.kind ∧ d.kind ≤ 36 := by
  simp only [ndOk, Bool.and_eq_true, kindOk, decide_eq_true_eq] at h
  exact h.1.1.1
theorem parts_tok (d : Nd) (L : List Int) (len : Nat) (b : Bool) (hok : ndOk isNm d L = true) : ∀ s ∈ tks (parts d len b), Sg1 s := by
  have hr := kind_rng hok
  have hn : named d.kind = true → Sg1 d.text := fun h => (sg_name (text_n hok (by rintro e; rw [e] at h; exact absurd h (by decide)) (by rintro e; rw [e] at h; exact absurd h (by decide)) h)).1
  have h5 : d.kind = 5 → Sg1 d.text := fun h => sg_type (by
    have := hok
    simp only [ndOk, Bool.and_eq_true] at this
    have := this.1.1.2
    unfold textOk at this
    rwa [if_pos h] at this)
  have h32 : d.kind = 32 → Sg1 d.text := fun h => sg_sign (by
    have := hok
    simp only [ndOk, Bool.and_eq_true] at this
    have := this.1.1.2
    unfold textOk at this
    rwa [if_neg (by omega), if_pos h] at this)
  have hnum := num_of hok
  have h26 : d.kind = 26 → Sg1 (digT d.n) := fun h => by
    rw [h] at hnum
    have : 0 ≤ d.n ∧ d.n ≤ 2147483647 := by simpa [numOk] using hnum
    exact (sg_num this.1 this.2).1
  have h19 : d.kind = 19 → 0 < d.n → Sg1 (digT d.n) := fun h h0 => by
    rw [h] at hnum
    have : -1 ≤ d.n ∧ d.n ≤ 2147483647 := by simpa [numOk] using hnum
    exact (sg_num (by omega) this.2).1
  have hl := sg_life d.n
  have hto := tks_to len
  have key : ∀ k : Int, d.kind = k → (named k = true → Sg1 d.text) := fun k h => by rw [← h]; exact hn
  obtain ⟨h1, h2⟩ := hr
  have hc : d.kind = 1 ∨ d.kind = 2 ∨ d.kind = 3 ∨ d.kind = 4 ∨ d.kind = 5 ∨ d.kind = 6 ∨ d.kind = 7 ∨ d.kind = 8 ∨ d.kind = 9 ∨ d.kind = 10 ∨ d.kind = 11 ∨ d.kind = 12 ∨ d.kind = 13 ∨ d.kind = 14 ∨ d.kind = 15 ∨ d.kind = 16 ∨ d.kind = 17 ∨ d.kind = 18 ∨ d.kind = 19 ∨ d.kind = 20 ∨ d.kind = 21 ∨ d.kind = 22 ∨ d.kind = 23 ∨ d.kind = 24 ∨ d.kind = 25 ∨ d.kind = 26 ∨ d.kind = 27 ∨ d.kind = 28 ∨ d.kind = 29 ∨ d.kind = 30 ∨ d.kind = 31 ∨ d.kind = 32 ∨ d.kind = 33 ∨ d.kind = 34 ∨ d.kind = 35 ∨ d.kind = 36 := by omega
  by_cases e19 : d.kind = 19
  · have hx := key 19 e19 rfl
    have ep : parts d len b = [.tok [112, 111, 115, 116], .tok d.text, .kid 0] ++ (if d.n < 0 then [.tok [102, 114, 111, 110, 116]] else if 0 < d.n then [.tok [97, 102, 116, 101, 114], .tok (digT d.n)] else []) ++ toV len ++ [.tok [59]] := by simp [parts, e19]
    rw [ep, tks_app, tks_app, tks_app, mem_app, mem_app, mem_app]
    refine ⟨⟨⟨?_, ?_⟩, hto⟩, ?_⟩
    · simp only [tks, List.forall_mem_cons]
      exact ⟨sg_of (by decide), hx, mem_none⟩
    · split
      · simp only [tks, List.forall_mem_cons]
        exact ⟨sg_of (by decide), mem_none⟩
      · split
        · simp only [tks, List.forall_mem_cons]
          exact ⟨sg_of (by decide), h19 e19 ‹_›, mem_none⟩
        · exact mem_none
    · simp only [tks, List.forall_mem_cons]
      exact ⟨sg_of (by decide), mem_none⟩
  by_cases e10 : d.kind = 10
  · have hx := key 10 e10 rfl
    have ep : parts d len b = [.tok [101, 118, 101, 110, 116], .tok d.text, .tok [111, 110], .kid 0, .tok (if d.n = 0 then [111, 102, 102] else [111, 110]), .kid 1] := by simp [parts, e10]
    rw [ep]
    simp only [tks, List.forall_mem_cons]
    exact ⟨sg_of (by decide), hx, sg_of (by decide), by split <;> exact sg_of (by decide), mem_none⟩
  by_cases e23 : d.kind = 23
  · have ep : parts d len b = [.tok [105, 102], .kid 0, .kid 1] ++ (if b = true then [.tok [101, 108, 115, 101], .kid 2] else []) := by simp [parts, e23]
    rw [ep, tks_app, mem_app]
    refine ⟨?_, ?_⟩
    · simp only [tks, List.forall_mem_cons]
      exact ⟨sg_of (by decide), mem_none⟩
    · split
      · simp only [tks, List.forall_mem_cons]
        exact ⟨sg_of (by decide), mem_none⟩
      · exact mem_none
  by_cases e20 : d.kind = 20
  · have ep : parts d len b = [.tok [115, 112, 97, 119, 110], .kid 0] ++ toV len ++ [.tok [59]] := by simp [parts, e20]
    rw [ep, tks_app, tks_app, mem_app, mem_app]
    refine ⟨⟨?_, hto⟩, ?_⟩ <;>
    · simp only [tks, List.forall_mem_cons]
      exact ⟨sg_of (by decide), mem_none⟩
  by_cases e3 : d.kind = 3
  · have hx := key 3 e3 rfl
    have ep : parts d len b = [.tok [99, 108, 97, 115, 115], .tok d.text, .tok [123]] ++ (List.range len).map .kid ++ [.tok [125]] := by simp [parts, e3]
    rw [ep, tks_app, tks_app, tks_kids, List.append_nil, mem_app]
    refine ⟨?_, ?_⟩
    · simp only [tks, List.forall_mem_cons]
      exact ⟨sg_of (by decide), hx, sg_of (by decide), mem_none⟩
    · simp only [tks, List.forall_mem_cons]
      exact ⟨sg_of (by decide), mem_none⟩
  by_cases e8 : d.kind = 8
  · have hx := key 8 e8 rfl
    have ep : parts d len b = [.tok [99, 111, 109, 112], .tok d.text, .tok [111, 110], .kid 0] ++ braced len 1 := by simp [parts, e8]
    rw [ep, tks_app, tks_braced, mem_app]
    refine ⟨?_, ?_⟩
    · simp only [tks, List.forall_mem_cons]
      exact ⟨sg_of (by decide), hx, sg_of (by decide), mem_none⟩
    · simp only [List.forall_mem_cons]
      exact ⟨sg_of (by decide), sg_of (by decide), mem_none⟩
  by_cases e12 : d.kind = 12
  · have ep : parts d len b = braced len 0 := by simp [parts, e12]
    rw [ep, tks_braced]
    simp only [List.forall_mem_cons]
    exact ⟨sg_of (by decide), sg_of (by decide), mem_none⟩
  by_cases e1 : d.kind = 1
  · have ep : parts d len b = (List.range len).flatMap fun i => [.kid i, .line 0] := by simp [parts, e1]
    rw [ep, tks_root]
    exact mem_none
  clear hnum h19 hto
  rcases hc with h | h | h | h | h | h | h | h | h | h | h | h | h | h | h | h | h | h | h | h | h | h | h | h | h | h | h | h | h | h | h | h | h | h | h | h <;>
    first
    | exact absurd h ‹_›
    | (have hx := key _ h
       unfold parts
       rw [h]
       simp only [reduceIte, Int.reduceEq, tks, List.forall_mem_cons]
       first
       | exact mem_none
       | exact ⟨sg_of (by decide), mem_none⟩
       | exact ⟨sg_of (by decide), sg_of (by decide), mem_none⟩
       | exact ⟨sg_of (by decide), sg_of (by decide), sg_of (by decide), mem_none⟩
       | exact ⟨hx rfl, mem_none⟩
       | exact ⟨h5 h, mem_none⟩
       | exact ⟨h32 h, mem_none⟩
       | exact ⟨h26 h, mem_none⟩
       | exact ⟨hl, mem_none⟩
       | exact ⟨sg_of (by decide), hx rfl, mem_none⟩
       | exact ⟨hx rfl, sg_of (by decide), mem_none⟩
       | exact ⟨sg_of (by decide), hx rfl, sg_of (by decide), mem_none⟩
       | exact ⟨sg_of (by decide), hx rfl, sg_of (by decide), sg_of (by decide), mem_none⟩)

theorem put_ok {K : List (List Pa)} (hK : ∀ q ∈ K, ∀ x ∈ q, paOk x) : ∀ {P : List Pa}, (∀ s ∈ tks P, Sg1 s) → ∀ x ∈ P.flatMap (put K), paOk x := fun {P} hP x hx => by
  obtain ⟨y, hy, hx⟩ := List.mem_flatMap.1 hx
  cases y with
  | tok s =>
    simp only [put, List.mem_singleton] at hx
    subst hx
    exact hP s (tks_mem _ hy)
  | line k =>
    simp only [put, List.mem_singleton] at hx
    subst hx
    trivial
  | kid i =>
    simp only [put, List.getD_eq_getElem?_getD] at hx
    cases hi : K[i]? with
    | none => rw [hi] at hx; cases hx
    | some q =>
      rw [hi] at hx
      exact hK q (List.mem_of_getElem? hi) x hx
theorem par_ok {q : List Pa} (b : Bool) (h : ∀ x ∈ q, paOk x) : ∀ x ∈ inPar b q, paOk x := fun x hx => by
  cases b
  · exact h x hx
  · simp only [inPar, if_pos, List.mem_cons, List.mem_append, List.not_mem_nil, or_false] at hx
    rcases hx with rfl | hx | rfl
    · exact (sg_of (by decide) : Sg1 [40])
    · exact h x hx
    · exact (sg_of (by decide) : Sg1 [41])
theorem seqs_ok : ∀ (f : Fo) (p : Nd) (i : Nat), f.fit isNm = true → ∀ q ∈ f.seqs p i, ∀ x ∈ q, paOk x
  | .nil, _, _, _, q, hq, _, _ => by cases hq
  | .cons d k r, p, i, hf, q, hq, x, hx => by
    simp only [Fo.fit, Bool.and_eq_true] at hf
    rcases List.mem_cons.1 hq with rfl | hq
    · exact par_ok _ (put_ok (seqs_ok k d 0 hf.1.2) (parts_tok d _ _ _ hf.1.1)) x hx
    · exact seqs_ok r p (i + 1) hf.2 q hq x hx
theorem spelled_ok (d : Nd) (k : Fo) (hok : ndOk isNm d (k.nds.map (·.kind)) = true) (hf : k.fit isNm = true) : ∀ x ∈ spelled d k, paOk x :=
  put_ok (seqs_ok k d 0 hf) (parts_tok d _ _ _ hok)
end Go.Proofs.YtehdljcmeimbcaaGreat
