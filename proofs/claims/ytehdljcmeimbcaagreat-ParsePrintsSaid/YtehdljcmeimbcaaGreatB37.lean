/- The grammar on a page's tokens: blocks and statements. -/
import Derived.Test.YtehdljcmeimbcaaGreatB36
namespace Go.Proofs.YtehdljcmeimbcaaGreat
set_option linter.unusedVariables false
set_option linter.unusedSimpArgs false

theorem kidLines_cores (K : List (List Pa)) (len : Nat) : ∀ (c nth : Nat), nth + c ≤ K.length → cores ((kidLines len c nth).flatMap (put K)) = ((K.drop nth).take c).flatMap cores
  | 0, nth, _ => by simp [kidLines, cores]
  | c + 1, nth, h => by
    have ih := kidLines_cores K len c (nth + 1) (by omega)
    have hl : nth < K.length := by omega
    rw [List.drop_eq_getElem_cons hl, List.take_succ_cons, List.flatMap_cons, ← ih]
    have hg : put K (.kid nth) = K[nth] := by simp [put, List.getD_eq_getElem?_getD, List.getElem?_eq_getElem hl]
    simp only [kidLines, List.flatMap_cons, hg, cores_app]
    congr 1
theorem braced_cores (K : List (List Pa)) (start : Nat) (h : start ≤ K.length) : cores ((braced K.length start).flatMap (put K)) = cr [123] :: ((K.drop start).flatMap cores ++ [cr [125]]) := by
  unfold braced
  split
  · rename_i he
    rw [← he, List.drop_length]
    rfl
  · have := kidLines_cores K K.length (K.length - start) start (by omega)
    rw [List.take_of_length_le (by simp)] at this
    simp only [List.flatMap_cons, List.flatMap_append, cores_app, this]
    simp [put, cores]

theorem lbr : cr [123] = (4, [123], 0) := by decide
theorem rbr : cr [125] = (4, [125], 0) := by decide
theorem sem : cr [59] = (4, [59], 0) := by decide
theorem eqs : cr [61] = (4, [61], 0) := by decide

/-- A mark that must be. -/
theorem ptM_yes {s : List UInt8} {t : Tok} (ht : t.core = (4, s, 0)) (T : List Tok) (f : Tok → List Tok → Out) : tkM [s] (t :: T) f = f t T := by
  unfold tkM tk
  rw [if_pos (by exact (sees_c ht 4 _ _).trans (by simp))]
  rfl
theorem ptK_yes {k : Int} {c : Co} {t : Tok} (ht : t.core = c) (hk : (c.1 == k) = true) (T : List Tok) (f : Tok → List Tok → Out) : tkK k (t :: T) f = f t T := by
  unfold tkK tk
  rw [if_pos ((kind_c ht k T).trans hk)]
  rfl
theorem fs_cons (p : Nd) (i : Nat) (d : Nd) (k r : Fo) : ((Fo.cons d k r).seqs p i).flatMap cores = kcs p i d k ++ (r.seqs p (i + 1)).flatMap cores := by
  rw [seqs_cons, List.flatMap_cons]; rfl

/-- The loop of a block's statements. -/
theorem stmts_read (M : Nat) (p : Nd) (hp : ∀ i, must p i ≤ 0) : ∀ (f : Fo) (i : Nat), f.rd M p i → rowOk [] isSt (f.nds.map (·.kind)) = true → ∀ (T : List Tok) (X : List Co) (t : Tok) (acc : Fo),
    T.map Tok.core = (f.seqs p i).flatMap cores ++ (cr [125] :: X) → ∃ f' T', T'.map Tok.core = X ∧ f'.bare = f.bare ∧ Pe (.stmts t acc) T M (.ok (at_ t 12 [] 0) (acc.app f') T')
  | .nil, i, _, _, T, X, t, acc, hT => by
    rw [seqs_nil, List.flatMap_nil, List.nil_append, rbr] at hT
    obtain ⟨x, T1, rfl, hx, hT1⟩ := cons_of hT
    refine ⟨.nil, T1, hT1, rfl, pe_step ⟨0, fun n _ => ?_⟩⟩
    rw [P, if_pos (by exact sees_c hx 4 _ _), Fo.app_nil]
    rfl
  | .cons d k r, i, hr, hs, T, X, t, acc, hT => by
    obtain ⟨hk, hr⟩ := hr
    simp only [nds_cons, List.map_cons, rowOk, List.all_cons, Bool.and_eq_true] at hs
    have htm : isTm d.kind = false := by
      have := hs.1
      simp [isSt] at this
      simp [isTm]
      omega
    obtain ⟨⟨hne, he, hb⟩, H⟩ := (hk.pl htm).st hs.1
    rw [fs_cons, kc_plain (hp i), List.append_assoc] at hT
    have hX : begK 2 [[101, 108, 115, 101]] ((r.seqs p (i + 1)).flatMap cores ++ (cr [125] :: X)) = false := by
      cases r with
      | nil => rw [seqs_nil, List.flatMap_nil, List.nil_append, rbr]; rfl
      | cons d2 k2 r2 =>
        have hs2 := hs.2
        simp only [nds_cons, List.map_cons, List.all_cons, Bool.and_eq_true] at hs2
        have htm2 : isTm d2.kind = false := by
          have := hs2.1
          simp [isSt] at this
          simp [isTm]
          omega
        obtain ⟨⟨hne2, he2, _⟩, _⟩ := (hr.1.pl htm2).st hs2.1
        rw [fs_cons, kc_plain (hp _), List.append_assoc, beg_ne hne2]
        exact he2
    obtain ⟨d', k', T1, ⟨hT1, hd, hk'⟩, N, hN⟩ := H T _ hT hX
    obtain ⟨f', T2, hT2, hf, N2, hN2⟩ := stmts_read M p hp r (i + 1) hr (by simpa [rowOk] using hs.2) T1 X t (acc.app (one d' k')) hT1
    refine ⟨.cons d' k' f', T2, hT2, by simp [Fo.bare, hd, hk', hf], pe_step ⟨max N N2, fun n hn => ?_⟩⟩
    rw [P, if_neg, hN n (by omega)]
    · show P n (.stmts t (acc.app (one d' k'))) T1 M = _
      rw [hN2 n (by omega), app_assoc, app_one]
    · show ¬ seesK 4 T _ = true
      rw [sees_beg 4 rfl, hT, beg_ne hne, hb]; decide

section
variable {M : Nat} {d : Nd} {k : Fo}
theorem block_cores (hk : d.kind = 12) : cores (spelled d k) = cr [123] :: ((k.seqs d 0).flatMap cores ++ [cr [125]]) := by
  have h := braced_cores (k.seqs d 0) 0 (Nat.zero_le _)
  rw [Fo.seqs_len, List.drop_zero] at h
  rw [← h]
  simp [spelled, parts, hk]
theorem pl_12 (hk : d.kind = 12) (hM : M ≠ 64) (hok : ndOk isNm d (k.nds.map (·.kind)) = true) (hr : k.rd (M + 1) d 0) : RdG .block M d k (cores (spelled d k)) := by
  intro T X hT
  have h1 := kids_of hok
  rw [hk] at h1
  rw [block_cores hk, List.cons_append, List.append_assoc, lbr] at hT
  obtain ⟨t, T1, rfl, ht, hT1⟩ := cons_of hT
  obtain ⟨f', T2, hT2, hf, N, hN⟩ := stmts_read (M + 1) d (fun i => by simp [must, hk]) k 0 hr h1 T1 X t .nil hT1
  refine ⟨at_ t 12 [] 0, f', T2, ⟨hT2, nd_ext hk (text_0 hok (by omega) (by omega) (by rw [hk]; rfl)) (num_0 hok (by omega) (by omega) (by omega) (by omega)), hf⟩, pe_step ⟨N, fun n hn => ?_⟩⟩
  rw [P, if_pos (by exact sees_c ht 4 _ _)]
  unfold ent
  rw [if_neg hM]
  exact hN n hn

/-- The kid of one sort: a term; and what is behind it. -/
theorem term0 {d0 : Nd} {k0 r : Fo} {i : Nat} (h : (Fo.cons d0 k0 r).rd M d i) (ha : isTm d0.kind = true) (hi : ins d i = false) : Rd1 M d0 k0 (kcs d i d0 k0) := by
  have H := h.1.tm ha
  rw [hi, if_neg (show ¬ (false = true) by decide), Nat.add_zero] at H
  exact H.r1
theorem block0 {d0 : Nd} {k0 r : Fo} {i : Nat} (h : (Fo.cons d0 k0 r).rd M d i) (ha : isK 12 d0.kind = true) (hp : must d i ≤ 0) : RdG .block M d0 k0 (kcs d i d0 k0) ∧ ∃ S', kcs d i d0 k0 = cr [123] :: S' := by
  have ha' : d0.kind = 12 := by simpa [isK] using ha
  rw [kc_plain hp]
  exact ⟨(h.1.pl (by rw [ha']; rfl)).bl ha', _, block_cores ha'⟩
theorem type0 {d0 : Nd} {k0 r : Fo} {i : Nat} (h : (Fo.cons d0 k0 r).rd M d i) (ha : isK 5 d0.kind = true) (hp : must d i ≤ 0) : ∀ T X, T.map Tok.core = kcs d i d0 k0 ++ X → ∃ d' k' T', Eqv d0 k0 X d' k' T' ∧ tyO T = .ok d' k' T' := by
  have ha' : d0.kind = 5 := by simpa [isK] using ha
  rw [kc_plain hp]
  exact (h.1.pl (by rw [ha']; rfl)).ty ha'
/-- A variable. -/
theorem var0 {d0 : Nd} {k0 r : Fo} {i : Nat} (h : (Fo.cons d0 k0 r).rd M d i) (ha : isVr d0.kind = true) (hi : ins d i = false) : Beg w4 (kcs d i d0 k0) ∧ ∀ T X, T.map Tok.core = kcs d i d0 k0 ++ X → begK 4 m5 X = false → ∃ d' k' T', Eqv d0 k0 X d' k' T' ∧ Pe .var T M (.ok d' k' T') := by
  have hv : d0.kind = 29 ∨ d0.kind = 30 ∨ d0.kind = 31 := by
    simp [isVr] at ha
    omega
  have H := h.1.tm (by simp [isTm]; omega)
  rw [hi, if_neg (show ¬ (false = true) by decide), Nat.add_zero] at H
  refine ⟨H.b5 (le_5 hv), fun T X hT hX => ?_⟩
  obtain ⟨d', k', T', he, hq⟩ := H.r5 (le_5 hv) T X hT
  obtain ⟨N, hN⟩ := hq _ (tightL_stop he.1 hX d' k' M)
  refine ⟨d', k', T', he, pe_step ⟨N, fun n hn => ?_⟩⟩
  rw [P, show P n .tight T M = _ from hN n hn]
  show (if _ then _ else _) = _
  have hk : d'.kind = d0.kind := show d'.bare.kind = d0.bare.kind from congrArg Nd.kind he.2.1
  rw [if_pos]
  rw [hk]
  unfold isVarK
  rcases hv with h | h | h <;> rw [h] <;> rfl

theorem st_ne {w : List UInt8} {S : List Co} (h : w ≠ [101, 108, 115, 101]) : ((2, w, 0) :: S : List Co) ≠ [] ∧ begK 2 [[101, 108, 115, 101]] ((2, w, 0) :: S : List Co) = false ∧ begK 4 [[125]] ((2, w, 0) :: S : List Co) = false := by
  refine ⟨List.cons_ne_nil _ _, ?_, rfl⟩
  simp [begK, h]
/-- What a statement's reading is. -/
def StK (m : Nat) (d : Nd) (k : Fo) (S : List Co) : Prop := (S ≠ [] ∧ begK 2 [[101, 108, 115, 101]] S = false ∧ begK 4 [[125]] S = false) ∧ ∀ T X, T.map Tok.core = S ++ X → begK 2 [[101, 108, 115, 101]] X = false → ∃ d' k' T', Eqv d k X d' k' T' ∧ Pe .stmt T m (.ok d' k' T')

theorem st_13 (hk : d.kind = 13) (hok : ndOk isNm d (k.nds.map (·.kind)) = true) (hr : k.rd M d 0) : StK M d k (cores (spelled d k)) := by
  have h1 := kids_of hok
  rw [hk] at h1
  obtain ⟨d0, k0, r, rfl, ha, h1⟩ := kids_c (k := k) (zs := [isTm]) h1
  obtain ⟨d1, k1, r, rfl, hb, h1⟩ := kids_c (k := r) (zs := []) h1
  obtain rfl := kids_0 (k := r) h1
  have hc := (sg_name (text_n hok (by omega) (by omega) (by rw [hk]; rfl))).2
  have hw : cr [118, 97, 114] = (2, [118, 97, 114], 0) := by decide
  have eS : cores (spelled d (.cons d0 k0 (.cons d1 k1 .nil))) = cr [118, 97, 114] :: cr d.text :: (kcs d 0 d0 k0 ++ (cr [61] :: (kcs d 1 d1 k1 ++ [cr [59]]))) := by
    rw [sp2]; unfold kcs; generalize inPar (prn d 0 d0) (spelled d0 k0) = q0; generalize inPar (prn d 1 d1) (spelled d1 k1) = q1; simp [parts, hk, put, cores, cores_app]
  rw [eS, hw, hc]
  refine ⟨st_ne (by decide), fun T X hT _ => ?_⟩
  simp only [List.cons_append, List.append_assoc] at hT
  obtain ⟨t, T1, rfl, ht, hT1⟩ := cons_of hT
  obtain ⟨x, T2, rfl, hx, hT2⟩ := cons_of hT1
  obtain ⟨y, yk, T3, ⟨hT3, hd0, hk0⟩, hy⟩ := type0 hr ha (by simp [must, hk]) T2 _ hT2
  rw [eqs] at hT3
  obtain ⟨q, T4, rfl, hq, hT4⟩ := cons_of hT3
  obtain ⟨d', k', T5, ⟨hT5, hd1, hk1⟩, N, hN⟩ := term0 (i := 1) hr.2 hb (by simp [ins, hk]) T4 _ hT4 (by rw [sem]; rfl)
  rw [sem] at hT5
  obtain ⟨z, T6, rfl, hz, hT6⟩ := cons_of hT5
  refine ⟨at_ t 13 x.text 0, (one y yk).app (one d' k'), T6, ⟨hT6, nd_ext hk (text_c hx).symm (num_0 hok (by omega) (by omega) (by omega) (by omega)), by rw [bare_app, bare_one, bare_one, hd0, hk0, hd1, hk1]; rfl⟩, pe_step ⟨N, fun n hn => ?_⟩⟩
  rw [P, if_pos (by exact sees_c ht 2 _ _)]
  show tkK 1 (x :: T2) _ = _
  rw [ptK_yes hx rfl, hy]
  show tkM _ (q :: T4) _ = _
  rw [ptM_yes hq, hN n hn]
  show tkM _ (z :: T6) _ = _
  rw [ptM_yes hz]
  rfl
theorem st_14 (hk : d.kind = 14) (hok : ndOk isNm d (k.nds.map (·.kind)) = true) (hr : k.rd M d 0) : StK M d k (cores (spelled d k)) := by
  have h1 := kids_of hok
  rw [hk] at h1
  obtain ⟨d0, k0, r, rfl, ha, h1⟩ := kids_c (k := k) (zs := [isTm]) h1
  obtain ⟨d1, k1, r, rfl, hb, h1⟩ := kids_c (k := r) (zs := []) h1
  obtain rfl := kids_0 (k := r) h1
  have eS : cores (spelled d (.cons d0 k0 (.cons d1 k1 .nil))) = kcs d 0 d0 k0 ++ (cr [61] :: (kcs d 1 d1 k1 ++ [cr [59]])) := by
    rw [sp2]; unfold kcs; generalize inPar (prn d 0 d0) (spelled d0 k0) = q0; generalize inPar (prn d 1 d1) (spelled d1 k1) = q1; simp [parts, hk, put, cores, cores_app]
  obtain ⟨hB, HV⟩ := var0 hr ha (by simp [ins, hk])
  have hno : ∀ l' : List (List UInt8), (w4.all fun x => !l'.contains x) = true → ∀ X, begK 2 l' (kcs d 0 d0 k0 ++ X) = false := fun l' h X => by rw [beg_ne hB.ne]; exact hB.no l' h
  rw [eS]
  refine ⟨⟨(hB.app _).ne, hno _ (by decide) _, by rw [beg_ne hB.ne]; exact hB.no4 _ (by decide)⟩, fun T X hT _ => ?_⟩
  simp only [List.cons_append, List.append_assoc] at hT
  have hW : ∀ l' : List (List UInt8), (w4.all fun x => !l'.contains x) = true → seesW T l' = false := fun l' h => by
    show seesK 2 T l' = false
    rw [sees_beg 2 rfl, hT]
    exact hno l' h _
  rw [eqs] at hT
  obtain ⟨v, vk, T1, ⟨hT1, hd0, hk0⟩, N0, hN0⟩ := HV T _ hT (by rfl)
  obtain ⟨q, T2, rfl, hq, hT2⟩ := cons_of hT1
  obtain ⟨d', k', T3, ⟨hT3, hd1, hk1⟩, N, hN⟩ := term0 (i := 1) hr.2 hb (by simp [ins, hk]) T2 _ hT2 (by rw [sem]; rfl)
  rw [sem] at hT3
  obtain ⟨z, T4, rfl, hz, hT4⟩ := cons_of hT3
  refine ⟨at_ (hd T) 14 [] 0, (one v vk).app (one d' k'), T4, ⟨hT4, nd_ext hk (text_0 hok (by omega) (by omega) (by rw [hk]; rfl)) (num_0 hok (by omega) (by omega) (by omega) (by omega)), by rw [bare_app, bare_one, bare_one, hd0, hk0, hd1, hk1]; rfl⟩, pe_step ⟨max N N0, fun n hn => ?_⟩⟩
  rw [P, if_neg (by rw [hW _ (by decide)]; decide), if_neg (by rw [hW _ (by decide)]; decide), if_neg (by rw [hW _ (by decide)]; decide), if_neg (by rw [hW _ (by decide)]; decide), if_neg (by rw [hW _ (by decide)]; decide), if_neg (by rw [hW _ (by decide)]; decide), if_neg (by rw [hW _ (by decide)]; decide), if_neg (by rw [hW _ (by decide)]; decide), hN0 n (by omega)]
  show tkM _ (q :: T2) _ = _
  rw [ptM_yes hq, hN n (by omega)]
  show tkM _ (z :: T4) _ = _
  rw [ptM_yes hz]
theorem st_act {w : List UInt8} (hw : (d.kind = 15 ∧ w = [99, 97, 108, 108]) ∨ (d.kind = 16 ∧ w = [99, 97, 110, 99, 101, 108]) ∨ (d.kind = 17 ∧ w = [106, 111, 105, 110]) ∨ (d.kind = 18 ∧ w = [108, 111, 103])) (hok : ndOk isNm d (k.nds.map (·.kind)) = true) (hr : k.rd M d 0) : StK M d k (cores (spelled d k)) := by
  have h1 := kids_of hok
  have h1' : rowOk [isTm] noK (k.nds.map (·.kind)) = true := by
    rcases hw with ⟨h, _⟩ | ⟨h, _⟩ | ⟨h, _⟩ | ⟨h, _⟩ <;> rw [h] at h1 <;> exact h1
  obtain ⟨d0, k0, r, rfl, ha, h1⟩ := kids_c (k := k) (zs := []) h1'
  obtain rfl := kids_0 (k := r) h1
  have hc : cr w = (2, w, 0) := by rcases hw with ⟨_, rfl⟩ | ⟨_, rfl⟩ | ⟨_, rfl⟩ | ⟨_, rfl⟩ <;> decide
  have eS : cores (spelled d (.cons d0 k0 .nil)) = cr w :: (kcs d 0 d0 k0 ++ [cr [59]]) := by
    rw [sp1]; unfold kcs; generalize inPar (prn d 0 d0) (spelled d0 k0) = q0; rcases hw with ⟨h, rfl⟩ | ⟨h, rfl⟩ | ⟨h, rfl⟩ | ⟨h, rfl⟩ <;> simp [parts, h, put, cores, cores_app]
  rw [eS, hc]
  refine ⟨st_ne (by rcases hw with ⟨_, rfl⟩ | ⟨_, rfl⟩ | ⟨_, rfl⟩ | ⟨_, rfl⟩ <;> decide), fun T X hT _ => ?_⟩
  simp only [List.cons_append, List.append_assoc] at hT
  obtain ⟨t, T1, rfl, ht, hT1⟩ := cons_of hT
  obtain ⟨d', k', T2, ⟨hT2, hd1, hk1⟩, N, hN⟩ := term0 hr ha (by rcases hw with ⟨h, _⟩ | ⟨h, _⟩ | ⟨h, _⟩ | ⟨h, _⟩ <;> simp [ins, h]) T1 _ hT1 (by rw [sem]; rfl)
  rw [sem] at hT2
  obtain ⟨z, T3, rfl, hz, hT3⟩ := cons_of hT2
  have hW : ∀ l, seesW (t :: T1) l = l.contains w := fun l => sees_c ht 2 _ l
  have hk9 : d.kind = actKind w := by rcases hw with ⟨h, rfl⟩ | ⟨h, rfl⟩ | ⟨h, rfl⟩ | ⟨h, rfl⟩ <;> rw [h] <;> decide
  have hkr : d.kind = 15 ∨ d.kind = 16 ∨ d.kind = 17 ∨ d.kind = 18 := by omega
  refine ⟨at_ t (actKind t.text) [] 0, one d' k', T3, ⟨hT3, nd_ext (by rw [hk9, show t.text = w from text_c ht]) (text_0 hok (by omega) (by omega) (by rcases hkr with h | h | h | h <;> rw [h] <;> rfl)) (num_0 hok (by omega) (by omega) (by omega) (by omega)), by rw [bare_one, hd1, hk1]; rfl⟩, pe_step ⟨N, fun n hn => ?_⟩⟩
  rw [P, if_neg (by rw [hW]; rcases hw with ⟨_, rfl⟩ | ⟨_, rfl⟩ | ⟨_, rfl⟩ | ⟨_, rfl⟩ <;> decide), if_pos (by rw [hW]; rcases hw with ⟨_, rfl⟩ | ⟨_, rfl⟩ | ⟨_, rfl⟩ | ⟨_, rfl⟩ <;> decide)]
  show (P n .term T1 M).and _ = _
  rw [hN n hn]
  show tkM _ (z :: T3) _ = _
  rw [ptM_yes hz]
  rfl
theorem st_turn {w : List UInt8} (hw : (d.kind = 21 ∧ w = [101, 110, 97, 98, 108, 101]) ∨ (d.kind = 22 ∧ w = [100, 105, 115, 97, 98, 108, 101])) (hok : ndOk isNm d (k.nds.map (·.kind)) = true) : StK M d k (cores (spelled d k)) := by
  have h1 := kids_of hok
  have h1' : rowOk [] noK (k.nds.map (·.kind)) = true := by
    rcases hw with ⟨h, _⟩ | ⟨h, _⟩ <;> rw [h] at h1 <;> exact h1
  obtain rfl := kids_0 (k := k) h1'
  have hkr : d.kind = 21 ∨ d.kind = 22 := by omega
  have hx0 := (sg_name (text_n hok (by omega) (by omega) (by rcases hkr with h | h <;> rw [h] <;> rfl))).2
  have hc : cr w = (2, w, 0) := by rcases hw with ⟨_, rfl⟩ | ⟨_, rfl⟩ <;> decide
  have eS : cores (spelled d .nil) = [cr w, cr d.text, cr [59]] := by
    rcases hw with ⟨h, rfl⟩ | ⟨h, rfl⟩ <;> simp [spelled, parts, h, put, cores]
  rw [eS, hc, hx0, sem]
  refine ⟨st_ne (by rcases hw with ⟨_, rfl⟩ | ⟨_, rfl⟩ <;> decide), fun T X hT _ => ?_⟩
  obtain ⟨t, T1, rfl, ht, hT1⟩ := cons_of hT
  obtain ⟨x, T2, rfl, hx, hT2⟩ := cons_of hT1
  obtain ⟨z, T3, rfl, hz, hT3⟩ := cons_of hT2
  have hW : ∀ l, seesW (t :: x :: z :: T3) l = l.contains w := fun l => sees_c ht 2 _ l
  refine ⟨at_ t (if t.text = [100, 105, 115, 97, 98, 108, 101] then 22 else 21) x.text 0, .nil, T3, ⟨hT3, nd_ext (by rw [show t.text = w from text_c ht]; rcases hw with ⟨h, rfl⟩ | ⟨h, rfl⟩ <;> rw [h] <;> decide) (text_c hx).symm (num_0 hok (by omega) (by omega) (by omega) (by omega)), rfl⟩, pe_step ⟨0, fun n _ => ?_⟩⟩
  rw [P, if_neg (by rw [hW]; rcases hw with ⟨_, rfl⟩ | ⟨_, rfl⟩ <;> decide), if_neg (by rw [hW]; rcases hw with ⟨_, rfl⟩ | ⟨_, rfl⟩ <;> decide), if_neg (by rw [hW]; rcases hw with ⟨_, rfl⟩ | ⟨_, rfl⟩ <;> decide), if_neg (by rw [hW]; rcases hw with ⟨_, rfl⟩ | ⟨_, rfl⟩ <;> decide), if_pos (by rw [hW]; rcases hw with ⟨_, rfl⟩ | ⟨_, rfl⟩ <;> decide)]
  show tkK 1 (x :: z :: T3) _ = _
  rw [ptK_yes hx rfl, ptM_yes hz]
  rfl
theorem st_25 (hk : d.kind = 25) (hok : ndOk isNm d (k.nds.map (·.kind)) = true) : StK M d k (cores (spelled d k)) := by
  have h1 := kids_of hok
  rw [hk] at h1
  obtain rfl := kids_0 (k := k) h1
  have hc : cr [114, 101, 116, 117, 114, 110] = (2, [114, 101, 116, 117, 114, 110], 0) := by decide
  have eS : cores (spelled d .nil) = [cr [114, 101, 116, 117, 114, 110], cr [59]] := by simp [spelled, parts, hk, put, cores]
  rw [eS, hc, sem]
  refine ⟨st_ne (by decide), fun T X hT _ => ?_⟩
  obtain ⟨t, T1, rfl, ht, hT1⟩ := cons_of hT
  obtain ⟨z, T3, rfl, hz, hT3⟩ := cons_of hT1
  have hW : ∀ l, seesW (t :: z :: T3) l = l.contains [114, 101, 116, 117, 114, 110] := fun l => sees_c ht 2 _ l
  refine ⟨at_ t 25 [] 0, .nil, T3, ⟨hT3, nd_ext hk (text_0 hok (by omega) (by omega) (by rw [hk]; rfl)) (num_0 hok (by omega) (by omega) (by omega) (by omega)), rfl⟩, pe_step ⟨0, fun n _ => ?_⟩⟩
  rw [P, if_neg (by rw [hW]; decide), if_neg (by rw [hW]; decide), if_neg (by rw [hW]; decide), if_neg (by rw [hW]; decide), if_neg (by rw [hW]; decide), if_neg (by rw [hW]; decide), if_neg (by rw [hW]; decide), if_pos (by rw [hW]; decide)]
  show tkM _ (z :: T3) _ = _
  rw [ptM_yes hz]
  rfl
theorem st_24 (hk : d.kind = 24) (hok : ndOk isNm d (k.nds.map (·.kind)) = true) (hr : k.rd M d 0) : StK M d k (cores (spelled d k)) := by
  have h1 := kids_of hok
  rw [hk] at h1
  obtain ⟨d0, k0, r, rfl, ha, h1⟩ := kids_c (k := k) (zs := [isK 12]) h1
  obtain ⟨d1, k1, r, rfl, hb, h1⟩ := kids_c (k := r) (zs := []) h1
  obtain rfl := kids_0 (k := r) h1
  have hc : cr [119, 104, 105, 108, 101] = (2, [119, 104, 105, 108, 101], 0) := by decide
  have eS : cores (spelled d (.cons d0 k0 (.cons d1 k1 .nil))) = cr [119, 104, 105, 108, 101] :: (kcs d 0 d0 k0 ++ kcs d 1 d1 k1) := by
    rw [sp2]; unfold kcs; generalize inPar (prn d 0 d0) (spelled d0 k0) = q0; generalize inPar (prn d 1 d1) (spelled d1 k1) = q1; simp [parts, hk, put, cores, cores_app]
  rw [eS, hc]
  refine ⟨st_ne (by decide), fun T X hT _ => ?_⟩
  simp only [List.cons_append, List.append_assoc] at hT
  obtain ⟨HB, S', hS'⟩ := block0 (i := 1) hr.2 hb (by simp [must, hk])
  obtain ⟨t, T1, rfl, ht, hT1⟩ := cons_of hT
  obtain ⟨d', k', T2, ⟨hT2, hd0, hk0⟩, N, hN⟩ := term0 hr ha (by simp [ins, hk]) T1 _ hT1 (by rw [hS', lbr]; rfl)
  obtain ⟨b, bk, T3, ⟨hT3, hd1, hk1⟩, N1, hN1⟩ := HB T2 X hT2
  have hW : ∀ l, seesW (t :: T1) l = l.contains [119, 104, 105, 108, 101] := fun l => sees_c ht 2 _ l
  refine ⟨at_ t 24 [] 0, (one d' k').app (one b bk), T3, ⟨hT3, nd_ext hk (text_0 hok (by omega) (by omega) (by rw [hk]; rfl)) (num_0 hok (by omega) (by omega) (by omega) (by omega)), by rw [bare_app, bare_one, bare_one, hd0, hk0, hd1, hk1]; rfl⟩, pe_step ⟨max N N1, fun n hn => ?_⟩⟩
  rw [P, if_neg (by rw [hW]; decide), if_neg (by rw [hW]; decide), if_neg (by rw [hW]; decide), if_neg (by rw [hW]; decide), if_neg (by rw [hW]; decide), if_neg (by rw [hW]; decide), if_pos (by rw [hW]; decide)]
  show (P n .term T1 M).and _ = _
  rw [hN n (by omega)]
  show (P n .block T2 M).and _ = _
  rw [hN1 n (by omega)]
  rfl
theorem st_23 (hk : d.kind = 23) (hok : ndOk isNm d (k.nds.map (·.kind)) = true) (hf : k.fit isNm = true) (hr : k.rd M d 0) : StK M d k (cores (spelled d k)) := by
  have h1 := kids_of hok
  rw [hk] at h1
  obtain ⟨d0, k0, r, rfl, ha, h1⟩ := kids_c (k := k) (zs := [isK 12, isK 12]) h1
  obtain ⟨d1, k1, r, rfl, hb, h1⟩ := kids_c (k := r) (zs := [isK 12]) h1
  obtain ⟨d2, k2, r, rfl, hb2, h1⟩ := kids_c (k := r) (zs := []) h1
  obtain rfl := kids_0 (k := r) h1
  have hc : cr [105, 102] = (2, [105, 102], 0) := by decide
  have he : cr [101, 108, 115, 101] = (2, [101, 108, 115, 101], 0) := by decide
  obtain ⟨HB, S', hS'⟩ := block0 (i := 1) hr.2 hb (by simp [must, hk])
  obtain ⟨HB2, _⟩ := block0 (i := 2) hr.2.2 hb2 (by simp [must, hk])
  have eN : ∀ t : Tok, (at_ t 23 [] 0).bare = d.bare := fun t => nd_ext hk (text_0 hok (by omega) (by omega) (by rw [hk]; rfl)) (num_0 hok (by omega) (by omega) (by omega) (by omega))
  by_cases hm : (Fo.cons d0 k0 (.cons d1 k1 (.cons d2 k2 .nil))).more = true
  · have eS : cores (spelled d (.cons d0 k0 (.cons d1 k1 (.cons d2 k2 .nil)))) = cr [105, 102] :: (kcs d 0 d0 k0 ++ (kcs d 1 d1 k1 ++ (cr [101, 108, 115, 101] :: kcs d 2 d2 k2))) := by
      rw [sp3, hm]; unfold kcs; generalize inPar (prn d 0 d0) (spelled d0 k0) = q0; generalize inPar (prn d 1 d1) (spelled d1 k1) = q1; generalize inPar (prn d 2 d2) (spelled d2 k2) = q2; simp [parts, hk, put, cores, cores_app]
    rw [eS, hc, he]
    refine ⟨st_ne (by decide), fun T X hT _ => ?_⟩
    simp only [List.cons_append, List.append_assoc] at hT
    obtain ⟨t, T1, rfl, ht, hT1⟩ := cons_of hT
    obtain ⟨d', k', T2, ⟨hT2, hd0, hk0⟩, N, hN⟩ := term0 hr ha (by simp [ins, hk]) T1 _ hT1 (by rw [hS', lbr]; rfl)
    obtain ⟨b, bk, T3, ⟨hT3, hd1, hk1⟩, N1, hN1⟩ := HB T2 _ hT2
    obtain ⟨x, T4, rfl, hx, hT4⟩ := cons_of hT3
    obtain ⟨c, ck, T5, ⟨hT5, hd2, hk2⟩, N2, hN2⟩ := HB2 T4 X hT4
    have hW : ∀ l, seesW (t :: T1) l = l.contains [105, 102] := fun l => sees_c ht 2 _ l
    refine ⟨at_ t 23 [] 0, (one d' k').app ((one b bk).app (one c ck)), T5, ⟨hT5, eN t, by rw [bare_app, bare_app, bare_one, bare_one, bare_one, hd0, hk0, hd1, hk1, hd2, hk2]; rfl⟩, pe_step ⟨max N (max N1 N2), fun n hn => ?_⟩⟩
    rw [P, if_neg (by rw [hW]; decide), if_neg (by rw [hW]; decide), if_neg (by rw [hW]; decide), if_neg (by rw [hW]; decide), if_neg (by rw [hW]; decide), if_pos (by rw [hW]; decide)]
    show (P n .term T1 M).and _ = _
    rw [hN n (by omega)]
    show (P n .block T2 M).and _ = _
    rw [hN1 n (by omega)]
    show (if seesW (x :: T4) _ = true then _ else _) = _
    rw [if_pos (by exact sees_c hx 2 _ _)]
    show (P n .block T4 M).and _ = _
    rw [hN2 n (by omega)]
    rfl
  · have hk2 : k2 = .nil := by
      cases k2 with
      | nil => rfl
      | cons _ _ _ => exact absurd rfl hm
    subst hk2
    have eS : cores (spelled d (.cons d0 k0 (.cons d1 k1 (.cons d2 .nil .nil)))) = cr [105, 102] :: (kcs d 0 d0 k0 ++ kcs d 1 d1 k1) := by
      rw [sp3]; unfold kcs; generalize inPar (prn d 0 d0) (spelled d0 k0) = q0; generalize inPar (prn d 1 d1) (spelled d1 k1) = q1; generalize inPar (prn d 2 d2) (spelled d2 .nil) = q2; simp [parts, hk, put, cores, cores_app, Fo.more]
    rw [eS, hc]
    refine ⟨st_ne (by decide), fun T X hT hX => ?_⟩
    simp only [List.cons_append, List.append_assoc] at hT
    obtain ⟨t, T1, rfl, ht, hT1⟩ := cons_of hT
    obtain ⟨d', k', T2, ⟨hT2, hd0, hk0⟩, N, hN⟩ := term0 hr ha (by simp [ins, hk]) T1 _ hT1 (by rw [hS', lbr]; rfl)
    obtain ⟨b, bk, T3, ⟨hT3, hd1, hk1⟩, N1, hN1⟩ := HB T2 X hT2
    have hW : ∀ l, seesW (t :: T1) l = l.contains [105, 102] := fun l => sees_c ht 2 _ l
    have ha2 : d2.kind = 12 := by simpa [isK] using hb2
    have hok2 : ndOk isNm d2 (Fo.nil.nds.map (·.kind)) = true := by
      simp only [Fo.fit, Bool.and_eq_true] at hf
      exact hf.2.2.1.1
    have e2 : (at_ t 12 [] 0).bare = d2.bare := nd_ext ha2 (text_0 hok2 (by omega) (by omega) (by rw [ha2]; rfl)) (num_0 hok2 (by omega) (by omega) (by omega) (by omega))
    refine ⟨at_ t 23 [] 0, (one d' k').app ((one b bk).app (one (at_ t 12 [] 0) .nil)), T3, ⟨hT3, eN t, by rw [bare_app, bare_app, bare_one, bare_one, bare_one, hd0, hk0, hd1, hk1, e2]; rfl⟩, pe_step ⟨max N N1, fun n hn => ?_⟩⟩
    rw [P, if_neg (by rw [hW]; decide), if_neg (by rw [hW]; decide), if_neg (by rw [hW]; decide), if_neg (by rw [hW]; decide), if_neg (by rw [hW]; decide), if_pos (by rw [hW]; decide)]
    show (P n .term T1 M).and _ = _
    rw [hN n (by omega)]
    show (P n .block T2 M).and _ = _
    rw [hN1 n (by omega)]
    show (if seesW T3 _ = true then _ else _) = _
    rw [if_neg]
    · rfl
    · show ¬ seesK 2 T3 _ = true
      rw [sees_beg 2 rfl, hT3, hX]; decide

/-- What a post and a spawn go to. -/
theorem to_read {d0 : Nd} {k0 r : Fo} (hins : ins d 1 = false) (hr : r.rd M d 1) (hrow : r = .nil ∨ ∃ d1 k1, r = .cons d1 k1 .nil ∧ isVr d1.kind = true) (T : List Tok) (X : List Co) (e : Nd) (acc : Fo)
    (hT : T.map Tok.core = cores ((toV (Fo.cons d0 k0 r).len).flatMap (put ((Fo.cons d0 k0 r).seqs d 0))) ++ (cr [59] :: X)) : ∃ r' T', T'.map Tok.core = X ∧ r'.bare = r.bare ∧ Pe (.to e acc) T M (.ok e (acc.app r') T') := by
  rcases hrow with rfl | ⟨d1, k1, rfl, hv⟩
  · have e1 : cores ((toV (Fo.cons d0 k0 .nil).len).flatMap (put ((Fo.cons d0 k0 .nil).seqs d 0))) = [] := by simp [toV, Fo.len, Fo.nds, cores]
    rw [e1, List.nil_append, sem] at hT
    obtain ⟨z, T1, rfl, hz, hT1⟩ := cons_of hT
    refine ⟨.nil, T1, hT1, rfl, pe_step ⟨0, fun n _ => ?_⟩⟩
    rw [P, if_neg (by rw [show seesW (z :: T1) _ = false from sees_c hz 2 _ _]; decide), ptM_yes hz, Fo.app_nil]
  · have hto : cr [116, 111] = (2, [116, 111], 0) := by decide
    have e1 : cores ((toV (Fo.cons d0 k0 (.cons d1 k1 .nil)).len).flatMap (put ((Fo.cons d0 k0 (.cons d1 k1 .nil)).seqs d 0))) = cr [116, 111] :: kcs d 1 d1 k1 := by simp [toV, Fo.len, Fo.nds, cores, put, seqs_cons, kcs]
    rw [e1, List.cons_append, hto] at hT
    obtain ⟨_, HV⟩ := var0 (i := 1) hr hv hins
    obtain ⟨t, T1, rfl, ht, hT1⟩ := cons_of hT
    obtain ⟨v, vk, T2, ⟨hT2, hd0, hk0⟩, N, hN⟩ := HV T1 _ hT1 (by rw [sem]; rfl)
    rw [sem] at hT2
    obtain ⟨z, T3, rfl, hz, hT3⟩ := cons_of hT2
    refine ⟨one v vk, T3, hT3, by rw [bare_one, hd0, hk0]; rfl, pe_step ⟨N, fun n hn => ?_⟩⟩
    rw [P, if_pos (by exact sees_c ht 2 _ _)]
    show (P n .var T1 M).and _ = _
    rw [hN n hn]
    show tkM _ (z :: T3) _ = _
    rw [ptM_yes hz]
theorem to_kids {k : Fo} (h : (rowOk [isTm] noK (k.nds.map (·.kind)) || rowOk [isTm, isVr] noK (k.nds.map (·.kind))) = true) : ∃ d0 k0 r, k = .cons d0 k0 r ∧ isTm d0.kind = true ∧ (r = .nil ∨ ∃ d1 k1, r = .cons d1 k1 .nil ∧ isVr d1.kind = true) := by
  rw [Bool.or_eq_true] at h
  rcases h with h | h
  · obtain ⟨d0, k0, r, rfl, ha, h1⟩ := kids_c (k := k) (zs := []) h
    exact ⟨d0, k0, r, rfl, ha, .inl (kids_0 h1)⟩
  · obtain ⟨d0, k0, r, rfl, ha, h1⟩ := kids_c (k := k) (zs := [isVr]) h
    obtain ⟨d1, k1, r2, rfl, hb, h1⟩ := kids_c (k := r) (zs := []) h1
    exact ⟨d0, k0, _, rfl, ha, .inr ⟨d1, k1, by rw [kids_0 h1], hb⟩⟩
theorem to_beg {r : Fo} {d0 : Nd} {k0 : Fo} (hrow : r = .nil ∨ ∃ d1 k1, r = .cons d1 k1 .nil ∧ isVr d1.kind = true) (X : List Co) : (∃ Y, cores ((toV (Fo.cons d0 k0 r).len).flatMap (put ((Fo.cons d0 k0 r).seqs d 0))) ++ (cr [59] :: X) = (4, [59], 0) :: Y) ∨ ∃ Y, cores ((toV (Fo.cons d0 k0 r).len).flatMap (put ((Fo.cons d0 k0 r).seqs d 0))) ++ (cr [59] :: X) = (2, [116, 111], 0) :: Y := by
  rcases hrow with rfl | ⟨d1, k1, rfl, hv⟩
  · refine .inl ⟨X, ?_⟩
    rw [sem]
    simp [toV, Fo.len, Fo.nds, cores]
  · have hto : cr [116, 111] = (2, [116, 111], 0) := by decide
    refine .inr ⟨kcs d 1 d1 k1 ++ (cr [59] :: X), ?_⟩
    simp [toV, Fo.len, Fo.nds, cores, put, seqs_cons, kcs, hto]
theorem st_20 (hk : d.kind = 20) (hok : ndOk isNm d (k.nds.map (·.kind)) = true) (hr : k.rd M d 0) : StK M d k (cores (spelled d k)) := by
  have h1 := kids_of hok
  rw [hk] at h1
  obtain ⟨d0, k0, r, rfl, ha, hrow⟩ := to_kids (k := k) h1
  have hc : cr [115, 112, 97, 119, 110] = (2, [115, 112, 97, 119, 110], 0) := by decide
  have eS : cores (spelled d (.cons d0 k0 r)) = cr [115, 112, 97, 119, 110] :: (kcs d 0 d0 k0 ++ (cores ((toV (Fo.cons d0 k0 r).len).flatMap (put ((Fo.cons d0 k0 r).seqs d 0))) ++ [cr [59]])) := by
    rw [spr, seqs_cons]; unfold kcs; generalize (Fo.cons d0 k0 r).len = nl; generalize (Fo.cons d0 k0 r).more = nb; generalize inPar (prn d 0 d0) (spelled d0 k0) = q0; generalize r.seqs d 1 = Q; simp [parts, hk, put, cores, cores_app]
  rw [eS, hc]
  refine ⟨st_ne (by decide), fun T X hT _ => ?_⟩
  simp only [List.cons_append, List.append_assoc] at hT
  obtain ⟨t, T1, rfl, ht, hT1⟩ := cons_of hT
  have hX : begK 4 m1 (cores ((toV (Fo.cons d0 k0 r).len).flatMap (put ((Fo.cons d0 k0 r).seqs d 0))) ++ (cr [59] :: ([] ++ X))) = false := by
    rcases to_beg (d := d) (d0 := d0) (k0 := k0) hrow ([] ++ X) with ⟨Y, h⟩ | ⟨Y, h⟩ <;> rw [h] <;> rfl
  obtain ⟨d', k', T2, ⟨hT2, hd0, hk0⟩, N, hN⟩ := term0 hr ha (by simp [ins, hk]) T1 _ hT1 hX
  obtain ⟨r', T3, hT3, hr', N1, hN1⟩ := to_read (d0 := d0) (k0 := k0) (by simp [ins, hk]) hr.2 hrow T2 X (at_ t 20 [] 0) (one d' k') hT2
  have hW : ∀ l, seesW (t :: T1) l = l.contains [115, 112, 97, 119, 110] := fun l => sees_c ht 2 _ l
  refine ⟨at_ t 20 [] 0, (one d' k').app r', T3, ⟨hT3, nd_ext hk (text_0 hok (by omega) (by omega) (by rw [hk]; rfl)) (num_0 hok (by omega) (by omega) (by omega) (by omega)), by rw [bare_app, bare_one, hd0, hk0, hr']; rfl⟩, pe_step ⟨max N N1, fun n hn => ?_⟩⟩
  rw [P, if_neg (by rw [hW]; decide), if_neg (by rw [hW]; decide), if_neg (by rw [hW]; decide), if_pos (by rw [hW]; decide)]
  show (P n .term T1 M).and _ = _
  rw [hN n (by omega)]
  exact hN1 n (by omega)
theorem st_19 (hk : d.kind = 19) (hok : ndOk isNm d (k.nds.map (·.kind)) = true) (hr : k.rd M d 0) : StK M d k (cores (spelled d k)) := by
  have h1 := kids_of hok
  rw [hk] at h1
  obtain ⟨d0, k0, r, rfl, ha, hrow⟩ := to_kids (k := k) h1
  have hn := num_of hok
  rw [hk] at hn
  have hn' : -1 ≤ d.n ∧ d.n ≤ 2147483647 := by simpa [numOk] using hn
  have hx0 := (sg_name (text_n hok (by omega) (by omega) (by rw [hk]; rfl))).2
  have hc : cr [112, 111, 115, 116] = (2, [112, 111, 115, 116], 0) := by decide
  have haf : cr [97, 102, 116, 101, 114] = (2, [97, 102, 116, 101, 114], 0) := by decide
  have hfr : cr [102, 114, 111, 110, 116] = (2, [102, 114, 111, 110, 116], 0) := by decide
  have eS : cores (spelled d (.cons d0 k0 r)) = cr [112, 111, 115, 116] :: cr d.text :: (kcs d 0 d0 k0 ++ ((if d.n < 0 then [cr [102, 114, 111, 110, 116]] else if 0 < d.n then [cr [97, 102, 116, 101, 114], cr (digT d.n)] else []) ++ (cores ((toV (Fo.cons d0 k0 r).len).flatMap (put ((Fo.cons d0 k0 r).seqs d 0))) ++ [cr [59]]))) := by
    rw [spr, seqs_cons]; unfold kcs; generalize (Fo.cons d0 k0 r).len = nl; generalize (Fo.cons d0 k0 r).more = nb; generalize inPar (prn d 0 d0) (spelled d0 k0) = q0; generalize r.seqs d 1 = Q; 
    by_cases hneg : d.n < 0
    · simp [parts, hk, put, cores, cores_app, hneg]
    · by_cases hpos : 0 < d.n
      · simp [parts, hk, put, cores, cores_app, hneg, hpos]
      · simp [parts, hk, put, cores, cores_app, hneg, hpos]
  rw [eS, hc, hx0]
  refine ⟨st_ne (by decide), fun T X hT _ => ?_⟩
  simp only [List.cons_append, List.append_assoc] at hT
  obtain ⟨t, T1, rfl, ht, hT1⟩ := cons_of hT
  obtain ⟨x, T2, rfl, hx, hT2⟩ := cons_of hT1
  have hW : ∀ l, seesW (t :: x :: T2) l = l.contains [112, 111, 115, 116] := fun l => sees_c ht 2 _ l
  have eP : ∀ n, P (n + 1) .stmt (t :: x :: T2) M = (P n .term T2 M).and fun d k r' =>
        if seesW r' [[97, 102, 116, 101, 114]] = true then tkK 3 r'.tail fun y r' => P n (.to (at_ t 19 x.text y.n) (one d k)) r' M
        else if seesW r' [[102, 114, 111, 110, 116]] = true then P n (.to (at_ t 19 x.text (-1)) (one d k)) r'.tail M
        else P n (.to (at_ t 19 x.text 0) (one d k)) r' M := fun n => by
    rw [P, if_neg (by rw [hW]; decide), if_neg (by rw [hW]; decide), if_pos (by rw [hW]; decide)]
    show tkK 1 (x :: T2) _ = _
    rw [ptK_yes hx rfl]
    rfl
  have hxt : d.text = x.text := (text_c hx).symm
  have hins0 : ins d 0 = false := by simp [ins, hk]
  have hins1 : ins d 1 = false := by simp [ins, hk]
  by_cases hneg : d.n < 0
  · rw [if_pos hneg, hfr] at hT2
    obtain ⟨d', k', T3, ⟨hT3, hd0, hk0⟩, N, hN⟩ := term0 hr ha hins0 T2 _ hT2 rfl
    obtain ⟨y, T4, rfl, hy, hT4⟩ := cons_of hT3
    obtain ⟨r', T5, hT5, hr', N1, hN1⟩ := to_read (d0 := d0) (k0 := k0) hins1 hr.2 hrow T4 X (at_ t 19 x.text (-1)) (one d' k') hT4
    have hY : ∀ l, seesW (y :: T4) l = l.contains [102, 114, 111, 110, 116] := fun l => sees_c hy 2 _ l
    refine ⟨at_ t 19 x.text (-1), (one d' k').app r', T5, ⟨hT5, nd_ext hk hxt (by omega), by rw [bare_app, bare_one, hd0, hk0, hr']; rfl⟩, pe_step ⟨max N N1, fun n hn => ?_⟩⟩
    rw [eP, hN n (by omega)]
    show (if _ then _ else _) = _
    rw [if_neg (by rw [hY]; decide), if_pos (by rw [hY]; decide)]
    exact hN1 n (by omega)
  · rw [if_neg hneg] at hT2
    by_cases hpos : 0 < d.n
    · rw [if_pos hpos, haf, (sg_num (by omega) hn'.2).2] at hT2
      obtain ⟨d', k', T3, ⟨hT3, hd0, hk0⟩, N, hN⟩ := term0 hr ha hins0 T2 _ hT2 rfl
      obtain ⟨y, T4, rfl, hy, hT4⟩ := cons_of hT3
      obtain ⟨z, T5, rfl, hz, hT5⟩ := cons_of hT4
      obtain ⟨r', T6, hT6, hr', N1, hN1⟩ := to_read (d0 := d0) (k0 := k0) hins1 hr.2 hrow T5 X (at_ t 19 x.text z.n) (one d' k') hT5
      have hY : ∀ l, seesW (y :: z :: T5) l = l.contains [97, 102, 116, 101, 114] := fun l => sees_c hy 2 _ l
      refine ⟨at_ t 19 x.text z.n, (one d' k').app r', T6, ⟨hT6, nd_ext hk hxt (num_c hz).symm, by rw [bare_app, bare_one, hd0, hk0, hr']; rfl⟩, pe_step ⟨max N N1, fun n hn => ?_⟩⟩
      rw [eP, hN n (by omega)]
      show (if _ then _ else _) = _
      rw [if_pos (by rw [hY]; decide)]
      show tkK 3 (z :: T5) _ = _
      rw [ptK_yes hz rfl]
      exact hN1 n (by omega)
    · rw [if_neg hpos, List.nil_append] at hT2
      have hB := to_beg (d := d) (d0 := d0) (k0 := k0) hrow ([] ++ X)
      obtain ⟨d', k', T3, ⟨hT3, hd0, hk0⟩, N, hN⟩ := term0 hr ha hins0 T2 _ hT2 (by rcases hB with ⟨Y, h⟩ | ⟨Y, h⟩ <;> rw [h] <;> rfl)
      obtain ⟨r', T6, hT6, hr', N1, hN1⟩ := to_read (d0 := d0) (k0 := k0) hins1 hr.2 hrow T3 X (at_ t 19 x.text 0) (one d' k') hT3
      have hY : ∀ l : List (List UInt8), l.contains [116, 111] = false → seesW T3 l = false := fun l hl => by
        show seesK 2 T3 l = false
        rw [sees_beg 2 rfl, hT3]
        rcases hB with ⟨Y, h⟩ | ⟨Y, h⟩
        · rw [h]; rfl
        · rw [h]
          show ((2 : Int) == 2 && l.contains [116, 111]) = false
          rw [hl]; rfl
      refine ⟨at_ t 19 x.text 0, (one d' k').app r', T6, ⟨hT6, nd_ext hk hxt (by omega), by rw [bare_app, bare_one, hd0, hk0, hr']; rfl⟩, pe_step ⟨max N N1, fun n hn => ?_⟩⟩
      rw [eP, hN n (by omega)]
      show (if _ then _ else _) = _
      rw [if_neg (by rw [hY _ (by decide)]; decide), if_neg (by rw [hY _ (by decide)]; decide)]
      exact hN1 n (by omega)
end
end Go.Proofs.YtehdljcmeimbcaaGreat
