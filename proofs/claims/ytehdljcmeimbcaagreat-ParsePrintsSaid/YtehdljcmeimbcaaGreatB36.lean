/- The grammar on a page's tokens: names, numbers, the terms' kinds; The grammar on a page's tokens: terms with kids. -/
import Derived.Test.YtehdljcmeimbcaaGreatB34
import Derived.Test.YtehdljcmeimbcaaGreatB35
namespace Go.Proofs.YtehdljcmeimbcaaGreat
set_option linter.unusedVariables false
set_option linter.unusedSimpArgs false

theorem blank_no {c : Int} (h : isL c = true ∨ isD c = true) : ¬ c = 35 ∧ isB c = false := by
  have hc : (65 ≤ c ∧ c ≤ 90) ∨ (97 ≤ c ∧ c ≤ 122) ∨ c = 95 ∨ (48 ≤ c ∧ c ≤ 57) := by
    rcases h with h | h
    · simp [isL] at h; omega
    · simp [isD] at h; omega
  refine ⟨by omega, ?_⟩
  unfold isB
  rw [Bool.eq_false_iff]
  intro e
  simp only [List.contains_cons, List.contains_nil, Bool.or_false, Bool.or_eq_true, beq_iff_eq] at e
  have e2 : c.toNat < 256 := by omega
  have key : ∀ n : Nat, n < 256 → UInt8.ofNat c.toNat = UInt8.ofNat n → c.toNat = n := fun n hn h => by
    have := congrArg UInt8.toNat h
    simp at this
    omega
  rcases e with e | e | e | e
  · have := key 32 (by omega) e; omega
  · have := key 9 (by omega) e; omega
  · have := key 10 (by omega) e; omega
  · have := key 13 (by omega) e; omega
/-- A text that is whole of a kind: names, numbers. -/
theorem whole_one {s : List UInt8} {k : Int} (hk : k = 1 ∨ k = 3) (h : whole s k = true) : 0 < s.length ∧ nxt s 0 = 0 ∧ kindA s 0 = k ∧ endA s 0 = s.length := by
  unfold whole at h
  simp only [Bool.and_eq_true, beq_iff_eq, decide_eq_true_eq, Bool.not_eq_true'] at h
  obtain ⟨⟨h0, hk0⟩, he⟩ := h
  have hl : 0 < s.length := by
    cases s with
    | nil => cases h0
    | cons _ _ => simp
  have hA : kindA s 0 = k := hk0
  have hLD : isL (chr s 0) = true ∨ isD (chr s 0) = true := by
    unfold kindI at hk0
    split at hk0
    · exact .inl ‹_›
    · split at hk0
      · exact .inr ‹_›
      · split at hk0 <;> omega
  have hb := blank_no hLD
  refine ⟨hl, nxt_stop s 0 hl hb.1 hb.2, hA, ?_⟩
  unfold endA
  rw [hA, if_neg (by omega), he]
theorem sg_name {s : List UInt8} (h : isNm s = true) : Sg1 s ∧ cr s = (1, s, 0) := by
  unfold isNm at h
  simp only [Bool.and_eq_true, decide_eq_true_eq, Bool.not_eq_true'] at h
  obtain ⟨⟨h32, hw⟩, hW⟩ := h
  obtain ⟨h0, hn, hk, he⟩ := whole_one (.inl rfl) hw
  refine ⟨sg_of ?_, ?_⟩
  · have hr : errA s 0 = 0 := by
      unfold errA terr
      rw [hk, if_neg (by decide), if_pos rfl, if_neg]
      unfold textA
      rw [he]
      simp
      omega
    simp [sgB, h0, hn, hk, he, hr]
  · unfold cr tkind tnum
    rw [hk, hW]
    rfl

theorem numF_app : ∀ (x y : List UInt8) (a : Int), numF a (x ++ y) = (numF a x).bind fun b => numF b y
  | [], _, _ => rfl
  | c :: x, y, a => by
    simp only [List.cons_append, numF]
    split
    · rfl
    · exact numF_app x y _
theorem numF_digs (n : Nat) : n ≤ 2147483647 → numF 0 (digs n) = some (n : Int) := by
  induction n using Nat.strongRecOn with
  | ind n ih =>
    intro hn
    unfold digs
    have ht : ∀ m : Nat, m < 10 → ((UInt8.ofNat (48 + m)).toNat : Int) - 48 = m := fun m hm => by
      simp
      omega
    split
    · rename_i h
      simp only [numF]
      rw [ht n h, if_neg (by omega)]
      simp
    · rename_i h
      rw [numF_app, ih (n / 10) (by omega) (by omega)]
      simp only [Option.bind, numF]
      rw [ht (n % 10) (by omega), if_neg (by omega)]
      congr 1
      omega
theorem run_digs : ∀ l : List UInt8, (∀ b ∈ l, isD (b.toNat : Int) = true) → run 3 l = l.length
  | [], _ => rfl
  | c :: r, h => by
    simp only [run, goes]
    rw [if_pos (by simpa using h c List.mem_cons_self), run_digs r (fun b hb => h b (List.mem_cons_of_mem _ hb))]
    rfl
theorem whole_digs (n : Nat) : whole (digs n) 3 = true := by
  have hall : ∀ b ∈ digs n, isD (b.toNat : Int) = true := fun b hb => by
    have := digs_all n b hb
    have h1 : 48 ≤ b.toNat := this.1
    have h2 : b.toNat ≤ 57 := this.2
    simp [isD]
    omega
  have hne := digs_ne n
  unfold whole
  cases hl : digs n with
  | nil => exact absurd hl hne
  | cons c r =>
    rw [hl] at hall
    have hc := hall c List.mem_cons_self
    have hcc : chr (c :: r) 0 = (c.toNat : Int) := rfl
    have hL : isL (c.toNat : Int) = false := by
      rw [Bool.eq_false_iff]
      intro e
      simp [isD] at hc
      simp [isL] at e
      omega
    have hk : kindI (chr (c :: r) 0) = 3 := by
      rw [hcc]
      unfold kindI
      rw [hL, hc]
      rfl
    have he : endT (c :: r) 3 0 = (c :: r).length := by
      unfold endT
      rw [if_neg (fun hp => by
        have := (chr_pre2 _ hp).1
        rw [List.drop_zero, hcc] at this
        rw [this] at hc
        exact absurd hc (by decide))]
      unfold ends
      have := run_digs r (fun b hb => hall b (List.mem_cons_of_mem _ hb))
      simp [this]
      omega
    rw [hk, he]
    simp
theorem sg_num {n : Int} (h0 : 0 ≤ n) (h1 : n ≤ 2147483647) : Sg1 (digT n) ∧ cr (digT n) = (3, digT n, n) := by
  have e : digT n = digs n.natAbs := if_neg (by omega)
  rw [e]
  have hw := whole_digs n.natAbs
  obtain ⟨hl, hn, hk, he⟩ := whole_one (.inr rfl) hw
  have hN : numT (digs n.natAbs) = (n, true) := by
    unfold numT numA
    rw [if_pos hw, List.drop_zero, numF_digs _ (by omega)]
    simp
    omega
  refine ⟨sg_of ?_, ?_⟩
  · have hr : errA (digs n.natAbs) 0 = 0 := by
      unfold errA terr
      rw [hk, if_neg (by decide), if_neg (by decide), if_pos rfl]
      have ht : textA (digs n.natAbs) 0 = digs n.natAbs := by unfold textA; rw [he]; simp
      rw [ht, hN]
      rfl
    simp [sgB, hl, hn, hk, he, hr]
  · unfold cr tkind tnum
    rw [hk, if_neg (by omega), if_pos rfl, hN]

/-- A part of the grammar reads a tree's tokens. -/
def RdG (q : Gr) (M : Nat) (d : Nd) (k : Fo) (S : List Co) : Prop := ∀ T X, T.map Tok.core = S ++ X → ∃ d' k' T', Eqv d k X d' k' T' ∧ Pe q T M (.ok d' k' T')
/-- A tree that is no term is read. -/
structure PlK (m : Nat) (d : Nd) (k : Fo) (S : List Co) : Prop where
  bl : d.kind = 12 → RdG .block m d k S
  st : isSt d.kind = true → (S ≠ [] ∧ begK 2 [[101, 108, 115, 101]] S = false ∧ begK 4 [[125]] S = false) ∧ ∀ T X, T.map Tok.core = S ++ X → begK 2 [[101, 108, 115, 101]] X = false → ∃ d' k' T', Eqv d k X d' k' T' ∧ Pe .stmt T m (.ok d' k' T')
  dc : isDc d.kind = true → S ≠ [] ∧ RdG .decl m d k S
  ty : d.kind = 5 → ∀ T X, T.map Tok.core = S ++ X → ∃ d' k' T', Eqv d k X d' k' T' ∧ tyO T = .ok d' k' T'
  me : d.kind = 4 → (S ≠ [] ∧ begK 4 [[125]] S = false) ∧ ∀ T X, T.map Tok.core = S ++ X → ∃ d' k' T', Eqv d k X d' k' T' ∧ memO T = .ok d' k' T'
  lf : d.kind = 9 → (S ≠ [] ∧ begK 4 [[125]] S = false) ∧ ∀ T X, T.map Tok.core = S ++ X → ∃ d' k' T', Eqv d k X d' k' T' ∧ ∃ N, ∀ n, N ≤ n → lifeO (fun r => P n .block r m) T = .ok d' k' T'
structure Kid (m : Nat) (p : Nd) (i : Nat) (d : Nd) (k : Fo) : Prop where
  tm : isTm d.kind = true → TmK (m + (if ins p i = true then 1 else 0)) (if prn p i d = true then 5 else bnd d.kind d.text) d k (cores (inPar (prn p i d) (spelled d k)))
  pl : isTm d.kind = false → PlK m d k (cores (spelled d k))
def Fo.rd (m : Nat) (p : Nd) : Nat → Fo → Prop
  | _, .nil => True
  | i, .cons d k r => Kid m p i d k ∧ r.rd m p (i + 1)

theorem le_b {p d : Nd} {i : Nat} (h : must p i ≤ 5) : must p i ≤ if prn p i d = true then 5 else bnd d.kind d.text := by
  by_cases hp : prn p i d = true
  · rw [if_pos hp]; exact h
  · rw [if_neg hp]
    simp [prn] at hp
    exact hp
theorem le_5 {p d : Nd} {i : Nat} (h : d.kind = 29 ∨ d.kind = 30 ∨ d.kind = 31) : 5 ≤ if prn p i d = true then (5 : Int) else bnd d.kind d.text := by
  split
  · decide
  · rcases h with h | h | h <;> rw [h] <;> simp [bnd, isTm]

/-- Kids of one, two, three sorts. -/
theorem nds_cons (d : Nd) (k r : Fo) : (Fo.cons d k r).nds = d :: r.nds := rfl
theorem kids_0 {k : Fo} (h : rowOk [] noK (k.nds.map (·.kind)) = true) : k = .nil := by
  cases k with
  | nil => rfl
  | cons d k r => simp [rowOk, nds_cons, noK] at h
theorem kids_c {a : Int → Bool} {zs : List (Int → Bool)} {rest : Int → Bool} {k : Fo} (h : rowOk (a :: zs) rest (k.nds.map (·.kind)) = true) : ∃ d0 k0 r, k = .cons d0 k0 r ∧ a d0.kind = true ∧ rowOk zs rest (r.nds.map (·.kind)) = true := by
  cases k with
  | nil => cases h
  | cons d0 k0 r =>
    simp only [nds_cons, List.map_cons, rowOk, Bool.and_eq_true] at h
    exact ⟨d0, k0, r, rfl, h.1, h.2⟩

theorem nd_ext {d : Nd} {t : Tok} {k n : Int} {s : List UInt8} (hk : d.kind = k) (hs : d.text = s) (hn : d.n = n) : (at_ t k s n).bare = d.bare := by
  subst hk hs hn
  rfl
theorem num_0 {d : Nd} {L : List Int} (h : ndOk isNm d L = true) (h9 : d.kind ≠ 9) (h10 : d.kind ≠ 10) (h19 : d.kind ≠ 19) (h26 : d.kind ≠ 26) : d.n = 0 := by
  simp only [ndOk, Bool.and_eq_true] at h
  have := h.1.2
  unfold numOk at this
  rw [if_neg h9, if_neg h10, if_neg h19, if_neg h26] at this
  simpa using this
theorem text_0 {d : Nd} {L : List Int} (h : ndOk isNm d L = true) (h5 : d.kind ≠ 5) (h32 : d.kind ≠ 32) (hn : named d.kind = false) : d.text = [] := by
  simp only [ndOk, Bool.and_eq_true] at h
  have := h.1.1.2
  unfold textOk at this
  rw [if_neg h5, if_neg h32, if_neg (by rw [hn]; decide)] at this
  simpa using this
theorem text_n {d : Nd} {L : List Int} (h : ndOk isNm d L = true) (h5 : d.kind ≠ 5) (h32 : d.kind ≠ 32) (hn : named d.kind = true) : isNm d.text = true := by
  simp only [ndOk, Bool.and_eq_true] at h
  have := h.1.1.2
  unfold textOk at this
  rwa [if_neg h5, if_neg h32, if_pos hn] at this
theorem kids_of {d : Nd} {L : List Int} (h : ndOk isNm d L = true) : kidsOk d.kind L = true := by
  simp only [ndOk, Bool.and_eq_true] at h
  exact h.2
theorem num_of {d : Nd} {L : List Int} (h : ndOk isNm d L = true) : numOk d.kind d.n = true := by
  simp only [ndOk, Bool.and_eq_true] at h
  exact h.1.2
theorem beg_w {w : List UInt8} {S : List Co} (l : List (List UInt8)) (hw : l.contains w = true) : Beg l ((2, w, 0) :: S) := ⟨_, _, rfl, fun _ => hw, fun h => absurd (show (2 : Int) = 4 from h) (by decide)⟩
theorem beg_1 {w : List UInt8} {n : Int} {S : List Co} (l : List (List UInt8)) {k : Int} (hk : k ≠ 2 ∧ k ≠ 4) : Beg l ((k, w, n) :: S) := ⟨_, _, rfl, fun h => absurd h hk.1, fun h => absurd h hk.2⟩

section leaves
variable {M : Nat} {d : Nd} {k : Fo}
theorem tm_26 (hk : d.kind = 26) (hok : ndOk isNm d (k.nds.map (·.kind)) = true) : TmK M 5 d k (cores (spelled d k)) := by
  have h1 := kids_of hok
  rw [hk] at h1
  obtain rfl := kids_0 (k := k) h1
  have h2 := num_of hok
  rw [hk] at h2
  have h2' : 0 ≤ d.n ∧ d.n ≤ 2147483647 := by simpa [numOk] using h2
  have hc := (sg_num h2'.1 h2'.2).2
  have eS : cores (spelled d .nil) = [cr (digT d.n)] := by simp [spelled, parts, hk, put, cores, Fo.len, Fo.nds]
  rw [eS, hc]
  refine TmK.of5 (by decide) (beg_1 _ (by decide)) (r5_first fun T X hT => ?_)
  obtain ⟨t, T1, rfl, ht, hT1⟩ := cons_of hT
  refine ⟨at_ t 26 [] t.n, .nil, T1, ⟨hT1, nd_ext hk (text_0 hok (by omega) (by omega) (by rw [hk]; rfl)) (num_c ht).symm, rfl⟩, pe_step ⟨0, fun n _ => ?_⟩⟩
  rw [P, if_pos (by exact kind_c ht 3 T1)]; rfl
theorem tm_27 (hk : d.kind = 27) (hok : ndOk isNm d (k.nds.map (·.kind)) = true) : TmK M 5 d k (cores (spelled d k)) := by
  have h1 := kids_of hok
  rw [hk] at h1
  obtain rfl := kids_0 (k := k) h1
  have hc : cr [110, 117, 108, 108] = (2, [110, 117, 108, 108], 0) := by decide
  have eS : cores (spelled d .nil) = [cr [110, 117, 108, 108]] := by simp [spelled, parts, hk, put, cores, Fo.len, Fo.nds]
  rw [eS, hc]
  refine TmK.of5 (by decide) (beg_w _ (by decide)) (r5_first fun T X hT => ?_)
  obtain ⟨t, T1, rfl, ht, hT1⟩ := cons_of hT
  refine ⟨at_ t 27 [] 0, .nil, T1, ⟨hT1, nd_ext hk (text_0 hok (by omega) (by omega) (by rw [hk]; rfl)) (num_0 hok (by omega) (by omega) (by omega) (by omega)), rfl⟩, pe_step ⟨0, fun n _ => ?_⟩⟩
  rw [P, if_neg (by rw [kind_c ht 3 T1]; decide), if_pos (by exact sees_c ht 2 T1 _)]; rfl
theorem tm_28 (hk : d.kind = 28) (hok : ndOk isNm d (k.nds.map (·.kind)) = true) : TmK M 5 d k (cores (spelled d k)) := by
  have h1 := kids_of hok
  rw [hk] at h1
  obtain rfl := kids_0 (k := k) h1
  have hc : cr [105, 116] = (2, [105, 116], 0) := by decide
  have eS : cores (spelled d .nil) = [cr [105, 116]] := by simp [spelled, parts, hk, put, cores, Fo.len, Fo.nds]
  rw [eS, hc]
  refine TmK.of5 (by decide) (beg_w _ (by decide)) (r5_first fun T X hT => ?_)
  obtain ⟨t, T1, rfl, ht, hT1⟩ := cons_of hT
  have hW : ∀ l, seesW (t :: T1) l = l.contains [105, 116] := fun l => sees_c ht 2 T1 l
  refine ⟨at_ t 28 [] 0, .nil, T1, ⟨hT1, nd_ext hk (text_0 hok (by omega) (by omega) (by rw [hk]; rfl)) (num_0 hok (by omega) (by omega) (by omega) (by omega)), rfl⟩, pe_step ⟨0, fun n _ => ?_⟩⟩
  rw [P, if_neg (by rw [kind_c ht 3 T1]; decide), if_neg (by rw [hW]; decide), if_pos (by rw [hW]; decide)]; rfl
theorem useO_at {s : List UInt8} (hs : cr s = (1, s, 0)) {T : List Tok} {X : List Co} (hT : T.map Tok.core = cr s :: X) : ∃ t T1, T = t :: T1 ∧ t.text = s ∧ T1.map Tok.core = X ∧ useO T = .ok (at_ t 29 s 0) .nil T1 ∧ (∀ l, seesW T l = false) ∧ (∀ l, seesM T l = false) ∧ ((hd T).kind == 3) = false := by
  rw [hs] at hT
  obtain ⟨t, T1, rfl, ht, hT1⟩ := cons_of hT
  refine ⟨t, T1, rfl, text_c ht, hT1, ?_, fun l => sees_c ht 2 T1 l, fun l => sees_c ht 4 T1 l, kind_c ht 3 T1⟩
  unfold useO tkK tk
  rw [if_pos (by exact kind_c ht 1 T1)]
  show Out.ok (at_ t 29 t.text 0) _ _ = _
  rw [text_c ht]
  rfl
theorem tm_29 (hk : d.kind = 29) (hok : ndOk isNm d (k.nds.map (·.kind)) = true) : TmK M 5 d k (cores (spelled d k)) := by
  have h1 := kids_of hok
  rw [hk] at h1
  obtain rfl := kids_0 (k := k) h1
  have hc := (sg_name (text_n hok (by omega) (by omega) (by rw [hk]; rfl))).2
  have eS : cores (spelled d .nil) = [cr d.text] := by simp [spelled, parts, hk, put, cores, Fo.len, Fo.nds]
  rw [eS]
  refine TmK.of5 (by decide) (by rw [hc]; exact beg_1 _ (by decide)) (r5_first fun T X hT => ?_)
  obtain ⟨t, T1, rfl, ht, hT1, hu, hW, hM, h3⟩ := useO_at hc hT
  refine ⟨at_ t 29 d.text 0, .nil, T1, ⟨hT1, nd_ext hk rfl (num_0 hok (by omega) (by omega) (by omega) (by omega)), rfl⟩, pe_step ⟨0, fun n _ => ?_⟩⟩
  rw [P, if_neg (by rw [h3]; decide), if_neg (by rw [hW]; decide), if_neg (by rw [hW]; decide), if_neg (by rw [hW]; decide), if_neg (by rw [hW]; decide), if_neg (by rw [hM]; decide)]
  exact hu
theorem tm_33 (hk : d.kind = 33) (hok : ndOk isNm d (k.nds.map (·.kind)) = true) : TmK M 5 d k (cores (spelled d k)) := by
  have h1 := kids_of hok
  rw [hk] at h1
  obtain rfl := kids_0 (k := k) h1
  have hc := (sg_name (text_n hok (by omega) (by omega) (by rw [hk]; rfl))).2
  have hw : cr [110, 101, 119] = (2, [110, 101, 119], 0) := by decide
  have eS : cores (spelled d .nil) = [cr [110, 101, 119], cr d.text] := by simp [spelled, parts, hk, put, cores, Fo.len, Fo.nds]
  rw [eS, hw, hc]
  refine TmK.of5 (by decide) (beg_w _ (by decide)) (r5_first fun T X hT => ?_)
  obtain ⟨t, T1, rfl, ht, hT1⟩ := cons_of hT
  obtain ⟨x, T2, rfl, hx, hT2⟩ := cons_of hT1
  have hW : ∀ l, seesW (t :: x :: T2) l = l.contains [110, 101, 119] := fun l => sees_c ht 2 _ l
  refine ⟨at_ t 33 x.text 0, .nil, T2, ⟨hT2, nd_ext hk (text_c hx).symm (num_0 hok (by omega) (by omega) (by omega) (by omega)), rfl⟩, pe_step ⟨0, fun n _ => ?_⟩⟩
  rw [P, if_neg (by rw [kind_c ht 3]; decide), if_neg (by rw [hW]; decide), if_neg (by rw [hW]; decide), if_pos (by rw [hW]; decide)]
  show tkK 1 (x :: T2) _ = _
  unfold tkK tk
  rw [if_pos (by exact kind_c hx 1 T2)]; rfl
end leaves
end Go.Proofs.YtehdljcmeimbcaaGreat

namespace Go.Proofs.YtehdljcmeimbcaaGreat
set_option linter.unusedVariables false
set_option linter.unusedSimpArgs false

theorem beg_ne {k : Int} {l : List (List UInt8)} {S : List Co} (h : S ≠ []) (X : List Co) : begK k l (S ++ X) = begK k l S := by
  cases S with
  | nil => exact absurd rfl h
  | cons c r => rfl
theorem Beg.ne {l : List (List UInt8)} {S : List Co} (h : Beg l S) : S ≠ [] := by
  obtain ⟨c, S', rfl, _, _⟩ := h
  exact List.cons_ne_nil _ _
theorem bnd_nn (k : Int) (s : List UInt8) : 0 ≤ bnd k s := by
  unfold bnd
  split
  · decide
  · split
    · decide
    · split
      · split
        · decide
        · split
          · decide
          · split <;> decide
      · decide
/-- The first, the second kid of p: a term. -/
theorem kid0 {M : Nat} {p d0 : Nd} {k0 r : Fo} (h : (Fo.cons d0 k0 r).rd M p 0) : Kid M p 0 d0 k0 ∧ r.rd M p 1 := h
theorem kid1 {M : Nat} {p d0 : Nd} {k0 r : Fo} (h : (Fo.cons d0 k0 r).rd M p 1) : Kid M p 1 d0 k0 ∧ r.rd M p 2 := h
theorem kid2 {M : Nat} {p d0 : Nd} {k0 r : Fo} (h : (Fo.cons d0 k0 r).rd M p 2) : Kid M p 2 d0 k0 ∧ r.rd M p 3 := h
/-- A kid's tokens. -/
def kcs (p : Nd) (i : Nat) (d : Nd) (k : Fo) : List Co := cores (inPar (prn p i d) (spelled d k))
theorem seqs_cons (p : Nd) (i : Nat) (d : Nd) (k r : Fo) : (Fo.cons d k r).seqs p i = inPar (prn p i d) (spelled d k) :: r.seqs p (i + 1) := rfl
theorem sp0 (d : Nd) : spelled d .nil = (parts d 0 false).flatMap (put []) := rfl
theorem sp1 (d d0 : Nd) (k0 : Fo) : spelled d (.cons d0 k0 .nil) = (parts d 1 false).flatMap (put [inPar (prn d 0 d0) (spelled d0 k0)]) := rfl
theorem sp2 (d d0 d1 : Nd) (k0 k1 : Fo) : spelled d (.cons d0 k0 (.cons d1 k1 .nil)) = (parts d 2 false).flatMap (put [inPar (prn d 0 d0) (spelled d0 k0), inPar (prn d 1 d1) (spelled d1 k1)]) := rfl
theorem sp3 (d d0 d1 d2 : Nd) (k0 k1 k2 : Fo) : spelled d (.cons d0 k0 (.cons d1 k1 (.cons d2 k2 .nil))) = (parts d 3 (Fo.cons d0 k0 (.cons d1 k1 (.cons d2 k2 .nil))).more).flatMap (put [inPar (prn d 0 d0) (spelled d0 k0), inPar (prn d 1 d1) (spelled d1 k1), inPar (prn d 2 d2) (spelled d2 k2)]) := rfl
theorem spr (d d0 : Nd) (k0 r : Fo) : spelled d (.cons d0 k0 r) = (parts d (Fo.cons d0 k0 r).len (Fo.cons d0 k0 r).more).flatMap (put (inPar (prn d 0 d0) (spelled d0 k0) :: r.seqs d 1)) := rfl
theorem seqs_nil (p : Nd) (i : Nat) : Fo.nil.seqs p i = [] := rfl
theorem kc_plain {p : Nd} {i : Nat} {d : Nd} {k : Fo} (h : must p i ≤ 0) : kcs p i d k = cores (spelled d k) := by
  unfold kcs
  have hb := bnd_nn d.kind d.text
  have : prn p i d = false := by
    unfold prn
    rw [decide_eq_false_iff_not]
    omega
  rw [this]
  rfl

section
variable {M : Nat} {d : Nd} {k : Fo}
theorem tm_30 (hk : d.kind = 30) (hok : ndOk isNm d (k.nds.map (·.kind)) = true) (hr : k.rd M d 0) : TmK M 5 d k (cores (spelled d k)) := by
  have h1 := kids_of hok
  rw [hk] at h1
  obtain ⟨d0, k0, r, rfl, ha, h1⟩ := kids_c (k := k) (zs := []) h1
  obtain rfl := kids_0 (k := r) h1
  have H := (kid0 hr).1.tm ha
  rw [show ins d 0 = false by simp [ins, hk], if_neg (show ¬ (false = true) by decide), Nat.add_zero] at H
  have hb : 5 ≤ if prn d 0 d0 = true then (5 : Int) else bnd d0.kind d0.text := by
    have := le_b (p := d) (d := d0) (i := 0) (by simp [must, hk])
    have h5 : must d 0 = 5 := by simp [must, hk]
    omega
  have hc := (sg_name (text_n hok (by omega) (by omega) (by rw [hk]; rfl))).2
  have hp : cr [46] = (4, [46], 0) := by decide
  have eS : cores (spelled d (.cons d0 k0 .nil)) = kcs d 0 d0 k0 ++ [cr [46], cr d.text] := by
    rw [sp1]; unfold kcs; generalize inPar (prn d 0 d0) (spelled d0 k0) = q0; simp [parts, hk, put, cores, cores_app]
  rw [eS, hp, hc]
  refine TmK.of5 (by decide) ((H.b5 hb).app _) fun T X hT => ?_
  rw [List.append_assoc] at hT
  obtain ⟨d0', k0', T1, ⟨hT1, hd, hk'⟩, hq⟩ := H.r5 hb T _ hT
  obtain ⟨t, T2, rfl, ht, hT2⟩ := cons_of hT1
  obtain ⟨x, T3, rfl, hx, hT3⟩ := cons_of hT2
  refine ⟨at_ t 30 x.text 0, one d0' k0', T3, ⟨hT3, nd_ext hk (text_c hx).symm (num_0 hok (by omega) (by omega) (by omega) (by omega)), by rw [bare_one, hd, hk']; rfl⟩, fun o ho => hq o ?_⟩
  obtain ⟨N, hN⟩ := ho
  refine pe_step ⟨N, fun n hn => ?_⟩
  rw [P, if_pos (by exact sees_c ht 4 _ _)]
  show tkK 1 (x :: T3) _ = _
  unfold tkK tk
  rw [if_pos (by exact kind_c hx 1 T3)]
  exact hN n hn
theorem tm_31 (hk : d.kind = 31) (hM : M ≠ 64) (hok : ndOk isNm d (k.nds.map (·.kind)) = true) (hr : k.rd M d 0) : TmK M 5 d k (cores (spelled d k)) := by
  have h1 := kids_of hok
  rw [hk] at h1
  obtain ⟨d0, k0, r, rfl, ha, h1⟩ := kids_c (k := k) (zs := [isTm]) h1
  obtain ⟨d1, k1, r, rfl, hb1, h1⟩ := kids_c (k := r) (zs := []) h1
  obtain rfl := kids_0 (k := r) h1
  have H := (kid0 hr).1.tm ha
  have H1 := (kid1 (kid0 hr).2).1.tm hb1
  rw [show ins d 0 = false by simp [ins, hk], if_neg (show ¬ (false = true) by decide), Nat.add_zero] at H
  rw [show ins d 1 = true by simp [ins, hk], if_pos rfl] at H1
  have hb : 5 ≤ if prn d 0 d0 = true then (5 : Int) else bnd d0.kind d0.text := by
    have := le_b (p := d) (d := d0) (i := 0) (by simp [must, hk])
    have h5 : must d 0 = 5 := by simp [must, hk]
    omega
  have hp : cr [91] = (4, [91], 0) := by decide
  have hq' : cr [93] = (4, [93], 0) := by decide
  have eS : cores (spelled d (.cons d0 k0 (.cons d1 k1 .nil))) = kcs d 0 d0 k0 ++ (cr [91] :: (kcs d 1 d1 k1 ++ [cr [93]])) := by
    rw [sp2]; unfold kcs; generalize inPar (prn d 0 d0) (spelled d0 k0) = q0; generalize inPar (prn d 1 d1) (spelled d1 k1) = q1; simp [parts, hk, put, cores, cores_app]
  rw [eS, hp, hq']
  refine TmK.of5 (by decide) ((H.b5 hb).app _) fun T X hT => ?_
  rw [List.append_assoc, List.cons_append, List.append_assoc] at hT
  obtain ⟨d0', k0', T1, ⟨hT1, hd, hk'⟩, hq⟩ := H.r5 hb T _ hT
  obtain ⟨t, T2, rfl, ht, hT2⟩ := cons_of hT1
  obtain ⟨d1', k1', T3, ⟨hT3, hd1, hk1'⟩, N1, hN1⟩ := H1.r1 T2 _ hT2 (by rfl)
  obtain ⟨x, T4, rfl, hx, hT4⟩ := cons_of hT3
  refine ⟨at_ t 31 [] 0, (one d0' k0').app (one d1' k1'), T4, ⟨hT4, nd_ext hk (text_0 hok (by omega) (by omega) (by rw [hk]; rfl)) (num_0 hok (by omega) (by omega) (by omega) (by omega)), by rw [bare_app, bare_one, bare_one, hd, hk', hd1, hk1']; rfl⟩, fun o ho => hq o ?_⟩
  obtain ⟨N, hN⟩ := ho
  refine pe_step ⟨max N N1, fun n hn => ?_⟩
  have hS : ∀ l, seesM (t :: T2) l = l.contains [91] := fun l => sees_c ht 4 _ l
  rw [P, if_neg (by rw [hS]; decide), if_pos (by rw [hS]; decide)]
  unfold ent
  rw [if_neg hM]
  show (P n .term T2 (M + 1)).and _ = _
  rw [show P n .term T2 (M + 1) = _ from hN1 n (by omega)]
  show tkM _ (x :: T4) _ = _
  unfold tkM tk
  rw [if_pos (by exact sees_c hx 4 T4 _)]
  exact hN n (by omega)
theorem tm_36 (hk : d.kind = 36) (hok : ndOk isNm d (k.nds.map (·.kind)) = true) (hr : k.rd M d 0) : TmK M 5 d k (cores (spelled d k)) := by
  have h1 := kids_of hok
  rw [hk] at h1
  obtain ⟨d0, k0, r, rfl, ha, h1⟩ := kids_c (k := k) (zs := []) h1
  obtain rfl := kids_0 (k := r) h1
  have ha' : d0.kind = 12 := by simpa [isK] using ha
  have H := ((kid0 hr).1.pl (by rw [ha']; rfl)).bl ha'
  have hw : cr [102, 110] = (2, [102, 110], 0) := by decide
  have eS : cores (spelled d (.cons d0 k0 .nil)) = cr [102, 110] :: cores (spelled d0 k0) := by
    rw [← kc_plain (p := d) (i := 0) (d := d0) (k := k0) (by simp [must, hk])]
    rw [sp1]; unfold kcs; generalize inPar (prn d 0 d0) (spelled d0 k0) = q0; simp [parts, hk, put, cores, cores_app]
  rw [eS, hw]
  refine TmK.of5 (by decide) (beg_w _ (by decide)) (r5_first fun T X hT => ?_)
  obtain ⟨t, T1, rfl, ht, hT1⟩ := cons_of hT
  obtain ⟨d', k', T2, ⟨hT2, hd, hk'⟩, N, hN⟩ := H T1 X hT1
  have hW : ∀ l, seesW (t :: T1) l = l.contains [102, 110] := fun l => sees_c ht 2 _ l
  refine ⟨at_ t 36 [] 0, one d' k', T2, ⟨hT2, nd_ext hk (text_0 hok (by omega) (by omega) (by rw [hk]; rfl)) (num_0 hok (by omega) (by omega) (by omega) (by omega)), by rw [bare_one, hd, hk']; rfl⟩, pe_step ⟨N, fun n hn => ?_⟩⟩
  rw [P, if_neg (by rw [kind_c ht 3]; decide), if_neg (by rw [hW]; decide), if_neg (by rw [hW]; decide), if_neg (by rw [hW]; decide), if_pos (by rw [hW]; decide)]
  show (P n .block T1 M).and _ = _
  rw [hN n hn]
  rfl
theorem tm_34 (w : List UInt8) (hw : (d.kind = 34 ∧ w = [97, 114, 114]) ∨ (d.kind = 35 ∧ w = [108, 101, 110])) (hM : M ≠ 64) (hok : ndOk isNm d (k.nds.map (·.kind)) = true) (hr : k.rd M d 0) : TmK M 4 d k (cores (spelled d k)) := by
  have hk : d.kind = 34 ∨ d.kind = 35 := hw.imp (·.1) (·.1)
  have h1 := kids_of hok
  have h1' : rowOk [isTm] noK (k.nds.map (·.kind)) = true := by
    rcases hk with h | h <;> rw [h] at h1 <;> exact h1
  obtain ⟨d0, k0, r, rfl, ha, h1⟩ := kids_c (k := k) (zs := []) h1'
  obtain rfl := kids_0 (k := r) h1
  have H := (kid0 hr).1.tm ha
  have hm : must d 0 = 4 := by rcases hk with h | h <;> simp [must, h]
  rw [show ins d 0 = true by rcases hk with h | h <;> simp [ins, h], if_pos rfl] at H
  have hb : 4 ≤ if prn d 0 d0 = true then (5 : Int) else bnd d0.kind d0.text := by
    have := le_b (p := d) (d := d0) (i := 0) (by omega)
    omega
  have hc : cr w = (2, w, 0) := by rcases hw with ⟨_, rfl⟩ | ⟨_, rfl⟩ <;> decide
  have eS : cores (spelled d (.cons d0 k0 .nil)) = cr w :: kcs d 0 d0 k0 := by
    rw [sp1]; unfold kcs; generalize inPar (prn d 0 d0) (spelled d0 k0) = q0; rcases hw with ⟨h, rfl⟩ | ⟨h, rfl⟩ <;> simp [parts, h, put, cores, cores_app]
  rw [eS, hc]
  refine TmK.of4 (beg_w _ (by rcases hw with ⟨_, rfl⟩ | ⟨_, rfl⟩ <;> decide)) fun T X hT hX => ?_
  obtain ⟨t, T1, rfl, ht, hT1⟩ := cons_of hT
  obtain ⟨d', k', T2, ⟨hT2, hd, hk'⟩, N, hN⟩ := H.r4 hb T1 X hT1 hX
  have hW : ∀ l, seesW (t :: T1) l = l.contains w := fun l => sees_c ht 2 _ l
  refine ⟨at_ t (if t.text = [108, 101, 110] then 35 else 34) [] 0, one d' k', T2, ⟨hT2, nd_ext ?_ (text_0 hok (by omega) (by omega) (by rcases hk with h | h <;> rw [h] <;> rfl)) (num_0 hok (by omega) (by omega) (by omega) (by omega)), by rw [bare_one, hd, hk']; rfl⟩, pe_step ⟨N, fun n hn => ?_⟩⟩
  · rw [show t.text = w from text_c ht]
    rcases hw with ⟨h, rfl⟩ | ⟨h, rfl⟩ <;> rw [h] <;> decide
  rw [P, if_pos (by rw [hW]; rcases hw with ⟨_, rfl⟩ | ⟨_, rfl⟩ <;> decide)]
  unfold ent
  rw [if_neg hM]
  show (P n .unary T1 (M + 1)).and _ = _
  rw [show P n .unary T1 (M + 1) = _ from hN n hn]
  rfl
/-- Both kids of an operation. -/
theorem op_kids (hk : d.kind = 32) (hok : ndOk isNm d (k.nds.map (·.kind)) = true) (hr : k.rd M d 0) : ∃ d0 k0 d1 k1, k = .cons d0 k0 (.cons d1 k1 .nil) ∧ cores (spelled d k) = kcs d 0 d0 k0 ++ (cr d.text :: kcs d 1 d1 k1) ∧
    (∃ b, must d 0 ≤ b ∧ TmK M b d0 k0 (kcs d 0 d0 k0)) ∧ ∃ b, must d 1 ≤ b ∧ TmK M b d1 k1 (kcs d 1 d1 k1) := by
  have h1 := kids_of hok
  rw [hk] at h1
  obtain ⟨d0, k0, r, rfl, ha, h1⟩ := kids_c (k := k) (zs := [isTm]) h1
  obtain ⟨d1, k1, r, rfl, hb1, h1⟩ := kids_c (k := r) (zs := []) h1
  obtain rfl := kids_0 (k := r) h1
  have H := (kid0 hr).1.tm ha
  have H1 := (kid1 (kid0 hr).2).1.tm hb1
  rw [show ins d 0 = false by simp [ins, hk], if_neg (show ¬ (false = true) by decide), Nat.add_zero] at H
  rw [show ins d 1 = false by simp [ins, hk], if_neg (show ¬ (false = true) by decide), Nat.add_zero] at H1
  have ht : isSg d.text = true := by
    simp only [ndOk, Bool.and_eq_true] at hok
    have := hok.1.1.2
    unfold textOk at this
    rwa [if_neg (by omega), if_pos hk] at this
  have hm : must d 0 ≤ 5 ∧ must d 1 ≤ 5 := by
    simp only [isSg, Bool.or_eq_true, beq_iff_eq] at ht
    rcases ht with (((ht | ht) | ht) | ht) | ht <;> simp [must, hk, ht, bnd, isTm]
  refine ⟨d0, k0, d1, k1, rfl, ?_, ⟨_, le_b hm.1, H⟩, ⟨_, le_b hm.2, H1⟩⟩
  rw [sp2]; unfold kcs; generalize inPar (prn d 0 d0) (spelled d0 k0) = q0; generalize inPar (prn d 1 d1) (spelled d1 k1) = q1; simp [parts, hk, put, cores, cores_app]
theorem op_ext (hk : d.kind = 32) (hok : ndOk isNm d (k.nds.map (·.kind)) = true) {t : Tok} {s : List UInt8} (ht : t.core = (4, s, 0)) (hs : d.text = s) : (at_ t 32 t.text 0).bare = d.bare :=
  nd_ext hk (hs.trans (text_c ht).symm) (num_0 hok (by omega) (by omega) (by omega) (by omega))
theorem tm_lt {s : List UInt8} (hk : d.kind = 32) (hs : d.text = s) (hss : s = [60] ∨ s = [61, 61]) (hok : ndOk isNm d (k.nds.map (·.kind)) = true) (hr : k.rd M d 0) : TmK M 1 d k (cores (spelled d k)) := by
  obtain ⟨d0, k0, d1, k1, rfl, eS, ⟨b0, hb0, H0⟩, ⟨b1, hb1, H1⟩⟩ := op_kids hk hok hr
  have hm : must d 0 = 2 ∧ must d 1 = 2 := by rcases hss with rfl | rfl <;> simp [must, hk, hs, bnd, isTm]
  have hc : cr s = (4, s, 0) := by rcases hss with rfl | rfl <;> decide
  rw [eS, hs, hc]
  refine TmK.of1 (H0.beg.app _) fun T X hT hX => ?_
  rw [List.append_assoc, List.cons_append] at hT
  obtain ⟨d0', k0', T1, ⟨hT1, hd, hk'⟩, hq⟩ := H0.r2 (by omega) T _ hT (by rcases hss with rfl | rfl <;> rfl)
  obtain ⟨N0, hN0⟩ := hq _ (sumL_stop hT1 (by rcases hss with rfl | rfl <;> rfl) d0' k0' M)
  obtain ⟨t, T2, rfl, ht, hT2⟩ := cons_of hT1
  obtain ⟨d1', k1', T3, ⟨hT3, hd1, hk1'⟩, hq1⟩ := H1.r2 (by omega) T2 X hT2 (beg_sub (l' := m1) (by decide) hX)
  obtain ⟨N1, hN1⟩ := hq1 _ (sumL_stop hT3 (beg_sub (l' := m1) (by decide) hX) d1' k1' M)
  refine ⟨at_ t 32 t.text 0, (one d0' k0').app (one d1' k1'), T3, ⟨hT3, op_ext hk hok ht hs, by rw [bare_app, bare_one, bare_one, hd, hk', hd1, hk1']; rfl⟩, pe_step ⟨max N0 N1, fun n hn => ?_⟩⟩
  rw [P, hN0 n (by omega)]
  show (if seesM (t :: T2) _ = true then _ else _) = _
  rw [if_pos (by exact (sees_c ht 4 _ _).trans (by rcases hss with rfl | rfl <;> decide))]
  show (P n .sum T2 M).and _ = _
  rw [hN1 n (by omega)]
  rfl
theorem tm_add {s : List UInt8} (hk : d.kind = 32) (hs : d.text = s) (hss : s = [43] ∨ s = [45]) (hok : ndOk isNm d (k.nds.map (·.kind)) = true) (hr : k.rd M d 0) : TmK M 2 d k (cores (spelled d k)) := by
  obtain ⟨d0, k0, d1, k1, rfl, eS, ⟨b0, hb0, H0⟩, ⟨b1, hb1, H1⟩⟩ := op_kids hk hok hr
  have hm : must d 0 = 2 ∧ must d 1 = 3 := by rcases hss with rfl | rfl <;> simp [must, hk, hs, bnd, isTm]
  have hc : cr s = (4, s, 0) := by rcases hss with rfl | rfl <;> decide
  rw [eS, hs, hc]
  refine TmK.of2 (H0.beg.app _) fun T X hT hX => ?_
  rw [List.append_assoc, List.cons_append] at hT
  obtain ⟨d0', k0', T1, ⟨hT1, hd, hk'⟩, hq⟩ := H0.r2 (by omega) T _ hT (by rcases hss with rfl | rfl <;> rfl)
  obtain ⟨t, T2, rfl, ht, hT2⟩ := cons_of hT1
  obtain ⟨d1', k1', T3, ⟨hT3, hd1, hk1'⟩, hq1⟩ := H1.r3 (by omega) T2 X hT2 (beg_sub (l' := m3) (by decide) hX)
  obtain ⟨N1, hN1⟩ := hq1 _ (prodL_stop hT3 hX d1' k1' M)
  refine ⟨at_ t 32 t.text 0, (one d0' k0').app (one d1' k1'), T3, ⟨hT3, op_ext hk hok ht hs, by rw [bare_app, bare_one, bare_one, hd, hk', hd1, hk1']; rfl⟩, fun o ho => hq o ?_⟩
  obtain ⟨N, hN⟩ := ho
  refine pe_step ⟨max N N1, fun n hn => ?_⟩
  rw [P, if_pos (by exact (sees_c ht 4 _ _).trans (by rcases hss with rfl | rfl <;> decide))]
  show (P n .product T2 M).and _ = _
  rw [hN1 n (by omega)]
  exact hN n (by omega)
theorem tm_mul (hk : d.kind = 32) (hs : d.text = [42]) (hok : ndOk isNm d (k.nds.map (·.kind)) = true) (hr : k.rd M d 0) : TmK M 3 d k (cores (spelled d k)) := by
  obtain ⟨d0, k0, d1, k1, rfl, eS, ⟨b0, hb0, H0⟩, ⟨b1, hb1, H1⟩⟩ := op_kids hk hok hr
  have hm : must d 0 = 3 ∧ must d 1 = 4 := by simp [must, hk, hs, bnd, isTm]
  have hc : cr [42] = (4, [42], 0) := by decide
  rw [eS, hs, hc]
  refine TmK.of3 (H0.beg.app _) fun T X hT hX => ?_
  rw [List.append_assoc, List.cons_append] at hT
  obtain ⟨d0', k0', T1, ⟨hT1, hd, hk'⟩, hq⟩ := H0.r3 (by omega) T _ hT (by rfl)
  obtain ⟨t, T2, rfl, ht, hT2⟩ := cons_of hT1
  obtain ⟨d1', k1', T3, ⟨hT3, hd1, hk1'⟩, N1, hN1⟩ := H1.r4 (by omega) T2 X hT2 hX
  refine ⟨at_ t 32 t.text 0, (one d0' k0').app (one d1' k1'), T3, ⟨hT3, op_ext hk hok ht hs, by rw [bare_app, bare_one, bare_one, hd, hk', hd1, hk1']; rfl⟩, fun o ho => hq o ?_⟩
  obtain ⟨N, hN⟩ := ho
  refine pe_step ⟨max N N1, fun n hn => ?_⟩
  rw [P, if_pos (by exact sees_c ht 4 _ _)]
  show (P n .unary T2 M).and _ = _
  rw [hN1 n (by omega)]
  exact hN n (by omega)
end
end Go.Proofs.YtehdljcmeimbcaaGreat
