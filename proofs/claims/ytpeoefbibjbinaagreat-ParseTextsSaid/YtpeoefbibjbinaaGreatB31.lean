/- The document's parser, plainly, and the grammar: terms; The document's parser, plainly, and the grammar: tight, unary, product, sum, term, variable; The document's parser, plainly, and the grammar: tight, unary, term, variable. -/
import Derived.Test.YtpeoefbibjbinaaGreatB29
import Derived.Test.YtpeoefbibjbinaaGreatB30
namespace Go.Proofs.YtpeoefbibjbinaaGreat
open Go.RowKit

def okS (k : Nat) : Sg := ⟨k, 0, 0⟩
def erS (k : Nat) (e : Int) : Sg := ⟨k, e, k⟩
theorem erS_er {k : Nat} {e : Int} (h : e ≠ 0) : (erS k e).er ≠ 0 := h
theorem rest_ok (T : List Tok) (k : Nat) : rest T (okS k) = T.drop k := if_pos rfl
theorem isT_ok (T : List Tok) (s : List UInt8) (k : Nat) : isT T s (okS k) = seesK (kindOf s) (T.drop k) [s] := by
  unfold isT seesK
  rw [rest_ok]
  congr 1
  rw [Bool.eq_iff_iff]
  simp
theorem isM_ok (T : List Tok) (s : List UInt8) (k : Nat) (h : kindOf s = 4) : isT T s (okS k) = seesM (T.drop k) [s] := by rw [isT_ok, h]; rfl
theorem isW_ok (T : List Tok) (s : List UInt8) (k : Nat) (h : kindOf s = 2) : isT T s (okS k) = seesW (T.drop k) [s] := by rw [isT_ok, h]; rfl
theorem isIn_ok (T : List Tok) (l : List (List UInt8)) (k : Nat) (h : ∀ s ∈ l, kindOf s = 2) : isIn T l (okS k) = seesW (T.drop k) l := by
  unfold isIn seesW seesK
  have : ∀ s ∈ l, isT T s (okS k) = ((hd (T.drop k)).kind == 2 && (hd (T.drop k)).text == s) := fun s hs => by
    unfold isT
    rw [rest_ok, h s hs]
  rw [Bool.eq_iff_iff, List.any_eq_true]
  constructor
  · rintro ⟨s, hs, h1⟩
    rw [this s hs, Bool.and_eq_true, beq_iff_eq, beq_iff_eq] at h1
    simp [h1.1, h1.2, hs]
  · intro h1
    rw [Bool.and_eq_true] at h1
    have h2 : (hd (T.drop k)).text ∈ l := by simpa using h1.2
    exact ⟨_, h2, by rw [this _ h2, h1.1]; simp⟩
theorem isKd_ok (T : List Tok) (c : Int) (k : Nat) : isKd T c (okS k) = ((hd (T.drop k)).kind == c) := by unfold isKd; rw [rest_ok]
theorem takeS_yes (T : List Tok) (k : Nat) : takeS T true (okS k) = (hd (T.drop k), okS (k + 1)) := by unfold takeS; rw [if_pos rfl, rest_ok]; rfl
theorem takeS_no (T : List Tok) (k : Nat) : takeS T false (okS k) = (tok0', erS k 4) := rfl
theorem skp_ok (k : Nat) : skp (okS k) = okS (k + 1) := rfl
theorem knd_yes {T : List Tok} {k : Nat} {c : Int} (h : ((hd (T.drop k)).kind == c) = true) : knd T c (okS k) = (hd (T.drop k), okS (k + 1)) := by unfold knd; rw [isKd_ok, h, takeS_yes]
theorem knd_no {T : List Tok} {k : Nat} {c : Int} (h : ((hd (T.drop k)).kind == c) = false) : knd T c (okS k) = (tok0', erS k 4) := by unfold knd; rw [isKd_ok, h, takeS_no]
theorem sgnM_yes {T : List Tok} {k : Nat} {s : List UInt8} (hs : kindOf s = 4) (h : seesM (T.drop k) [s] = true) : sgn T s (okS k) = (hd (T.drop k), okS (k + 1)) := by unfold sgn; rw [isM_ok T s k hs, h, takeS_yes]
theorem sgnM_no {T : List Tok} {k : Nat} {s : List UInt8} (hs : kindOf s = 4) (h : seesM (T.drop k) [s] = false) : sgn T s (okS k) = (tok0', erS k 4) := by unfold sgn; rw [isM_ok T s k hs, h, takeS_no]
theorem openS_yes {T : List Tok} {k m : Nat} {s : List UInt8} (h : isT T s (okS k) = true) (hm : m < 64) : openS T m s (okS k) = (hd (T.drop k), okS (k + 1)) := by
  have : openE T m s (okS k) = okS k := if_neg (by rintro ⟨_, h⟩; omega)
  unfold openS
  rw [this, h, takeS_yes]
theorem openS_deep {T : List Tok} {k : Nat} {s : List UInt8} (h : isT T s (okS k) = true) : openS T 64 s (okS k) = (tok0', erS k 5) := by
  have : openE T 64 s (okS k) = erS k 5 := if_pos ⟨h, Nat.le_refl _⟩
  unfold openS
  rw [this, isT_e (erS_er (by decide)), takeS_e (erS_er (by decide))]
theorem openS_no {T : List Tok} {k m : Nat} {s : List UInt8} (h : isT T s (okS k) = false) : openS T m s (okS k) = (tok0', erS k 4) := by
  have : openE T m s (okS k) = okS k := if_neg (by rw [h]; simp)
  unfold openS
  rw [this, h, takeS_no]
theorem sees_k {T : List Tok} {k : Nat} {c : Int} {l : List (List UInt8)} (hc : c ≠ 0) (h : seesK c (T.drop k) l = true) : k < T.length := sees_lt hc (seesK_kind h)

/-- What the document's parser answers, where the grammar answers o; a: the size of what is there already. -/
def Rel (T : List Tok) (n k a : Nat) (o : Out) (x : List Tw × Sg) : Prop :=
  match o with
  | .dry => False
  | .bad er r => ∃ j, r = T.drop j ∧ k ≤ j ∧ j ≤ T.length ∧ er ≠ 0 ∧ x.2 = erS j er ∧ 1 ≤ x.1.length ∧ x.1.length + 2 * k ≤ 2 * j + 40 * n + a
  | .ok d kf r => ∃ j, r = T.drop j ∧ k ≤ j ∧ j ≤ T.length ∧ x = ((one d kf).flat 0, okS j) ∧ kf.size + 1 + 2 * k ≤ 2 * j + a
def Sim (T : List Tok) (n : Nat) (p : Gr) (q : Gq) : Prop := ∀ k m, n ≤ 1000000 → T.length ≤ 1000000 → k ≤ T.length → m ≤ 64 → P n p (T.drop k) m ≠ .dry → ∃ x, Ev T q m (okS k) x ∧ Rel T n k 0 (P n p (T.drop k) m) x

theorem dropD (T : List Tok) (k : Nat) : (T.drop k).tail = T.drop (k + 1) := by simp [List.tail_drop]
theorem U0_len (t : Tok) (c : Int) : (twL (at_ t c [] 0) []).length = 1 := by rw [twL_len]; rfl
theorem flat_len1 (d : Nd) (f : Fo) : ((one d f).flat 0).length = f.size + 1 := by rw [Fo.flat_len, one_size]
/-- A twig without kids. -/
theorem leaf (d : Nd) (σ : Sg) : tq d [] σ = some ((one d .nil).flat 0, σ) := tq_rows (f := .nil) (by simp [Fo.size])

theorem sim_use (T : List Tok) (n k : Nat) (hk : k ≤ T.length) : Rel T (n + 1) k 0 (useO (T.drop k)) (useQ T (okS k)) := by
  unfold useO useQ
  cases h : ((hd (T.drop k)).kind == 1)
  · rw [tkK_no h, knd_no h]
    exact ⟨k, rfl, Nat.le_refl _, hk, by decide, rfl, by simp [twL_len], by simp [twL_len]; omega⟩
  · have hlt := sees_lt (T := T) (k := k) (x := 1) (by decide) h
    rw [tkK_yes h, knd_yes h, dropD]
    exact ⟨k + 1, rfl, by omega, hlt, rfl, by simp [Fo.size]; omega⟩

/-- The last part, and then the twig. -/
theorem Rel.fin {T : List Tok} {n k1 : Nat} {o : Out} {x : List Tw × Sg} (h : Rel T n k1 0 o x) {k0 : Nat} (F : Fo) (hF : F.size + 2 * k0 + 1 ≤ 2 * k1) (hT : T.length ≤ 1000000) (hn : n + 1 ≤ 1000000) (D : Nd) :
    ∃ y, tq D (F.rows ++ [x.1]) x.2 = some y ∧ Rel T (n + 1) k0 0 (o.and fun d f r => .ok D (F.app (one d f)) r) y := by
  have hr := rows_le F
  have hs := rows_sum F
  cases o with
  | dry => exact h.elim
  | bad er r =>
    obtain ⟨j, rfl, h2, h3, h4, h5, h6, h7⟩ := h
    refine ⟨_, tq_yes ?_ ?_, j, rfl, by omega, h3, h4, h5, ?_, ?_⟩
    · simp [hs]; omega
    · simp; omega
    · rw [twL_len]; omega
    · rw [twL_len]; simp [hs]; omega
  | ok d kf r =>
    obtain ⟨j, rfl, h2, h3, rfl, h5⟩ := h
    have e : F.rows ++ [(one d kf).flat 0] = (F.app (one d kf)).rows := by rw [Fo.rows_app, one_rows]
    refine ⟨_, by rw [e]; exact tq_rows (by rw [Fo.size_app, one_size]; omega), j, rfl, by omega, h3, rfl, ?_⟩
    rw [Fo.size_app, one_size]
    omega
/-- The last part, a sign, and then the twig. -/
theorem Rel.finM {T : List Tok} {n k1 : Nat} {o : Out} {x : List Tw × Sg} (h : Rel T n k1 0 o x) {k0 : Nat} (F : Fo) (hF : F.size + 2 * k0 + 1 ≤ 2 * k1) (hT : T.length ≤ 1000000) (hn : n + 1 ≤ 1000000) (D : Nd) (s : List UInt8) (hs4 : kindOf s = 4) :
    ∃ y, tq D (F.rows ++ [x.1]) (sgn T s x.2).2 = some y ∧ Rel T (n + 1) k0 0 (o.and fun d f r => tkM [s] r fun _ r => .ok D (F.app (one d f)) r) y := by
  have hr := rows_le F
  have hs := rows_sum F
  cases o with
  | dry => exact h.elim
  | bad er r =>
    obtain ⟨j, rfl, h2, h3, h4, h5, h6, h7⟩ := h
    rw [h5, sgn_e (erS_er h4)]
    refine ⟨_, tq_yes ?_ ?_, j, rfl, by omega, h3, h4, rfl, ?_, ?_⟩
    · simp [hs]; omega
    · simp; omega
    · rw [twL_len]; omega
    · rw [twL_len]; simp [hs]; omega
  | ok d kf r =>
    obtain ⟨j, rfl, h2, h3, rfl, h5⟩ := h
    have e : F.rows ++ [(one d kf).flat 0] = (F.app (one d kf)).rows := by rw [Fo.rows_app, one_rows]
    dsimp only [Out.and]
    cases hc : seesM (T.drop j) [s]
    · rw [sgnM_no hs4 hc, tkM_no hc, e]
      refine ⟨_, tq_rows (by rw [Fo.size_app, one_size]; omega), j, rfl, by omega, h3, by decide, rfl, ?_, ?_⟩
      · rw [flat_len1]; omega
      · rw [flat_len1, Fo.size_app, one_size]; omega
    · have hlt := sees_k (T := T) (k := j) (by decide) hc
      rw [sgnM_yes hs4 hc, tkM_yes hc, e, dropD]
      refine ⟨_, tq_rows (by rw [Fo.size_app, one_size]; omega), j + 1, rfl, by omega, hlt, rfl, ?_⟩
      rw [Fo.size_app, one_size]
      omega

theorem and_nd {o : Out} {f : Nd → Fo → List Tok → Out} (h : o.and f ≠ .dry) : o ≠ .dry := fun e => by rw [e] at h; exact h rfl

theorem sim_first (T : List Tok) (n : Nat) (HB : Sim T n .block .block) (HT : Sim T n .term .term) : Sim T (n + 1) .first .first := by
  intro k m hn hT hk hm hnd
  have tl := dropD T k
  cases c3 : ((hd (T.drop k)).kind == 3)
  rotate_left
  · have hlt := sees_lt (T := T) (k := k) (x := 3) (by decide) c3
    have hP : P (n + 1) .first (T.drop k) m = .ok (at_ (hd (T.drop k)) 26 [] (hd (T.drop k)).n) .nil (T.drop (k + 1)) := by rw [P]; simp only [c3, if_true, tl]
    rw [hP]
    refine ⟨_, .step ⟨0, fun N _ => ?_⟩, k + 1, rfl, by omega, hlt, rfl, by simp [Fo.size]; omega⟩
    rw [Q, isKd_ok, c3, if_pos rfl, rest_ok, skp_ok]
    exact leaf _ _
  cases c4 : seesW (T.drop k) [[110, 117, 108, 108]]
  rotate_left
  · have hlt := sees_k (T := T) (k := k) (by decide) c4
    have hP : P (n + 1) .first (T.drop k) m = .ok (at_ (hd (T.drop k)) 27 [] 0) .nil (T.drop (k + 1)) := by rw [P]; simp only [c3, c4, Bool.false_eq_true, if_false, if_true, tl]
    rw [hP]
    refine ⟨_, .step ⟨0, fun N _ => ?_⟩, k + 1, rfl, by omega, hlt, rfl, by simp [Fo.size]; omega⟩
    rw [Q, isKd_ok, c3, if_neg (by decide), isW_ok _ _ _ rfl, c4, if_pos rfl, rest_ok, skp_ok]
    exact leaf _ _
  cases c5 : seesW (T.drop k) [[105, 116]]
  rotate_left
  · have hlt := sees_k (T := T) (k := k) (by decide) c5
    have hP : P (n + 1) .first (T.drop k) m = .ok (at_ (hd (T.drop k)) 28 [] 0) .nil (T.drop (k + 1)) := by rw [P]; simp only [c3, c4, c5, Bool.false_eq_true, if_false, if_true, tl]
    rw [hP]
    refine ⟨_, .step ⟨0, fun N _ => ?_⟩, k + 1, rfl, by omega, hlt, rfl, by simp [Fo.size]; omega⟩
    rw [Q, isKd_ok, c3, if_neg (by decide), isW_ok _ _ _ rfl, c4, if_neg (by decide), isW_ok _ _ _ rfl, c5, if_pos rfl, rest_ok, skp_ok]
    exact leaf _ _
  cases c6 : seesW (T.drop k) [[110, 101, 119]]
  rotate_left
  · have hlt := sees_k (T := T) (k := k) (by decide) c6
    have hQ : ∀ N, Q T (N + 1) .first m (okS k) = tq (at_ (hd (T.drop k)) 33 (knd T 1 (okS (k + 1))).1.text 0) [] (knd T 1 (okS (k + 1))).2 := fun N => by
      rw [Q, isKd_ok, c3, if_neg (by decide), isW_ok _ _ _ rfl, c4, if_neg (by decide), isW_ok _ _ _ rfl, c5, if_neg (by decide), isW_ok _ _ _ rfl, c6, if_pos rfl, rest_ok, skp_ok]
    cases c1 : ((hd (T.drop (k + 1))).kind == 1)
    · have hP : P (n + 1) .first (T.drop k) m = .bad 4 (T.drop (k + 1)) := by
        rw [P]; simp only [c3, c4, c5, c6, Bool.false_eq_true, if_false, if_true, tl]; rw [tkK_no c1]
      rw [hP]
      have hev : Ev T .first m (okS k) ((one (at_ (hd (T.drop k)) 33 tok0'.text 0) .nil).flat 0, erS (k + 1) 4) := .step ⟨0, fun N _ => by
        rw [hQ, knd_no c1]
        exact leaf _ _⟩
      exact ⟨_, hev, k + 1, rfl, by omega, hlt, by decide, rfl, by rw [flat_len1]; simp, by rw [flat_len1]; simp [Fo.size]; omega⟩
    · have hlt2 := sees_lt (T := T) (k := k + 1) (x := 1) (by decide) c1
      have hP : P (n + 1) .first (T.drop k) m = .ok (at_ (hd (T.drop k)) 33 (hd (T.drop (k + 1))).text 0) .nil (T.drop (k + 2)) := by
        rw [P]; simp only [c3, c4, c5, c6, Bool.false_eq_true, if_false, if_true, tl]; rw [tkK_yes c1, dropD]
      rw [hP]
      refine ⟨_, .step ⟨0, fun N _ => ?_⟩, k + 2, rfl, by omega, hlt2, rfl, by simp [Fo.size]; omega⟩
      rw [hQ, knd_yes c1]
      exact leaf _ _
  cases c7 : seesW (T.drop k) [[102, 110]]
  rotate_left
  · have hlt := sees_k (T := T) (k := k) (by decide) c7
    have hQ : ∀ N, Q T (N + 1) .first m (okS k) = (Q T N .blockIf m (okS (k + 1))).bind fun x => tq (at_ (hd (T.drop k)) 36 [] 0) [x.1] x.2 := fun N => by
      rw [Q, isKd_ok, c3, if_neg (by decide), isW_ok _ _ _ rfl, c4, if_neg (by decide), isW_ok _ _ _ rfl, c5, if_neg (by decide), isW_ok _ _ _ rfl, c6, if_neg (by decide), isW_ok _ _ _ rfl, c7, if_pos rfl, rest_ok, skp_ok]
    have hP : P (n + 1) .first (T.drop k) m = (P n .block (T.drop (k + 1)) m).and fun d k' r' => .ok (at_ (hd (T.drop k)) 36 [] 0) (one d k') r' := by
      rw [P]; simp only [c3, c4, c5, c6, c7, Bool.false_eq_true, if_false, if_true, tl]
    rw [hP] at hnd ⊢
    obtain ⟨x, ⟨N, h1⟩, hr⟩ := HB (k + 1) m (by omega) hT hlt hm (and_nd hnd)
    obtain ⟨y, hy, hry⟩ := hr.fin (k0 := k) .nil (by simp [Fo.size]; omega) hT hn (at_ (hd (T.drop k)) 36 [] 0)
    refine ⟨y, .step ⟨N + 1, fun M hM => ?_⟩, hry⟩
    obtain ⟨M', rfl⟩ : ∃ M', M = M' + 1 := ⟨M - 1, by omega⟩
    rw [hQ, Q, if_pos (show (okS (k + 1)).er = 0 from rfl), h1 _ (by omega), Option.bind_some]
    exact hy
  cases c8 : seesM (T.drop k) [[40]]
  rotate_left
  · have hlt := sees_k (T := T) (k := k) (by decide) c8
    have ht : isT T [40] (okS k) = true := by rw [isM_ok _ _ _ rfl]; exact c8
    have hQ : ∀ N, Q T (N + 1) .first m (okS k) = (Q T N .termIf (m + 1) (openS T m [40] (okS k)).2).bind fun x => some (x.1, (sgn T [41] x.2).2) := fun N => by
      rw [Q, isKd_ok, c3, if_neg (by decide), isW_ok _ _ _ rfl, c4, if_neg (by decide), isW_ok _ _ _ rfl, c5, if_neg (by decide), isW_ok _ _ _ rfl, c6, if_neg (by decide), isW_ok _ _ _ rfl, c7, if_neg (by decide), ht, if_pos rfl, if_pos (by omega)]
    by_cases h64 : m = 64
    · subst h64
      have hP : P (n + 1) .first (T.drop k) 64 = .bad 5 (T.drop k) := by
        rw [P]; simp only [c3, c4, c5, c6, c7, c8, Bool.false_eq_true, if_false, if_true]; rw [ent_no rfl]
      rw [hP]
      refine ⟨([zeroT], erS k 5), .step ⟨1, fun M hM => ?_⟩, k, rfl, Nat.le_refl _, hk, by decide, rfl, by simp, by simp; omega⟩
      obtain ⟨M', rfl⟩ : ∃ M', M = M' + 1 := ⟨M - 1, by omega⟩
      rw [hQ, openS_deep ht, Q, if_neg (erS_er (by decide)), Option.bind_some, sgn_e (erS_er (by decide))]
    · have hP : P (n + 1) .first (T.drop k) m = (P n .term (T.drop (k + 1)) (m + 1)).and fun d k' r' => tkM [[41]] r' fun _ r' => .ok d k' r' := by
        rw [P]; simp only [c3, c4, c5, c6, c7, c8, Bool.false_eq_true, if_false, if_true]; rw [ent_yes h64, tl]
      rw [hP] at hnd ⊢
      obtain ⟨x, ⟨N, h1⟩, hr⟩ := HT (k + 1) (m + 1) (by omega) hT hlt (by omega) (and_nd hnd)
      have hev : Ev T .first m (okS k) (x.1, (sgn T [41] x.2).2) := .step ⟨N + 1, fun M hM => by
        obtain ⟨M', rfl⟩ : ∃ M', M = M' + 1 := ⟨M - 1, by omega⟩
        rw [hQ, openS_yes ht (by omega), Q, if_pos (show (okS (k + 1)).er = 0 from rfl), h1 _ (by omega), Option.bind_some]⟩
      refine ⟨_, hev, ?_⟩
      cases ho : P n .term (T.drop (k + 1)) (m + 1) with
      | dry => rw [ho] at hr; exact hr.elim
      | bad er r =>
        rw [ho] at hr
        obtain ⟨j, rfl, h2, h3, h4, h5, h6, h7⟩ := hr
        rw [h5, sgn_e (erS_er h4)]
        exact ⟨j, rfl, by omega, h3, h4, rfl, h6, by dsimp only; omega⟩
      | ok d kf r =>
        rw [ho] at hr
        obtain ⟨j, rfl, h2, h3, rfl, h5⟩ := hr
        dsimp only [Out.and]
        cases hc : seesM (T.drop j) [[41]]
        · rw [sgnM_no rfl hc, tkM_no hc]
          exact ⟨j, rfl, by omega, h3, by decide, rfl, by dsimp only; rw [flat_len1]; omega, by dsimp only; rw [flat_len1]; omega⟩
        · have hlt2 := sees_k (T := T) (k := j) (by decide) hc
          rw [sgnM_yes rfl hc, tkM_yes hc, dropD]
          exact ⟨j + 1, rfl, by omega, hlt2, rfl, by omega⟩
  have hP : P (n + 1) .first (T.drop k) m = useO (T.drop k) := by
    rw [P]; simp only [c3, c4, c5, c6, c7, c8, Bool.false_eq_true, if_false]
  rw [hP]
  refine ⟨useQ T (okS k), .step ⟨0, fun M _ => ?_⟩, sim_use T n k hk⟩
  rw [Q, isKd_ok, c3, if_neg (by decide), isW_ok _ _ _ rfl, c4, if_neg (by decide), isW_ok _ _ _ rfl, c5, if_neg (by decide), isW_ok _ _ _ rfl, c6, if_neg (by decide), isW_ok _ _ _ rfl, c7, if_neg (by decide), isM_ok _ _ _ rfl, c8, if_neg (by decide)]
end Go.Proofs.YtpeoefbibjbinaaGreat

namespace Go.Proofs.YtpeoefbibjbinaaGreat
open Go.RowKit

theorem Rel.mono {T : List Tok} {n n' k a : Nat} {o : Out} {x : List Tw × Sg} (h : Rel T n k a o x) (hn : n ≤ n') : Rel T n' k a o x := by
  cases o with
  | dry => exact h
  | bad er r =>
    obtain ⟨j, h1, h2, h3, h4, h5, h6, h7⟩ := h
    exact ⟨j, h1, h2, h3, h4, h5, h6, by omega⟩
  | ok d kf r => exact h
/-- What began earlier. -/
theorem Rel.from {T : List Tok} {n k k0 : Nat} {o : Out} {x : List Tw × Sg} (h : Rel T n k 0 o x) (hk : k0 ≤ k) : Rel T n k0 0 o x := by
  cases o with
  | dry => exact h
  | bad er r =>
    obtain ⟨j, h1, h2, h3, h4, h5, h6, h7⟩ := h
    exact ⟨j, h1, by omega, h3, h4, h5, h6, by omega⟩
  | ok d kf r =>
    obtain ⟨j, h1, h2, h3, h4, h5⟩ := h
    exact ⟨j, h1, by omega, h3, h4, by omega⟩
section
variable {T : List Tok} {σ : Sg} (h : σ.er ≠ 0)
include h
theorem ev_tightL_e (m : Nat) (X : List Tw) (n : Nat) : Q T (n + 1) (.tightL X) m σ = some (X, σ) := by
  rw [Q]
  simp only [isT_e h, Bool.false_eq_true, if_false]
theorem ev_sumL_e (m : Nat) (X : List Tw) (n : Nat) : Q T (n + 1) (.sumL X) m σ = some (X, σ) := by
  rw [Q]
  simp only [isT_e h, Bool.or_self, Bool.false_eq_true, if_false]
theorem ev_prodL_e (m : Nat) (X : List Tw) (n : Nat) : Q T (n + 1) (.prodL X) m σ = some (X, σ) := by
  rw [Q]
  simp only [isT_e h, Bool.false_eq_true, if_false]
theorem q_termIf_e (m : Nat) (n : Nat) : Q T (n + 1) .termIf m σ = some ([zeroT], σ) := by rw [Q, if_neg h]
theorem q_unaryIf_e (m : Nat) (n : Nat) : Q T (n + 1) .unaryIf m σ = some ([zeroT], σ) := by rw [Q, if_neg h]
end
theorem q_termIf_ok (T : List Tok) (m k n : Nat) : Q T (n + 1) .termIf m (okS k) = Q T n .term m (okS k) := by rw [Q, if_pos (show (okS k).er = 0 from rfl)]
theorem q_unaryIf_ok (T : List Tok) (m k n : Nat) : Q T (n + 1) .unaryIf m (okS k) = Q T n .unary m (okS k) := by rw [Q, if_pos (show (okS k).er = 0 from rfl)]
theorem sees2 (s t : List UInt8) (r : List Tok) : (seesM r [s] || seesM r [t]) = seesM r [s, t] := by
  unfold seesM seesK
  rw [Bool.eq_iff_iff]
  simp
  constructor
  · rintro (⟨h1, h2⟩ | ⟨h1, h2⟩)
    · exact ⟨h1, .inl h2⟩
    · exact ⟨h1, .inr h2⟩
  · rintro ⟨h1, h2 | h2⟩
    · exact .inl ⟨h1, h2⟩
    · exact .inr ⟨h1, h2⟩
/-- Behind a part that went wrong. -/
theorem twig_bad {T : List Tok} {n k1 k0 : Nat} {F : Fo} {X : List Tw} {j : Nat} {er : Int} (D : Nd) (hF : F.size + 2 * k0 + 1 ≤ 2 * k1) (hj : k1 ≤ j) (hjT : j ≤ T.length) (hT : T.length ≤ 1000000) (hn : n + 1 ≤ 1000000) (her : er ≠ 0) (hX : X.length + 2 * k1 ≤ 2 * j + 40 * n + 1) :
    tq D (F.rows ++ [X]) (erS j er) = some (twL D (F.rows ++ [X]), erS j er) ∧ Rel T (n + 1) k0 0 (.bad er (T.drop j)) (twL D (F.rows ++ [X]), erS j er) := by
  have hr := rows_le F
  have hs := rows_sum F
  refine ⟨tq_yes ?_ ?_, j, rfl, by omega, hjT, her, rfl, ?_, ?_⟩
  · simp [hs]; omega
  · simp; omega
  · dsimp only; rw [twL_len]; omega
  · dsimp only; rw [twL_len]; simp [hs]; omega

def SimL (T : List Tok) (n : Nat) (p : Nd → Fo → Gr) (q : List Tw → Gq) : Prop := ∀ d f k0 k m, n ≤ 1000000 → T.length ≤ 1000000 → f.size + 1 + 2 * k0 ≤ 2 * k → k ≤ T.length → m ≤ 64 → P n (p d f) (T.drop k) m ≠ .dry → ∃ x, Ev T (q ((one d f).flat 0)) m (okS k) x ∧ Rel T n k0 0 (P n (p d f) (T.drop k) m) x

theorem simL_sum (T : List Tok) : ∀ n, (∀ i, i < n → Sim T i .product .product) → SimL T n .sumL .sumL
  | 0, _ => fun d f k0 k m _ _ _ _ _ hnd => absurd rfl hnd
  | n + 1, HP => by
    have ih := simL_sum T n fun i hi => HP i (by omega)
    intro d f k0 k m hn hT hf hk hm hnd
    have tl := dropD T k
    cases c : seesM (T.drop k) [[43], [45]]
    · have hP : P (n + 1) (.sumL d f) (T.drop k) m = .ok d f (T.drop k) := by rw [P]; simp only [c, Bool.false_eq_true, if_false]
      rw [hP]
      refine ⟨_, .step ⟨0, fun N _ => ?_⟩, k, rfl, by omega, hk, rfl, by omega⟩
      rw [Q, isM_ok _ _ _ rfl, isM_ok _ _ _ rfl, sees2, c, if_neg (by decide)]
    · have hlt := sees_k (T := T) (k := k) (by decide) c
      have hQ : ∀ N, Q T (N + 1) (.sumL ((one d f).flat 0)) m (okS k) = (Q T N .product m (okS (k + 1))).bind fun y => (tq (at_ (hd (T.drop k)) 32 (hd (T.drop k)).text 0) [(one d f).flat 0, y.1] y.2).bind fun z => Q T N (.sumL z.1) m z.2 := fun N => by
        rw [Q, isM_ok _ _ _ rfl, isM_ok _ _ _ rfl, sees2, c, if_pos rfl, rest_ok, skp_ok]
      have hP : P (n + 1) (.sumL d f) (T.drop k) m = (P n .product (T.drop (k + 1)) m).and fun d' k' r' => P n (.sumL (at_ (hd (T.drop k)) 32 (hd (T.drop k)).text 0) ((one d f).app (one d' k'))) r' m := by
        rw [P]; simp only [c, if_true, tl]
      rw [hP] at hnd ⊢
      obtain ⟨x, ⟨N, h1⟩, hr⟩ := HP n (Nat.lt_succ_self n) (k + 1) m (by omega) hT hlt hm (and_nd hnd)
      cases ho : P n .product (T.drop (k + 1)) m with
      | dry => rw [ho] at hr; exact hr.elim
      | bad er r =>
        rw [ho] at hr
        obtain ⟨j, rfl, h2, h3, h4, h5, h6, h7⟩ := hr
        obtain ⟨hy, hry⟩ := twig_bad (k1 := k + 1) (k0 := k0) (F := one d f) (at_ (hd (T.drop k)) 32 (hd (T.drop k)).text 0) (by rw [one_size]; omega) h2 h3 hT hn h4 (by omega : x.1.length + 2 * (k + 1) ≤ 2 * j + 40 * n + 1)
        rw [one_rows, List.singleton_append] at hy hry
        refine ⟨_, .step ⟨N + 1, fun M hM => ?_⟩, hry⟩
        obtain ⟨M', rfl⟩ : ∃ M', M = M' + 1 := ⟨M - 1, by omega⟩
        rw [hQ, h1 _ (by omega), Option.bind_some, h5, hy, Option.bind_some, ev_sumL_e (erS_er h4)]
      | ok d' k' r =>
        rw [ho] at hr hnd
        obtain ⟨j, rfl, h2, h3, rfl, h5⟩ := hr
        dsimp only [Out.and] at hnd ⊢
        obtain ⟨z, ⟨N2, g1⟩, hrz⟩ := ih _ _ k0 j m (by omega) hT (by rw [Fo.size_app, one_size, one_size]; omega) h3 hm hnd
        refine ⟨z, .step ⟨N + N2, fun M hM => ?_⟩, hrz.mono (by omega)⟩
        rw [hQ, h1 _ (by omega), Option.bind_some]
        have e : [(one d f).flat 0, ((one d' k').flat 0, okS j).1] = ((one d f).app (one d' k')).rows := by rw [Fo.rows_app, one_rows, one_rows]; rfl
        rw [e, tq_rows (by rw [Fo.size_app, one_size, one_size]; omega), Option.bind_some]
        exact g1 _ (by omega)

theorem simL_prod (T : List Tok) : ∀ n, (∀ i, i < n → Sim T i .unary .unary) → SimL T n .prodL .prodL
  | 0, _ => fun d f k0 k m _ _ _ _ _ hnd => absurd rfl hnd
  | n + 1, HP => by
    have ih := simL_prod T n fun i hi => HP i (by omega)
    intro d f k0 k m hn hT hf hk hm hnd
    have tl := dropD T k
    cases c : seesM (T.drop k) [[42]]
    · have hP : P (n + 1) (.prodL d f) (T.drop k) m = .ok d f (T.drop k) := by rw [P]; simp only [c, Bool.false_eq_true, if_false]
      rw [hP]
      refine ⟨_, .step ⟨0, fun N _ => ?_⟩, k, rfl, by omega, hk, rfl, by omega⟩
      rw [Q, isM_ok _ _ _ rfl, c, if_neg (by decide)]
    · have hlt := sees_k (T := T) (k := k) (by decide) c
      have hQ : ∀ N, Q T (N + 1) (.prodL ((one d f).flat 0)) m (okS k) = (Q T N .unary m (okS (k + 1))).bind fun y => (tq (at_ (hd (T.drop k)) 32 (hd (T.drop k)).text 0) [(one d f).flat 0, y.1] y.2).bind fun z => Q T N (.prodL z.1) m z.2 := fun N => by
        rw [Q, isM_ok _ _ _ rfl, c, if_pos rfl, rest_ok, skp_ok]
      have hP : P (n + 1) (.prodL d f) (T.drop k) m = (P n .unary (T.drop (k + 1)) m).and fun d' k' r' => P n (.prodL (at_ (hd (T.drop k)) 32 (hd (T.drop k)).text 0) ((one d f).app (one d' k'))) r' m := by
        rw [P]; simp only [c, if_true, tl]
      rw [hP] at hnd ⊢
      obtain ⟨x, ⟨N, h1⟩, hr⟩ := HP n (Nat.lt_succ_self n) (k + 1) m (by omega) hT hlt hm (and_nd hnd)
      cases ho : P n .unary (T.drop (k + 1)) m with
      | dry => rw [ho] at hr; exact hr.elim
      | bad er r =>
        rw [ho] at hr
        obtain ⟨j, rfl, h2, h3, h4, h5, h6, h7⟩ := hr
        obtain ⟨hy, hry⟩ := twig_bad (k1 := k + 1) (k0 := k0) (F := one d f) (at_ (hd (T.drop k)) 32 (hd (T.drop k)).text 0) (by rw [one_size]; omega) h2 h3 hT hn h4 (by omega : x.1.length + 2 * (k + 1) ≤ 2 * j + 40 * n + 1)
        rw [one_rows, List.singleton_append] at hy hry
        refine ⟨_, .step ⟨N + 1, fun M hM => ?_⟩, hry⟩
        obtain ⟨M', rfl⟩ : ∃ M', M = M' + 1 := ⟨M - 1, by omega⟩
        rw [hQ, h1 _ (by omega), Option.bind_some, h5, hy, Option.bind_some, ev_prodL_e (erS_er h4)]
      | ok d' k' r =>
        rw [ho] at hr hnd
        obtain ⟨j, rfl, h2, h3, rfl, h5⟩ := hr
        dsimp only [Out.and] at hnd ⊢
        obtain ⟨z, ⟨N2, g1⟩, hrz⟩ := ih _ _ k0 j m (by omega) hT (by rw [Fo.size_app, one_size, one_size]; omega) h3 hm hnd
        refine ⟨z, .step ⟨N + N2, fun M hM => ?_⟩, hrz.mono (by omega)⟩
        rw [hQ, h1 _ (by omega), Option.bind_some]
        have e : [(one d f).flat 0, ((one d' k').flat 0, okS j).1] = ((one d f).app (one d' k')).rows := by rw [Fo.rows_app, one_rows, one_rows]; rfl
        rw [e, tq_rows (by rw [Fo.size_app, one_size, one_size]; omega), Option.bind_some]
        exact g1 _ (by omega)

/-- A part, and then the loop behind it. -/
theorem sim_chain (T : List Tok) (n : Nat) (p : Gr) (q : Gq) (pl : Nd → Fo → Gr) (ql : List Tw → Gq) (P0 : Gr) (Q0 : Gq) (hp : ∀ r m, P (n + 1) P0 r m = (P n p r m).and fun d f r' => P n (pl d f) r' m) (hq : ∀ N m σ, Q T (N + 1) Q0 m σ = (Q T N q m σ).bind fun x => Q T N (ql x.1) m x.2) (he : ∀ (σ : Sg), σ.er ≠ 0 → ∀ m X N, Q T (N + 1) (ql X) m σ = some (X, σ)) (HS : Sim T n p q) (HL : SimL T n pl ql) : Sim T (n + 1) P0 Q0 := by
  intro k m hn hT hk hm hnd
  rw [hp] at hnd ⊢
  obtain ⟨x, ⟨N, h1⟩, hr⟩ := HS k m (by omega) hT hk hm (and_nd hnd)
  cases ho : P n p (T.drop k) m with
  | dry => rw [ho] at hr; exact hr.elim
  | bad er r =>
    rw [ho] at hr
    obtain ⟨j, rfl, h2, h3, h4, h5, h6, h7⟩ := hr
    refine ⟨x, .step ⟨N + 1, fun M hM => ?_⟩, j, rfl, h2, h3, h4, h5, h6, by omega⟩
    obtain ⟨M', rfl⟩ : ∃ M', M = M' + 1 := ⟨M - 1, by omega⟩
    rw [hq, h1 _ (by omega), Option.bind_some, he x.2 (by rw [h5]; exact h4)]
  | ok d f r =>
    rw [ho] at hr hnd
    obtain ⟨j, rfl, h2, h3, rfl, h5⟩ := hr
    dsimp only [Out.and] at hnd ⊢
    obtain ⟨z, ⟨N2, g1⟩, hrz⟩ := HL d f k j m (by omega) hT (by omega) h3 hm hnd
    refine ⟨z, .step ⟨N + N2, fun M hM => ?_⟩, hrz.mono (by omega)⟩
    rw [hq, h1 _ (by omega), Option.bind_some]
    exact g1 _ (by omega)
theorem sim_sum (T : List Tok) (n : Nat) (HP : ∀ i, i ≤ n → Sim T i .product .product) : Sim T (n + 1) .sum .sum :=
  sim_chain T n .product .product .sumL .sumL .sum .sum (fun _ _ => by rw [P]) (fun _ _ _ => by rw [Q]) (fun _ h _ _ _ => ev_sumL_e h _ _ _) (HP n (Nat.le_refl _)) (simL_sum T n fun i hi => HP i (by omega))
theorem sim_product (T : List Tok) (n : Nat) (HP : ∀ i, i ≤ n → Sim T i .unary .unary) : Sim T (n + 1) .product .product :=
  sim_chain T n .unary .unary .prodL .prodL .product .product (fun _ _ => by rw [P]) (fun _ _ _ => by rw [Q]) (fun _ h _ _ _ => ev_prodL_e h _ _ _) (HP n (Nat.le_refl _)) (simL_prod T n fun i hi => HP i (by omega))
end Go.Proofs.YtpeoefbibjbinaaGreat

namespace Go.Proofs.YtpeoefbibjbinaaGreat
open Go.RowKit

theorem simL_tight (T : List Tok) : ∀ n, (∀ i, i < n → Sim T i .term .term) → SimL T n .tightL .tightL
  | 0, _ => fun d f k0 k m _ _ _ _ _ hnd => absurd rfl hnd
  | n + 1, HP => by
    have ih := simL_tight T n fun i hi => HP i (by omega)
    intro d f k0 k m hn hT hf hk hm hnd
    have tl := dropD T k
    cases c : seesM (T.drop k) [[46]]
    rotate_left
    · have hlt := sees_k (T := T) (k := k) (by decide) c
      have hQ : ∀ N, Q T (N + 1) (.tightL ((one d f).flat 0)) m (okS k) = (tq (at_ (hd (T.drop k)) 30 (knd T 1 (okS (k + 1))).1.text 0) [(one d f).flat 0] (knd T 1 (okS (k + 1))).2).bind fun z => Q T N (.tightL z.1) m z.2 := fun N => by
        rw [Q, isM_ok _ _ _ rfl, c, if_pos rfl, rest_ok, skp_ok]
      cases c1 : ((hd (T.drop (k + 1))).kind == 1)
      · have hP : P (n + 1) (.tightL d f) (T.drop k) m = .bad 4 (T.drop (k + 1)) := by rw [P]; simp only [c, if_true, tl]; rw [tkK_no c1]
        rw [hP]
        have hs : tq (at_ (hd (T.drop k)) 30 tok0'.text 0) [(one d f).flat 0] (erS (k + 1) 4) = some ((one (at_ (hd (T.drop k)) 30 tok0'.text 0) (one d f)).flat 0, erS (k + 1) 4) := tq_rows (f := one d f) (by rw [one_size]; omega)
        refine ⟨((one (at_ (hd (T.drop k)) 30 tok0'.text 0) (one d f)).flat 0, erS (k + 1) 4), .step ⟨1, fun M hM => ?_⟩, k + 1, rfl, by omega, hlt, by decide, rfl, by dsimp only; rw [flat_len1]; omega, by dsimp only; rw [flat_len1, one_size]; omega⟩
        · obtain ⟨M', rfl⟩ : ∃ M', M = M' + 1 := ⟨M - 1, by omega⟩
          rw [hQ, knd_no c1, hs, Option.bind_some, ev_tightL_e (erS_er (by decide))]
      · have hlt2 := sees_lt (T := T) (k := k + 1) (x := 1) (by decide) c1
        have hP : P (n + 1) (.tightL d f) (T.drop k) m = P n (.tightL (at_ (hd (T.drop k)) 30 (hd (T.drop (k + 1))).text 0) (one d f)) (T.drop (k + 2)) m := by rw [P]; simp only [c, if_true, tl]; rw [tkK_yes c1, dropD]
        rw [hP] at hnd ⊢
        obtain ⟨z, ⟨N2, g1⟩, hrz⟩ := ih _ _ k0 (k + 2) m (by omega) hT (by rw [one_size]; omega) hlt2 hm hnd
        refine ⟨z, .step ⟨N2, fun M hM => ?_⟩, hrz.mono (by omega)⟩
        have hs : tq (at_ (hd (T.drop k)) 30 (hd (T.drop (k + 1))).text 0) [(one d f).flat 0] (okS (k + 2)) = some ((one (at_ (hd (T.drop k)) 30 (hd (T.drop (k + 1))).text 0) (one d f)).flat 0, okS (k + 2)) := tq_rows (f := one d f) (by rw [one_size]; omega)
        rw [hQ, knd_yes c1, hs, Option.bind_some]
        exact g1 _ hM
    cases c2 : seesM (T.drop k) [[91]]
    · have hP : P (n + 1) (.tightL d f) (T.drop k) m = .ok d f (T.drop k) := by rw [P]; simp only [c, c2, Bool.false_eq_true, if_false]
      rw [hP]
      refine ⟨_, .step ⟨0, fun N _ => ?_⟩, k, rfl, by omega, hk, rfl, by omega⟩
      rw [Q, isM_ok _ _ _ rfl, c, if_neg (by decide), isM_ok _ _ _ rfl, c2, if_neg (by decide)]
    have hlt := sees_k (T := T) (k := k) (by decide) c2
    have ht : isT T [91] (okS k) = true := by rw [isM_ok _ _ _ rfl]; exact c2
    have hQ : ∀ N, Q T (N + 1) (.tightL ((one d f).flat 0)) m (okS k) = (Q T N .termIf (m + 1) (openS T m [91] (okS k)).2).bind fun y => (tq (at_ (openS T m [91] (okS k)).1 31 [] 0) [(one d f).flat 0, y.1] (sgn T [93] y.2).2).bind fun z => Q T N (.tightL z.1) m z.2 := fun N => by
      rw [Q, isM_ok _ _ _ rfl, c, if_neg (by decide), isM_ok _ _ _ rfl, c2, if_pos rfl, if_pos (by omega)]
    by_cases h64 : m = 64
    · subst h64
      have hP : P (n + 1) (.tightL d f) (T.drop k) 64 = .bad 5 (T.drop k) := by rw [P]; simp only [c, c2, Bool.false_eq_true, if_false, if_true]; rw [ent_no rfl]
      rw [hP]
      have hs : tq (at_ tok0' 31 [] 0) [(one d f).flat 0, [zeroT]] (erS k 5) = some (twL (at_ tok0' 31 [] 0) [(one d f).flat 0, [zeroT]], erS k 5) := tq_yes (by simp [flat_len1]; omega) (by simp)
      refine ⟨(twL (at_ tok0' 31 [] 0) [(one d f).flat 0, [zeroT]], erS k 5), .step ⟨1, fun M hM => ?_⟩, k, rfl, by omega, hk, by decide, rfl, by dsimp only; rw [twL_len]; omega, by dsimp only; rw [twL_len]; simp [flat_len1]; omega⟩
      · obtain ⟨M', rfl⟩ : ∃ M', M = M' + 1 := ⟨M - 1, by omega⟩
        rw [hQ, openS_deep ht, q_termIf_e (erS_er (by decide)), Option.bind_some, sgn_e (erS_er (by decide)), hs, Option.bind_some, ev_tightL_e (erS_er (by decide))]
    · have hP : P (n + 1) (.tightL d f) (T.drop k) m = (P n .term (T.drop (k + 1)) (m + 1)).and fun d' k' r' => tkM [[93]] r' fun _ r' => P n (.tightL (at_ (hd (T.drop k)) 31 [] 0) ((one d f).app (one d' k'))) r' m := by
        rw [P]; simp only [c, c2, Bool.false_eq_true, if_false, if_true]; rw [ent_yes h64, tl]
      rw [hP] at hnd ⊢
      obtain ⟨x, ⟨N, h1⟩, hr⟩ := HP n (Nat.lt_succ_self n) (k + 1) (m + 1) (by omega) hT hlt (by omega) (and_nd hnd)
      cases ho : P n .term (T.drop (k + 1)) (m + 1) with
      | dry => rw [ho] at hr; exact hr.elim
      | bad er r =>
        rw [ho] at hr
        obtain ⟨j, rfl, h2, h3, h4, h5, h6, h7⟩ := hr
        obtain ⟨hy, hry⟩ := twig_bad (k1 := k + 1) (k0 := k0) (F := one d f) (at_ (hd (T.drop k)) 31 [] 0) (by rw [one_size]; omega) h2 h3 hT hn h4 (by omega : x.1.length + 2 * (k + 1) ≤ 2 * j + 40 * n + 1)
        rw [one_rows, List.singleton_append] at hy hry
        refine ⟨_, .step ⟨N + 1, fun M hM => ?_⟩, hry⟩
        obtain ⟨M', rfl⟩ : ∃ M', M = M' + 1 := ⟨M - 1, by omega⟩
        rw [hQ, openS_yes ht (by omega)]
        dsimp only
        rw [q_termIf_ok, h1 _ (by omega), Option.bind_some, h5, sgn_e (erS_er h4), hy, Option.bind_some, ev_tightL_e (erS_er h4)]
      | ok d' k' r =>
        rw [ho] at hr hnd
        obtain ⟨j, rfl, h2, h3, rfl, h5⟩ := hr
        dsimp only [Out.and] at hnd ⊢
        have e : [(one d f).flat 0, (one d' k').flat 0] = ((one d f).app (one d' k')).rows := by rw [Fo.rows_app, one_rows, one_rows]; rfl
        cases hc : seesM (T.drop j) [[93]]
        · rw [tkM_no hc]
          have hs : tq (at_ (hd (T.drop k)) 31 [] 0) [(one d f).flat 0, (one d' k').flat 0] (erS j 4) = some ((one (at_ (hd (T.drop k)) 31 [] 0) ((one d f).app (one d' k'))).flat 0, erS j 4) := by rw [e]; exact tq_rows (by rw [Fo.size_app, one_size, one_size]; omega)
          refine ⟨((one (at_ (hd (T.drop k)) 31 [] 0) ((one d f).app (one d' k'))).flat 0, erS j 4), .step ⟨N + 1, fun M hM => ?_⟩, j, rfl, by omega, h3, by decide, rfl, by dsimp only; rw [flat_len1]; omega, by dsimp only; rw [flat_len1, Fo.size_app, one_size, one_size]; omega⟩
          · obtain ⟨M', rfl⟩ : ∃ M', M = M' + 1 := ⟨M - 1, by omega⟩
            rw [hQ, openS_yes ht (by omega)]
            dsimp only
            rw [q_termIf_ok, h1 _ (by omega), Option.bind_some]
            dsimp only
            rw [sgnM_no rfl hc, hs, Option.bind_some, ev_tightL_e (erS_er (by decide))]
        · have hlt2 := sees_k (T := T) (k := j) (by decide) hc
          rw [tkM_yes hc, dropD] at hnd ⊢
          obtain ⟨z, ⟨N2, g1⟩, hrz⟩ := ih _ _ k0 (j + 1) m (by omega) hT (by rw [Fo.size_app, one_size, one_size]; omega) hlt2 hm hnd
          refine ⟨z, .step ⟨N + N2 + 1, fun M hM => ?_⟩, hrz.mono (by omega)⟩
          have hs : tq (at_ (hd (T.drop k)) 31 [] 0) [(one d f).flat 0, (one d' k').flat 0] (okS (j + 1)) = some ((one (at_ (hd (T.drop k)) 31 [] 0) ((one d f).app (one d' k'))).flat 0, okS (j + 1)) := by rw [e]; exact tq_rows (by rw [Fo.size_app, one_size, one_size]; omega)
          obtain ⟨M', rfl⟩ : ∃ M', M = M' + 1 := ⟨M - 1, by omega⟩
          rw [hQ, openS_yes ht (by omega)]
          dsimp only
          rw [q_termIf_ok, h1 _ (by omega), Option.bind_some]
          dsimp only
          rw [sgnM_yes rfl hc, hs, Option.bind_some]
          exact g1 _ (by omega)
theorem sim_tight (T : List Tok) (n : Nat) (HF : Sim T n .first .first) (HT : ∀ i, i ≤ n → Sim T i .term .term) : Sim T (n + 1) .tight .tight :=
  sim_chain T n .first .first .tightL .tightL .tight .tight (fun _ _ => by rw [P]) (fun _ _ _ => by rw [Q]) (fun _ h _ _ _ => ev_tightL_e h _ _ _) HF (simL_tight T n fun i hi => HT i (by omega))

theorem sim_unary (T : List Tok) (n : Nat) (HU : Sim T n .unary .unary) (HT : Sim T n .tight .tight) : Sim T (n + 1) .unary .unary := by
  intro k m hn hT hk hm hnd
  have tl := dropD T k
  cases c : seesW (T.drop k) [[97, 114, 114], [108, 101, 110]]
  · have hP : P (n + 1) .unary (T.drop k) m = P n .tight (T.drop k) m := by rw [P]; simp only [c, Bool.false_eq_true, if_false]
    have ca : seesW (T.drop k) [[97, 114, 114]] = false ∧ seesW (T.drop k) [[108, 101, 110]] = false := by
      unfold seesW seesK at c ⊢
      constructor
      · cases h : ((hd (T.drop k)).kind == 2 && [[97, 114, 114]].contains (hd (T.drop k)).text)
        · rfl
        · simp at h c; exact absurd h.2 (c h.1).1
      · cases h : ((hd (T.drop k)).kind == 2 && [[108, 101, 110]].contains (hd (T.drop k)).text)
        · rfl
        · simp at h c; exact absurd h.2 (c h.1).2
    rw [hP] at hnd ⊢
    obtain ⟨x, ⟨N, h1⟩, hr⟩ := HT k m (by omega) hT hk hm hnd
    refine ⟨x, .step ⟨N, fun M hM => ?_⟩, hr.mono (by omega)⟩
    rw [Q, isW_ok _ _ _ rfl, ca.2, if_neg (by decide), isW_ok _ _ _ rfl, ca.1, if_neg (by decide)]
    exact h1 _ hM
  have hlt := sees_k (T := T) (k := k) (by decide) c
  -- which of both
  have key : ∀ (s : List UInt8) (kd : Int), isT T s (okS k) = true → (if (hd (T.drop k)).text = [108, 101, 110] then (35 : Int) else 34) = kd → (∀ N, Q T (N + 1) .unary m (okS k) = (Q T N .unaryIf (m + 1) (openS T m s (okS k)).2).bind fun x => tq (at_ (openS T m s (okS k)).1 kd [] 0) [x.1] x.2) → ∃ x, Ev T .unary m (okS k) x ∧ Rel T (n + 1) k 0 (P (n + 1) .unary (T.drop k) m) x := by
    intro s kd ht hkd hQ
    by_cases h64 : m = 64
    · subst h64
      have hP : P (n + 1) .unary (T.drop k) 64 = .bad 5 (T.drop k) := by rw [P]; simp only [c, if_true]; rw [ent_no rfl]
      rw [hP]
      have hs : tq (at_ tok0' kd [] 0) [[zeroT]] (erS k 5) = some (twL (at_ tok0' kd [] 0) [[zeroT]], erS k 5) := tq_yes (by simp) (by simp)
      refine ⟨(twL (at_ tok0' kd [] 0) [[zeroT]], erS k 5), .step ⟨1, fun M hM => ?_⟩, k, rfl, by omega, hk, by decide, rfl, by dsimp only; rw [twL_len]; omega, by dsimp only; rw [twL_len]; simp; omega⟩
      obtain ⟨M', rfl⟩ : ∃ M', M = M' + 1 := ⟨M - 1, by omega⟩
      rw [hQ, openS_deep ht, q_unaryIf_e (erS_er (by decide)), Option.bind_some]
      exact hs
    · have hP : P (n + 1) .unary (T.drop k) m = (P n .unary (T.drop (k + 1)) (m + 1)).and fun d k' r' => .ok (at_ (hd (T.drop k)) kd [] 0) (one d k') r' := by
        rw [P]; simp only [c, if_true]; rw [ent_yes h64, tl, hkd]
      rw [hP] at hnd ⊢
      obtain ⟨x, ⟨N, h1⟩, hr⟩ := HU (k + 1) (m + 1) (by omega) hT hlt (by omega) (and_nd hnd)
      obtain ⟨y, hy, hry⟩ := hr.fin (k0 := k) .nil (by simp [Fo.size]; omega) hT hn (at_ (hd (T.drop k)) kd [] 0)
      refine ⟨y, .step ⟨N + 1, fun M hM => ?_⟩, hry⟩
      obtain ⟨M', rfl⟩ : ∃ M', M = M' + 1 := ⟨M - 1, by omega⟩
      rw [hQ, openS_yes ht (by omega)]
      dsimp only
      rw [q_unaryIf_ok, h1 _ (by omega), Option.bind_some]
      exact hy
  cases c2 : seesW (T.drop k) [[108, 101, 110]]
  · have htx : (hd (T.drop k)).text = [97, 114, 114] := by
      unfold seesW seesK at c c2
      simp at c c2
      rcases c.2 with h | h
      · exact h
      · exact absurd h (c2 c.1)
    have c1 : seesW (T.drop k) [[97, 114, 114]] = true := by
      unfold seesW seesK at c ⊢
      simp at c
      simp [c.1, htx]
    refine key [97, 114, 114] 34 (by rw [isW_ok _ _ _ rfl]; exact c1) (by rw [htx]; rfl) fun N => ?_
    rw [Q, isW_ok _ _ _ rfl, c2, if_neg (by decide), isW_ok _ _ _ rfl, c1, if_pos rfl, if_pos (by omega)]
  · have htx : (hd (T.drop k)).text = [108, 101, 110] := by
      unfold seesW seesK at c2
      simp at c2
      exact c2.2
    refine key [108, 101, 110] 35 (by rw [isW_ok _ _ _ rfl]; exact c2) (by rw [htx]; rfl) fun N => ?_
    rw [Q, isW_ok _ _ _ rfl, c2, if_pos rfl, if_pos (by omega)]

theorem sim_term (T : List Tok) (n : Nat) (HS : Sim T n .sum .sum) : Sim T (n + 1) .term .term := by
  intro k m hn hT hk hm hnd
  have hP : P (n + 1) .term (T.drop k) m = (P n .sum (T.drop k) m).and fun d k' r' => if seesM r' [[60], [61, 61]] = true then (P n .sum r'.tail m).and fun d' k2 r'' => .ok (at_ (hd r') 32 (hd r').text 0) ((one d k').app (one d' k2)) r'' else .ok d k' r' := by rw [P]
  rw [hP] at hnd ⊢
  obtain ⟨x, ⟨N, h1⟩, hr⟩ := HS k m (by omega) hT hk hm (and_nd hnd)
  cases ho : P n .sum (T.drop k) m with
  | dry => rw [ho] at hr; exact hr.elim
  | bad er r =>
    rw [ho] at hr
    obtain ⟨j, rfl, h2, h3, h4, h5, h6, h7⟩ := hr
    refine ⟨x, .step ⟨N, fun M hM => ?_⟩, j, rfl, h2, h3, h4, h5, h6, by omega⟩
    have h5' : x.2.er ≠ 0 := by rw [h5]; exact h4
    rw [Q, h1 _ hM, Option.bind_some]
    simp only [isT_e h5', Bool.or_self, Bool.false_eq_true, if_false]
  | ok d f r =>
    rw [ho] at hr hnd
    obtain ⟨j, rfl, h2, h3, rfl, h5⟩ := hr
    dsimp only [Out.and] at hnd ⊢
    cases c : seesM (T.drop j) [[60], [61, 61]]
    · simp only [Bool.false_eq_true, if_false]
      refine ⟨_, .step ⟨N, fun M hM => ?_⟩, j, rfl, h2, h3, rfl, by omega⟩
      rw [Q, h1 _ hM, Option.bind_some]
      dsimp only
      rw [isM_ok _ _ _ rfl, isM_ok _ _ _ rfl, sees2, c, if_neg (by decide)]
    · have hlt := sees_k (T := T) (k := j) (by decide) c
      rw [c] at hnd
      simp only [if_true, dropD] at hnd ⊢
      obtain ⟨y, ⟨N2, g1⟩, hr2⟩ := HS (j + 1) m (by omega) hT hlt hm (and_nd hnd)
      obtain ⟨z, hz, hrz⟩ := hr2.fin (k0 := k) (one d f) (by rw [one_size]; omega) hT hn (at_ (hd (T.drop j)) 32 (hd (T.drop j)).text 0)
      refine ⟨z, .step ⟨N + N2, fun M hM => ?_⟩, hrz⟩
      rw [Q, h1 _ (by omega), Option.bind_some]
      dsimp only
      rw [isM_ok _ _ _ rfl, isM_ok _ _ _ rfl, sees2, c, if_pos rfl, skp_ok, g1 _ (by omega), Option.bind_some, rest_ok]
      exact hz

theorem sim_var (T : List Tok) (n : Nat) (HT : Sim T n .tight .tight) : Sim T (n + 1) .var .var := by
  intro k m hn hT hk hm hnd
  have hP : P (n + 1) .var (T.drop k) m = (P n .tight (T.drop k) m).and fun d k' r' => if isVarK d.kind = true then .ok d k' r' else .bad 4 r' := by rw [P]
  rw [hP] at hnd ⊢
  obtain ⟨x, ⟨N, h1⟩, hr⟩ := HT k m (by omega) hT hk hm (and_nd hnd)
  have hev : Ev T .var m (okS k) (varS x) := .step ⟨N, fun M hM => by rw [Q, h1 _ hM, Option.bind_some]⟩
  refine ⟨_, hev, ?_⟩
  cases ho : P n .tight (T.drop k) m with
  | dry => rw [ho] at hr; exact hr.elim
  | bad er r =>
    rw [ho] at hr
    obtain ⟨j, rfl, h2, h3, h4, h5, h6, h7⟩ := hr
    have e : varS x = x := by
      unfold varS
      rw [if_neg (by rw [h5]; intro h; exact h4 h.1)]
    rw [e]
    exact ⟨j, rfl, h2, h3, h4, h5, h6, by omega⟩
  | ok d f r =>
    rw [ho] at hr
    obtain ⟨j, rfl, h2, h3, rfl, h5⟩ := hr
    dsimp only [Out.and]
    have hh : (((one d f).flat 0).headD zeroT).kind = d.kind := rfl
    have hvs : varS ((one d f).flat 0, okS j) = ((one d f).flat 0, if isVarK d.kind = false then erS j 4 else okS j) := by
      unfold varS
      dsimp only
      rw [hh]
      cases hv : isVarK d.kind
      · rw [if_pos ⟨rfl, rfl⟩, if_pos rfl]; rfl
      · rw [if_neg (by simp), if_neg (by simp)]
    rw [hvs]
    cases hv : isVarK d.kind
    · rw [if_pos rfl]
      simp only [Bool.false_eq_true, if_false]
      exact ⟨j, rfl, h2, h3, by decide, rfl, by dsimp only; rw [flat_len1]; omega, by dsimp only; rw [flat_len1]; omega⟩
    · simp only [Bool.true_eq_false, if_false, if_true]
      exact ⟨j, rfl, h2, h3, rfl, by omega⟩
end Go.Proofs.YtpeoefbibjbinaaGreat
