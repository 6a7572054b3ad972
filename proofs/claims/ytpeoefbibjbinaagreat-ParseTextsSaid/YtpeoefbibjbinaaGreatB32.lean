/- The document's parser, plainly, and the grammar: blocks, statements. -/
import Derived.Test.YtpeoefbibjbinaaGreatB31
namespace Go.Proofs.YtpeoefbibjbinaaGreat
open Go.RowKit

/-- Behind a part that went wrong, with what follows it. -/
theorem twig_badE {T : List Tok} {n k1 k0 : Nat} {F : Fo} {X : List Tw} {Es : List (List Tw)} {j : Nat} {er : Int} (D : Nd) (hF : F.size + 2 * k0 ≤ 2 * k1) (hj : k1 ≤ j) (hk : k0 ≤ k1) (hjT : j ≤ T.length) (hT : T.length ≤ 1000000) (hn : n + 1 ≤ 1000000) (her : er ≠ 0) (hX : X.length + 2 * k1 ≤ 2 * j + 40 * n) (hE : (Es.map List.length).sum ≤ 9) (hE2 : Es.length ≤ 9) :
    tq D (F.rows ++ X :: Es) (erS j er) = some (twL D (F.rows ++ X :: Es), erS j er) ∧ Rel T (n + 1) k0 0 (.bad er (T.drop j)) (twL D (F.rows ++ X :: Es), erS j er) := by
  have hr := rows_le F
  have hs := rows_sum F
  refine ⟨tq_yes ?_ ?_, j, rfl, by omega, hjT, her, rfl, ?_, ?_⟩
  · simp only [List.map_append, List.sum_append, List.map_cons, List.sum_cons, hs]; omega
  · simp only [List.length_append, List.length_cons]; omega
  · dsimp only; rw [twL_len]; omega
  · dsimp only; rw [twL_len]; simp only [List.map_append, List.sum_append, List.map_cons, List.sum_cons, hs]; omega
/-- Where a token went wrong. -/
theorem twig_err {T : List Tok} {n k0 : Nat} {F : Fo} {Es : List (List Tw)} {j : Nat} {er : Int} (D : Nd) (hF : F.size + 2 * k0 ≤ 2 * j) (hk : k0 ≤ j) (hjT : j ≤ T.length) (hT : T.length ≤ 1000000) (her : er ≠ 0) (hE : (Es.map List.length).sum ≤ 9) (hE2 : Es.length ≤ 9) :
    tq D (F.rows ++ Es) (erS j er) = some (twL D (F.rows ++ Es), erS j er) ∧ Rel T (n + 1) k0 0 (.bad er (T.drop j)) (twL D (F.rows ++ Es), erS j er) := by
  have hr := rows_le F
  have hs := rows_sum F
  refine ⟨tq_yes ?_ ?_, j, rfl, by omega, hjT, her, rfl, ?_, ?_⟩
  · simp only [List.map_append, List.sum_append, hs]; omega
  · simp only [List.length_append]; omega
  · dsimp only; rw [twL_len]; omega
  · dsimp only; rw [twL_len]; simp only [List.map_append, List.sum_append, hs]; omega

def SimS (T : List Tok) (n : Nat) : Prop := ∀ t acc k0 k m, n ≤ 1000000 → T.length ≤ 1000000 → acc.size + 2 * k0 + 2 ≤ 2 * k → k ≤ T.length → m ≤ 64 → P n (.stmts t acc) (T.drop k) m ≠ .dry → ∃ x, Ev T (.stmts t acc.rows) m (okS k) x ∧ Rel T n k0 0 (P n (.stmts t acc) (T.drop k) m) x

theorem q_stmts_e {T : List Tok} {σ : Sg} (h : σ.er ≠ 0) (m : Nat) (t : Tok) (l : List (List Tw)) (n : Nat) : Q T (n + 1) (.stmts t l) m σ = tq (at_ t 12 [] 0) l σ := by
  rw [Q, if_neg (by intro h'; exact h h'.1), sgn_e h]

theorem sim_stmts (T : List Tok) : ∀ n, (∀ i, i < n → Sim T i .stmt .stmt) → SimS T n
  | 0, _ => fun t acc k0 k m _ _ _ _ _ hnd => absurd rfl hnd
  | n + 1, HP => by
    have ih := sim_stmts T n fun i hi => HP i (by omega)
    intro t acc k0 k m hn hT hf hk hm hnd
    have tl := dropD T k
    cases c : seesM (T.drop k) [[125]]
    rotate_left
    · have hlt := sees_k (T := T) (k := k) (by decide) c
      have hP : P (n + 1) (.stmts t acc) (T.drop k) m = .ok (at_ t 12 [] 0) acc (T.drop (k + 1)) := by rw [P]; simp only [c, if_true, tl]
      rw [hP]
      refine ⟨((one (at_ t 12 [] 0) acc).flat 0, okS (k + 1)), .step ⟨0, fun N _ => ?_⟩, k + 1, rfl, by omega, hlt, rfl, by omega⟩
      rw [Q, isM_ok _ _ _ rfl, c, if_neg (by simp), sgnM_yes rfl c]
      exact tq_rows (by omega)
    have hP : P (n + 1) (.stmts t acc) (T.drop k) m = (P n .stmt (T.drop k) m).and fun d k' r' => P n (.stmts t (acc.app (one d k'))) r' m := by rw [P]; simp only [c, Bool.false_eq_true, if_false]
    have hQ : ∀ N, Q T (N + 1) (.stmts t acc.rows) m (okS k) = (Q T N .stmt m (okS k)).bind fun x => Q T N (.stmts t (acc.rows ++ [x.1])) m x.2 := fun N => by
      rw [Q, isM_ok _ _ _ rfl, c, if_pos ⟨rfl, rfl⟩]
    rw [hP] at hnd ⊢
    obtain ⟨x, ⟨N, h1⟩, hr⟩ := HP n (Nat.lt_succ_self n) k m (by omega) hT hk hm (and_nd hnd)
    cases ho : P n .stmt (T.drop k) m with
    | dry => rw [ho] at hr; exact hr.elim
    | bad er r =>
      rw [ho] at hr
      obtain ⟨j, rfl, h2, h3, h4, h5, h6, h7⟩ := hr
      obtain ⟨hy, hry⟩ := twig_badE (Es := []) (k1 := k) (k0 := k0) (F := acc) (X := x.1) (at_ t 12 [] 0) (by omega) h2 (by omega) h3 hT hn h4 (by omega) (by simp) (by simp)
      refine ⟨_, .step ⟨N + 1, fun M hM => ?_⟩, hry⟩
      obtain ⟨M', rfl⟩ : ∃ M', M = M' + 1 := ⟨M - 1, by omega⟩
      rw [hQ, h1 _ (by omega), Option.bind_some, h5, q_stmts_e (erS_er h4)]
      exact hy
    | ok d f r =>
      rw [ho] at hr hnd
      obtain ⟨j, rfl, h2, h3, rfl, h5⟩ := hr
      dsimp only [Out.and] at hnd ⊢
      obtain ⟨z, ⟨N2, g1⟩, hrz⟩ := ih t _ k0 j m (by omega) hT (by rw [Fo.size_app, one_size]; omega) h3 hm hnd
      refine ⟨z, .step ⟨N + N2, fun M hM => ?_⟩, hrz.mono (by omega)⟩
      rw [hQ, h1 _ (by omega), Option.bind_some]
      have e : acc.rows ++ [((one d f).flat 0, okS j).1] = (acc.app (one d f)).rows := by rw [Fo.rows_app, one_rows]
      rw [e]
      exact g1 _ (by omega)

theorem sim_block (T : List Tok) (n : Nat) (HS : SimS T n) : Sim T (n + 1) .block .block := by
  intro k m hn hT hk hm hnd
  have tl := dropD T k
  have hQ : ∀ N, Q T (N + 1) .block m (okS k) = Q T N (.stmts (openS T m [123] (okS k)).1 []) (m + 1) (openS T m [123] (okS k)).2 := fun N => by rw [Q, if_pos (by omega)]
  cases c : seesM (T.drop k) [[123]]
  · have hP : P (n + 1) .block (T.drop k) m = .bad 4 (T.drop k) := by rw [P]; simp only [c, Bool.false_eq_true, if_false]
    rw [hP]
    obtain ⟨hy, hry⟩ := twig_err (n := n) (Es := []) (k0 := k) (F := .nil) (er := 4) (at_ tok0' 12 [] 0) (by simp [Fo.size]) (Nat.le_refl _) hk hT (by decide) (by simp) (by simp)
    refine ⟨_, .step ⟨1, fun M hM => ?_⟩, hry⟩
    obtain ⟨M', rfl⟩ : ∃ M', M = M' + 1 := ⟨M - 1, by omega⟩
    rw [hQ, openS_no (by rw [isM_ok _ _ _ rfl]; exact c), q_stmts_e (erS_er (by decide))]
    exact hy
  have hlt := sees_k (T := T) (k := k) (by decide) c
  have ht : isT T [123] (okS k) = true := by rw [isM_ok _ _ _ rfl]; exact c
  by_cases h64 : m = 64
  · subst h64
    have hP : P (n + 1) .block (T.drop k) 64 = .bad 5 (T.drop k) := by rw [P]; simp only [c, if_true]; rw [ent_no rfl]
    rw [hP]
    obtain ⟨hy, hry⟩ := twig_err (n := n) (Es := []) (k0 := k) (F := .nil) (er := 5) (at_ tok0' 12 [] 0) (by simp [Fo.size]) (Nat.le_refl _) hk hT (by decide) (by simp) (by simp)
    refine ⟨_, .step ⟨1, fun M hM => ?_⟩, hry⟩
    obtain ⟨M', rfl⟩ : ∃ M', M = M' + 1 := ⟨M - 1, by omega⟩
    rw [hQ, openS_deep ht, q_stmts_e (erS_er (by decide))]
    exact hy
  · have hP : P (n + 1) .block (T.drop k) m = P n (.stmts (hd (T.drop k)) .nil) (T.drop (k + 1)) (m + 1) := by rw [P]; simp only [c, if_true]; rw [ent_yes h64, tl]
    rw [hP] at hnd ⊢
    obtain ⟨x, ⟨N, h1⟩, hr⟩ := HS _ .nil k (k + 1) (m + 1) (by omega) hT (by simp [Fo.size]; omega) hlt (by omega) hnd
    refine ⟨x, .step ⟨N, fun M hM => ?_⟩, hr.mono (by omega)⟩
    rw [hQ, openS_yes ht (by omega)]
    exact h1 _ hM

/-- A setting. -/
def setP (n : Nat) (r : List Tok) (m : Nat) : Out := (P n .var r m).and fun d k r' => tkM [[61]] r' fun _ r' => (P n .term r' m).and fun d' k' r' => tkM [[59]] r' fun _ r' => .ok (at_ (hd r) 14 [] 0) ((one d k).app (one d' k')) r'
theorem sim_set (T : List Tok) (n : Nat) (HV : Sim T n .var .var) (HT : Sim T n .term .term) (k m : Nat) (hn : n + 1 ≤ 1000000) (hT : T.length ≤ 1000000) (hk : k ≤ T.length) (hm : m ≤ 64) (hnd : setP n (T.drop k) m ≠ .dry) : ∃ x, Ev T (.set (hd (T.drop k))) m (okS k) x ∧ Rel T (n + 1) k 0 (setP n (T.drop k) m) x := by
  unfold setP at hnd ⊢
  have hQ : ∀ N, Q T (N + 1) (.set (hd (T.drop k))) m (okS k) = (Q T N .var m (okS k)).bind fun v => (Q T N .term m (sgn T [61] v.2).2).bind fun x => tq (at_ (hd (T.drop k)) 14 [] 0) [v.1, x.1] (sgn T [59] x.2).2 := fun N => by rw [Q]
  obtain ⟨x, ⟨N, h1⟩, hr⟩ := HV k m (by omega) hT hk hm (and_nd hnd)
  cases ho : P n .var (T.drop k) m with
  | dry => rw [ho] at hr; exact hr.elim
  | bad er r =>
    rw [ho] at hr
    obtain ⟨j, rfl, h2, h3, h4, h5, h6, h7⟩ := hr
    obtain ⟨N2, g1⟩ := ev_term_e (T := T) (erS_er (k := j) h4) m
    obtain ⟨hy, hry⟩ := twig_badE (Es := [twL (at_ tok0' 29 [] 0) []]) (k1 := k) (k0 := k) (F := .nil) (X := x.1) (at_ (hd (T.drop k)) 14 [] 0) (by simp [Fo.size]) h2 (Nat.le_refl _) h3 hT hn h4 (by omega) (by simp [U0_len]) (by simp)
    refine ⟨_, .step ⟨N + N2, fun M hM => ?_⟩, hry⟩
    rw [hQ, h1 _ (by omega), Option.bind_some, h5, sgn_e (erS_er h4)]
    dsimp only
    rw [g1 _ (by omega), Option.bind_some]
    dsimp only
    rw [sgn_e (erS_er h4)]
    exact hy
  | ok d f r =>
    rw [ho] at hr hnd
    obtain ⟨j, rfl, h2, h3, rfl, h5⟩ := hr
    dsimp only [Out.and] at hnd ⊢
    cases c : seesM (T.drop j) [[61]]
    · rw [tkM_no c]
      obtain ⟨N2, g1⟩ := ev_term_e (T := T) (erS_er (k := j) (e := 4) (by decide)) m
      obtain ⟨hy, hry⟩ := twig_err (n := n) (Es := [twL (at_ tok0' 29 [] 0) []]) (k0 := k) (F := one d f) (er := 4) (at_ (hd (T.drop k)) 14 [] 0) (by rw [one_size]; omega) h2 h3 hT (by decide) (by simp [U0_len]) (by simp)
      refine ⟨_, .step ⟨N + N2, fun M hM => ?_⟩, hry⟩
      rw [hQ, h1 _ (by omega), Option.bind_some]
      dsimp only
      rw [sgnM_no rfl c]
      dsimp only
      rw [g1 _ (by omega), Option.bind_some]
      dsimp only
      rw [sgn_e (erS_er (by decide))]
      exact hy
    · have hlt := sees_k (T := T) (k := j) (by decide) c
      rw [tkM_yes c, dropD] at hnd ⊢
      obtain ⟨y, ⟨N2, g1⟩, hr2⟩ := HT (j + 1) m (by omega) hT hlt hm (and_nd hnd)
      obtain ⟨z, hz, hrz⟩ := hr2.finM (k0 := k) (one d f) (by rw [one_size]; omega) hT hn (at_ (hd (T.drop k)) 14 [] 0) [59] rfl
      refine ⟨z, .step ⟨N + N2, fun M hM => ?_⟩, hrz⟩
      rw [hQ, h1 _ (by omega), Option.bind_some]
      dsimp only
      rw [sgnM_yes rfl c]
      dsimp only
      rw [g1 _ (by omega), Option.bind_some]
      exact hz
end Go.Proofs.YtpeoefbibjbinaaGreat
