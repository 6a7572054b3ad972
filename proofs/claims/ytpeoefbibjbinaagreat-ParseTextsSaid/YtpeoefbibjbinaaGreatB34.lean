/- The document's parser, plainly, and the grammar: declarations; The document's parser, plainly, and the grammar: declarations of a text; The document's parser, plainly, and the grammar: a whole text; The reference's Scan: what its loop keeps; plain facts on lines inside tokens and comments. -/
import Derived.Test.YtpeoefbibjbinaaGreatB33
import Derived.Test.YtpeoefbibjbinaaGreatB03
namespace Go.Proofs.YtpeoefbibjbinaaGreat
open Go.RowKit

theorem twig_badL {T : List Tok} {n k1 k0 : Nat} {F : Fo} {X : List Tw} {j : Nat} {er : Int} (D : Nd) (hF : F.size + 2 * k0 + 2 ≤ 2 * k1) (hj : k1 ≤ j) (hjT : j ≤ T.length) (hT : T.length ≤ 1000000) (hn : n + 1 ≤ 1000000) (her : er ≠ 0) (hX : X.length + 2 * k1 ≤ 2 * j + 40 * (n + 1)) :
    tq D (F.rows ++ [X]) (erS j er) = some (twL D (F.rows ++ [X]), erS j er) ∧ Rel T (n + 1) k0 0 (.bad er (T.drop j)) (twL D (F.rows ++ [X]), erS j er) := by
  have hr := rows_le F
  have hs := rows_sum F
  refine ⟨tq_yes ?_ ?_, j, rfl, by omega, hjT, her, rfl, ?_, ?_⟩
  · simp [hs]; omega
  · simp; omega
  · dsimp only; rw [twL_len]; omega
  · dsimp only; rw [twL_len]; simp [hs]; omega

/-- A loop in braces. -/
theorem sim_loop (T : List Tok) (D : Nd) (p : Fo → Gr) (q : List (List Tw) → Gq) (item : Nat → List Tok → Nat → Out) (itemQ : Nat → Nat → Sg → Option (List Tw × Sg))
    (hP : ∀ n acc r m, P (n + 1) (p acc) r m = if seesM r [[125]] = true then .ok D acc r.tail else (item n r m).and fun d k r' => P n (p (acc.app (one d k))) r' m)
    (hQ : ∀ N l m σ, Q T (N + 1) (q l) m σ = if σ.er = 0 ∧ isT T [125] σ = false then (itemQ N m σ).bind fun x => Q T N (q (l ++ [x.1])) m x.2 else tq D l (sgn T [125] σ).2)
    (hI : ∀ n k m, n + 1 ≤ 1000000 → T.length ≤ 1000000 → k ≤ T.length → m ≤ 64 → item n (T.drop k) m ≠ .dry → ∃ x, (∃ N, ∀ M, N ≤ M → itemQ M m (okS k) = some x) ∧ Rel T (n + 1) k 0 (item n (T.drop k) m) x) :
    ∀ n acc k0 k m, n ≤ 1000000 → T.length ≤ 1000000 → acc.size + 2 * k0 + 2 ≤ 2 * k → k ≤ T.length → m ≤ 64 → P n (p acc) (T.drop k) m ≠ .dry → ∃ x, Ev T (q acc.rows) m (okS k) x ∧ Rel T n k0 0 (P n (p acc) (T.drop k) m) x
  | 0, acc, k0, k, m, _, _, _, _, _, hnd => absurd rfl hnd
  | n + 1, acc, k0, k, m, hn, hT, hf, hk, hm, hnd => by
    have tl := dropD T k
    rw [hP] at hnd ⊢
    cases c : seesM (T.drop k) [[125]]
    rotate_left
    · have hlt := sees_k (T := T) (k := k) (by decide) c
      rw [if_pos rfl, tl]
      refine ⟨((one D acc).flat 0, okS (k + 1)), .step ⟨0, fun N _ => ?_⟩, k + 1, rfl, by omega, hlt, rfl, by omega⟩
      rw [hQ, isM_ok _ _ _ rfl, c, if_neg (by simp), sgnM_yes rfl c]
      exact tq_rows (by omega)
    rw [c, if_neg (by decide)] at hnd
    rw [if_neg (by decide)]
    have hQ' : ∀ N, Q T (N + 1) (q acc.rows) m (okS k) = (itemQ N m (okS k)).bind fun x => Q T N (q (acc.rows ++ [x.1])) m x.2 := fun N => by
      rw [hQ, isM_ok _ _ _ rfl, c, if_pos ⟨rfl, rfl⟩]
    obtain ⟨x, ⟨N, h1⟩, hr⟩ := hI n k m hn hT hk hm (and_nd hnd)
    cases ho : item n (T.drop k) m with
    | dry => rw [ho] at hr; exact hr.elim
    | bad er r =>
      rw [ho] at hr
      obtain ⟨j, rfl, h2, h3, h4, h5, h6, h7⟩ := hr
      obtain ⟨hy, hry⟩ := twig_badL (k1 := k) (k0 := k0) (F := acc) (X := x.1) D hf h2 h3 hT hn h4 (by omega)
      refine ⟨_, .step ⟨N + 1, fun M hM => ?_⟩, hry⟩
      obtain ⟨M', rfl⟩ : ∃ M', M = M' + 1 := ⟨M - 1, by omega⟩
      rw [hQ', h1 _ (by omega), Option.bind_some, h5, hQ, if_neg (by intro h'; exact h4 h'.1), sgn_e (erS_er h4)]
      exact hy
    | ok d f r =>
      rw [ho] at hr hnd
      obtain ⟨j, rfl, h2, h3, rfl, h5⟩ := hr
      dsimp only [Out.and] at hnd ⊢
      obtain ⟨z, ⟨N2, g1⟩, hrz⟩ := sim_loop T D p q item itemQ hP hQ hI n (acc.app (one d f)) k0 j m (by omega) hT (by rw [Fo.size_app, one_size]; omega) h3 hm hnd
      refine ⟨z, .step ⟨N + N2, fun M hM => ?_⟩, hrz.mono (by omega)⟩
      rw [hQ', h1 _ (by omega), Option.bind_some]
      have e : acc.rows ++ [((one d f).flat 0, okS j).1] = (acc.app (one d f)).rows := by rw [Fo.rows_app, one_rows]
      rw [e]
      exact g1 _ (by omega)

def memX (T : List Tok) (σ : Sg) : Option (List Tw × Sg) := tq (at_ (knd T 1 σ).1 4 (knd T 1 σ).1.text 0) [(typQ T (knd T 1 σ).2).1] (sgn T [59] (typQ T (knd T 1 σ).2).2).2
theorem sim_mem (T : List Tok) (n k : Nat) (hT : T.length ≤ 1000000) (hk : k ≤ T.length) : ∃ x, memX T (okS k) = some x ∧ Rel T (n + 1) k 0 (memO (T.drop k)) x := by
  unfold memO memX
  cases c1 : ((hd (T.drop k)).kind == 1)
  · rw [tkK_no c1, knd_no c1]
    dsimp only
    rw [typQ_e (erS_er (by decide))]
    dsimp only
    rw [sgn_e (erS_er (by decide))]
    obtain ⟨hy, hry⟩ := twig_err (n := n) (Es := [twL (at_ tok0' 5 [] 0) []]) (k0 := k) (F := .nil) (j := k) (er := 4) (at_ tok0' 4 tok0'.text 0) (by simp only [Fo.size]; omega) (Nat.le_refl _) hk hT (by decide) (by simp [U0_len]) (by simp)
    exact ⟨_, hy, hry⟩
  have hlt1 := sees_lt (T := T) (k := k) (x := 1) (by decide) c1
  rw [tkK_yes c1, knd_yes c1, dropD]
  dsimp only
  cases c2 : isTyT (T.drop (k + 1))
  · rw [tyO_no c2, typQ_no c2]
    dsimp only [Out.and]
    rw [sgn_e (erS_er (by decide))]
    obtain ⟨hy, hry⟩ := twig_err (n := n) (Es := [twL (at_ tok0' 5 [] 0) []]) (k0 := k) (F := .nil) (j := k + 1) (er := 4) (at_ (hd (T.drop k)) 4 (hd (T.drop k)).text 0) (by simp only [Fo.size]; omega) (by omega) hlt1 hT (by decide) (by simp [U0_len]) (by simp)
    exact ⟨_, hy, hry⟩
  obtain ⟨ty, hlt2⟩ := typQ_yes c2
  rw [tyO_yes c2, dropD, ty]
  dsimp only [Out.and]
  generalize at_ (hd (T.drop (k + 1))) 5 (hd (T.drop (k + 1))).text 0 = Y
  cases c3 : seesM (T.drop (k + 1 + 1)) [[59]]
  · rw [tkM_no c3, sgnM_no rfl c3]
    obtain ⟨hy, hry⟩ := twig_err (n := n) (Es := []) (k0 := k) (F := one Y .nil) (j := k + 1 + 1) (er := 4) (at_ (hd (T.drop k)) 4 (hd (T.drop k)).text 0) (by simp only [one_size, Fo.size]; omega) (by omega) hlt2 hT (by decide) (by simp) (by simp)
    exact ⟨_, hy, hry⟩
  · have hlt3 := sees_k (T := T) (k := k + 1 + 1) (by decide) c3
    rw [tkM_yes c3, sgnM_yes rfl c3, dropD]
    refine ⟨_, tq_rows (f := one Y .nil) (by simp only [one_size, Fo.size]; omega), k + 1 + 1 + 1, rfl, by omega, hlt3, rfl, by simp only [one_size, Fo.size]; omega⟩
theorem sim_members (T : List Tok) (t nm : Tok) : ∀ n acc k0 k m, n ≤ 1000000 → T.length ≤ 1000000 → acc.size + 2 * k0 + 2 ≤ 2 * k → k ≤ T.length → m ≤ 64 → P n (.members t nm acc) (T.drop k) m ≠ .dry → ∃ x, Ev T (.members t nm.text acc.rows) m (okS k) x ∧ Rel T n k0 0 (P n (.members t nm acc) (T.drop k) m) x := sim_loop T (at_ t 3 nm.text 0) (fun acc => .members t nm acc) (fun l => .members t nm.text l) (fun _ r _ => memO r) (fun _ _ σ => memX T σ) (fun n acc r m => by rw [P]) (fun N l m σ => by rw [Q]; rfl) (fun n k m _ hT hk _ _ => by
  obtain ⟨x, h1, h2⟩ := sim_mem T n k hT hk
  exact ⟨x, ⟨0, fun _ _ => h1⟩, h2⟩)

theorem life_idx (s : List UInt8) (h : lifeWords.contains s = true) : (lifeWords.idxOf s : Int) = lifeN s := by
  have h' : s ∈ lifeWords := by simpa using h
  simp only [lifeWords, List.mem_cons, List.not_mem_nil, or_false] at h'
  rcases h' with rfl | rfl | rfl | rfl <;> decide
def lifeX (T : List Tok) (N m : Nat) (σ : Sg) : Option (List Tw × Sg) := (Q T N .block m (oneS T lifeWords σ).2).bind fun x => tq (at_ (oneS T lifeWords σ).1 9 [] (lifeN (oneS T lifeWords σ).1.text)) [x.1] x.2
theorem sim_life (T : List Tok) (n k m : Nat) (hn : n + 1 ≤ 1000000) (hT : T.length ≤ 1000000) (hk : k ≤ T.length) (hm : m ≤ 64) (hnd : lifeO (fun r => P n .block r m) (T.drop k) ≠ .dry) : ∃ x, (∃ N, ∀ M, N ≤ M → lifeX T M m (okS k) = some x) ∧ Rel T (n + 1) k 0 (lifeO (fun r => P n .block r m) (T.drop k)) x := by
  unfold lifeO at hnd ⊢
  have ho : oneS T lifeWords (okS k) = takeS T (seesW (T.drop k) lifeWords) (okS k) := by unfold oneS; rw [isIn_ok _ _ _ (by decide)]
  cases c : seesW (T.drop k) lifeWords
  · rw [tkW_no c]
    rw [c, takeS_no] at ho
    obtain ⟨N2, g1⟩ := ev_block_e (T := T) (erS_er (k := k) (e := 4) (by decide)) m (by omega)
    obtain ⟨hy, hry⟩ := twig_err (n := n) (Es := [twL (at_ tok0' 12 [] 0) []]) (k0 := k) (F := .nil) (j := k) (er := 4) (at_ tok0' 9 [] (lifeN tok0'.text)) (by simp only [Fo.size]; omega) (Nat.le_refl _) hk hT (by decide) (by simp [U0_len]) (by simp)
    refine ⟨_, ⟨N2, fun M hM => ?_⟩, hry⟩
    unfold lifeX
    rw [ho]
    dsimp only
    rw [g1 _ hM, Option.bind_some]
    exact hy
  · have hlt := sees_k (T := T) (k := k) (by decide) c
    rw [tkW_yes c, dropD] at hnd ⊢
    rw [c, takeS_yes] at ho
    have hl : lifeWords.contains (hd (T.drop k)).text = true := by
      unfold seesW seesK at c
      rw [Bool.and_eq_true] at c
      exact c.2
    rw [life_idx _ hl] at hnd ⊢
    obtain ⟨x, ⟨N, h1⟩, hr⟩ := (sims T n).block (k + 1) m (by omega) hT hlt hm (and_nd hnd)
    obtain ⟨y, hy, hry⟩ := hr.fin (k0 := k) .nil (by simp only [Fo.size]; omega) hT hn (at_ (hd (T.drop k)) 9 [] (lifeN (hd (T.drop k)).text))
    refine ⟨y, ⟨N, fun M hM => ?_⟩, hry⟩
    unfold lifeX
    rw [ho]
    dsimp only
    rw [h1 _ hM, Option.bind_some]
    exact hy
theorem sim_lives (T : List Tok) (t nm : Tok) : ∀ n acc k0 k m, n ≤ 1000000 → T.length ≤ 1000000 → acc.size + 2 * k0 + 2 ≤ 2 * k → k ≤ T.length → m ≤ 64 → P n (.lives t nm acc) (T.drop k) m ≠ .dry → ∃ x, Ev T (.lives t nm.text acc.rows) m (okS k) x ∧ Rel T n k0 0 (P n (.lives t nm acc) (T.drop k) m) x := sim_loop T (at_ t 8 nm.text 0) (fun acc => .lives t nm acc) (fun l => .lives t nm.text l) (fun n r m => lifeO (fun r => P n .block r m) r) (fun N m σ => lifeX T N m σ) (fun n acc r m => by rw [P]) (fun N l m σ => by rw [Q]; unfold lifeX; simp only [Option.bind_assoc]) (fun n k m hn hT hk hm hnd => sim_life T n k m hn hT hk hm hnd)
end Go.Proofs.YtpeoefbibjbinaaGreat

namespace Go.Proofs.YtpeoefbibjbinaaGreat
open Go.RowKit

theorem sgnW_yes {T : List Tok} {k : Nat} {s : List UInt8} (hs : kindOf s = 2) (h : seesW (T.drop k) [s] = true) : sgn T s (okS k) = (hd (T.drop k), okS (k + 1)) := by unfold sgn; rw [isW_ok T s k hs, h, takeS_yes]
theorem sgnW_no {T : List Tok} {k : Nat} {s : List UInt8} (hs : kindOf s = 2) (h : seesW (T.drop k) [s] = false) : sgn T s (okS k) = (tok0', erS k 4) := by unfold sgn; rw [isW_ok T s k hs, h, takeS_no]
/-- 'on' and a name. -/
theorem on_cases (T : List Tok) (k : Nat) (hk : k ≤ T.length) :
    (∃ j, onO (T.drop k) = .bad 4 (T.drop j) ∧ useQ T (sgn T [111, 110] (okS k)).2 = (twL (at_ tok0' 29 [] 0) [], erS j 4) ∧ k ≤ j ∧ j ≤ T.length) ∨
    (∃ u, onO (T.drop k) = .ok u .nil (T.drop (k + 2)) ∧ useQ T (sgn T [111, 110] (okS k)).2 = (twL u [], okS (k + 2)) ∧ k + 2 ≤ T.length) := by
  unfold onO
  cases c : seesW (T.drop k) [[111, 110]]
  · rw [tkW_no c, sgnW_no rfl c]
    dsimp only
    rw [useQ_e (erS_er (by decide))]
    exact .inl ⟨k, rfl, rfl, Nat.le_refl _, hk⟩
  have hlt := sees_k (T := T) (k := k) (by decide) c
  rw [tkW_yes c, sgnW_yes rfl c, dropD]
  unfold useO useQ
  cases c1 : ((hd (T.drop (k + 1))).kind == 1)
  · dsimp only
    rw [tkK_no c1, knd_no c1]
    exact .inl ⟨k + 1, rfl, rfl, by omega, hlt⟩
  · have hlt2 := sees_lt (T := T) (k := k + 1) (x := 1) (by decide) c1
    dsimp only
    rw [tkK_yes c1, knd_yes c1, dropD]
    exact .inr ⟨_, rfl, rfl, hlt2⟩
theorem q_members_e {T : List Tok} {σ : Sg} (h : σ.er ≠ 0) (m : Nat) (t : Tok) (s : List UInt8) (l : List (List Tw)) (n : Nat) : Q T (n + 1) (.members t s l) m σ = tq (at_ t 3 s 0) l σ := by
  rw [Q, if_neg (by intro h'; exact h h'.1), sgn_e h]
theorem q_lives_e {T : List Tok} {σ : Sg} (h : σ.er ≠ 0) (m : Nat) (t : Tok) (s : List UInt8) (l : List (List Tw)) (n : Nat) : Q T (n + 1) (.lives t s l) m σ = tq (at_ t 8 s 0) l σ := by
  rw [Q, if_neg (by intro h'; exact h h'.1), sgn_e h]
theorem bad_none {T : List Tok} {n k0 : Nat} {Es : List (List Tw)} {j : Nat} {er : Int} (D : Nd) (hk : k0 ≤ j) (hjT : j ≤ T.length) (hT : T.length ≤ 1000000) (her : er ≠ 0) (hE : (Es.map List.length).sum ≤ 9) (hE2 : Es.length ≤ 9) :
    tq D Es (erS j er) = some (twL D Es, erS j er) ∧ Rel T (n + 1) k0 0 (.bad er (T.drop j)) (twL D Es, erS j er) :=
  twig_err (F := .nil) D (by simp only [Fo.size]; omega) hk hjT hT her hE hE2

set_option linter.unusedSectionVars false
section
variable (T : List Tok) (n : Nat) (k m : Nat) (hn : n + 1 ≤ 1000000) (hT : T.length ≤ 1000000) (hm : m ≤ 64) (hlt : k + 1 ≤ T.length)
def Goal_ (o : Out) (q : Nat → Option (List Tw × Sg)) : Prop := ∃ x, (∃ N, ∀ M, N ≤ M → q M = some x) ∧ Rel T (n + 1) k 0 o x
include hn hT hm hlt

theorem d_looper (H : Tok) : Goal_ T n k (tkK 1 (T.drop (k + 1)) fun nm r' => tkM [[59]] r' fun _ r' => .ok (at_ H 2 nm.text 0) .nil r')
    (fun _ => tq (at_ H 2 (knd T 1 (okS (k + 1))).1.text 0) [] (sgn T [59] (knd T 1 (okS (k + 1))).2).2) := by
  cases c1 : ((hd (T.drop (k + 1))).kind == 1)
  · rw [tkK_no c1, knd_no c1]
    dsimp only
    rw [sgn_e (erS_er (by decide))]
    obtain ⟨hy, hry⟩ := bad_none (n := n) (k0 := k) (Es := []) (j := k + 1) (er := 4) (at_ H 2 tok0'.text 0) (by omega) hlt hT (by decide) (by simp) (by simp)
    exact ⟨_, ⟨0, fun _ _ => hy⟩, hry⟩
  have hlt2 := sees_lt (T := T) (k := k + 1) (x := 1) (by decide) c1
  rw [tkK_yes c1, knd_yes c1, dropD]
  dsimp only
  cases c3 : seesM (T.drop (k + 1 + 1)) [[59]]
  · rw [tkM_no c3, sgnM_no rfl c3]
    obtain ⟨hy, hry⟩ := bad_none (n := n) (k0 := k) (Es := []) (j := k + 1 + 1) (er := 4) (at_ H 2 (hd (T.drop (k + 1))).text 0) (by omega) hlt2 hT (by decide) (by simp) (by simp)
    exact ⟨_, ⟨0, fun _ _ => hy⟩, hry⟩
  · have hlt3 := sees_k (T := T) (k := k + 1 + 1) (by decide) c3
    rw [tkM_yes c3, sgnM_yes rfl c3, dropD]
    exact ⟨_, ⟨0, fun _ _ => leaf _ _⟩, k + 1 + 1 + 1, rfl, by omega, hlt3, rfl, by simp only [Fo.size]; omega⟩

theorem d_var (H : Tok) : Goal_ T n k (tkK 1 (T.drop (k + 1)) fun nm r' => (tyO r').and fun y yk r' => tkM [[59]] r' fun _ r' => .ok (at_ H 6 nm.text 0) (one y yk) r')
    (fun _ => tq (at_ H 6 (knd T 1 (okS (k + 1))).1.text 0) [(typQ T (knd T 1 (okS (k + 1))).2).1] (sgn T [59] (typQ T (knd T 1 (okS (k + 1))).2).2).2) := by
  cases c1 : ((hd (T.drop (k + 1))).kind == 1)
  · rw [tkK_no c1, knd_no c1]
    dsimp only
    rw [typQ_e (erS_er (by decide))]
    dsimp only
    rw [sgn_e (erS_er (by decide))]
    obtain ⟨hy, hry⟩ := bad_none (n := n) (k0 := k) (Es := [twL (at_ tok0' 5 [] 0) []]) (j := k + 1) (er := 4) (at_ H 6 tok0'.text 0) (by omega) hlt hT (by decide) (by simp [U0_len]) (by simp)
    exact ⟨_, ⟨0, fun _ _ => hy⟩, hry⟩
  have hlt1 := sees_lt (T := T) (k := k + 1) (x := 1) (by decide) c1
  rw [tkK_yes c1, knd_yes c1, dropD]
  dsimp only
  cases c2 : isTyT (T.drop (k + 1 + 1))
  · rw [tyO_no c2, typQ_no c2]
    dsimp only [Out.and]
    rw [sgn_e (erS_er (by decide))]
    obtain ⟨hy, hry⟩ := bad_none (n := n) (k0 := k) (Es := [twL (at_ tok0' 5 [] 0) []]) (j := k + 1 + 1) (er := 4) (at_ H 6 (hd (T.drop (k + 1))).text 0) (by omega) hlt1 hT (by decide) (by simp [U0_len]) (by simp)
    exact ⟨_, ⟨0, fun _ _ => hy⟩, hry⟩
  obtain ⟨ty, hlt2⟩ := typQ_yes c2
  rw [tyO_yes c2, dropD, ty]
  dsimp only [Out.and]
  generalize at_ (hd (T.drop (k + 1 + 1))) 5 (hd (T.drop (k + 1 + 1))).text 0 = Y
  cases c3 : seesM (T.drop (k + 1 + 1 + 1)) [[59]]
  · rw [tkM_no c3, sgnM_no rfl c3]
    obtain ⟨hy, hry⟩ := twig_err (n := n) (Es := []) (k0 := k) (F := one Y .nil) (j := k + 1 + 1 + 1) (er := 4) (at_ H 6 (hd (T.drop (k + 1))).text 0) (by simp only [one_size, Fo.size]; omega) (by omega) hlt2 hT (by decide) (by simp) (by simp)
    exact ⟨_, ⟨0, fun _ _ => hy⟩, hry⟩
  · have hlt3 := sees_k (T := T) (k := k + 1 + 1 + 1) (by decide) c3
    rw [tkM_yes c3, sgnM_yes rfl c3, dropD]
    exact ⟨_, ⟨0, fun _ _ => tq_rows (f := one Y .nil) (by simp only [one_size, Fo.size]; omega)⟩, k + 1 + 1 + 1 + 1, rfl, by omega, hlt3, rfl, by simp only [one_size, Fo.size]; omega⟩

theorem d_fn (H : Tok) (HB : Sim T n .block .block) (hnd : (tkK 1 (T.drop (k + 1)) fun nm r' => (P n .block r' m).and fun d k r' => .ok (at_ H 7 nm.text 0) (one d k) r') ≠ .dry) : Goal_ T n k (tkK 1 (T.drop (k + 1)) fun nm r' => (P n .block r' m).and fun d k r' => .ok (at_ H 7 nm.text 0) (one d k) r')
    (fun N => (Q T N .block m (knd T 1 (okS (k + 1))).2).bind fun x => tq (at_ H 7 (knd T 1 (okS (k + 1))).1.text 0) [x.1] x.2) := by
  cases c1 : ((hd (T.drop (k + 1))).kind == 1)
  · rw [tkK_no c1, knd_no c1]
    dsimp only
    obtain ⟨N2, g1⟩ := ev_block_e (T := T) (erS_er (k := k + 1) (e := 4) (by decide)) m (by omega)
    obtain ⟨hy, hry⟩ := bad_none (n := n) (k0 := k) (Es := [twL (at_ tok0' 12 [] 0) []]) (j := k + 1) (er := 4) (at_ H 7 tok0'.text 0) (by omega) hlt hT (by decide) (by simp [U0_len]) (by simp)
    exact ⟨_, ⟨N2, fun M hM => by dsimp only; rw [g1 _ hM, Option.bind_some]; exact hy⟩, hry⟩
  have hlt2 := sees_lt (T := T) (k := k + 1) (x := 1) (by decide) c1
  rw [tkK_yes c1, dropD] at hnd
  rw [tkK_yes c1, knd_yes c1, dropD]
  dsimp only
  obtain ⟨x, ⟨N, h1⟩, hr⟩ := HB (k + 1 + 1) m (by omega) hT hlt2 hm (and_nd hnd)
  obtain ⟨y, hy, hry⟩ := hr.fin (k0 := k) .nil (by simp only [Fo.size]; omega) hT hn (at_ H 7 (hd (T.drop (k + 1))).text 0)
  exact ⟨y, ⟨N, fun M hM => by dsimp only; rw [h1 _ hM, Option.bind_some]; exact hy⟩, hry⟩

theorem d_main (H : Tok) (HB : Sim T n .block .block) (hnd : ((P n .block (T.drop (k + 1)) m).and fun d k r' => .ok (at_ H 11 [] 0) (one d k) r') ≠ .dry) : Goal_ T n k ((P n .block (T.drop (k + 1)) m).and fun d k r' => .ok (at_ H 11 [] 0) (one d k) r')
    (fun N => (Q T N .block m (okS (k + 1))).bind fun x => tq (at_ H 11 [] 0) [x.1] x.2) := by
  obtain ⟨x, ⟨N, h1⟩, hr⟩ := HB (k + 1) m (by omega) hT hlt hm (and_nd hnd)
  obtain ⟨y, hy, hry⟩ := hr.fin (k0 := k) .nil (by simp only [Fo.size]; omega) hT hn (at_ H 11 [] 0)
  exact ⟨y, ⟨N, fun M hM => by dsimp only; rw [h1 _ hM, Option.bind_some]; exact hy⟩, hry⟩

theorem d_class (H : Tok) (hnd : (tkK 1 (T.drop (k + 1)) fun nm r' => tkM [[123]] r' fun _ r' => P n (.members H nm .nil) r' m) ≠ .dry) : Goal_ T n k (tkK 1 (T.drop (k + 1)) fun nm r' => tkM [[123]] r' fun _ r' => P n (.members H nm .nil) r' m)
    (fun N => Q T N (.members H (knd T 1 (okS (k + 1))).1.text []) m (sgn T [123] (knd T 1 (okS (k + 1))).2).2) := by
  cases c1 : ((hd (T.drop (k + 1))).kind == 1)
  · rw [tkK_no c1, knd_no c1]
    dsimp only
    obtain ⟨hy, hry⟩ := bad_none (n := n) (k0 := k) (Es := []) (j := k + 1) (er := 4) (at_ H 3 tok0'.text 0) (by omega) hlt hT (by decide) (by simp) (by simp)
    refine ⟨_, ⟨1, fun M hM => ?_⟩, hry⟩
    obtain ⟨M', rfl⟩ : ∃ M', M = M' + 1 := ⟨M - 1, by omega⟩
    rw [sgn_e (erS_er (by decide))]
    dsimp only
    rw [q_members_e (erS_er (by decide))]
    exact hy
  have hlt2 := sees_lt (T := T) (k := k + 1) (x := 1) (by decide) c1
  rw [tkK_yes c1, dropD] at hnd
  rw [tkK_yes c1, knd_yes c1, dropD]
  dsimp only
  cases c3 : seesM (T.drop (k + 1 + 1)) [[123]]
  · rw [tkM_no c3, sgnM_no rfl c3]
    obtain ⟨hy, hry⟩ := bad_none (n := n) (k0 := k) (Es := []) (j := k + 1 + 1) (er := 4) (at_ H 3 (hd (T.drop (k + 1))).text 0) (by omega) hlt2 hT (by decide) (by simp) (by simp)
    refine ⟨_, ⟨1, fun M hM => ?_⟩, hry⟩
    obtain ⟨M', rfl⟩ : ∃ M', M = M' + 1 := ⟨M - 1, by omega⟩
    dsimp only
    rw [q_members_e (erS_er (by decide))]
    exact hy
  have hlt3 := sees_k (T := T) (k := k + 1 + 1) (by decide) c3
  rw [tkM_yes c3, dropD] at hnd
  rw [tkM_yes c3, sgnM_yes rfl c3, dropD]
  obtain ⟨x, h1, hr⟩ := sim_members T H (hd (T.drop (k + 1))) n .nil k (k + 1 + 1 + 1) m (by omega) hT (by simp only [Fo.size]; omega) hlt3 hm hnd
  exact ⟨x, h1, hr.mono (by omega)⟩

theorem d_comp (H : Tok) (hnd : (tkK 1 (T.drop (k + 1)) fun nm r' => (onO r').and fun u uk r' => tkM [[123]] r' fun _ r' => P n (.lives H nm (one u uk)) r' m) ≠ .dry) : Goal_ T n k (tkK 1 (T.drop (k + 1)) fun nm r' => (onO r').and fun u uk r' => tkM [[123]] r' fun _ r' => P n (.lives H nm (one u uk)) r' m)
    (fun N => Q T N (.lives H (knd T 1 (okS (k + 1))).1.text [(useQ T (sgn T [111, 110] (knd T 1 (okS (k + 1))).2).2).1]) m (sgn T [123] (useQ T (sgn T [111, 110] (knd T 1 (okS (k + 1))).2).2).2).2) := by
  cases c1 : ((hd (T.drop (k + 1))).kind == 1)
  · rw [tkK_no c1, knd_no c1]
    dsimp only
    obtain ⟨hy, hry⟩ := bad_none (n := n) (k0 := k) (Es := [twL (at_ tok0' 29 [] 0) []]) (j := k + 1) (er := 4) (at_ H 8 tok0'.text 0) (by omega) hlt hT (by decide) (by simp [U0_len]) (by simp)
    refine ⟨_, ⟨1, fun M hM => ?_⟩, hry⟩
    obtain ⟨M', rfl⟩ : ∃ M', M = M' + 1 := ⟨M - 1, by omega⟩
    rw [sgn_e (erS_er (by decide))]
    dsimp only
    rw [useQ_e (erS_er (by decide))]
    dsimp only
    rw [sgn_e (erS_er (by decide))]
    dsimp only
    rw [q_lives_e (erS_er (by decide))]
    exact hy
  have hlt2 := sees_lt (T := T) (k := k + 1) (x := 1) (by decide) c1
  rw [tkK_yes c1, dropD] at hnd
  rw [tkK_yes c1, knd_yes c1, dropD]
  dsimp only
  obtain ⟨j, o1, u1, j1, j2⟩ | ⟨u, o1, u1, hlt4⟩ := on_cases T (k + 1 + 1) hlt2
  · rw [o1, u1]
    dsimp only [Out.and]
    obtain ⟨hy, hry⟩ := bad_none (n := n) (k0 := k) (Es := [twL (at_ tok0' 29 [] 0) []]) (j := j) (er := 4) (at_ H 8 (hd (T.drop (k + 1))).text 0) (by omega) j2 hT (by decide) (by simp [U0_len]) (by simp)
    refine ⟨_, ⟨1, fun M hM => ?_⟩, hry⟩
    obtain ⟨M', rfl⟩ : ∃ M', M = M' + 1 := ⟨M - 1, by omega⟩
    rw [sgn_e (erS_er (by decide))]
    dsimp only
    rw [q_lives_e (erS_er (by decide))]
    exact hy
  rw [o1] at hnd
  rw [o1, u1]
  dsimp only [Out.and] at hnd ⊢
  cases c3 : seesM (T.drop (k + 1 + 1 + 2)) [[123]]
  · rw [tkM_no c3, sgnM_no rfl c3]
    obtain ⟨hy, hry⟩ := bad_none (n := n) (k0 := k) (Es := [twL u []]) (j := k + 1 + 1 + 2) (er := 4) (at_ H 8 (hd (T.drop (k + 1))).text 0) (by omega) hlt4 hT (by decide) (by simp [twL_len]) (by simp)
    refine ⟨_, ⟨1, fun M hM => ?_⟩, hry⟩
    obtain ⟨M', rfl⟩ : ∃ M', M = M' + 1 := ⟨M - 1, by omega⟩
    dsimp only
    rw [q_lives_e (erS_er (by decide))]
    exact hy
  have hlt3 := sees_k (T := T) (k := k + 1 + 1 + 2) (by decide) c3
  rw [tkM_yes c3, dropD] at hnd
  rw [tkM_yes c3, sgnM_yes rfl c3, dropD]
  obtain ⟨x, h1, hr⟩ := sim_lives T H (hd (T.drop (k + 1))) n (one u .nil) k (k + 1 + 1 + 2 + 1) m (by omega) hT (by simp only [one_size, Fo.size]; omega) hlt3 hm hnd
  rw [one_rows] at h1
  exact ⟨x, h1, hr.mono (by omega)⟩

theorem d_event (H : Tok) (HB : Sim T n .block .block) (hnd : (tkK 1 (T.drop (k + 1)) fun nm r' => (onO r').and fun u uk r' => tkW [[111, 110], [111, 102, 102]] r' fun x r' => (P n .block r' m).and fun d k r' => .ok (at_ H 10 nm.text (if x.text = [111, 110] then 1 else 0)) ((one u uk).app (one d k)) r') ≠ .dry) : Goal_ T n k (tkK 1 (T.drop (k + 1)) fun nm r' => (onO r').and fun u uk r' => tkW [[111, 110], [111, 102, 102]] r' fun x r' => (P n .block r' m).and fun d k r' => .ok (at_ H 10 nm.text (if x.text = [111, 110] then 1 else 0)) ((one u uk).app (one d k)) r')
    (fun N => (Q T N .block m (oneS T [[111, 110], [111, 102, 102]] (useQ T (sgn T [111, 110] (knd T 1 (okS (k + 1))).2).2).2).2).bind fun x =>
          tq (at_ H 10 (knd T 1 (okS (k + 1))).1.text (if (oneS T [[111, 110], [111, 102, 102]] (useQ T (sgn T [111, 110] (knd T 1 (okS (k + 1))).2).2).2).1.text = [111, 110] then 1 else 0)) [(useQ T (sgn T [111, 110] (knd T 1 (okS (k + 1))).2).2).1, x.1] x.2) := by
  have bads : ∀ (D : Nd) (U : List Tw) (j : Nat), U.length ≤ 4 → k ≤ j → j ≤ T.length → ∃ x, (∃ N, ∀ M, N ≤ M → (Q T M .block m (erS j 4)).bind (fun x => tq D [U, x.1] x.2) = some x) ∧ Rel T (n + 1) k 0 (.bad 4 (T.drop j)) x := fun D U j hU h1 h2 => by
    obtain ⟨N2, g1⟩ := ev_block_e (T := T) (erS_er (k := j) (e := 4) (by decide)) m (by omega)
    obtain ⟨hy, hry⟩ := bad_none (n := n) (k0 := k) (Es := [U, twL (at_ tok0' 12 [] 0) []]) (j := j) (er := 4) D (by omega) h2 hT (by decide) (by simp [U0_len]; omega) (by simp)
    exact ⟨_, ⟨N2, fun M hM => by rw [g1 _ hM, Option.bind_some]; exact hy⟩, hry⟩
  cases c1 : ((hd (T.drop (k + 1))).kind == 1)
  · rw [tkK_no c1, knd_no c1]
    dsimp only
    rw [sgn_e (erS_er (by decide))]
    dsimp only
    rw [useQ_e (erS_er (by decide))]
    dsimp only
    rw [oneS_e (erS_er (by decide))]
    exact bads _ _ _ (by rw [U0_len]; omega) (by omega) hlt
  have hlt2 := sees_lt (T := T) (k := k + 1) (x := 1) (by decide) c1
  rw [tkK_yes c1, dropD] at hnd
  rw [tkK_yes c1, knd_yes c1, dropD]
  dsimp only
  obtain ⟨j, o1, u1, j1, j2⟩ | ⟨u, o1, u1, hlt4⟩ := on_cases T (k + 1 + 1) hlt2
  · rw [o1, u1]
    dsimp only [Out.and]
    rw [oneS_e (erS_er (by decide))]
    exact bads _ _ _ (by rw [U0_len]; omega) (by omega) j2
  rw [o1] at hnd
  rw [o1, u1]
  dsimp only [Out.and] at hnd ⊢
  have ho : oneS T [[111, 110], [111, 102, 102]] (okS (k + 1 + 1 + 2)) = takeS T (seesW (T.drop (k + 1 + 1 + 2)) [[111, 110], [111, 102, 102]]) (okS (k + 1 + 1 + 2)) := by unfold oneS; rw [isIn_ok _ _ _ (by decide)]
  cases c3 : seesW (T.drop (k + 1 + 1 + 2)) [[111, 110], [111, 102, 102]]
  · rw [c3, takeS_no] at ho
    rw [tkW_no c3, ho]
    exact bads _ _ _ (by simp [twL_len]) (by omega) hlt4
  have hlt3 := sees_k (T := T) (k := k + 1 + 1 + 2) (by decide) c3
  rw [c3, takeS_yes] at ho
  rw [tkW_yes c3, dropD] at hnd
  rw [tkW_yes c3, dropD, ho]
  dsimp only
  obtain ⟨x, ⟨N, h1⟩, hr⟩ := HB (k + 1 + 1 + 2 + 1) m (by omega) hT hlt3 hm (and_nd hnd)
  obtain ⟨y, hy, hry⟩ := hr.fin (k0 := k) (one u .nil) (by simp only [one_size, Fo.size]; omega) hT hn (at_ H 10 (hd (T.drop (k + 1))).text (if (hd (T.drop (k + 1 + 1 + 2))).text = [111, 110] then 1 else 0))
  rw [one_rows] at hy
  exact ⟨y, ⟨N, fun M hM => by dsimp only; rw [h1 _ hM, Option.bind_some]; exact hy⟩, hry⟩
end

theorem sim_decl (T : List Tok) (n : Nat) (HB : Sim T n .block .block) : Sim T (n + 1) .decl .decl := by
  intro k m hn hT hk hm hnd
  have tl := dropD T k
  have ho : oneS T declWords (okS k) = takeS T (seesW (T.drop k) declWords) (okS k) := by unfold oneS; rw [isIn_ok _ _ _ (by decide)]
  cases c : seesW (T.drop k) declWords
  · rw [c, takeS_no] at ho
    have hs : ∀ w ∈ declWords, seesW (T.drop k) [w] = false := fun w hw => by
      unfold seesW seesK at c ⊢
      rw [Bool.and_eq_false_iff] at c ⊢
      rcases c with c | c
      · exact .inl c
      · right
        simp only [List.contains_eq_mem, decide_eq_false_iff_not, List.mem_singleton] at c ⊢
        intro h; exact c (h ▸ hw)
    have hP : P (n + 1) .decl (T.drop k) m = .bad 4 (T.drop k) := by
      rw [P]
      simp only [hs _ (show [108, 111, 111, 112, 101, 114] ∈ declWords by decide), hs _ (show [99, 108, 97, 115, 115] ∈ declWords by decide), hs _ (show [118, 97, 114] ∈ declWords by decide), hs _ (show [102, 110] ∈ declWords by decide), hs _ (show [99, 111, 109, 112] ∈ declWords by decide), hs _ (show [101, 118, 101, 110, 116] ∈ declWords by decide), Bool.false_eq_true, if_false]
      rw [tkW_no (hs _ (show [109, 97, 105, 110] ∈ declWords by decide))]
    obtain ⟨hy, hry⟩ := bad_none (n := n) (k0 := k) (Es := [twL (at_ tok0' 29 [] 0) []]) (j := k) (er := 4) (at_ tok0' 8 tok0'.text 0) (Nat.le_refl _) hk hT (by decide) (by simp [U0_len]) (by simp)
    rw [hP]
    refine ⟨_, .step ⟨1, fun M hM => ?_⟩, hry⟩
    obtain ⟨M', rfl⟩ : ∃ M', M = M' + 1 := ⟨M - 1, by omega⟩
    rw [Q, ho]
    dsimp only
    rw [if_neg (by decide), if_neg (by decide), if_neg (by decide), if_neg (by decide), if_neg (by decide), if_neg (by decide)]
    rw [knd_e (erS_er (by decide)) (by decide)]
    dsimp only
    rw [sgn_e (erS_er (by decide))]
    dsimp only
    rw [useQ_e (erS_er (by decide))]
    dsimp only
    rw [sgn_e (erS_er (by decide))]
    dsimp only
    rw [q_lives_e (erS_er (by decide))]
    exact hy
  rw [c, takeS_yes] at ho
  have hlt := sees_k (T := T) (k := k) (by decide) c
  obtain ⟨h2, h3⟩ : ((hd (T.drop k)).kind == 2) = true ∧ declWords.contains (hd (T.drop k)).text = true := by
    unfold seesW seesK at c; rw [Bool.and_eq_true] at c; exact c
  have hs : ∀ l, seesW (T.drop k) l = l.contains (hd (T.drop k)).text := fun l => by unfold seesW seesK; rw [h2, Bool.true_and]
  have fin : ∀ (o : Out) (q : Nat → Option (List Tw × Sg)), P (n + 1) .decl (T.drop k) m = o → (∀ N, Q T (N + 1) .decl m (okS k) = q N) → (o ≠ .dry → Goal_ T n k o q) → ∃ x, Ev T .decl m (okS k) x ∧ Rel T (n + 1) k 0 (P (n + 1) .decl (T.drop k) m) x := fun o q hP hQ hg => by
    rw [hP] at hnd ⊢
    obtain ⟨x, ⟨N, h1⟩, hr⟩ := hg hnd
    exact ⟨x, .step ⟨N, fun M hM => by rw [hQ]; exact h1 _ hM⟩, hr⟩
  have h3' : (hd (T.drop k)).text ∈ declWords := by simpa using h3
  simp only [declWords, List.mem_cons, List.not_mem_nil, or_false] at h3'
  rcases h3' with hw | hw | hw | hw | hw | hw | hw
  · refine fin _ _ ?_ (fun N => ?_) fun hd' => d_looper T n k m hn hT hm hlt (hd (T.drop k))
    · rw [P]; simp only [hs]; rw [hw, if_pos (by decide), tl]
    · rw [Q, ho]; dsimp only; rw [hw, if_neg (by decide), if_pos rfl]
  · refine fin _ _ ?_ (fun N => ?_) fun hd' => d_class T n k m hn hT hm hlt (hd (T.drop k)) hd'
    · rw [P]; simp only [hs]; rw [hw, if_neg (by decide), if_pos (by decide), tl]
    · rw [Q, ho]; dsimp only; rw [hw, if_neg (by decide), if_neg (by decide), if_neg (by decide), if_neg (by decide), if_pos rfl]
  · refine fin _ _ ?_ (fun N => ?_) fun hd' => d_var T n k m hn hT hm hlt (hd (T.drop k))
    · rw [P]; simp only [hs]; rw [hw, if_neg (by decide), if_neg (by decide), if_pos (by decide), tl]
    · rw [Q, ho]; dsimp only; rw [hw, if_neg (by decide), if_neg (by decide), if_pos rfl]
  · refine fin _ _ ?_ (fun N => ?_) fun hd' => d_fn T n k m hn hT hm hlt (hd (T.drop k)) HB hd'
    · rw [P]; simp only [hs]; rw [hw, if_neg (by decide), if_neg (by decide), if_neg (by decide), if_pos (by decide), tl]
    · rw [Q, ho]; dsimp only; rw [hw, if_neg (by decide), if_neg (by decide), if_neg (by decide), if_pos rfl]
  · refine fin _ _ ?_ (fun N => ?_) fun hd' => d_comp T n k m hn hT hm hlt (hd (T.drop k)) hd'
    · rw [P]; simp only [hs]; rw [hw, if_neg (by decide), if_neg (by decide), if_neg (by decide), if_neg (by decide), if_pos (by decide), tl]
    · rw [Q, ho]; dsimp only; rw [hw, if_neg (by decide), if_neg (by decide), if_neg (by decide), if_neg (by decide), if_neg (by decide), if_neg (by decide)]
  · refine fin _ _ ?_ (fun N => ?_) fun hd' => d_event T n k m hn hT hm hlt (hd (T.drop k)) HB hd'
    · rw [P]; simp only [hs]; rw [hw, if_neg (by decide), if_neg (by decide), if_neg (by decide), if_neg (by decide), if_neg (by decide), if_pos (by decide), tl]
    · rw [Q, ho]; dsimp only; rw [hw, if_neg (by decide), if_neg (by decide), if_neg (by decide), if_neg (by decide), if_neg (by decide), if_pos rfl]
  · refine fin _ _ ?_ (fun N => ?_) fun hd' => d_main T n k m hn hT hm hlt (hd (T.drop k)) HB hd'
    · rw [P]
      have cm : seesW (T.drop k) [[109, 97, 105, 110]] = true := by rw [hs, hw]; decide
      rw [tkW_yes cm]
      simp only [hs]
      rw [hw, if_neg (by decide), if_neg (by decide), if_neg (by decide), if_neg (by decide), if_neg (by decide), if_neg (by decide), tl]
    · rw [Q, ho]; dsimp only; rw [hw, if_pos rfl]
end Go.Proofs.YtpeoefbibjbinaaGreat

namespace Go.Proofs.YtpeoefbibjbinaaGreat
open Go.RowKit

theorem sims_decl (T : List Tok) : ∀ n, Sim T n .decl .decl
  | 0 => sim_zero T _ _
  | n + 1 => sim_decl T n (sims T n).block
/-- What the document's parser answers of a whole text, where the grammar answers o. -/
def RelD (T : List Tok) (o : Out) (x : List Tw × Sg) : Prop :=
  match o with
  | .dry => False
  | .bad er r => ∃ j, r = T.drop j ∧ j ≤ T.length ∧ er ≠ 0 ∧ x = ([], erS j er)
  | .ok d kf r => d = ⟨1, [], 0, 1, 1⟩ ∧ r = [] ∧ kf.size ≤ 2 * T.length ∧ x = ((one d kf).flat 0, okS T.length)

theorem sim_decls (T : List Tok) : ∀ n acc k, n ≤ 1000000 → T.length ≤ 1000000 → acc.size ≤ 2 * k → k ≤ T.length → P n (.decls acc) (T.drop k) 0 ≠ .dry →
    ∃ x, (∃ N, ∀ M, N ≤ M → QD T M acc.rows (okS k) = some x) ∧ RelD T (P n (.decls acc) (T.drop k) 0) x
  | 0, acc, k, _, _, _, _, hnd => absurd rfl hnd
  | n + 1, acc, k, hn, hT, hf, hk, hnd => by
    rw [P] at hnd ⊢
    by_cases he : k = T.length
    · subst he
      have e : T.drop T.length = [] := List.drop_length
      rw [e, if_pos rfl]
      refine ⟨((one ⟨1, [], 0, 1, 1⟩ acc).flat 0, okS T.length), ⟨1, fun M hM => ?_⟩, rfl, rfl, hf, rfl⟩
      obtain ⟨M', rfl⟩ : ∃ M', M = M' + 1 := ⟨M - 1, by omega⟩
      rw [QD, if_neg (by unfold okS; dsimp only; omega), if_pos (show (okS T.length).er = 0 from rfl)]
      exact tq_rows (by omega)
    have hne : T.drop k ≠ [] := by
      intro h
      rw [List.drop_eq_nil_iff] at h
      omega
    rw [if_neg hne] at hnd ⊢
    have hQ : ∀ M l, QD T (M + 1) l (okS k) = (Q T M .decl 0 (okS k)).bind fun x => QD T M (l ++ [x.1]) x.2 := fun M l => by
      rw [QD, if_pos ⟨rfl, by unfold okS; dsimp only; omega⟩]
    obtain ⟨x, ⟨N, h1⟩, hr⟩ := sims_decl T n k 0 (by omega) hT hk (by omega) (and_nd hnd)
    cases ho : P n .decl (T.drop k) 0 with
    | dry => rw [ho] at hr; exact hr.elim
    | bad er r =>
      rw [ho] at hr
      obtain ⟨j, rfl, h2, h3, h4, h5, h6, h7⟩ := hr
      refine ⟨([], erS j er), ⟨N + 2, fun M hM => ?_⟩, j, rfl, h3, h4, rfl⟩
      obtain ⟨M', rfl⟩ : ∃ M', M = M' + 2 := ⟨M - 2, by omega⟩
      have hl := rows_le acc
      rw [hQ, h1 _ (by omega), Option.bind_some, h5, QD, if_neg (by intro h'; exact h4 h'.1), if_neg (show ¬(erS j er).er = 0 from h4), if_pos (by simp; omega)]
    | ok d f r =>
      rw [ho] at hr hnd
      obtain ⟨j, rfl, h2, h3, rfl, h5⟩ := hr
      dsimp only [Out.and] at hnd ⊢
      obtain ⟨z, ⟨N2, g1⟩, hrz⟩ := sim_decls T n (acc.app (one d f)) j (by omega) hT (by rw [Fo.size_app, one_size]; omega) h3 hnd
      refine ⟨z, ⟨N + N2 + 1, fun M hM => ?_⟩, hrz⟩
      obtain ⟨M', rfl⟩ : ∃ M', M = M' + 1 := ⟨M - 1, by omega⟩
      rw [hQ, h1 _ (by omega), Option.bind_some]
      have e : acc.rows ++ [((one d f).flat 0, okS j).1] = (acc.app (one d f)).rows := by rw [Fo.rows_app, one_rows]
      rw [e]
      exact g1 _ (by omega)

/-- What the document's parser answers of tokens. -/
theorem ref_PT (T : List Tok) (hT : T.length ≤ 60000) : ∃ x, (∃ N, QD T N [] ⟨0, 0, 0⟩ = some x) ∧ RelD T (PT T) x := by
  obtain ⟨x, ⟨N, h1⟩, h2⟩ := sim_decls T (16 * T.length + 2) .nil 0 (by omega) (by omega) (by simp [Fo.size]) (Nat.zero_le _) (PT_nd T)
  exact ⟨x, ⟨N, h1 N (Nat.le_refl _)⟩, h2⟩
end Go.Proofs.YtpeoefbibjbinaaGreat

namespace Go.Proofs.YtpeoefbibjbinaaGreat
open Go.RowKit

theorem line_step (l : List UInt8) (p : Nat) (h : ¬ chr l p = 10) : lineOf l (p + 1) = lineOf l p ∧ fromOf l (p + 1) = fromOf l p := by
  simp [lineOf, fromOf, h]
theorem line_run (l : List UInt8) (p : Nat) : ∀ k, (∀ j, p ≤ j → j < p + k → ¬ chr l j = 10) → lineOf l (p + k) = lineOf l p ∧ fromOf l (p + k) = fromOf l p
  | 0, _ => ⟨rfl, rfl⟩
  | k + 1, h => by
    have h1 := line_run l p k (fun j a b => h j a (by omega))
    have h2 := line_step l (p + k) (h (p + k) (by omega) (by omega))
    rw [← Nat.add_assoc]
    exact ⟨h2.1.trans h1.1, h2.2.trans h1.2⟩
theorem run_nl (k : Int) : ∀ (l : List UInt8) (j : Nat), j < run k l → ¬ chr l j = 10
  | [], j, h => by simp [run] at h
  | x :: r, j, h => by
    simp only [run] at h
    split at h
    · rename_i hg
      rcases j with _ | j
      · intro e
        have e' : (x.toNat : Int) = 10 := e
        rw [e'] at hg
        unfold goes at hg
        split at hg
        · exact absurd hg (by decide)
        · split at hg
          · exact absurd hg (by decide)
          · cases hg
      · have := run_nl k r j (by omega)
        simpa [chr] using this
    · omega
/-- No end of a line stands inside a token. -/
theorem line_tok (l : List UInt8) (p : Nat) (h : p < l.length) (hn : nxt l p = p) : lineOf l (endA l p) = lineOf l p ∧ fromOf l (endA l p) = fromOf l p := by
  have hg := endA_gt l p
  have key : ∀ j, p ≤ j → j < endA l p → ¬ chr l j = 10 := by
    intro j h1 h2
    rcases Nat.eq_or_lt_of_le h1 with rfl | h3
    · exact at_nl l p h hn
    · unfold endA at h2
      split at h2
      · omega
      · unfold endT at h2
        split at h2
        · rename_i hp
          obtain rfl : j = p + 1 := by omega
          have := (chr_pre2 _ hp).2
          rw [chr_drop] at this
          omega
        · unfold ends at h2
          have := run_nl (kindA l p) (l.drop (p + 1)) (j - (p + 1)) (by omega)
          rw [chr_drop] at this
          rwa [show p + 1 + (j - (p + 1)) = j from by omega] at this
  obtain ⟨k, hk⟩ : ∃ k, endA l p = p + k := ⟨endA l p - p, by omega⟩
  rw [hk] at key ⊢
  exact line_run l p k key

/-- What the loop of the reference's Scan keeps. -/
structure RI (l : List UInt8) (b off : Nat) (w : World) (v4 v5 : Value) (T : List Tok) (D : List Dg) (wr : World) : Prop where
  below : Below w.heap.size w wr
  text : Bs wr b off l
  own4 : wr.ownsRow w.heap.size 61 5 v4 T.length (tcs T)
  own5 : wr.ownsRow w.heap.size 48 3 v5 D.length (dcs D)
section
variable {l : List UInt8} {b off : Nat} {w wr w2 : World} {v4 v5 : Value} {T : List Tok} {D : List Dg}
theorem RI.after (h : RI l b off w v4 v5 T D wr) (hb : Below wr.heap.size wr w2) (h0 : 0 < l.length) : RI l b off w v4 v5 T D w2 :=
  ⟨h.below.trans (hb.mono h.below.size), h.text.below hb (h.text.lt h0), own_below h.own4 hb, own_below h.own5 hb⟩
theorem RI.app4 {v' : Value} {t : Tok} (h : RI l b off w v4 v5 T D wr) (hg : wr.grownBy w2 v4.ownBlock) (ho : w2.ownsRow w.heap.size 61 5 v' (T.length + 1) (tcs T ++ t.cells)) (hbw : b < w.heap.size) : RI l b off w v' v5 (T ++ [t]) D w2 := by
  have hz := h.below.size
  have hr : ∀ k, v4.ownBlock = some k → w.heap.size ≤ k := fun k hk => (h.own4.lt k hk).1
  refine ⟨h.below.grown hg hz hr, h.text.keep fun k _ => World.cell?_of_block (hg.block b (by omega) (fun e => by have := hr b e.symm; omega)), ?_, h.own5.kept hg (own_ne h.own5 h.own4 (by decide))⟩
  rw [tcs_snoc, List.length_append]
  exact ho
theorem RI.app5 {v' : Value} {t : Dg} (h : RI l b off w v4 v5 T D wr) (hg : wr.grownBy w2 v5.ownBlock) (ho : w2.ownsRow w.heap.size 48 3 v' (D.length + 1) (dcs D ++ t.cells)) (hbw : b < w.heap.size) : RI l b off w v4 v' T (D ++ [t]) w2 := by
  have hz := h.below.size
  have hr : ∀ k, v5.ownBlock = some k → w.heap.size ≤ k := fun k hk => (h.own5.lt k hk).1
  refine ⟨h.below.grown hg hz hr, h.text.keep fun k _ => World.cell?_of_block (hg.block b (by omega) (fun e => by have := hr b e.symm; omega)), h.own4.kept hg (own_ne h.own4 h.own5 (by decide)), ?_⟩
  rw [dcs_snoc, List.length_append]
  exact ho
end
/-- The relation of the loop of the reference's Scan. -/
def RefR (l : List UInt8) (b off : Nat) (w : World) (k : Nat) (v4 v5 v6 v7 v8 : Value) (wr : World) : Prop :=
  ∃ (T : List Tok) (D : List Dg) (p : Nat), p ≤ l.length ∧ l.length - p = k ∧ v6 = .int .i64 (lineOf l p) ∧ v7 = .int .i64 (fromOf l p) ∧ v8 = .int .i64 p ∧ T ++ toks l (nxt l p) = toks l (nxt l 0) ∧ D ++ dgs l (nxt l p) = dgs l (nxt l 0) ∧ RI l b off w v4 v5 T D wr

theorem isW_len (l : List UInt8) (h : isW l = true) : l.length ≤ 32 := by
  have hall : wordsL.all (fun x => decide (x.length ≤ 32)) = true := by decide
  unfold isW at h
  rw [List.contains_iff_mem] at h
  have := List.all_eq_true.1 hall l h
  simpa using this
theorem isB_iff (c : Int) (h0 : 0 ≤ c) (h1 : c ≤ 255) : isB c = (c == 10 || c == 32 || c == 9 || c == 13) := by
  unfold isB
  obtain ⟨n, rfl⟩ := Int.eq_ofNat_of_zero_le h0
  have hn : n < 256 := by omega
  have e : ∀ (m : Nat) (z : Int), m < 256 → z = m → (UInt8.ofNat n == UInt8.ofNat m) = ((n : Int) == z) := fun m z hm hz => by
    rw [Bool.eq_iff_iff]
    simp only [beq_iff_eq]
    constructor
    · intro h
      have h' := congrArg UInt8.toNat h
      simp only [UInt8.toNat_ofNat'] at h'
      omega
    · intro h
      have : n = m := by omega
      rw [this]
  have e1 := e 32 32 (by decide) rfl
  have e2 := e 9 9 (by decide) rfl
  have e3 := e 10 10 (by decide) rfl
  have e4 := e 13 13 (by decide) rfl
  simp only [Int.toNat_natCast, List.contains_cons, List.contains_nil, Bool.or_false]
  rw [show (32 : UInt8) = UInt8.ofNat 32 from rfl, show (9 : UInt8) = UInt8.ofNat 9 from rfl, show (10 : UInt8) = UInt8.ofNat 10 from rfl, show (13 : UInt8) = UInt8.ofNat 13 from rfl, e1, e2, e3, e4]
  cases ((n : Int) == 10) <;> cases ((n : Int) == 32) <;> cases ((n : Int) == 9) <;> simp

theorem bl_false {a b c : Bool} (h : ¬ (a || b || c) = true) : a = false ∧ b = false ∧ c = false := by
  cases a <;> cases b <;> cases c <;> simp_all
theorem tok_meet (l : List UInt8) (p q : Nat) (k n : Int) (h : p < l.length) (hn : nxt l p = p) (hk : ¬ kindA l p = 0) (hq : endA l p = q) (h1 : tkind (kindA l p) ((l.drop p).take (q - p)) = k) (h2 : tnum (kindA l p) ((l.drop p).take (q - p)) = n) :
    (⟨k, (l.drop p).take (q - p), n, lineOf l p, (p : Int) - fromOf l p + 1⟩ : Tok) :: toks l (nxt l q) = toks l (nxt l p) := by
  rw [hn, toks_one l p h hk, hq]
  unfold tokA textA
  rw [hq, h1, h2]
theorem dgs_meet0 (l : List UInt8) (p q : Nat) (D : List Dg) (h : p < l.length) (hn : nxt l p = p) (hq : endA l p = q) (he : errA l p = 0) : D ++ dgs l (nxt l q) = D ++ dgs l (nxt l p) := by
  rw [hn, dgs_skip l p h he, hq]
theorem dgs_meet1 (l : List UInt8) (p q : Nat) (D : List Dg) (e : Int) (h : p < l.length) (hn : nxt l p = p) (hq : endA l p = q) (he : errA l p = e) (h0 : ¬ e = 0) : (D ++ [⟨lineOf l p, (p : Int) - fromOf l p + 1, e⟩]) ++ dgs l (nxt l q) = D ++ dgs l (nxt l p) := by
  rw [hn, dgs_one l p h (by rw [he]; exact h0), hq]
  simp [dgA, he]
theorem kindA_L (l : List UInt8) (p : Nat) (h : isL (chr l p) = true) : kindA l p = 1 := by simp [kindA, kindI, h]
theorem kindA_D (l : List UInt8) (p : Nat) (h : isL (chr l p) = false) (h' : isD (chr l p) = true) : kindA l p = 3 := by simp [kindA, kindI, h, h']
theorem kindA_M (l : List UInt8) (p : Nat) (h : isL (chr l p) = false) (h' : isD (chr l p) = false) (h2 : isM (chr l p) = true) : kindA l p = 4 := by simp [kindA, kindI, h, h', h2]
theorem kindA_0 (l : List UInt8) (p : Nat) (h : isL (chr l p) = false) (h' : isD (chr l p) = false) (h2 : isM (chr l p) = false) : kindA l p = 0 := by simp [kindA, kindI, h, h', h2]
theorem endA_run (l : List UInt8) (p : Nat) (k : Int) (hk : kindA l p = k) (h0 : ¬ k = 0) (h61 : ¬ chr l p = 61) : endA l p = ends l k (p + 1) := by
  unfold endA endT
  rw [hk, if_neg h0, if_neg]
  intro hp
  have := (chr_pre2 _ hp).1
  rw [chr_drop] at this
  exact h61 this
theorem isL_ne (c : Int) (h : isL c = true) : ¬ c = 61 := fun e => by rw [e] at h; exact absurd h (by decide)
theorem isD_ne (c : Int) (h : isD c = true) : ¬ c = 61 := fun e => by rw [e] at h; exact absurd h (by decide)
theorem mk_end (l : List UInt8) (p : Nat) (h : p < l.length) (hk : kindA l p = 4) : (endA l p : Int) = p + mk l p ∧ 0 < mk l p := by
  have hM : isM (chr l p) = true := by
    unfold kindA kindI at hk
    split at hk
    · omega
    · split at hk
      · omega
      · split at hk
        · assumption
        · omega
  unfold endA endT mk
  rw [hk, if_neg (by decide)]
  by_cases hp : pre2 (l.drop p) = true
  · rw [if_pos hp, if_pos hp]; omega
  · rw [if_neg hp, if_neg hp, if_pos hM]
    have hr : ends l 4 (p + 1) = p + 1 := by
      by_cases hl : p + 1 < l.length
      · exact ends_stop l 4 (p + 1) hl (by simp [goes])
      · exact ends_end l 4 (p + 1) (by omega)
    rw [hr]; omega
theorem mk_none (l : List UInt8) (p : Nat) (h : isM (chr l p) = false) : mk l p = 0 := by
  unfold mk
  rw [if_neg, h]
  · rfl
  · intro hp
    have := (chr_pre2 _ hp).1
    rw [chr_drop] at this
    rw [show p + 0 = p from rfl] at this
    rw [this] at h
    exact absurd h (by decide)
end Go.Proofs.YtpeoefbibjbinaaGreat
