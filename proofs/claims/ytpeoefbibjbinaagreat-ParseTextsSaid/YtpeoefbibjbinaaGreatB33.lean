/- The document's parser, plainly, and the grammar: statements (written by gen_s.py); The document's parser, plainly, and the grammar: all parts of blocks. -/
import Derived.Test.YtpeoefbibjbinaaGreatB32
namespace Go.Proofs.YtpeoefbibjbinaaGreat
open Go.RowKit

theorem sim_call (T : List Tok) (n : Nat) (HT : Sim T n .term .term) (k m : Nat) (hn : n + 1 ≤ 1000000) (hT : T.length ≤ 1000000) (hm : m ≤ 64) (h2 : ((hd (T.drop k)).kind == 2) = true) (hw : (hd (T.drop k)).text = [99, 97, 108, 108]) (hnd : P (n + 1) .stmt (T.drop k) m ≠ .dry) : ∃ x, Ev T .stmt m (okS k) x ∧ Rel T (n + 1) k 0 (P (n + 1) .stmt (T.drop k) m) x := by
  have tl := dropD T k
  have hlt := sees_lt (T := T) (k := k) (x := 2) (by decide) h2
  have hs : ∀ l, seesW (T.drop k) l = l.contains (hd (T.drop k)).text := fun l => by unfold seesW seesK; rw [h2, Bool.true_and]
  have hP : P (n + 1) .stmt (T.drop k) m = (P n .term (T.drop (k + 1)) m).and fun d k' r' => tkM [[59]] r' fun _ r' => .ok (at_ (hd (T.drop k)) 15 [] 0) (one d k') r' := by
    rw [P]
    simp only [hs]
    rw [hw, if_neg (by decide), if_pos (by decide)]
    rw [tl]
    rfl
  have hQ : ∀ N, Q T (N + 1) .stmt m (okS k) = (Q T N .term m (okS (k + 1))).bind fun x => tq (at_ (hd (T.drop k)) 15 [] 0) [x.1] (sgn T [59] x.2).2 := fun N => by
    rw [Q, isKd_ok, h2, if_neg (by decide), rest_ok, hw, if_neg (by decide), if_neg (by decide), if_pos (by decide)]
    rfl
  rw [hP] at hnd ⊢
  obtain ⟨x, ⟨N, h1⟩, hr⟩ := HT (k + 1) m (by omega) hT hlt hm (and_nd hnd)
  obtain ⟨y, hy, hry⟩ := hr.finM (k0 := k) .nil (by simp only [Fo.size]; omega) hT hn (at_ (hd (T.drop k)) 15 [] 0) [59] rfl
  refine ⟨y, .step ⟨N, fun M hM => ?_⟩, hry⟩
  rw [hQ, h1 _ hM, Option.bind_some]
  exact hy

theorem sim_cancel (T : List Tok) (n : Nat) (HT : Sim T n .term .term) (k m : Nat) (hn : n + 1 ≤ 1000000) (hT : T.length ≤ 1000000) (hm : m ≤ 64) (h2 : ((hd (T.drop k)).kind == 2) = true) (hw : (hd (T.drop k)).text = [99, 97, 110, 99, 101, 108]) (hnd : P (n + 1) .stmt (T.drop k) m ≠ .dry) : ∃ x, Ev T .stmt m (okS k) x ∧ Rel T (n + 1) k 0 (P (n + 1) .stmt (T.drop k) m) x := by
  have tl := dropD T k
  have hlt := sees_lt (T := T) (k := k) (x := 2) (by decide) h2
  have hs : ∀ l, seesW (T.drop k) l = l.contains (hd (T.drop k)).text := fun l => by unfold seesW seesK; rw [h2, Bool.true_and]
  have hP : P (n + 1) .stmt (T.drop k) m = (P n .term (T.drop (k + 1)) m).and fun d k' r' => tkM [[59]] r' fun _ r' => .ok (at_ (hd (T.drop k)) 16 [] 0) (one d k') r' := by
    rw [P]
    simp only [hs]
    rw [hw, if_neg (by decide), if_pos (by decide)]
    rw [tl]
    rfl
  have hQ : ∀ N, Q T (N + 1) .stmt m (okS k) = (Q T N .term m (okS (k + 1))).bind fun x => tq (at_ (hd (T.drop k)) 16 [] 0) [x.1] (sgn T [59] x.2).2 := fun N => by
    rw [Q, isKd_ok, h2, if_neg (by decide), rest_ok, hw, if_neg (by decide), if_neg (by decide), if_neg (by decide), if_pos (by decide)]
    rfl
  rw [hP] at hnd ⊢
  obtain ⟨x, ⟨N, h1⟩, hr⟩ := HT (k + 1) m (by omega) hT hlt hm (and_nd hnd)
  obtain ⟨y, hy, hry⟩ := hr.finM (k0 := k) .nil (by simp only [Fo.size]; omega) hT hn (at_ (hd (T.drop k)) 16 [] 0) [59] rfl
  refine ⟨y, .step ⟨N, fun M hM => ?_⟩, hry⟩
  rw [hQ, h1 _ hM, Option.bind_some]
  exact hy

theorem sim_join (T : List Tok) (n : Nat) (HT : Sim T n .term .term) (k m : Nat) (hn : n + 1 ≤ 1000000) (hT : T.length ≤ 1000000) (hm : m ≤ 64) (h2 : ((hd (T.drop k)).kind == 2) = true) (hw : (hd (T.drop k)).text = [106, 111, 105, 110]) (hnd : P (n + 1) .stmt (T.drop k) m ≠ .dry) : ∃ x, Ev T .stmt m (okS k) x ∧ Rel T (n + 1) k 0 (P (n + 1) .stmt (T.drop k) m) x := by
  have tl := dropD T k
  have hlt := sees_lt (T := T) (k := k) (x := 2) (by decide) h2
  have hs : ∀ l, seesW (T.drop k) l = l.contains (hd (T.drop k)).text := fun l => by unfold seesW seesK; rw [h2, Bool.true_and]
  have hP : P (n + 1) .stmt (T.drop k) m = (P n .term (T.drop (k + 1)) m).and fun d k' r' => tkM [[59]] r' fun _ r' => .ok (at_ (hd (T.drop k)) 17 [] 0) (one d k') r' := by
    rw [P]
    simp only [hs]
    rw [hw, if_neg (by decide), if_pos (by decide)]
    rw [tl]
    rfl
  have hQ : ∀ N, Q T (N + 1) .stmt m (okS k) = (Q T N .term m (okS (k + 1))).bind fun x => tq (at_ (hd (T.drop k)) 17 [] 0) [x.1] (sgn T [59] x.2).2 := fun N => by
    rw [Q, isKd_ok, h2, if_neg (by decide), rest_ok, hw, if_neg (by decide), if_neg (by decide), if_neg (by decide), if_neg (by decide), if_pos (by decide)]
    rfl
  rw [hP] at hnd ⊢
  obtain ⟨x, ⟨N, h1⟩, hr⟩ := HT (k + 1) m (by omega) hT hlt hm (and_nd hnd)
  obtain ⟨y, hy, hry⟩ := hr.finM (k0 := k) .nil (by simp only [Fo.size]; omega) hT hn (at_ (hd (T.drop k)) 17 [] 0) [59] rfl
  refine ⟨y, .step ⟨N, fun M hM => ?_⟩, hry⟩
  rw [hQ, h1 _ hM, Option.bind_some]
  exact hy

theorem sim_log (T : List Tok) (n : Nat) (HT : Sim T n .term .term) (k m : Nat) (hn : n + 1 ≤ 1000000) (hT : T.length ≤ 1000000) (hm : m ≤ 64) (h2 : ((hd (T.drop k)).kind == 2) = true) (hw : (hd (T.drop k)).text = [108, 111, 103]) (hnd : P (n + 1) .stmt (T.drop k) m ≠ .dry) : ∃ x, Ev T .stmt m (okS k) x ∧ Rel T (n + 1) k 0 (P (n + 1) .stmt (T.drop k) m) x := by
  have tl := dropD T k
  have hlt := sees_lt (T := T) (k := k) (x := 2) (by decide) h2
  have hs : ∀ l, seesW (T.drop k) l = l.contains (hd (T.drop k)).text := fun l => by unfold seesW seesK; rw [h2, Bool.true_and]
  have hP : P (n + 1) .stmt (T.drop k) m = (P n .term (T.drop (k + 1)) m).and fun d k' r' => tkM [[59]] r' fun _ r' => .ok (at_ (hd (T.drop k)) 18 [] 0) (one d k') r' := by
    rw [P]
    simp only [hs]
    rw [hw, if_neg (by decide), if_pos (by decide)]
    rw [tl]
    rfl
  have hQ : ∀ N, Q T (N + 1) .stmt m (okS k) = (Q T N .term m (okS (k + 1))).bind fun x => tq (at_ (hd (T.drop k)) 18 [] 0) [x.1] (sgn T [59] x.2).2 := fun N => by
    rw [Q, isKd_ok, h2, if_neg (by decide), rest_ok, hw, if_neg (by decide), if_neg (by decide), if_neg (by decide), if_neg (by decide), if_neg (by decide), if_pos (by decide)]
    rfl
  rw [hP] at hnd ⊢
  obtain ⟨x, ⟨N, h1⟩, hr⟩ := HT (k + 1) m (by omega) hT hlt hm (and_nd hnd)
  obtain ⟨y, hy, hry⟩ := hr.finM (k0 := k) .nil (by simp only [Fo.size]; omega) hT hn (at_ (hd (T.drop k)) 18 [] 0) [59] rfl
  refine ⟨y, .step ⟨N, fun M hM => ?_⟩, hry⟩
  rw [hQ, h1 _ hM, Option.bind_some]
  exact hy

theorem sim_return (T : List Tok) (n : Nat) (k m : Nat) (hT : T.length ≤ 1000000) (h2 : ((hd (T.drop k)).kind == 2) = true) (hw : (hd (T.drop k)).text = [114, 101, 116, 117, 114, 110]) : ∃ x, Ev T .stmt m (okS k) x ∧ Rel T (n + 1) k 0 (P (n + 1) .stmt (T.drop k) m) x := by
  have tl := dropD T k
  have hlt := sees_lt (T := T) (k := k) (x := 2) (by decide) h2
  have hs : ∀ l, seesW (T.drop k) l = l.contains (hd (T.drop k)).text := fun l => by unfold seesW seesK; rw [h2, Bool.true_and]
  have hP : P (n + 1) .stmt (T.drop k) m = tkM [[59]] (T.drop (k + 1)) fun _ r' => .ok (at_ (hd (T.drop k)) 25 [] 0) .nil r' := by
    rw [P]
    simp only [hs]
    rw [hw, if_neg (by decide), if_neg (by decide), if_neg (by decide), if_neg (by decide), if_neg (by decide), if_neg (by decide), if_neg (by decide), if_pos (by decide)]
    rw [tl]
  have hQ : ∀ N, Q T (N + 1) .stmt m (okS k) = tq (at_ (hd (T.drop k)) 25 [] 0) [] (sgn T [59] (okS (k + 1))).2 := fun N => by
    rw [Q, isKd_ok, h2, if_neg (by decide), rest_ok, hw, if_neg (by decide), if_neg (by decide), if_neg (by decide), if_neg (by decide), if_neg (by decide), if_neg (by decide), if_neg (by decide), if_neg (by decide), if_neg (by decide), if_pos (by decide)]
    rfl
  rw [hP]
  cases c : seesM (T.drop (k + 1)) [[59]]
  · rw [tkM_no c]
    obtain ⟨hy, hry⟩ := twig_err (n := n) (Es := []) (k0 := k) (F := .nil) (j := k + 1) (er := 4) (at_ (hd (T.drop k)) 25 [] 0) (by simp only [Fo.size]; omega) (by omega) hlt hT (by decide) (by simp) (by simp)
    refine ⟨_, .step ⟨0, fun M _ => ?_⟩, hry⟩
    rw [hQ, sgnM_no rfl c]
    exact hy
  · have hlt2 := sees_k (T := T) (k := k + 1) (by decide) c
    rw [tkM_yes c, dropD]
    refine ⟨_, .step ⟨0, fun M _ => ?_⟩, k + 2, rfl, by omega, hlt2, rfl, by simp only [Fo.size]; omega⟩
    rw [hQ, sgnM_yes rfl c]
    exact leaf _ _

theorem sim_enable (T : List Tok) (n : Nat) (k m : Nat) (hT : T.length ≤ 1000000) (h2 : ((hd (T.drop k)).kind == 2) = true) (hw : (hd (T.drop k)).text = [101, 110, 97, 98, 108, 101]) : ∃ x, Ev T .stmt m (okS k) x ∧ Rel T (n + 1) k 0 (P (n + 1) .stmt (T.drop k) m) x := by
  have tl := dropD T k
  have hlt := sees_lt (T := T) (k := k) (x := 2) (by decide) h2
  have hs : ∀ l, seesW (T.drop k) l = l.contains (hd (T.drop k)).text := fun l => by unfold seesW seesK; rw [h2, Bool.true_and]
  have hP : P (n + 1) .stmt (T.drop k) m = tkK 1 (T.drop (k + 1)) fun nm r' => tkM [[59]] r' fun _ r' => .ok (at_ (hd (T.drop k)) 21 nm.text 0) .nil r' := by
    rw [P]
    simp only [hs]
    rw [hw, if_neg (by decide), if_neg (by decide), if_neg (by decide), if_neg (by decide), if_pos (by decide)]
    rw [tl]
    rfl
  have hQ : ∀ N, Q T (N + 1) .stmt m (okS k) = tq (at_ (hd (T.drop k)) 21 (knd T 1 (okS (k + 1))).1.text 0) [] (sgn T [59] (knd T 1 (okS (k + 1))).2).2 := fun N => by
    rw [Q, isKd_ok, h2, if_neg (by decide), rest_ok, hw, if_neg (by decide), if_neg (by decide), if_neg (by decide), if_neg (by decide), if_neg (by decide), if_neg (by decide), if_neg (by decide), if_pos (by decide)]
    rfl
  rw [hP]
  cases c1 : ((hd (T.drop (k + 1))).kind == 1)
  · rw [tkK_no c1]
    obtain ⟨hy, hry⟩ := twig_err (n := n) (Es := []) (k0 := k) (F := .nil) (j := k + 1) (er := 4) (at_ (hd (T.drop k)) 21 tok0'.text 0) (by simp only [Fo.size]; omega) (by omega) hlt hT (by decide) (by simp) (by simp)
    refine ⟨_, .step ⟨0, fun M _ => ?_⟩, hry⟩
    rw [hQ, knd_no c1]
    dsimp only
    rw [sgn_e (erS_er (by decide))]
    exact hy
  have hlt1 := sees_lt (T := T) (k := k + 1) (x := 1) (by decide) c1
  rw [tkK_yes c1, dropD]
  cases c : seesM (T.drop (k + 1 + 1)) [[59]]
  · rw [tkM_no c]
    obtain ⟨hy, hry⟩ := twig_err (n := n) (Es := []) (k0 := k) (F := .nil) (j := k + 1 + 1) (er := 4) (at_ (hd (T.drop k)) 21 (hd (T.drop (k + 1))).text 0) (by simp only [Fo.size]; omega) (by omega) hlt1 hT (by decide) (by simp) (by simp)
    refine ⟨_, .step ⟨0, fun M _ => ?_⟩, hry⟩
    rw [hQ, knd_yes c1]
    dsimp only
    rw [sgnM_no rfl c]
    exact hy
  · have hlt2 := sees_k (T := T) (k := k + 1 + 1) (by decide) c
    rw [tkM_yes c, dropD]
    refine ⟨_, .step ⟨0, fun M _ => ?_⟩, k + 3, rfl, by omega, hlt2, rfl, by simp only [Fo.size]; omega⟩
    rw [hQ, knd_yes c1]
    dsimp only
    rw [sgnM_yes rfl c]
    exact leaf _ _

theorem sim_disable (T : List Tok) (n : Nat) (k m : Nat) (hT : T.length ≤ 1000000) (h2 : ((hd (T.drop k)).kind == 2) = true) (hw : (hd (T.drop k)).text = [100, 105, 115, 97, 98, 108, 101]) : ∃ x, Ev T .stmt m (okS k) x ∧ Rel T (n + 1) k 0 (P (n + 1) .stmt (T.drop k) m) x := by
  have tl := dropD T k
  have hlt := sees_lt (T := T) (k := k) (x := 2) (by decide) h2
  have hs : ∀ l, seesW (T.drop k) l = l.contains (hd (T.drop k)).text := fun l => by unfold seesW seesK; rw [h2, Bool.true_and]
  have hP : P (n + 1) .stmt (T.drop k) m = tkK 1 (T.drop (k + 1)) fun nm r' => tkM [[59]] r' fun _ r' => .ok (at_ (hd (T.drop k)) 22 nm.text 0) .nil r' := by
    rw [P]
    simp only [hs]
    rw [hw, if_neg (by decide), if_neg (by decide), if_neg (by decide), if_neg (by decide), if_pos (by decide)]
    rw [tl]
    rfl
  have hQ : ∀ N, Q T (N + 1) .stmt m (okS k) = tq (at_ (hd (T.drop k)) 22 (knd T 1 (okS (k + 1))).1.text 0) [] (sgn T [59] (knd T 1 (okS (k + 1))).2).2 := fun N => by
    rw [Q, isKd_ok, h2, if_neg (by decide), rest_ok, hw, if_neg (by decide), if_neg (by decide), if_neg (by decide), if_neg (by decide), if_neg (by decide), if_neg (by decide), if_neg (by decide), if_neg (by decide), if_pos (by decide)]
    rfl
  rw [hP]
  cases c1 : ((hd (T.drop (k + 1))).kind == 1)
  · rw [tkK_no c1]
    obtain ⟨hy, hry⟩ := twig_err (n := n) (Es := []) (k0 := k) (F := .nil) (j := k + 1) (er := 4) (at_ (hd (T.drop k)) 22 tok0'.text 0) (by simp only [Fo.size]; omega) (by omega) hlt hT (by decide) (by simp) (by simp)
    refine ⟨_, .step ⟨0, fun M _ => ?_⟩, hry⟩
    rw [hQ, knd_no c1]
    dsimp only
    rw [sgn_e (erS_er (by decide))]
    exact hy
  have hlt1 := sees_lt (T := T) (k := k + 1) (x := 1) (by decide) c1
  rw [tkK_yes c1, dropD]
  cases c : seesM (T.drop (k + 1 + 1)) [[59]]
  · rw [tkM_no c]
    obtain ⟨hy, hry⟩ := twig_err (n := n) (Es := []) (k0 := k) (F := .nil) (j := k + 1 + 1) (er := 4) (at_ (hd (T.drop k)) 22 (hd (T.drop (k + 1))).text 0) (by simp only [Fo.size]; omega) (by omega) hlt1 hT (by decide) (by simp) (by simp)
    refine ⟨_, .step ⟨0, fun M _ => ?_⟩, hry⟩
    rw [hQ, knd_yes c1]
    dsimp only
    rw [sgnM_no rfl c]
    exact hy
  · have hlt2 := sees_k (T := T) (k := k + 1 + 1) (by decide) c
    rw [tkM_yes c, dropD]
    refine ⟨_, .step ⟨0, fun M _ => ?_⟩, k + 3, rfl, by omega, hlt2, rfl, by simp only [Fo.size]; omega⟩
    rw [hQ, knd_yes c1]
    dsimp only
    rw [sgnM_yes rfl c]
    exact leaf _ _

theorem sim_while (T : List Tok) (n : Nat) (HT : Sim T n .term .term) (HB : Sim T n .block .block) (k m : Nat) (hn : n + 1 ≤ 1000000) (hT : T.length ≤ 1000000) (hm : m ≤ 64) (h2 : ((hd (T.drop k)).kind == 2) = true) (hw : (hd (T.drop k)).text = [119, 104, 105, 108, 101]) (hnd : P (n + 1) .stmt (T.drop k) m ≠ .dry) : ∃ x, Ev T .stmt m (okS k) x ∧ Rel T (n + 1) k 0 (P (n + 1) .stmt (T.drop k) m) x := by
  have tl := dropD T k
  have hlt := sees_lt (T := T) (k := k) (x := 2) (by decide) h2
  have hs : ∀ l, seesW (T.drop k) l = l.contains (hd (T.drop k)).text := fun l => by unfold seesW seesK; rw [h2, Bool.true_and]
  have hP : P (n + 1) .stmt (T.drop k) m = (P n .term (T.drop (k + 1)) m).and fun d k' r' => (P n .block r' m).and fun d' k2 r' => .ok (at_ (hd (T.drop k)) 24 [] 0) ((one d k').app (one d' k2)) r' := by
    rw [P]
    simp only [hs]
    rw [hw, if_neg (by decide), if_neg (by decide), if_neg (by decide), if_neg (by decide), if_neg (by decide), if_neg (by decide), if_pos (by decide)]
    rw [tl]
  have hQ : ∀ N, Q T (N + 2) .stmt m (okS k) = (Q T N .term m (okS (k + 1))).bind fun x => (Q T N .block m x.2).bind fun y => tq (at_ (hd (T.drop k)) 24 [] 0) [x.1, y.1] y.2 := fun N => by
    rw [Q, isKd_ok, h2, if_neg (by decide), rest_ok, hw, if_pos (by decide), Q, isKd_ok, h2, if_neg (by decide), rest_ok, hw]
    rfl
  rw [hP] at hnd ⊢
  obtain ⟨x, ⟨N, h1⟩, hr⟩ := HT (k + 1) m (by omega) hT hlt hm (and_nd hnd)
  cases ho : P n .term (T.drop (k + 1)) m with
  | dry => rw [ho] at hr; exact hr.elim
  | bad er r =>
    rw [ho] at hr
    obtain ⟨j, rfl, q2, h3, h4, h5, h6, h7⟩ := hr
    obtain ⟨N2, g1⟩ := ev_block_e (T := T) (erS_er (k := j) h4) m (by omega)
    obtain ⟨hy, hry⟩ := twig_badE (Es := [twL (at_ tok0' 12 [] 0) []]) (k1 := k + 1) (k0 := k) (F := .nil) (X := x.1) (at_ (hd (T.drop k)) 24 [] 0) (by simp only [Fo.size]; omega) q2 (by omega) h3 hT hn h4 (by omega) (by simp [U0_len]) (by simp)
    refine ⟨_, ⟨N + N2 + 2, fun M hM => ?_⟩, hry⟩
    obtain ⟨M', rfl⟩ : ∃ M', M = M' + 2 := ⟨M - 2, by omega⟩
    rw [hQ, h1 _ (by omega), Option.bind_some, h5, g1 _ (by omega), Option.bind_some]
    exact hy
  | ok d f r =>
    rw [ho] at hr hnd
    obtain ⟨j, rfl, q2, h3, rfl, h5⟩ := hr
    dsimp only [Out.and] at hnd ⊢
    obtain ⟨y, ⟨N2, g1⟩, hr2⟩ := HB j m (by omega) hT h3 hm (and_nd hnd)
    obtain ⟨z, hz, hrz⟩ := hr2.fin (k0 := k) (one d f) (by rw [one_size]; omega) hT hn (at_ (hd (T.drop k)) 24 [] 0)
    refine ⟨z, ⟨N + N2 + 2, fun M hM => ?_⟩, hrz⟩
    obtain ⟨M', rfl⟩ : ∃ M', M = M' + 2 := ⟨M - 2, by omega⟩
    rw [hQ, h1 _ (by omega), Option.bind_some]
    dsimp only
    rw [g1 _ (by omega), Option.bind_some]
    exact hz

theorem typQ_yes {T : List Tok} {j : Nat} (h : isTyT (T.drop j) = true) : typQ T (okS j) = ((one (at_ (hd (T.drop j)) 5 (hd (T.drop j)).text 0) .nil).flat 0, okS (j + 1)) ∧ j < T.length := by
  unfold isTyT at h
  unfold typQ
  rw [isKd_ok]
  cases c : ((hd (T.drop j)).kind == 1)
  · rw [c, Bool.false_or] at h
    rw [if_neg (by decide)]
    unfold oneS
    rw [isIn_ok _ _ _ (by decide), h, takeS_yes]
    exact ⟨rfl, sees_k (c := 2) (by decide) h⟩
  · rw [if_pos rfl, rest_ok]
    exact ⟨rfl, sees_lt (x := 1) (by decide) c⟩
theorem typQ_no {T : List Tok} {j : Nat} (h : isTyT (T.drop j) = false) : typQ T (okS j) = (twL (at_ tok0' 5 [] 0) [], erS j 4) := by
  unfold isTyT at h
  rw [Bool.or_eq_false_iff] at h
  unfold typQ
  rw [isKd_ok, h.1, if_neg (by decide)]
  unfold oneS
  rw [isIn_ok _ _ _ (by decide), h.2]
  rfl
theorem tyO_yes {r : List Tok} (h : isTyT r = true) : tyO r = .ok (at_ (hd r) 5 (hd r).text 0) .nil r.tail := by unfold tyO tk; rw [if_pos h]
theorem tyO_no {r : List Tok} (h : isTyT r = false) : tyO r = .bad 4 r := by unfold tyO tk; rw [if_neg (by rw [h]; decide)]

theorem sim_vars (T : List Tok) (n : Nat) (HT : Sim T n .term .term) (k m : Nat) (hn : n + 1 ≤ 1000000) (hT : T.length ≤ 1000000) (hm : m ≤ 64) (h2 : ((hd (T.drop k)).kind == 2) = true) (hw : (hd (T.drop k)).text = [118, 97, 114]) (hnd : P (n + 1) .stmt (T.drop k) m ≠ .dry) : ∃ x, Ev T .stmt m (okS k) x ∧ Rel T (n + 1) k 0 (P (n + 1) .stmt (T.drop k) m) x := by
  have tl := dropD T k
  have hlt := sees_lt (T := T) (k := k) (x := 2) (by decide) h2
  have hs : ∀ l, seesW (T.drop k) l = l.contains (hd (T.drop k)).text := fun l => by unfold seesW seesK; rw [h2, Bool.true_and]
  have hP : P (n + 1) .stmt (T.drop k) m = tkK 1 (T.drop (k + 1)) fun nm r1 => (tyO r1).and fun y yk r2 => tkM [[61]] r2 fun _ r3 => (P n .term r3 m).and fun d kk r4 => tkM [[59]] r4 fun _ r5 => .ok (at_ (hd (T.drop k)) 13 nm.text 0) ((one y yk).app (one d kk)) r5 := by
    rw [P]
    simp only [hs]
    rw [hw, if_pos (by decide)]
    rw [tl]
  have hQ : ∀ N, Q T (N + 1) .stmt m (okS k) = (Q T N .term m (sgn T [61] (typQ T (knd T 1 (okS (k + 1))).2).2).2).bind fun x => tq (at_ (hd (T.drop k)) 13 (knd T 1 (okS (k + 1))).1.text 0) [(typQ T (knd T 1 (okS (k + 1))).2).1, x.1] (sgn T [59] x.2).2 := fun N => by
    rw [Q, isKd_ok, h2, if_neg (by decide), rest_ok, hw, if_neg (by decide), if_pos (by decide)]
    rfl
  rw [hP] at hnd ⊢
  cases c1 : ((hd (T.drop (k + 1))).kind == 1)
  · rw [tkK_no c1]
    obtain ⟨N2, g1⟩ := ev_term_e (T := T) (erS_er (k := k + 1) (e := 4) (by decide)) m
    obtain ⟨hy, hry⟩ := twig_err (n := n) (Es := [twL (at_ tok0' 5 [] 0) [], twL (at_ tok0' 29 [] 0) []]) (k0 := k) (F := .nil) (j := k + 1) (er := 4) (at_ (hd (T.drop k)) 13 tok0'.text 0) (by simp only [Fo.size]; omega) (by omega) hlt hT (by decide) (by simp [U0_len]) (by simp)
    refine ⟨_, .step ⟨N2, fun M hM => ?_⟩, hry⟩
    rw [hQ, knd_no c1]
    dsimp only
    rw [typQ_e (erS_er (by decide))]
    dsimp only
    rw [sgn_e (erS_er (by decide))]
    dsimp only
    rw [g1 _ hM, Option.bind_some]
    dsimp only
    rw [sgn_e (erS_er (by decide))]
    exact hy
  have hlt1 := sees_lt (T := T) (k := k + 1) (x := 1) (by decide) c1
  rw [tkK_yes c1, dropD] at hnd ⊢
  cases c2 : isTyT (T.drop (k + 1 + 1))
  · rw [tyO_no c2]
    dsimp only [Out.and]
    obtain ⟨N2, g1⟩ := ev_term_e (T := T) (erS_er (k := k + 1 + 1) (e := 4) (by decide)) m
    obtain ⟨hy, hry⟩ := twig_err (n := n) (Es := [twL (at_ tok0' 5 [] 0) [], twL (at_ tok0' 29 [] 0) []]) (k0 := k) (F := .nil) (j := k + 1 + 1) (er := 4) (at_ (hd (T.drop k)) 13 (hd (T.drop (k + 1))).text 0) (by simp only [Fo.size]; omega) (by omega) hlt1 hT (by decide) (by simp [U0_len]) (by simp)
    refine ⟨_, .step ⟨N2, fun M hM => ?_⟩, hry⟩
    rw [hQ, knd_yes c1]
    dsimp only
    rw [typQ_no c2]
    dsimp only
    rw [sgn_e (erS_er (by decide))]
    dsimp only
    rw [g1 _ hM, Option.bind_some]
    dsimp only
    rw [sgn_e (erS_er (by decide))]
    exact hy
  obtain ⟨ty, hlt2⟩ := typQ_yes c2
  rw [tyO_yes c2, dropD] at hnd ⊢
  dsimp only [Out.and] at hnd ⊢
  generalize at_ (hd (T.drop (k + 1 + 1))) 5 (hd (T.drop (k + 1 + 1))).text 0 = Y at *
  cases c3 : seesM (T.drop (k + 1 + 1 + 1)) [[61]]
  · rw [tkM_no c3]
    obtain ⟨N2, g1⟩ := ev_term_e (T := T) (erS_er (k := k + 1 + 1 + 1) (e := 4) (by decide)) m
    obtain ⟨hy, hry⟩ := twig_err (n := n) (Es := [twL (at_ tok0' 29 [] 0) []]) (k0 := k) (F := one Y .nil) (j := k + 1 + 1 + 1) (er := 4) (at_ (hd (T.drop k)) 13 (hd (T.drop (k + 1))).text 0) (by simp only [one_size, Fo.size]; omega) (by omega) hlt2 hT (by decide) (by simp [U0_len]) (by simp)
    refine ⟨_, .step ⟨N2, fun M hM => ?_⟩, hry⟩
    rw [hQ, knd_yes c1]
    dsimp only
    rw [ty]
    dsimp only
    rw [sgnM_no rfl c3]
    dsimp only
    rw [g1 _ hM, Option.bind_some]
    dsimp only
    rw [sgn_e (erS_er (by decide))]
    exact hy
  have hlt3 := sees_k (T := T) (k := k + 1 + 1 + 1) (by decide) c3
  rw [tkM_yes c3, dropD] at hnd ⊢
  obtain ⟨x, ⟨N, h1⟩, hr⟩ := HT (k + 1 + 1 + 1 + 1) m (by omega) hT hlt3 hm (and_nd hnd)
  obtain ⟨y, hy, hry⟩ := hr.finM (k0 := k) (one Y .nil) (by simp only [one_size, Fo.size]; omega) hT hn (at_ (hd (T.drop k)) 13 (hd (T.drop (k + 1))).text 0) [59] rfl
  refine ⟨y, .step ⟨N, fun M hM => ?_⟩, hry⟩
  rw [hQ, knd_yes c1]
  dsimp only
  rw [ty]
  dsimp only
  rw [sgnM_yes rfl c3]
  dsimp only
  rw [h1 _ hM, Option.bind_some]
  exact hy

theorem sim_if (T : List Tok) (n : Nat) (HT : Sim T n .term .term) (HB : Sim T n .block .block) (k m : Nat) (hn : n + 1 ≤ 1000000) (hT : T.length ≤ 1000000) (hm : m ≤ 64) (h2 : ((hd (T.drop k)).kind == 2) = true) (hw : (hd (T.drop k)).text = [105, 102]) (hnd : P (n + 1) .stmt (T.drop k) m ≠ .dry) : ∃ x, Ev T .stmt m (okS k) x ∧ Rel T (n + 1) k 0 (P (n + 1) .stmt (T.drop k) m) x := by
  have tl := dropD T k
  have hlt := sees_lt (T := T) (k := k) (x := 2) (by decide) h2
  have hs : ∀ l, seesW (T.drop k) l = l.contains (hd (T.drop k)).text := fun l => by unfold seesW seesK; rw [h2, Bool.true_and]
  have hP : P (n + 1) .stmt (T.drop k) m = (P n .term (T.drop (k + 1)) m).and fun d k1 r1 => (P n .block r1 m).and fun d' k2 r2 => if seesW r2 [[101, 108, 115, 101]] = true then (P n .block r2.tail m).and fun d'' k3 r3 => .ok (at_ (hd (T.drop k)) 23 [] 0) ((one d k1).app ((one d' k2).app (one d'' k3))) r3 else .ok (at_ (hd (T.drop k)) 23 [] 0) ((one d k1).app ((one d' k2).app (one (at_ (hd (T.drop k)) 12 [] 0) .nil))) r2 := by
    rw [P]
    simp only [hs]
    rw [hw, if_neg (by decide), if_neg (by decide), if_neg (by decide), if_neg (by decide), if_neg (by decide), if_pos (by decide)]
    rw [tl]
  have hQ : ∀ N, Q T (N + 2) .stmt m (okS k) = (Q T N .term m (okS (k + 1))).bind fun x => (Q T N .block m x.2).bind fun y => if isT T [101, 108, 115, 101] y.2 = true then (Q T N .block m (skp y.2)).bind fun z => tq (at_ (hd (T.drop k)) 23 [] 0) [x.1, y.1, z.1] z.2 else tq (at_ (hd (T.drop k)) 23 [] 0) [x.1, y.1, twL (at_ (hd (T.drop k)) 12 [] 0) []] y.2 := fun N => by
    rw [Q, isKd_ok, h2, if_neg (by decide), rest_ok, hw, if_pos (by decide), Q, isKd_ok, h2, if_neg (by decide), rest_ok, hw]
    rfl
  rw [hP] at hnd ⊢
  obtain ⟨x, ⟨N, h1⟩, hr⟩ := HT (k + 1) m (by omega) hT hlt hm (and_nd hnd)
  cases ho : P n .term (T.drop (k + 1)) m with
  | dry => rw [ho] at hr; exact hr.elim
  | bad er r =>
    rw [ho] at hr
    obtain ⟨j, rfl, q2, h3, h4, h5, h6, h7⟩ := hr
    obtain ⟨N2, g1⟩ := ev_block_e (T := T) (erS_er (k := j) h4) m (by omega)
    obtain ⟨hy, hry⟩ := twig_badE (Es := [twL (at_ tok0' 12 [] 0) [], twL (at_ (hd (T.drop k)) 12 [] 0) []]) (k1 := k + 1) (k0 := k) (F := .nil) (X := x.1) (at_ (hd (T.drop k)) 23 [] 0) (by simp only [Fo.size]; omega) q2 (by omega) h3 hT hn h4 (by omega) (by simp [U0_len]) (by simp)
    refine ⟨_, ⟨N + N2 + 2, fun M hM => ?_⟩, hry⟩
    obtain ⟨M', rfl⟩ : ∃ M', M = M' + 2 := ⟨M - 2, by omega⟩
    rw [hQ, h1 _ (by omega), Option.bind_some, h5, g1 _ (by omega), Option.bind_some]
    dsimp only
    rw [isT_e (erS_er h4), if_neg (by decide)]
    exact hy
  | ok d f r =>
    rw [ho] at hr hnd
    obtain ⟨j, rfl, q2, h3, rfl, h5⟩ := hr
    dsimp only [Out.and] at hnd ⊢
    obtain ⟨y, ⟨N2, g1⟩, hr2⟩ := HB j m (by omega) hT h3 hm (and_nd hnd)
    cases ho2 : P n .block (T.drop j) m with
    | dry => rw [ho2] at hr2; exact hr2.elim
    | bad er r =>
      rw [ho2] at hr2
      obtain ⟨j2, rfl, q3, h8, h9, h10, h11, h12⟩ := hr2
      obtain ⟨hy, hry⟩ := twig_badE (Es := [twL (at_ (hd (T.drop k)) 12 [] 0) []]) (k1 := j) (k0 := k) (F := one d f) (X := y.1) (at_ (hd (T.drop k)) 23 [] 0) (by rw [one_size]; omega) q3 (by omega) h8 hT hn h9 (by omega) (by simp [U0_len]) (by simp)
      refine ⟨_, ⟨N + N2 + 2, fun M hM => ?_⟩, hry⟩
      obtain ⟨M', rfl⟩ : ∃ M', M = M' + 2 := ⟨M - 2, by omega⟩
      rw [hQ, h1 _ (by omega), Option.bind_some]
      dsimp only
      rw [g1 _ (by omega), Option.bind_some, h10, isT_e (erS_er h9), if_neg (by decide)]
      exact hy
    | ok d' f' r =>
      rw [ho2] at hr2 hnd
      obtain ⟨j2, rfl, q3, h8, rfl, h9⟩ := hr2
      dsimp only [Out.and] at hnd ⊢
      cases ce : seesW (T.drop j2) [[101, 108, 115, 101]]
      · simp only [Bool.false_eq_true, if_false]
        have e : [(one d f).flat 0, (one d' f').flat 0, twL (at_ (hd (T.drop k)) 12 [] 0) []] = ((one d f).app ((one d' f').app (one (at_ (hd (T.drop k)) 12 [] 0) .nil))).rows := by
          rw [Fo.rows_app, Fo.rows_app, one_rows, one_rows, one_rows]
          rfl
        have hs2 : ((one d f).app ((one d' f').app (one (at_ (hd (T.drop k)) 12 [] 0) .nil))).size = f.size + 1 + (f'.size + 1 + 1) := by rw [Fo.size_app, Fo.size_app, one_size, one_size, one_size]; rfl
        refine ⟨_, ⟨N + N2 + 2, fun M hM => ?_⟩, j2, rfl, by omega, h8, rfl, by rw [hs2]; omega⟩
        obtain ⟨M', rfl⟩ : ∃ M', M = M' + 2 := ⟨M - 2, by omega⟩
        rw [hQ, h1 _ (by omega), Option.bind_some]
        dsimp only
        rw [g1 _ (by omega), Option.bind_some]
        dsimp only
        rw [isW_ok _ _ _ rfl, ce, if_neg (by decide), e]
        exact tq_rows (by rw [hs2]; omega)
      · have hlt4 := sees_k (T := T) (k := j2) (by decide) ce
        rw [ce] at hnd
        simp only [if_true, dropD] at hnd ⊢
        obtain ⟨z, ⟨N3, e1⟩, hr3⟩ := HB (j2 + 1) m (by omega) hT hlt4 hm (and_nd hnd)
        obtain ⟨u, hu, hru⟩ := hr3.fin (k0 := k) ((one d f).app (one d' f')) (by rw [Fo.size_app, one_size, one_size]; omega) hT hn (at_ (hd (T.drop k)) 23 [] 0)
        have ea : ∀ (dd : Nd) (ff : Fo), ((one d f).app (one d' f')).app (one dd ff) = (one d f).app ((one d' f').app (one dd ff)) := fun _ _ => rfl
        simp only [ea] at hru
        refine ⟨u, ⟨N + N2 + N3 + 2, fun M hM => ?_⟩, hru⟩
        obtain ⟨M', rfl⟩ : ∃ M', M = M' + 2 := ⟨M - 2, by omega⟩
        rw [hQ, h1 _ (by omega), Option.bind_some]
        dsimp only
        rw [g1 _ (by omega), Option.bind_some]
        dsimp only
        rw [isW_ok _ _ _ rfl, ce, if_pos rfl, skp_ok, e1 _ (by omega), Option.bind_some]
        rw [Fo.rows_app, one_rows, one_rows] at hu
        exact hu

/-- Behind a post's or a spawn's term: where it goes to. -/
theorem sim_to (T : List Tok) (n : Nat) (HV : ∀ i, i < n → Sim T i .var .var) (D : Nd) (acc : Fo) (k0 j m : Nat) (hn : n ≤ 1000000) (hT : T.length ≤ 1000000) (hj : j ≤ T.length) (hk : k0 ≤ j) (ha : acc.size + 2 * k0 + 1 ≤ 2 * j) (hm : m ≤ 64) (hnd : P n (.to D acc) (T.drop j) m ≠ .dry) :
    ∃ x, (∃ N, ∀ M, N ≤ M → (if isT T [116, 111] (okS j) = true then (Q T M .var m (skp (okS j))).bind fun v => tq D (acc.rows ++ [v.1]) v.2 else tq D acc.rows (okS j)) = some x) ∧ Rel T (n + 1) k0 0 (P n (.to D acc) (T.drop j) m) (x.1, (sgn T [59] x.2).2) := by
  cases n with
  | zero => exact absurd rfl hnd
  | succ n =>
    have tl := dropD T j
    have hrl := rows_le acc
    cases c : seesW (T.drop j) [[116, 111]]
    · have hP : P (n + 1) (.to D acc) (T.drop j) m = tkM [[59]] (T.drop j) fun _ r' => .ok D acc r' := by rw [P]; simp only [c, Bool.false_eq_true, if_false]
      rw [hP]
      refine ⟨((one D acc).flat 0, okS j), ⟨0, fun M _ => ?_⟩, ?_⟩
      · rw [isW_ok _ _ _ rfl, c, if_neg (by decide)]
        exact tq_rows (by omega)
      · cases cs : seesM (T.drop j) [[59]]
        · rw [tkM_no cs]
          dsimp only
          rw [sgnM_no rfl cs]
          exact ⟨j, rfl, hk, hj, by decide, rfl, by dsimp only; rw [flat_len1]; omega, by dsimp only; rw [flat_len1]; omega⟩
        · have hlt := sees_k (T := T) (k := j) (by decide) cs
          rw [tkM_yes cs, tl]
          dsimp only
          rw [sgnM_yes rfl cs]
          exact ⟨j + 1, rfl, by omega, hlt, rfl, by omega⟩
    · have hlt := sees_k (T := T) (k := j) (by decide) c
      have hP : P (n + 1) (.to D acc) (T.drop j) m = (P n .var (T.drop (j + 1)) m).and fun d' k' r' => tkM [[59]] r' fun _ r'' => .ok D (acc.app (one d' k')) r'' := by rw [P]; simp only [c, if_true, tl]
      rw [hP] at hnd ⊢
      obtain ⟨v, ⟨N, h1⟩, hr⟩ := HV n (Nat.lt_succ_self n) (j + 1) m (by omega) hT hlt hm (and_nd hnd)
      have hq : ∀ M, (if isT T [116, 111] (okS j) = true then (Q T M .var m (skp (okS j))).bind fun v => tq D (acc.rows ++ [v.1]) v.2 else tq D acc.rows (okS j)) = (Q T M .var m (okS (j + 1))).bind fun v => tq D (acc.rows ++ [v.1]) v.2 := fun M => by rw [isW_ok _ _ _ rfl, c, if_pos rfl, skp_ok]
      cases ho : P n .var (T.drop (j + 1)) m with
      | dry => rw [ho] at hr; exact hr.elim
      | bad er r =>
        rw [ho] at hr
        obtain ⟨j2, rfl, q3, h3, h4, h5, h6, h7⟩ := hr
        obtain ⟨hy, hry⟩ := twig_badE (Es := []) (k1 := j + 1) (k0 := k0) (F := acc) (X := v.1) D (by omega) q3 (by omega) h3 hT (by omega) h4 (by omega) (by simp) (by simp)
        refine ⟨(twL D (acc.rows ++ [v.1]), erS j2 er), ⟨N, fun M hM => ?_⟩, ?_⟩
        · rw [hq, h1 _ hM, Option.bind_some, h5]
          exact hy
        · dsimp only
          rw [sgn_e (erS_er h4)]
          exact hry.mono (by omega)
      | ok d' k' r =>
        rw [ho] at hr
        obtain ⟨j2, rfl, q3, h3, rfl, h5⟩ := hr
        dsimp only [Out.and]
        have e : acc.rows ++ [((one d' k').flat 0, okS j2).1] = (acc.app (one d' k')).rows := by rw [Fo.rows_app, one_rows]
        refine ⟨((one D (acc.app (one d' k'))).flat 0, okS j2), ⟨N, fun M hM => ?_⟩, ?_⟩
        · rw [hq, h1 _ hM, Option.bind_some, e]
          exact tq_rows (by rw [Fo.size_app, one_size]; omega)
        · cases cs : seesM (T.drop j2) [[59]]
          · rw [tkM_no cs]
            dsimp only
            rw [sgnM_no rfl cs]
            exact ⟨j2, rfl, by omega, h3, by decide, rfl, by dsimp only; rw [flat_len1]; omega, by dsimp only; rw [flat_len1, Fo.size_app, one_size]; omega⟩
          · have hlt2 := sees_k (T := T) (k := j2) (by decide) cs
            rw [tkM_yes cs, dropD]
            dsimp only
            rw [sgnM_yes rfl cs]
            exact ⟨j2 + 1, rfl, by omega, hlt2, rfl, by rw [Fo.size_app, one_size]; omega⟩

theorem sim_spawn (T : List Tok) (n : Nat) (HT : Sim T n .term .term) (HV : ∀ i, i < n → Sim T i .var .var) (k m : Nat) (hn : n + 1 ≤ 1000000) (hT : T.length ≤ 1000000) (hm : m ≤ 64) (h2 : ((hd (T.drop k)).kind == 2) = true) (hw : (hd (T.drop k)).text = [115, 112, 97, 119, 110]) (hnd : P (n + 1) .stmt (T.drop k) m ≠ .dry) : ∃ x, Ev T .stmt m (okS k) x ∧ Rel T (n + 1) k 0 (P (n + 1) .stmt (T.drop k) m) x := by
  have tl := dropD T k
  have hlt := sees_lt (T := T) (k := k) (x := 2) (by decide) h2
  have hs : ∀ l, seesW (T.drop k) l = l.contains (hd (T.drop k)).text := fun l => by unfold seesW seesK; rw [h2, Bool.true_and]
  have hP : P (n + 1) .stmt (T.drop k) m = (P n .term (T.drop (k + 1)) m).and fun d k1 r1 => P n (.to (at_ (hd (T.drop k)) 20 [] 0) (one d k1)) r1 m := by
    rw [P]
    simp only [hs]
    rw [hw, if_neg (by decide), if_neg (by decide), if_neg (by decide), if_pos (by decide)]
    rw [tl]
  have hQ : ∀ N, Q T (N + 2) .stmt m (okS k) = ((Q T N .term m (okS (k + 1))).bind fun x => if isT T [116, 111] x.2 = true then (Q T N .var m (skp x.2)).bind fun v => tq (at_ (hd (T.drop k)) 20 [] 0) [x.1, v.1] v.2 else tq (at_ (hd (T.drop k)) 20 [] 0) [x.1] x.2).bind fun x => some (x.1, (sgn T [59] x.2).2) := fun N => by
    rw [Q, isKd_ok, h2, if_neg (by decide), rest_ok, hw, if_neg (by decide), if_neg (by decide), if_neg (by decide), if_neg (by decide), if_neg (by decide), if_neg (by decide), if_pos (by decide), Q, isKd_ok, h2, if_neg (by decide), rest_ok, hw, if_neg (by decide)]
    rfl
  rw [hP] at hnd ⊢
  obtain ⟨x, ⟨N, h1⟩, hr⟩ := HT (k + 1) m (by omega) hT hlt hm (and_nd hnd)
  cases ho : P n .term (T.drop (k + 1)) m with
  | dry => rw [ho] at hr; exact hr.elim
  | bad er r =>
    rw [ho] at hr
    obtain ⟨j, rfl, q2, h3, h4, h5, h6, h7⟩ := hr
    obtain ⟨hy, hry⟩ := twig_badE (Es := []) (k1 := k + 1) (k0 := k) (F := .nil) (X := x.1) (at_ (hd (T.drop k)) 20 [] 0) (by simp only [Fo.size]; omega) q2 (by omega) h3 hT hn h4 (by omega) (by simp) (by simp)
    refine ⟨_, ⟨N + 2, fun M hM => ?_⟩, hry⟩
    obtain ⟨M', rfl⟩ : ∃ M', M = M' + 2 := ⟨M - 2, by omega⟩
    rw [hQ, h1 _ (by omega), Option.bind_some, h5, isT_e (erS_er h4), if_neg (by decide)]
    exact (congrArg (fun o : Option (List Tw × Sg) => o.bind fun x => some (x.1, (sgn T [59] x.2).2)) hy).trans (by rw [Option.bind_some]; dsimp only; rw [sgn_e (erS_er h4)])
  | ok d f r =>
    rw [ho] at hr hnd
    obtain ⟨j, rfl, q2, h3, rfl, h5⟩ := hr
    dsimp only [Out.and] at hnd ⊢
    obtain ⟨y, ⟨N2, g1⟩, hry⟩ := sim_to T n HV (at_ (hd (T.drop k)) 20 [] 0) (one d f) k j m (by omega) hT h3 (by omega) (by rw [one_size]; omega) hm hnd
    refine ⟨_, ⟨N + N2 + 2, fun M hM => ?_⟩, hry⟩
    obtain ⟨M', rfl⟩ : ∃ M', M = M' + 2 := ⟨M - 2, by omega⟩
    have := g1 M' (by omega)
    rw [one_rows] at this
    rw [hQ, h1 _ (by omega), Option.bind_some]
    dsimp only
    exact (congrArg (fun o : Option (List Tw × Sg) => o.bind fun x => some (x.1, (sgn T [59] x.2).2)) this).trans rfl

theorem sim_post (T : List Tok) (n : Nat) (HT : Sim T n .term .term) (HV : ∀ i, i < n → Sim T i .var .var) (k m : Nat) (hn : n + 1 ≤ 1000000) (hT : T.length ≤ 1000000) (hm : m ≤ 64) (h2 : ((hd (T.drop k)).kind == 2) = true) (hw : (hd (T.drop k)).text = [112, 111, 115, 116]) (hnd : P (n + 1) .stmt (T.drop k) m ≠ .dry) : ∃ x, Ev T .stmt m (okS k) x ∧ Rel T (n + 1) k 0 (P (n + 1) .stmt (T.drop k) m) x := by
  have tl := dropD T k
  have hlt := sees_lt (T := T) (k := k) (x := 2) (by decide) h2
  have hs : ∀ l, seesW (T.drop k) l = l.contains (hd (T.drop k)).text := fun l => by unfold seesW seesK; rw [h2, Bool.true_and]
  have hP : P (n + 1) .stmt (T.drop k) m = tkK 1 (T.drop (k + 1)) fun nm r0 => (P n .term r0 m).and fun d k1 r1 => if seesW r1 [[97, 102, 116, 101, 114]] = true then tkK 3 r1.tail fun x r2 => P n (.to (at_ (hd (T.drop k)) 19 nm.text x.n) (one d k1)) r2 m else if seesW r1 [[102, 114, 111, 110, 116]] = true then P n (.to (at_ (hd (T.drop k)) 19 nm.text (-1)) (one d k1)) r1.tail m else P n (.to (at_ (hd (T.drop k)) 19 nm.text 0) (one d k1)) r1 m := by
    rw [P]
    simp only [hs]
    rw [hw, if_neg (by decide), if_neg (by decide), if_pos (by decide)]
    rw [tl]
  have hQ : ∀ N, Q T (N + 2) .stmt m (okS k) = ((Q T N .term m (knd T 1 (okS (k + 1))).2).bind fun x => if isT T [116, 111] (postA T x.2).2 = true then (Q T N .var m (skp (postA T x.2).2)).bind fun v => tq (at_ (hd (T.drop k)) 19 (knd T 1 (okS (k + 1))).1.text (postA T x.2).1) [x.1, v.1] v.2 else tq (at_ (hd (T.drop k)) 19 (knd T 1 (okS (k + 1))).1.text (postA T x.2).1) [x.1] (postA T x.2).2).bind fun x => some (x.1, (sgn T [59] x.2).2) := fun N => by
    rw [Q, isKd_ok, h2, if_neg (by decide), rest_ok, hw, if_neg (by decide), if_neg (by decide), if_neg (by decide), if_neg (by decide), if_neg (by decide), if_neg (by decide), if_pos (by decide), Q, isKd_ok, h2, if_neg (by decide), rest_ok, hw, if_pos rfl]
    rfl
  have pe : ∀ (j : Nat) (er : Int), er ≠ 0 → postA T (erS j er) = (0, erS j er) := fun j er h => by
    unfold postA
    rw [isT_e (erS_er h), if_neg (by decide), isT_e (erS_er h), if_neg (by decide)]
  rw [hP] at hnd ⊢
  cases c1 : ((hd (T.drop (k + 1))).kind == 1)
  · rw [tkK_no c1]
    obtain ⟨N2, g1⟩ := ev_term_e (T := T) (erS_er (k := k + 1) (e := 4) (by decide)) m
    obtain ⟨hy, hry⟩ := twig_err (n := n) (Es := [twL (at_ tok0' 29 [] 0) []]) (k0 := k) (F := .nil) (j := k + 1) (er := 4) (at_ (hd (T.drop k)) 19 tok0'.text 0) (by simp only [Fo.size]; omega) (by omega) hlt hT (by decide) (by simp [U0_len]) (by simp)
    refine ⟨_, ⟨N2 + 2, fun M hM => ?_⟩, hry⟩
    obtain ⟨M', rfl⟩ : ∃ M', M = M' + 2 := ⟨M - 2, by omega⟩
    rw [hQ, knd_no c1]
    dsimp only
    rw [g1 _ (by omega), Option.bind_some]
    dsimp only
    rw [pe _ _ (by decide)]
    dsimp only
    rw [isT_e (erS_er (by decide)), if_neg (by decide)]
    exact (congrArg (fun o : Option (List Tw × Sg) => o.bind fun x => some (x.1, (sgn T [59] x.2).2)) hy).trans (by rw [Option.bind_some]; dsimp only; rw [sgn_e (erS_er (by decide))])
  have hlt1 := sees_lt (T := T) (k := k + 1) (x := 1) (by decide) c1
  rw [tkK_yes c1, dropD] at hnd ⊢
  obtain ⟨x, ⟨N, h1⟩, hr⟩ := HT (k + 1 + 1) m (by omega) hT hlt1 hm (and_nd hnd)
  cases ho : P n .term (T.drop (k + 1 + 1)) m with
  | dry => rw [ho] at hr; exact hr.elim
  | bad er r =>
    rw [ho] at hr
    obtain ⟨j, rfl, q2, h3, h4, h5, h6, h7⟩ := hr
    obtain ⟨hy, hry⟩ := twig_badE (Es := []) (k1 := k + 1 + 1) (k0 := k) (F := .nil) (X := x.1) (at_ (hd (T.drop k)) 19 (hd (T.drop (k + 1))).text 0) (by simp only [Fo.size]; omega) q2 (by omega) h3 hT hn h4 (by omega) (by simp) (by simp)
    refine ⟨_, ⟨N + 2, fun M hM => ?_⟩, hry⟩
    obtain ⟨M', rfl⟩ : ∃ M', M = M' + 2 := ⟨M - 2, by omega⟩
    rw [hQ, knd_yes c1]
    dsimp only
    rw [h1 _ (by omega), Option.bind_some, h5, pe _ _ h4]
    dsimp only
    rw [isT_e (erS_er h4), if_neg (by decide)]
    exact (congrArg (fun o : Option (List Tw × Sg) => o.bind fun x => some (x.1, (sgn T [59] x.2).2)) hy).trans (by rw [Option.bind_some]; dsimp only; rw [sgn_e (erS_er h4)])
  | ok d f r =>
    rw [ho] at hr hnd
    obtain ⟨j, rfl, q2, h3, rfl, h5⟩ := hr
    dsimp only [Out.and] at hnd ⊢
    -- the tail, from a place on
    have key : ∀ (nn : Int) (j2 : Nat), postA T (okS j) = (nn, okS j2) → j ≤ j2 → j2 ≤ T.length → P n (.to (at_ (hd (T.drop k)) 19 (hd (T.drop (k + 1))).text nn) (one d f)) (T.drop j2) m ≠ .dry → ∃ x, Ev T .stmt m (okS k) x ∧ Rel T (n + 1) k 0 (P n (.to (at_ (hd (T.drop k)) 19 (hd (T.drop (k + 1))).text nn) (one d f)) (T.drop j2) m) x := by
      intro nn j2 hp hj2 hj3 hnd2
      obtain ⟨y, ⟨N2, g1⟩, hry⟩ := sim_to T n HV (at_ (hd (T.drop k)) 19 (hd (T.drop (k + 1))).text nn) (one d f) k j2 m (by omega) hT hj3 (by omega) (by rw [one_size]; omega) hm hnd2
      refine ⟨_, ⟨N + N2 + 2, fun M hM => ?_⟩, hry⟩
      obtain ⟨M', rfl⟩ : ∃ M', M = M' + 2 := ⟨M - 2, by omega⟩
      have := g1 M' (by omega)
      rw [one_rows] at this
      rw [hQ, knd_yes c1]
      dsimp only
      rw [h1 _ (by omega), Option.bind_some]
      dsimp only
      rw [hp]
      exact (congrArg (fun o : Option (List Tw × Sg) => o.bind fun x => some (x.1, (sgn T [59] x.2).2)) this).trans rfl
    cases ca : seesW (T.drop j) [[97, 102, 116, 101, 114]]
    · rw [ca] at hnd
      simp only [Bool.false_eq_true, if_false] at hnd ⊢
      cases cf : seesW (T.drop j) [[102, 114, 111, 110, 116]]
      · rw [cf] at hnd
        simp only [Bool.false_eq_true, if_false] at hnd ⊢
        exact key 0 j (by unfold postA; rw [isW_ok _ _ _ rfl, ca, if_neg (by decide), isW_ok _ _ _ rfl, cf, if_neg (by decide)]) (Nat.le_refl _) h3 hnd
      · have hlt3 := sees_k (T := T) (k := j) (by decide) cf
        rw [cf] at hnd
        simp only [if_true, dropD] at hnd ⊢
        exact key (-1) (j + 1) (by unfold postA; rw [isW_ok _ _ _ rfl, ca, if_neg (by decide), isW_ok _ _ _ rfl, cf, if_pos rfl, skp_ok]) (by omega) hlt3 hnd
    · have hlt3 := sees_k (T := T) (k := j) (by decide) ca
      rw [ca] at hnd
      simp only [if_true, dropD] at hnd ⊢
      cases c3 : ((hd (T.drop (j + 1))).kind == 3)
      · rw [tkK_no c3]
        have hp : postA T (okS j) = (tok0'.n, erS (j + 1) 4) := by unfold postA; rw [isW_ok _ _ _ rfl, ca, if_pos rfl, skp_ok, knd_no c3]
        obtain ⟨hy, hry⟩ := twig_err (n := n) (Es := []) (k0 := k) (F := one d f) (j := j + 1) (er := 4) (at_ (hd (T.drop k)) 19 (hd (T.drop (k + 1))).text tok0'.n) (by rw [one_size]; omega) (by omega) hlt3 hT (by decide) (by simp) (by simp)
        refine ⟨_, ⟨N + 2, fun M hM => ?_⟩, hry⟩
        obtain ⟨M', rfl⟩ : ∃ M', M = M' + 2 := ⟨M - 2, by omega⟩
        rw [hQ, knd_yes c1]
        dsimp only
        rw [h1 _ (by omega), Option.bind_some]
        dsimp only
        rw [hp]
        dsimp only
        rw [isT_e (erS_er (by decide)), if_neg (by decide)]
        rw [one_rows, List.append_nil] at hy
        rw [hy, Option.bind_some]
        dsimp only
        rw [sgn_e (erS_er (by decide)), one_rows, List.append_nil]
      · have hlt4 := sees_lt (T := T) (k := j + 1) (x := 3) (by decide) c3
        rw [tkK_yes c3, dropD] at hnd ⊢
        exact key _ (j + 1 + 1) (by unfold postA; rw [isW_ok _ _ _ rfl, ca, if_pos rfl, skp_ok, knd_yes c3]) (by omega) hlt4 hnd

end Go.Proofs.YtpeoefbibjbinaaGreat

namespace Go.Proofs.YtpeoefbibjbinaaGreat
open Go.RowKit

theorem sim_stmt (T : List Tok) (n : Nat) (HT : Sim T n .term .term) (HB : Sim T n .block .block) (HV : Sim T n .var .var) (HVi : ∀ i, i < n → Sim T i .var .var) : Sim T (n + 1) .stmt .stmt := by
  intro k m hn hT hk hm hnd
  have hset : P (n + 1) .stmt (T.drop k) m = setP n (T.drop k) m → (∀ N, Q T (N + 1) .stmt m (okS k) = Q T N (.set (hd (T.drop k))) m (okS k)) → ∃ x, Ev T .stmt m (okS k) x ∧ Rel T (n + 1) k 0 (P (n + 1) .stmt (T.drop k) m) x := fun hP hQ => by
    rw [hP] at hnd ⊢
    obtain ⟨x, ⟨N, h1⟩, hr⟩ := sim_set T n HV HT k m hn hT hk hm hnd
    exact ⟨x, .step ⟨N, fun M hM => by rw [hQ]; exact h1 _ hM⟩, hr⟩
  cases h2 : ((hd (T.drop k)).kind == 2)
  · have hs : ∀ l, seesW (T.drop k) l = false := fun l => by unfold seesW seesK; rw [h2, Bool.false_and]
    refine hset ?_ fun N => ?_
    · rw [P]
      simp only [hs, Bool.false_eq_true, if_false]
      rfl
    · rw [Q, isKd_ok, h2, if_pos rfl, rest_ok]
  have hs : ∀ l, seesW (T.drop k) l = l.contains (hd (T.drop k)).text := fun l => by unfold seesW seesK; rw [h2, Bool.true_and]
  by_cases hw : (hd (T.drop k)).text = [118, 97, 114]
  · exact sim_vars T n HT k m hn hT hm h2 hw hnd
  have n_var := hw
  clear hw
  by_cases hw : (hd (T.drop k)).text = [99, 97, 108, 108]
  · exact sim_call T n HT k m hn hT hm h2 hw hnd
  have n_call := hw
  clear hw
  by_cases hw : (hd (T.drop k)).text = [99, 97, 110, 99, 101, 108]
  · exact sim_cancel T n HT k m hn hT hm h2 hw hnd
  have n_cancel := hw
  clear hw
  by_cases hw : (hd (T.drop k)).text = [106, 111, 105, 110]
  · exact sim_join T n HT k m hn hT hm h2 hw hnd
  have n_join := hw
  clear hw
  by_cases hw : (hd (T.drop k)).text = [108, 111, 103]
  · exact sim_log T n HT k m hn hT hm h2 hw hnd
  have n_log := hw
  clear hw
  by_cases hw : (hd (T.drop k)).text = [112, 111, 115, 116]
  · exact sim_post T n HT HVi k m hn hT hm h2 hw hnd
  have n_post := hw
  clear hw
  by_cases hw : (hd (T.drop k)).text = [115, 112, 97, 119, 110]
  · exact sim_spawn T n HT HVi k m hn hT hm h2 hw hnd
  have n_spawn := hw
  clear hw
  by_cases hw : (hd (T.drop k)).text = [101, 110, 97, 98, 108, 101]
  · exact sim_enable T n k m hT h2 hw
  have n_enable := hw
  clear hw
  by_cases hw : (hd (T.drop k)).text = [100, 105, 115, 97, 98, 108, 101]
  · exact sim_disable T n k m hT h2 hw
  have n_disable := hw
  clear hw
  by_cases hw : (hd (T.drop k)).text = [105, 102]
  · exact sim_if T n HT HB k m hn hT hm h2 hw hnd
  have n_if := hw
  clear hw
  by_cases hw : (hd (T.drop k)).text = [119, 104, 105, 108, 101]
  · exact sim_while T n HT HB k m hn hT hm h2 hw hnd
  have n_while := hw
  clear hw
  by_cases hw : (hd (T.drop k)).text = [114, 101, 116, 117, 114, 110]
  · exact sim_return T n k m hT h2 hw
  have n_return := hw
  clear hw
  refine hset ?_ fun N => ?_
  · rw [P]
    simp only [hs]
    rw [if_neg (by simp [n_var])]
    rw [if_neg (by simp [actWords, n_call, n_cancel, n_join, n_log])]
    rw [if_neg (by simp [n_post])]
    rw [if_neg (by simp [n_spawn])]
    rw [if_neg (by simp [n_enable, n_disable])]
    rw [if_neg (by simp [n_if])]
    rw [if_neg (by simp [n_while])]
    rw [if_neg (by simp [n_return])]
    rfl
  · rw [Q, isKd_ok, h2, if_neg (by decide), rest_ok]
    rw [if_neg (by rintro (h | h); exact n_if h; exact n_while h)]
    rw [if_neg n_var]
    rw [if_neg n_call]
    rw [if_neg n_cancel]
    rw [if_neg n_join]
    rw [if_neg n_log]
    rw [if_neg (by rintro (h | h); exact n_post h; exact n_spawn h)]
    rw [if_neg n_enable]
    rw [if_neg n_disable]
    rw [if_neg n_return]

theorem sim_zero (T : List Tok) (p : Gr) (q : Gq) : Sim T 0 p q := fun _ _ _ _ _ _ h => absurd rfl h
structure Sims (T : List Tok) (i : Nat) : Prop where
  block : Sim T i .block .block
  stmt : Sim T i .stmt .stmt
  term : Sim T i .term .term
  sum : Sim T i .sum .sum
  product : Sim T i .product .product
  unary : Sim T i .unary .unary
  tight : Sim T i .tight .tight
  first : Sim T i .first .first
  var : Sim T i .var .var
theorem sims_all (T : List Tok) : ∀ n i, i ≤ n → Sims T i
  | 0, i, h => by
    obtain rfl : i = 0 := by omega
    exact ⟨sim_zero _ _ _, sim_zero _ _ _, sim_zero _ _ _, sim_zero _ _ _, sim_zero _ _ _, sim_zero _ _ _, sim_zero _ _ _, sim_zero _ _ _, sim_zero _ _ _⟩
  | n + 1, i, h => by
    have ih := sims_all T n
    by_cases hi : i ≤ n
    · exact ih i hi
    obtain rfl : i = n + 1 := by omega
    have hn := ih n (Nat.le_refl _)
    exact ⟨sim_block T n (sim_stmts T n fun i hi => (ih i (by omega)).stmt), sim_stmt T n hn.term hn.block hn.var (fun i hi => (ih i (by omega)).var), sim_term T n hn.sum, sim_sum T n (fun i hi => (ih i hi).product), sim_product T n (fun i hi => (ih i hi).unary), sim_unary T n hn.unary hn.tight, sim_tight T n hn.first (fun i hi => (ih i hi).term), sim_first T n hn.block hn.term, sim_var T n hn.tight⟩
theorem sims (T : List Tok) (n : Nat) : Sims T n := sims_all T n n (Nat.le_refl _)
end Go.Proofs.YtpeoefbibjbinaaGreat
