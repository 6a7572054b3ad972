/- Rows of tokens that are appended; which tokens are where. -/
import Derived.Test.YthgpepkcjjimlaaParFc
import Derived.Test.YthgpepkcjjimlaaParZ
import Derived.Test.YthgpepkcjjimlaaTokU
namespace Go.Proofs.Ythgpepkcjjimlaa
open Go.RowKit

/-- Tokens in memory, as a slice. -/
def TkS (w : World) (v : Value) (T : List Tok) : Prop := ∃ A cap, v = .slice A T.length cap ∧ Toks w A T
theorem TkS.below {w w' : World} {v : Value} {T : List Tok} (h : TkS w v T) (hb : Below w.heap.size w w') : TkS w' v T := let ⟨A, cap, e, h⟩ := h; ⟨A, cap, e, h.below hb⟩
theorem Toks.list {w : World} {A : Option Addr} {T : List Tok} (h : Toks w A T) {ad : Addr} (hA : A = some ad) : ∀ j u, (tcs T)[j]? = some u → w.cell? (ad.add j) = some u := by
  intro j u hu
  have hj : j < T.length * 5 := by
    have := (List.getElem?_eq_some_iff.1 hu).1
    rw [tcs_len] at this; exact this
  obtain ⟨i, o, rfl, ho⟩ : ∃ i o, j = i * 5 + o ∧ o < 5 := ⟨j / 5, j % 5, by omega, Nat.mod_lt _ (by omega)⟩
  have hi : i < T.length := by omega
  obtain ⟨g, hg, c0, c1, c2, c3, c4⟩ := h i _ (List.getElem?_eq_getElem hi)
  rw [hA] at hg
  injection hg with hg
  subst hg
  have hadd : (⟨g, 0, none⟩ : Addr).add (i * 5 + o) = ⟨g, i * 5 + o, none⟩ := by unfold Addr.add; split <;> simp_all
  rw [hadd]
  rw [tcs_at T i o _ (List.getElem?_eq_getElem hi) ho] at hu
  match o, ho with
  | 0, _ => simp [Tok.cells] at hu; subst hu; exact c0
  | 1, _ => simp [Tok.cells] at hu; subst hu; exact c1
  | 2, _ => simp [Tok.cells] at hu; subst hu; exact c2
  | 3, _ => simp [Tok.cells] at hu; subst hu; exact c3
  | 4, _ => simp [Tok.cells] at hu; subst hu; exact c4
theorem tcs_app (a b : List Tok) : tcs (a ++ b) = tcs a ++ tcs b := by simp [tcs]

set_option maxRecDepth 100000 in
theorem run_appT (w : World) (base : Nat) (ty : TypeId) (v x : Value) (L l : List Tok) (hown : w.ownsRow base 38 5 v L.length (tcs L)) (hx : TkS w x l) (h1 : L.length ≤ 1000000) (h2 : l.length ≤ 1000000) (hbase : base ≤ w.heap.size) :
    ∃ v' w', (Builtin.append_ #[24, 24] ty #[v, x]).run Try.prog w = .ok v' w' ∧ w'.ownsRow base 38 5 v' (L ++ l).length (tcs (L ++ l)) ∧ w.grownBy w' v.ownBlock := by
  obtain ⟨i, hi, hz0, hz1, hz2⟩ := info_parts infoTok
  obtain ⟨A, cap, rfl, hA⟩ := hx
  have hlc : (L ++ l).length = L.length + l.length := by simp
  rw [tcs_app, hlc]
  cases A with
  | none =>
    have hl : l = [] := by
      cases l with
      | nil => rfl
      | cons t l => obtain ⟨_, h, _⟩ := hA 0 t rfl; cases h
    subst hl
    refine ⟨v, w, ?_, by simpa [tcs] using hown, World.grownBy.refl w _⟩
    rcases hown.2 with ⟨rfl, h0⟩ | ⟨g, cap', cur, rfl, _, _, hnc, _⟩
    · simp [Builtin.append_, run_underlying Try.underlying24, sizeOf, typeInfo, hi, Builtin.lenOf, Builtin.firstCells]
    · simp [Builtin.append_, run_underlying Try.underlying24, sizeOf, typeInfo, hi, Builtin.lenOf, Builtin.firstCells, hnc, storeCells]
  | some ad =>
    obtain ⟨v', w', hr, ho, hg, _⟩ := run_append_own (P := Try.prog) w base 24 ty 38 i _ 5 48 Try.underlying24 hi hz0 hz1 hz2 rfl (by decide) v L.length (tcs L) hown ad l.length cap (tcs l) (tcs_len l) (hA.list rfl)
      (fun u hu => by
        obtain ⟨t, _, ht⟩ := List.mem_flatMap.1 hu
        simp [Tok.cells] at ht
        rcases ht with rfl | rfl | rfl | rfl | rfl <;> rfl) (by unfold maxLen; omega) (by omega) hbase
    exact ⟨v', w', hr, ho, hg⟩
theorem wpList_appT {ops : Array Oper} {rest : List Oper} {o : Oper} {a : Act} {Q : Exit → Act → World → Prop} (w : World) (hgd : o.guard = none) (s x : Operand)
    (ho : o.op = .call { callee := .builtin .append, args := #[s, x], argTypes := #[24, 24] })
    (base : Nat) (v y : Value) (L l : List Tok) (hs : a.eval s = v) (hy : a.eval x = y) (hown : w.ownsRow base 38 5 v L.length (tcs L)) (hx : TkS w y l) (h1 : L.length ≤ 1000000) (h2 : l.length ≤ 1000000) (hbase : base ≤ w.heap.size)
    (h : ∀ v' w', w'.ownsRow base 38 5 v' (L ++ l).length (tcs (L ++ l)) → w.grownBy w' v.ownBlock → wpList Try.prog ops Q rest (a.put o.dst v') w') : wpList Try.prog ops Q (o :: rest) a w := by
  refine wpList_plain hgd fun K hK => ?_
  obtain ⟨v', w', hrun, h3, h4⟩ := run_appT w base o.type v y L l hown hx h1 h2 hbase
  unfold Oper.wp execOp
  simp only [ho, resolve, invoke, builtin, Sem.run_bind, Sem.run_pure, Result.andThen_ok, List.map_toArray, List.map_cons, List.map_nil, hs, hy, hrun]
  exact hK _ _ (h v' w' h3 h4)
theorem own_tks {w : World} {base : Nat} {v : Value} {T : List Tok} (h : w.ownsRow base 38 5 v T.length (tcs T)) : TkS w v T := own_toks h
theorem Toks.take {w : World} {A : Option Addr} {T : List Tok} (h : Toks w A T) (n : Nat) : Toks w A (T.take n) := fun i t hi => by
  rw [List.getElem?_take] at hi
  split at hi
  · exact h i t hi
  · cases hi

/-- Which tokens there are. -/
theorem toks_mem : ∀ (n : Nat) (l : List UInt8) (a : Nat), l.length - a ≤ n → ∀ u ∈ toks l a, ∃ q, a ≤ q ∧ u = tokA l q
  | 0, l, a, h, u, hu => by rw [toks_end l a (by omega)] at hu; cases hu
  | n + 1, l, a, h, u, hu => by
    by_cases ha : a < l.length
    · have hg := endA_gt l a
      have hx := nxt_ge l (endA l a)
      have ih := toks_mem n l (nxt l (endA l a)) (by omega) u
      by_cases hk : kindA l a = 0
      · rw [toks_skip l a ha hk] at hu
        obtain ⟨q, h1, h2⟩ := ih hu
        exact ⟨q, by omega, h2⟩
      · rw [toks_one l a ha hk] at hu
        rcases List.mem_cons.1 hu with rfl | hu
        · exact ⟨a, Nat.le_refl _, rfl⟩
        · obtain ⟨q, h1, h2⟩ := ih hu
          exact ⟨q, by omega, h2⟩
    · rw [toks_end l a ha] at hu; cases hu
/-- No two tokens are at one place. -/
theorem toks_apart : ∀ (n : Nat) (l : List UInt8) (a : Nat), l.length - a ≤ n → ∀ (i j : Nat) (t u : Tok), i < j → (toks l a)[i]? = some t → (toks l a)[j]? = some u → t.line = u.line → ¬ t.col = u.col
  | 0, l, a, h, i, j, t, u, _, hi, _ => by rw [toks_end l a (by omega)] at hi; simp at hi
  | n + 1, l, a, h, i, j, t, u, hij, hi, hj => by
    by_cases ha : a < l.length
    · have hg := endA_gt l a
      have hx := nxt_ge l (endA l a)
      have ih := toks_apart n l (nxt l (endA l a)) (by omega)
      by_cases hk : kindA l a = 0
      · rw [toks_skip l a ha hk] at hi hj
        exact ih i j t u hij hi hj
      · rw [toks_one l a ha hk] at hi hj
        cases j with
        | zero => omega
        | succ j =>
          simp only [List.getElem?_cons_succ] at hj
          cases i with
          | succ i => simp only [List.getElem?_cons_succ] at hi; exact ih i j t u (by omega) hi hj
          | zero =>
            simp at hi
            subst hi
            obtain ⟨q, h1, rfl⟩ := toks_mem _ l _ (Nat.le_refl _) u (List.mem_of_getElem? hj)
            intro hl hc
            have h3 : ((lineOf l a : Nat) : Int) = ((lineOf l q : Nat) : Int) := hl
            exact place_ne_lt l a q (by omega) (by omega) hc
    · rw [toks_end l a ha] at hi; simp at hi
theorem toks_line {l : List UInt8} {a : Nat} {u : Tok} (h : u ∈ toks l a) : 1 ≤ u.line := by
  obtain ⟨q, _, rfl⟩ := toks_mem _ l a (Nat.le_refl _) u h
  have := line_le l 0 q
  simp [lineOf] at this
  simp [tokA]; omega
end Go.Proofs.Ythgpepkcjjimlaa
