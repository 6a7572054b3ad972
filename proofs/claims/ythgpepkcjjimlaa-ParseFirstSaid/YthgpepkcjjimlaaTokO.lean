/- append of a text to a row of the call's own; detentlaw01.TokenLonger: its walk. -/
import Derived.Test.YthgpepkcjjimlaaTokN
import Derived.Test.YthgpepkcjjimlaaTokM
namespace Go.Proofs.Ythgpepkcjjimlaa
open Go.RowKit

def bcs (l : List UInt8) : List Value := l.map fun x => Value.int .u8 (x.toNat : Int)
theorem infoByte : (Try.prog.info? 5).map (fun i => (i.zero, i.size, i.bytes)) = some (some (.int .u8 0), 1, 1) := by kernel_rfl

theorem Bs.list {w : World} {b off : Nat} {l : List UInt8} (h : Bs w b off l) : ∀ j u, (bcs l)[j]? = some u → w.cell? ((⟨b, off, none⟩ : Addr).add j) = some u := by
  intro j u hu
  have hadd : (⟨b, off, none⟩ : Addr).add j = ⟨b, off + j, none⟩ := by unfold Addr.add; split <;> simp_all
  unfold bcs at hu
  rw [List.getElem?_map] at hu
  have hj : j < l.length := by
    rcases Nat.lt_or_ge j l.length with h1 | h1
    · exact h1
    · rw [List.getElem?_eq_none h1] at hu; simp at hu
  rw [hadd, h j hj]
  rw [List.getElem?_eq_getElem hj] at hu
  simp at hu
  unfold chr
  rw [List.getElem?_eq_getElem hj]
  simp [← hu]

theorem own_holds {w : World} {base : Nat} {v : Value} {l : List UInt8} (h : w.ownsRow base 5 1 v l.length (bcs l)) : Holds w v l := by
  rcases h.2 with ⟨rfl, h0⟩ | ⟨g, cap, cur, rfl, _, hg, hnc, _⟩
  · exact ⟨none, 0, by rw [h0], by omega, fun h1 => by omega⟩
  · refine ⟨_, cap, rfl, hnc, fun _ => ⟨g, 0, rfl, fun k hk => ?_⟩⟩
    have hx : (bcs l)[k]? = some (.int .u8 (chr l k)) := by
      unfold bcs chr
      rw [List.getElem?_map, List.getElem?_eq_getElem hk]
      rfl
    have := h.cells (g := g) rfl k _ hx
    have hadd : (⟨g, 0, none⟩ : Addr).add k = ⟨g, 0 + k, none⟩ := by unfold Addr.add; split <;> simp_all
    rwa [hadd] at this

set_option maxRecDepth 100000 in
theorem run_appB (w : World) (base : Nat) (ty : TypeId) (v x : Value) (L l : List UInt8) (hown : w.ownsRow base 5 1 v L.length (bcs L)) (hx : Holds w x l) (h1 : L.length ≤ 1000000) (h2 : l.length ≤ 1000000) (hbase : base ≤ w.heap.size) :
    ∃ v' w', (Builtin.append_ #[22, 22] ty #[v, x]).run Try.prog w = .ok v' w' ∧ w'.ownsRow base 5 1 v' (L ++ l).length (bcs (L ++ l)) ∧ w.grownBy w' v.ownBlock := by
  obtain ⟨i, hi, hz0, hz1, hz2⟩ := info_parts infoByte
  obtain ⟨A, cap, rfl, hc, hA⟩ := hx
  have hcat : bcs (L ++ l) = bcs L ++ bcs l := by simp [bcs]
  have hlc : (L ++ l).length = L.length + l.length := by simp
  rw [hcat, hlc]
  cases A with
  | none =>
    have hl : l = [] := by
      rcases Nat.eq_zero_or_pos l.length with h0 | h0
      · exact List.eq_nil_of_length_eq_zero h0
      · obtain ⟨_, _, h, _⟩ := hA h0; cases h
    subst hl
    refine ⟨v, w, ?_, by simpa [bcs] using hown, World.grownBy.refl w _⟩
    rcases hown.2 with ⟨rfl, h0⟩ | ⟨g, cap', cur, rfl, _, _, hnc, _⟩
    · simp [Builtin.append_, run_underlying Try.underlying22, sizeOf, typeInfo, hi, Builtin.lenOf, Builtin.firstCells]
    · simp [Builtin.append_, run_underlying Try.underlying22, sizeOf, typeInfo, hi, Builtin.lenOf, Builtin.firstCells, hnc, storeCells]
  | some ad =>
    have hcells : ∀ j u, (bcs l)[j]? = some u → w.cell? (ad.add j) = some u := by
      intro j u hu
      have h0 : 0 < l.length := by
        rcases Nat.eq_zero_or_pos l.length with h0 | h0
        · have := List.eq_nil_of_length_eq_zero h0
          subst this
          simp [bcs] at hu
        · exact h0
      obtain ⟨b, off, h, hb⟩ := hA h0
      injection h with h
      subst h
      exact hb.list j u hu
    obtain ⟨v', w', hr, ho, hg, _⟩ := run_append_own (P := Try.prog) w base 22 ty 5 i _ 1 1 Try.underlying22 hi hz0 hz1 hz2 rfl (by decide) v L.length (bcs L) hown ad l.length cap (bcs l) (by simp [bcs]) hcells
      (fun u hu => by unfold bcs at hu; obtain ⟨x, _, rfl⟩ := List.mem_map.1 hu; rfl) (by unfold maxLen; omega) (by omega) hbase
    exact ⟨v', w', hr, ho, hg⟩

theorem wpList_appB {ops : Array Oper} {rest : List Oper} {o : Oper} {a : Act} {Q : Exit → Act → World → Prop} (w : World) (hgd : o.guard = none) (s x : Operand)
    (ho : o.op = .call { callee := .builtin .append, args := #[s, x], argTypes := #[22, 22] })
    (base : Nat) (v y : Value) (L l : List UInt8) (hs : a.eval s = v) (hy : a.eval x = y) (hown : w.ownsRow base 5 1 v L.length (bcs L)) (hx : Holds w y l) (h1 : L.length ≤ 1000000) (h2 : l.length ≤ 1000000) (hbase : base ≤ w.heap.size)
    (h : ∀ v' w', w'.ownsRow base 5 1 v' (L ++ l).length (bcs (L ++ l)) → w.grownBy w' v.ownBlock → wpList Try.prog ops Q rest (a.put o.dst v') w') : wpList Try.prog ops Q (o :: rest) a w := by
  refine wpList_plain hgd fun K hK => ?_
  obtain ⟨v', w', hrun, h3, h4⟩ := run_appB w base o.type v y L l hown hx h1 h2 hbase
  unfold Oper.wp execOp
  simp only [ho, resolve, invoke, builtin, Sem.run_bind, Sem.run_pure, Result.andThen_ok, List.map_toArray, List.map_cons, List.map_nil, hs, hy, hrun]
  exact hK _ _ (h v' w' h3 h4)
theorem Holds.below {w w' : World} {v : Value} {l : List UInt8} (h : Holds w v l) (hb : Below w.heap.size w w') : Holds w' v l := by
  obtain ⟨A, cap, rfl, hc, hA⟩ := h
  refine ⟨A, cap, rfl, hc, fun h0 => ?_⟩
  obtain ⟨b, off, rfl, hbs⟩ := hA h0
  exact ⟨b, off, rfl, hbs.below hb (hbs.lt h0)⟩
theorem Toks.below {w w' : World} {A : Option Addr} {T : List Tok} (h : Toks w A T) (hb : Below w.heap.size w w') : Toks w' A T := by
  intro i t hi
  obtain ⟨g, rfl, c0, c1, c2, c3, c4⟩ := h i t hi
  have hg : g < w.heap.size := World.block_lt_of_cell? w _ c0
  exact ⟨g, rfl, (hb.cell (by exact hg)).trans c0, (hb.cell (by exact hg)).trans c1, (hb.cell (by exact hg)).trans c2, (hb.cell (by exact hg)).trans c3, (hb.cell (by exact hg)).trans c4⟩

def LongR (b : List UInt8) (w3 : World) (k : Nat) (v9 : Value) (wr : World) : Prop :=
  ∃ i nq : Nat, i + k = (toks b (nxt b 0)).length ∧ v9 = .int .i64 i ∧ wr = w3.drewN nq

end Go.Proofs.Ythgpepkcjjimlaa
