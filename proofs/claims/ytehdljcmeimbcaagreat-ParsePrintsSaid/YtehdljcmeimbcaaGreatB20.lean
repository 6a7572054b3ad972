/- What stands behind a text changes no token of it but the last one: plainly; append of a text to a row of the call's own; detentlaw01.TokenLonger: its walk; parse.Tokens, parse.Parse; parse.Parse; the law's one and known; Trees in memory as they are read; Trees in memory that came in: their rows may begin at any place; The reference's Words, IsWord, Number, mark. -/
import Derived.Test.YtehdljcmeimbcaaGreatB18
import Derived.Test.YtehdljcmeimbcaaGreatB15
import Derived.Test.YtehdljcmeimbcaaGreatB17
import Derived.Test.YtehdljcmeimbcaaGreatB19
import Derived.Laws.IdiomStrings
namespace Go.Proofs.YtehdljcmeimbcaaGreat
open Go.RowKit

theorem chr_app (b m : List UInt8) (k : Nat) (h : k < b.length) : chr (b ++ m) k = chr b k := by
  unfold chr; rw [List.getElem?_append_left h]
theorem nx_app : ∀ (t : Bool) (b m : List UInt8), nx t b < b.length → nx t (b ++ m) = nx t b
  | t, [], m, h => by simp at h
  | true, x :: r, m, h => by
    simp only [nx, List.cons_append] at h ⊢
    split
    · rename_i hc
      rw [if_pos hc] at h
      rw [nx_app false r m (by simp at h; omega)]
    · rename_i hc
      rw [if_neg hc] at h
      rw [nx_app true r m (by simp at h; omega)]
  | false, x :: r, m, h => by
    simp only [nx, List.cons_append] at h ⊢
    split
    · rename_i hc
      rw [if_pos hc] at h
      rw [nx_app true r m (by simp at h; omega)]
    · rename_i hc
      rw [if_neg hc] at h
      split
      · rename_i hb
        rw [if_pos hb] at h
        rw [nx_app false r m (by simp at h; omega)]
      · rfl
theorem run_app (k : Int) : ∀ (b m : List UInt8), run k b < b.length → run k (b ++ m) = run k b
  | [], m, h => by simp at h
  | x :: r, m, h => by
    simp only [run, List.cons_append] at h ⊢
    split
    · rename_i hc
      rw [if_pos hc] at h
      rw [run_app k r m (by simp at h; omega)]
    · rfl
theorem nxt_app (b m : List UInt8) (p : Nat) (hp : p ≤ b.length) (h : nxt b p < b.length) : nxt (b ++ m) p = nxt b p := by
  unfold nxt at h ⊢
  rw [List.drop_append_of_le_length hp, nx_app false (b.drop p) m (by rw [List.length_drop]; omega)]
theorem ends_app (b m : List UInt8) (k : Int) (p : Nat) (hp : p ≤ b.length) (h : ends b k p < b.length) : ends (b ++ m) k p = ends b k p := by
  unfold ends at h ⊢
  rw [List.drop_append_of_le_length hp, run_app k (b.drop p) m (by rw [List.length_drop]; omega)]
theorem pre2_app (b m : List UInt8) (h : 2 ≤ b.length) : pre2 (b ++ m) = pre2 b := by
  unfold pre2; rw [List.take_append_of_le_length h]
theorem line_app (b m : List UInt8) : ∀ p, p ≤ b.length → lineOf (b ++ m) p = lineOf b p
  | 0, _ => rfl
  | p + 1, h => by simp only [lineOf]; rw [chr_app b m p (by omega), line_app b m p (by omega)]
theorem from_app (b m : List UInt8) : ∀ p, p ≤ b.length → fromOf (b ++ m) p = fromOf b p
  | 0, _ => rfl
  | p + 1, h => by simp only [fromOf]; rw [chr_app b m p (by omega), from_app b m p (by omega)]
theorem kindA_app (b m : List UInt8) (a : Nat) (h : a < b.length) : kindA (b ++ m) a = kindA b a := by
  unfold kindA; rw [chr_app b m a h]
theorem endA_app (b m : List UInt8) (a : Nat) (h : endA b a < b.length) : endA (b ++ m) a = endA b a := by
  have hg := endA_gt b a
  have hk := kindA_app b m a (by omega)
  unfold endA at h ⊢
  rw [hk]
  split
  · rfl
  · rename_i hk0
    rw [if_neg hk0] at h
    have hg' := endT_gt b (kindA b a) a
    have ha1 : a + 1 < b.length := by omega
    unfold endT at h ⊢
    rw [List.drop_append_of_le_length (by omega), pre2_app _ _ (by rw [List.length_drop]; omega)]
    split
    · rfl
    · rename_i hp
      rw [if_neg hp] at h
      exact ends_app b m _ _ (by omega) h
theorem tokA_app (b m : List UInt8) (a : Nat) (h : endA b a < b.length) : tokA (b ++ m) a = tokA b a := by
  have hg := endA_gt b a
  have hk := kindA_app b m a (by omega)
  have he := endA_app b m a h
  have ht : textA (b ++ m) a = textA b a := by
    unfold textA
    rw [he, List.drop_append_of_le_length (by omega), List.take_append_of_le_length (by rw [List.length_drop]; omega)]
  unfold tokA
  rw [hk, ht, line_app b m a (by omega), from_app b m a (by omega)]

theorem longer : ∀ (n : Nat) (b m : List UInt8) (a : Nat), b.length - a ≤ n → (toks b a).dropLast <+: toks (b ++ m) a
  | 0, b, m, a, hn => by rw [toks_end b a (by omega)]; simp
  | n + 1, b, m, a, hn => by
    by_cases ha : a < b.length
    · have hg := endA_gt b a
      have hle := endA_le b a ha
      have ha' : a < (b ++ m).length := by simp; omega
      by_cases hk : kindA b a = 0
      · have hk' := (kindA_app b m a ha).trans hk
        have e1 : endA b a = a + 1 := by simp [endA, hk]
        have e2 : endA (b ++ m) a = a + 1 := by simp [endA, hk']
        rw [toks_skip b a ha hk, toks_skip (b ++ m) a ha' hk', e1, e2]
        by_cases hx : nxt b (a + 1) < b.length
        · rw [nxt_app b m (a + 1) (by omega) hx]
          have := nxt_ge b (a + 1)
          exact longer n b m _ (by omega)
        · rw [toks_end b _ hx]; simp
      · have hk' : ¬ kindA (b ++ m) a = 0 := by rw [kindA_app b m a ha]; exact hk
        rw [toks_one b a ha hk]
        by_cases he : endA b a < b.length
        · rw [toks_one (b ++ m) a ha' hk', tokA_app b m a he, endA_app b m a he]
          by_cases hx : nxt b (endA b a) < b.length
          · rw [nxt_app b m _ hle hx]
            have h1 := nxt_ge b (endA b a)
            have ih := longer n b m (nxt b (endA b a)) (by omega)
            cases hX : toks b (nxt b (endA b a)) with
            | nil => simp
            | cons t r =>
              rw [hX] at ih
              rw [List.dropLast_cons_of_ne_nil (by simp)]
              exact (List.prefix_cons_inj _).2 ih
          · rw [toks_end b _ hx]; simp
        · rw [toks_end b (nxt b (endA b a)) (by have := nxt_ge b (endA b a); omega)]; simp
    · rw [toks_end b a ha]; simp
theorem longer0 (b m : List UInt8) : (toks b (nxt b 0)).dropLast <+: toks (b ++ m) (nxt (b ++ m) 0) := by
  by_cases hx : nxt b 0 < b.length
  · rw [nxt_app b m 0 (by omega) hx]
    exact longer _ b m _ (Nat.le_refl _)
  · rw [toks_end b _ hx]; simp
theorem longer_len (b m : List UInt8) : (toks b (nxt b 0)).length ≤ (toks (b ++ m) (nxt (b ++ m) 0)).length + 1 := by
  have := (longer0 b m).length_le
  rw [List.length_dropLast] at this
  omega
theorem longer_at (b m : List UInt8) (i : Nat) (h : i + 1 < (toks b (nxt b 0)).length) : ∃ t, (toks b (nxt b 0))[i]? = some t ∧ (toks (b ++ m) (nxt (b ++ m) 0))[i]? = some t := by
  have hp := longer0 b m
  have hi : i < (toks b (nxt b 0)).dropLast.length := by rw [List.length_dropLast]; omega
  refine ⟨(toks b (nxt b 0))[i], List.getElem?_eq_getElem (by omega), ?_⟩
  have h1 : (toks b (nxt b 0)).dropLast[i]? = some (toks b (nxt b 0))[i] := by
    rw [List.getElem?_eq_getElem hi, List.getElem_dropLast]
  exact (List.prefix_iff_getElem?.1 hp i hi).trans (by rw [← h1, List.getElem?_eq_getElem hi])
end Go.Proofs.YtehdljcmeimbcaaGreat

namespace Go.Proofs.YtehdljcmeimbcaaGreat
open Go.RowKit

def bcs (l : List UInt8) : List Value := l.map fun x => Value.int .u8 (x.toNat : Int)
theorem infoByte : (Tryz.prog.info? 5).map (fun i => (i.zero, i.size, i.bytes)) = some (some (.int .u8 0), 1, 1) := by kernel_rfl

theorem Bs.list {w : World} {b off : Nat} {l : List UInt8} (h : Bs w b off l) : ∀ j u, (bcs l)[j]? = some u → w.cell? ((⟨b, off, none⟩ : Addr).add j) = some u := by
  intro j u hu
  have hadd : (⟨b, off, none⟩ : Addr).add j = ⟨b, off + j, none⟩ := by unfold Addr.add; split <;> simp_all
  unfold bcs at hu
  rw [List.getElem?_map] at hu
  have hj : j < l.length := by
    rcases Nat.lt_or_ge j l.length with h1 | h1
    · exact h1
    · rw [List.getElem?_eq_none h1] at hu; simp at hu
  rw [hadd, h j hj]
  rw [List.getElem?_eq_getElem hj] at hu
  simp at hu
  unfold chr
  rw [List.getElem?_eq_getElem hj]
  simp [← hu]

theorem own_holds {w : World} {base : Nat} {v : Value} {l : List UInt8} (h : w.ownsRow base 5 1 v l.length (bcs l)) : Holds w v l := by
  rcases h.2 with ⟨rfl, h0⟩ | ⟨g, cap, cur, rfl, _, hg, hnc, _⟩
  · exact ⟨none, 0, by rw [h0], by omega, fun h1 => by omega⟩
  · refine ⟨_, cap, rfl, hnc, fun _ => ⟨g, 0, rfl, fun k hk => ?_⟩⟩
    have hx : (bcs l)[k]? = some (.int .u8 (chr l k)) := by
      unfold bcs chr
      rw [List.getElem?_map, List.getElem?_eq_getElem hk]
      rfl
    have := h.cells (g := g) rfl k _ hx
    have hadd : (⟨g, 0, none⟩ : Addr).add k = ⟨g, 0 + k, none⟩ := by unfold Addr.add; split <;> simp_all
    rwa [hadd] at this

set_option maxRecDepth 100000 in
theorem run_appB (w : World) (base : Nat) (ty : TypeId) (v x : Value) (L l : List UInt8) (hown : w.ownsRow base 5 1 v L.length (bcs L)) (hx : Holds w x l) (h1 : L.length ≤ 1000000) (h2 : l.length ≤ 1000000) (hbase : base ≤ w.heap.size) :
    ∃ v' w', (Builtin.append_ #[22, 22] ty #[v, x]).run Tryz.prog w = .ok v' w' ∧ w'.ownsRow base 5 1 v' (L ++ l).length (bcs (L ++ l)) ∧ w.grownBy w' v.ownBlock := by
  obtain ⟨i, hi, hz0, hz1, hz2⟩ := info_parts infoByte
  obtain ⟨A, cap, rfl, hc, hA⟩ := hx
  have hcat : bcs (L ++ l) = bcs L ++ bcs l := by simp [bcs]
  have hlc : (L ++ l).length = L.length + l.length := by simp
  rw [hcat, hlc]
  cases A with
  | none =>
    have hl : l = [] := by
      rcases Nat.eq_zero_or_pos l.length with h0 | h0
      · exact List.eq_nil_of_length_eq_zero h0
      · obtain ⟨_, _, h, _⟩ := hA h0; cases h
    subst hl
    refine ⟨v, w, ?_, by simpa [bcs] using hown, World.grownBy.refl w _⟩
    rcases hown.2 with ⟨rfl, h0⟩ | ⟨g, cap', cur, rfl, _, _, hnc, _⟩
    · simp [Builtin.append_, run_underlying Tryz.underlying22, sizeOf, typeInfo, hi, Builtin.lenOf, Builtin.firstCells]
    · simp [Builtin.append_, run_underlying Tryz.underlying22, sizeOf, typeInfo, hi, Builtin.lenOf, Builtin.firstCells, hnc, storeCells]
  | some ad =>
    have hcells : ∀ j u, (bcs l)[j]? = some u → w.cell? (ad.add j) = some u := by
      intro j u hu
      have h0 : 0 < l.length := by
        rcases Nat.eq_zero_or_pos l.length with h0 | h0
        · have := List.eq_nil_of_length_eq_zero h0
          subst this
          simp [bcs] at hu
        · exact h0
      obtain ⟨b, off, h, hb⟩ := hA h0
      injection h with h
      subst h
      exact hb.list j u hu
    obtain ⟨v', w', hr, ho, hg, _⟩ := run_append_own (P := Tryz.prog) w base 22 ty 5 i _ 1 1 Tryz.underlying22 hi hz0 hz1 hz2 rfl (by decide) v L.length (bcs L) hown ad l.length cap (bcs l) (by simp [bcs]) hcells
      (fun u hu => by unfold bcs at hu; obtain ⟨x, _, rfl⟩ := List.mem_map.1 hu; rfl) (by unfold maxLen; omega) (by omega) hbase
    exact ⟨v', w', hr, ho, hg⟩

theorem wpList_appB {ops : Array Oper} {rest : List Oper} {o : Oper} {a : Act} {Q : Exit → Act → World → Prop} (w : World) (hgd : o.guard = none) (s x : Operand)
    (ho : o.op = .call { callee := .builtin .append, args := #[s, x], argTypes := #[22, 22] })
    (base : Nat) (v y : Value) (L l : List UInt8) (hs : a.eval s = v) (hy : a.eval x = y) (hown : w.ownsRow base 5 1 v L.length (bcs L)) (hx : Holds w y l) (h1 : L.length ≤ 1000000) (h2 : l.length ≤ 1000000) (hbase : base ≤ w.heap.size)
    (h : ∀ v' w', w'.ownsRow base 5 1 v' (L ++ l).length (bcs (L ++ l)) → w.grownBy w' v.ownBlock → wpList Tryz.prog ops Q rest (a.put o.dst v') w') : wpList Tryz.prog ops Q (o :: rest) a w := by
  refine wpList_plain hgd fun K hK => ?_
  obtain ⟨v', w', hrun, h3, h4⟩ := run_appB w base o.type v y L l hown hx h1 h2 hbase
  unfold Oper.wp execOp
  simp only [ho, resolve, invoke, builtin, Sem.run_bind, Sem.run_pure, Result.andThen_ok, List.map_toArray, List.map_cons, List.map_nil, hs, hy, hrun]
  exact hK _ _ (h v' w' h3 h4)
theorem Holds.below {w w' : World} {v : Value} {l : List UInt8} (h : Holds w v l) (hb : Below w.heap.size w w') : Holds w' v l := by
  obtain ⟨A, cap, rfl, hc, hA⟩ := h
  refine ⟨A, cap, rfl, hc, fun h0 => ?_⟩
  obtain ⟨b, off, rfl, hbs⟩ := hA h0
  exact ⟨b, off, rfl, hbs.below hb (hbs.lt h0)⟩
theorem Toks.below {w w' : World} {A : Option Addr} {T : List Tok} (h : Toks w A T) (hb : Below w.heap.size w w') : Toks w' A T := by
  intro i t hi
  obtain ⟨g, rfl, c0, c1, c2, c3, c4⟩ := h i t hi
  have hg : g < w.heap.size := World.block_lt_of_cell? w _ c0
  exact ⟨g, rfl, (hb.cell (by exact hg)).trans c0, (hb.cell (by exact hg)).trans c1, (hb.cell (by exact hg)).trans c2, (hb.cell (by exact hg)).trans c3, (hb.cell (by exact hg)).trans c4⟩

def LongR (b : List UInt8) (w3 : World) (k : Nat) (v9 : Value) (wr : World) : Prop :=
  ∃ i nq : Nat, i + k = (toks b (nxt b 0)).length ∧ v9 = .int .i64 i ∧ wr = w3.drewN nq

end Go.Proofs.YtehdljcmeimbcaaGreat

namespace Go.Proofs.YtehdljcmeimbcaaGreat
open Go.RowKit

theorem ownsRow_base {w : World} {base base' : Nat} {e : TypeId} {size n : Nat} {v : Value} {xs : List Value} (h : w.ownsRow base e size v n xs) (hb : base' ≤ base) : w.ownsRow base' e size v n xs := by
  refine ⟨h.1, h.2.imp id ?_⟩
  rintro ⟨g, cap, cur, rfl, h1, h2⟩
  exact ⟨g, cap, cur, rfl, by omega, h2⟩
theorem Laid.base {n₀ n₁ : Nat} {w : World} {lv : Value} {L : List Tw} {ks : List Value} (h : Laid n₀ w lv L ks) (hn : n₁ ≤ n₀) : Laid n₁ w lv L ks :=
  ⟨ownsRow_base h.row hn, h.len, fun i t kv h1 h2 => ownsRow_base (h.kid i t kv h1 h2) hn, h.apart⟩
theorem Laid.keep {n₀ : Nat} {w w' : World} {lv : Value} {L : List Tw} {ks : List Value} (h : Laid n₀ w lv L ks) (hk : ∀ b, n₀ ≤ b → b < w.heap.size → w'.heap[b]? = w.heap[b]?) : Laid n₀ w' lv L ks :=
  ⟨ownsRow_keep h.row fun g hg => hk g (h.row.lt g hg).1 (h.row.lt g hg).2, h.len, fun i t kv h1 h2 => ownsRow_keep (h.kid i t kv h1 h2) fun g hg => hk g ((h.kid i t kv h1 h2).lt g hg).1 ((h.kid i t kv h1 h2).lt g hg).2, h.apart⟩
theorem Laid.below {n₀ : Nat} {w w' : World} {lv : Value} {L : List Tw} {ks : List Value} (h : Laid n₀ w lv L ks) (hb : Below w.heap.size w w') : Laid n₀ w' lv L ks := h.keep fun b _ hlt => hb.block b hlt
theorem lt_of_cell {w : World} {a : Addr} {v : Value} (h : w.cell? a = some v) : a.block < w.heap.size := by
  rcases Nat.lt_or_ge a.block w.heap.size with h' | h'
  · exact h'
  · simp [World.cell?, Array.getElem?_eq_none h'] at h
theorem Toks.tkb {w : World} {A : Option Addr} {T : List Tok} (h : Toks w A T) : TkB w w.heap.size A T := fun i t hi => by
  obtain ⟨g, h1, h2, h3, h4, h5, h6⟩ := h i t hi
  exact ⟨g, 0, h1, lt_of_cell h2, by rw [Nat.zero_add]; exact h2, by rw [Nat.zero_add]; exact h3, by rw [Nat.zero_add]; exact h4, by rw [Nat.zero_add]; exact h5, by rw [Nat.zero_add]; exact h6⟩

/-- What Tokens answers. -/
def RetT (w : World) (o : Out) (e : Ending) (w' : World) : Prop :=
  match o with
  | .dry => False
  | .bad er r => ∃ g, e = .returned (.tuple #[.agg #[.slice none 0 0], .slice (some ⟨g, 0, none⟩) 1 1]) ∧ w'.heap[g]? = some (.cells #[.int .i64 (hd r).line, .int .i64 (hd r).col, .int .i64 er] 48 (0, 0)) ∧ w.heap.size ≤ g ∧ Below w.heap.size w w'
  | .ok d kf _ => ∃ lv ks, e = .returned (.tuple #[.agg #[lv], .slice none 0 0]) ∧ Laid w.heap.size w' lv ((one d kf).flat 0) ks ∧ Below w.heap.size w w'

def cxT (w : World) (A : Option Addr) (cap : Nat) (T : List Tok) : Cx := ⟨w.heap.size + 1, A, cap, T, []⟩
theorem ps_start (A : Option Addr) (T : List Tok) (cap : Nat) (w : World) (hT : TkB w w.heap.size A T) (hb : T.length ≤ 1000000) (o : Obj) :
    PS ((w.alloc o).alloc (.cells #[.slice A T.length cap, .int .i64 0, .int .i64 0, .slice none 0 0] 65)) (cxT w A cap T) 0 0 (.slice none 0 0) [] := by
  have h1 := heap_alloc_new (w.alloc o) (.cells #[.slice A T.length cap, .int .i64 0, .int .i64 0, .slice none 0 0] 65)
  rw [World.size_alloc] at h1
  have hbe : Below w.heap.size w ((w.alloc o).alloc (.cells #[.slice A T.length cap, .int .i64 0, .int .i64 0, .slice none 0 0] 65)) := ((Below.refl _ w).alloc (Nat.le_refl _) _).alloc (by simp) _
  refine ⟨h1, ?_, ⟨[], World.ownsRow_nil _ _ _ _, rfl⟩, Nat.zero_le _, hb, Nat.zero_le _, Nat.zero_le _, fun b hx => by cases hx⟩
  have h2 := hT.below hbe (Nat.le_refl _)
  intro i t hi
  obtain ⟨g, off, e1, e2, e3⟩ := h2 i t hi
  exact ⟨g, off, e1, Nat.lt_succ_of_lt e2, e3⟩
theorem run_ok (n : Nat) (A : Option Addr) (T : List Tok) (cap : Nat) (w : World) (hT : TkB w w.heap.size A T) (hb : T.length ≤ 1000000) (o : Obj) (hnd : P n (.decls .nil) T 0 ≠ .dry) {W : World} (hW : W = (w.alloc o).alloc (.cells #[.slice A T.length cap, .int .i64 0, .int .i64 0, .slice none 0 0] 65)) :
    Calls Tryz.prog 27 #[.pointer (some ⟨w.heap.size + 1, 0, none⟩)] W (RetR (cxT w A cap T) W 0 (P n (.decls .nil) T 0)) := by
  subst hW
  have hps := ps_start A T cap w hT hb o
  have hpr := fun w1 h1 => program_ok n (cxT w A cap T) w1 0 0 (.slice none 0 0) h1 hnd
  generalize (w.alloc o).alloc (.cells #[.slice A T.length cap, .int .i64 0, .int .i64 0, .slice none 0 0] 65) = W at hps ⊢
  have hd0 : (cxT w A cap T).T.drop 0 = T := rfl
  rw [hd0] at hpr
  cases hP : P n (.decls .nil) T 0 with
  | dry => exact absurd hP hnd
  | bad er r =>
    rw [hP] at hpr
    exact run_bad (cxT w A cap T) W 0 0 (.slice none 0 0) er r hps (Lib.hid hpr)
  | ok d f r =>
    rw [hP] at hpr
    exact run_good (cxT w A cap T) W 0 0 (.slice none 0 0) d f r hps (Lib.hid hpr)

set_option maxRecDepth 100000 in
set_option maxHeartbeats 1000000 in
theorem tokens_bad (n : Nat) (A : Option Addr) (T : List Tok) (cap : Nat) (w : World) (hT : TkB w w.heap.size A T) (hb : T.length ≤ 1000000) (er : Int) (r : List Tok) (hP : P n (.decls .nil) T 0 = .bad er r) :
    Calls Tryz.prog 16 #[.slice A T.length cap] w (RetT w (.bad er r)) := by
  have hr := fun o W hW => run_ok n A T cap w hT hb o (by rw [hP]; simp) (W := W) hW
  rw [hP] at hr
  have HR := Lib.hid hr
  clear hr hP hT
  go_enter Tryz.func16, Tryz.ntmps16
  go_wp2_with fail
  refine (HR.out _ _ rfl).mono ?_
  rintro e w3 ⟨g, rfl, hd, hg, hbl⟩
  have h0 : w3.heap[w.heap.size]? = some (.cells #[.slice none 0 0] 26 (0, 0)) := by
    rw [hbl.block w.heap.size (Nat.lt_succ_self _), Below.heap_alloc _ _ _ (by simp)]
    exact heap_alloc_new w _
  have c0 := cell_of_one h0
  have f0 := free_of_one h0
  have l0 := lt_of_block h0
  have hbw : Below w.heap.size w (w3.setCell ⟨w.heap.size, 0, none⟩ (.slice none 0 0)) := ((((Below.refl _ w).alloc (Nat.le_refl _) _).alloc (by simp) _).trans (hbl.mono (Nat.le_succ _))).setCell (p := ⟨w.heap.size, 0, none⟩) (Nat.le_refl _) _
  have hdg := (set_other w3 w.heap.size 0 (.slice none 0 0) g (by simp at hg; omega)).trans hd
  have hgw : w.heap.size ≤ g := by simp at hg; omega
  have HB := Lib.hid hbw
  have HD := Lib.hid hdg
  clear hbw hdg hd hg hbl h0
  go_wp2_with fail
  exact bodyPost_ret (v := .tuple #[.agg #[.slice none 0 0], .slice (some ⟨g, 0, none⟩) 1 1]) (by simp [results, Tryz.results16, go_sem, c0]) rfl ⟨g, rfl, HD.out, hgw, HB.out⟩

set_option maxRecDepth 100000 in
set_option maxHeartbeats 1000000 in
theorem tokens_good (n : Nat) (A : Option Addr) (T : List Tok) (cap : Nat) (w : World) (hT : TkB w w.heap.size A T) (hb : T.length ≤ 1000000) (d : Nd) (kf : Fo) (r : List Tok) (hP : P n (.decls .nil) T 0 = .ok d kf r) :
    Calls Tryz.prog 16 #[.slice A T.length cap] w (RetT w (.ok d kf r)) := by
  have hr := fun o W hW => run_ok n A T cap w hT hb o (by rw [hP]; simp) (W := W) hW
  rw [hP] at hr
  have HR := Lib.hid hr
  clear hr hP hT
  go_enter Tryz.func16, Tryz.ntmps16
  go_wp2_with fail
  refine (HR.out _ _ rfl).mono ?_
  rintro e w3 ⟨rfl, ⟨j, v', hps⟩, hbl⟩
  have h0 : w3.heap[w.heap.size]? = some (.cells #[.slice none 0 0] 26 (0, 0)) := by
    rw [hbl.block w.heap.size (Nat.lt_succ_self _), Below.heap_alloc _ _ _ (by simp)]
    exact heap_alloc_new w _
  obtain ⟨_, _, _, c3⟩ := hps.cells
  have c3' : w3.cell? ⟨w.heap.size + 1, 3, none⟩ = some v' := c3
  obtain ⟨xs, ho, htw⟩ := hps.own
  obtain ⟨vA, vc, rfl⟩ := own_form ho
  have hlen : ((one d kf).post 0).length ≤ 2000001 := by
    have h1 := hps.few
    have h2 := hps.kle
    have h3 : (cxT w A cap T).T.length ≤ 1000000 := hps.big
    omega
  have hn : ((one d kf).post 0).length = kf.size + 1 := by rw [Fo.post_len, one_size]
  have hlay := lay_ok w3 [] d kf vA _ vc _ xs ho htw hn hlen
  have hbw : Below w.heap.size w w3 := (((Below.refl _ w).alloc (Nat.le_refl _) _).alloc (by simp) _).trans (hbl.mono (Nat.le_succ _))
  have l0 := lt_of_block h0
  have HL := Lib.hid hlay
  have HB := Lib.hid hbw
  have H0 := Lib.hid h0
  clear hlay hbw hps ho htw hbl h0 c3 hn HR
  generalize ((one d kf).post 0).length = vn at *
  go_wp2_with fail
  refine HL.out.mono ?_
  rintro e w4 ⟨lv, ks, rfl, hlaid, hb4⟩
  have h04 := (hb4.block _ l0).trans H0.out
  have c0 := cell_of_one h04
  have f0 := free_of_one h04
  have l04 := lt_of_block h04
  obtain ⟨lA, lc, rfl⟩ := own_form hlaid.row
  have hb5 : Below w.heap.size w (w4.setCell ⟨w.heap.size, 0, none⟩ (.slice lA ((one d kf).flat 0).length lc)) := (HB.out.trans (hb4.mono (by omega))).setCell (p := ⟨w.heap.size, 0, none⟩) (Nat.le_refl _) _
  have hl5 : Laid w.heap.size (w4.setCell ⟨w.heap.size, 0, none⟩ (.slice lA ((one d kf).flat 0).length lc)) (.slice lA ((one d kf).flat 0).length lc) ((one d kf).flat 0) ks := (hlaid.keep fun b hb _ => set_other _ _ _ _ _ (by omega)).base (by omega)
  have HB5 := Lib.hid hb5
  have HL5 := Lib.hid hl5
  clear hb5 hl5 hlaid hb4 h04 HL
  go_wp2_with fail
  exact bodyPost_ret (v := .tuple #[.agg #[.slice lA ((one d kf).flat 0).length lc], .slice none 0 0]) (by simp [results, Tryz.results16, go_sem, c0]) rfl ⟨_, ks, rfl, HL5.out, HB5.out⟩
theorem tokens_ok (n : Nat) (A : Option Addr) (T : List Tok) (cap : Nat) (w : World) (hT : TkB w w.heap.size A T) (hb : T.length ≤ 1000000) (hnd : P n (.decls .nil) T 0 ≠ .dry) :
    Calls Tryz.prog 16 #[.slice A T.length cap] w (RetT w (P n (.decls .nil) T 0)) := by
  cases hP : P n (.decls .nil) T 0 with
  | dry => exact absurd hP hnd
  | bad er r => exact tokens_bad n A T cap w hT hb er r hP
  | ok d kf r => exact tokens_good n A T cap w hT hb d kf r hP

/-- What Parse answers. -/
def RetS (l : List UInt8) (n : Nat) (w : World) (e : Ending) (w' : World) : Prop :=
  if dgs l (nxt l 0) = [] then RetT w (P n (.decls .nil) (toks l (nxt l 0)) 0) e w'
  else ∃ v5, e = .returned (.tuple #[.agg #[.slice none 0 0], v5]) ∧ w'.ownsRow w.heap.size 48 3 v5 (dgs l (nxt l 0)).length (dcs (dgs l (nxt l 0))) ∧ Below w.heap.size w w'
end Go.Proofs.YtehdljcmeimbcaaGreat

namespace Go.Proofs.YtehdljcmeimbcaaGreat
open Go.RowKit

/-- What Tokens answered is so in a later world, and for who began earlier. -/
theorem RetT.split {w : World} {o : Out} {e : Ending} {w' : World} (h : RetT w o e w') : ∃ lA ln lc g n c, e = .returned (.tuple #[.agg #[.slice lA ln lc], .slice g n c]) ∧ Below w.heap.size w w' ∧
    ∀ w0 W : World, w0.heap.size ≤ w.heap.size → (∀ b, w.heap.size ≤ b → b < w'.heap.size → W.heap[b]? = w'.heap[b]?) → Below w0.heap.size w0 W → RetT w0 o e W := by
  cases o with
  | dry => exact h.elim
  | bad er r =>
    obtain ⟨g, rfl, h1, h2, h3⟩ := h
    exact ⟨_, _, _, _, _, _, rfl, h3, fun w0 W h4 h5 h6 => ⟨g, rfl, (h5 g h2 (lt_of_block h1)).trans h1, Nat.le_trans h4 h2, h6⟩⟩
  | ok d kf r =>
    obtain ⟨lv, ks, rfl, h1, h2⟩ := h
    obtain ⟨lA, lc, rfl⟩ := own_form h1.row
    exact ⟨_, _, _, _, _, _, rfl, h2, fun w0 W h4 h5 h6 => ⟨_, ks, rfl, (h1.keep h5).base h4, h6⟩⟩

set_option maxRecDepth 100000 in
set_option maxHeartbeats 1000000 in
theorem parse_some (n : Nat) (l : List UInt8) (v : Value) (w : World) (hv : Holds w v l) (hl : l.length ≤ 1000000) (hd : dgs l (nxt l 0) = []) (hnd : P n (.decls .nil) (toks l (nxt l 0)) 0 ≠ .dry) :
    Calls Tryz.prog 6 #[v] w (RetT w (P n (.decls .nil) (toks l (nxt l 0)) 0)) := by
  have hT := len_toks l.length l (nxt l 0) (by omega)
  have HV := Lib.hid hv
  have HD := Lib.hid hd
  have HND := Lib.hid hnd
  clear hv hd hnd
  go_enter Tryz.func6, Tryz.ntmps6
  go_wp2_with fail
  refine (scan_ok l v _ (HV.out.below ((Below.refl _ _).alloc (Nat.le_refl _) _)) hl).mono ?_
  rintro e w1 ⟨v4, v5, rfl, hb1, ho4, ho5⟩
  rw [HD.out] at ho5
  obtain ⟨A4, c4, rfl, ht⟩ := own_toks ho4
  obtain ⟨A5, c5, rfl⟩ := own_form ho5
  have h0 : w1.heap[w.heap.size]? = some (.cells #[.slice none 0 0] 26 (0, 0)) := (hb1.block _ (by simp)).trans (heap_alloc_new w _)
  have HB1 := Lib.hid (((Below.refl _ w).alloc (Nat.le_refl _) _).trans (hb1.mono (by simp)))
  have HT := Lib.hid ht.tkb
  have H0 := Lib.hid h0
  have l0 := lt_of_block h0
  clear hb1 ho4 ho5 ht h0
  go_wp2_with fail
  refine (tokens_ok n A4 _ c4 w1 HT.out (by omega) HND.out).mono ?_
  intro e w2 hr
  obtain ⟨lA, ln, lc, g, n', c, rfl, hb2, hsp⟩ := hr.split
  have h02 := (hb2.block _ l0).trans H0.out
  have c0 := cell_of_one h02
  have f0 := free_of_one h02
  have l02 := lt_of_block h02
  have hsp2 := hsp w (w2.setCell ⟨w.heap.size, 0, none⟩ (.slice lA ln lc)) (by omega) (fun b hb _ => set_other _ _ _ _ _ (by omega)) ((HB1.out.trans (hb2.mono (by omega))).setCell (p := ⟨w.heap.size, 0, none⟩) (Nat.le_refl _) _)
  have HS := Lib.hid hsp2
  clear hr hb2 hsp hsp2 h02
  go_wp2_with fail
  exact bodyPost_ret (v := .tuple #[.agg #[.slice lA ln lc], .slice g n' c]) (by simp [results, Tryz.results6, go_sem, c0]) rfl HS.out

/-- A string as bytes. -/
theorem conv_bytes (s : ByteArray) (w : World) : ∃ cap W, (convert 9 22 (.string s)).run Tryz.prog w = .ok (.slice (some ⟨w.heap.size, 0, none⟩) s.size cap) W ∧ Holds W (.slice (some ⟨w.heap.size, 0, none⟩) s.size cap) s.data.toList ∧ Below w.heap.size w W := by
  have h := run_bytes_of_string (P := Tryz.prog) w 9 22 5 s Tryz.underlying9 Tryz.underlying22 Tryz.underlying5
  have hs : s.data.toList.length = s.size := Array.length_toList
  have hge := grownCap_ge w s.size 0 5
  refine ⟨_, _, h, ⟨_, _, by rw [hs], by rw [hs]; exact hge, fun _ => ⟨_, 0, rfl, fun k hk => ?_⟩⟩, ((Below.refl _ w).drew).alloc (Nat.le_refl _) _⟩
  have h1 := heap_alloc_new w.drew (.cells (bytesRow s (grownCap w s.size 0 5)) 5 ((bytesRow s (grownCap w s.size 0 5)).size, (bytesRow s (grownCap w s.size 0 5)).size + 1))
  have h2 : (w.drew).heap.size = w.heap.size := rfl
  rw [h2] at h1
  rw [Nat.zero_add]
  unfold World.cell?
  rw [h1]
  simp only [bytesRow, chr]
  have hk2 : k < s.data.size := by simpa using hk
  have h3 : s.data.toList[k]? = some (s.data[k]'hk2) := by simp
  rw [Array.getElem?_append_left (by simpa using hk2), h3, Array.getElem?_map, Array.getElem?_eq_getElem hk2]
  rfl

set_option maxRecDepth 100000 in
set_option maxHeartbeats 1000000 in
theorem one_yes (n : Nat) (s : ByteArray) (er li co : Int) (w : World) (hl : s.data.toList.length ≤ 1000000) (hz : outZ n s.data.toList = some (some (er, li, co))) :
    Calls Tryz.prog 14 #[.string s, .int .i64 er, .int .i64 li, .int .i64 co] w fun e w' => e = .returned (.bool true) ∧ Below w.heap.size w w' := by
  obtain ⟨hd, r, hP, e1, e2⟩ := outZ_some hz
  obtain ⟨cap, W, hconv, hh, hbW⟩ := conv_bytes s w
  have hps := parse_some n s.data.toList _ W hh hl hd (by rw [hP]; simp)
  rw [hP] at hps
  have HP := Lib.hid hps
  have HB := Lib.hid hbW
  clear hz hd hP hh hps hbW hl
  subst e1 e2
  go_enter Tryz.func14, Tryz.ntmps14
  go_wp2_with fail
  refine HP.out.mono ?_
  rintro e w1 ⟨g, rfl, hdg, hg, hb1⟩
  have q0 : w1.cell? ⟨g, 0, none⟩ = some (.int .i64 (hd r).line) := by simp [World.cell?, hdg]
  have q1 : w1.cell? ⟨g, 1, none⟩ = some (.int .i64 (hd r).col) := by simp [World.cell?, hdg]
  have q2 : w1.cell? ⟨g, 2, none⟩ = some (.int .i64 er) := by simp [World.cell?, hdg]
  have hgl := lt_of_block hdg
  have HB1 := Lib.hid (HB.out.trans (hb1.mono HB.out.size))
  have hww := HB1.out.size
  clear hb1 hdg HB HP
  go_wp2_with fail
  go_ret
  exact ⟨rfl, HB1.out.alloc hww _⟩

set_option maxRecDepth 100000 in
set_option maxHeartbeats 1000000 in
theorem known3_ok (w : World) : Calls Tryz.prog 5 #[] w fun e w' => e = .returned (.bool true) ∧ Below w.heap.size w w' := by
  go_enter Tryz.func5, Tryz.ntmps5
  go_wp2_with fail
  refine (one_yes 100 ⟨[109, 97, 105, 110, 32, 123, 32, 120, 32, 61, 32, 49, 32, 125].toArray⟩ 4 1 14 _ (by decide) known1).mono ?_
  rintro e w1 ⟨rfl, hb1⟩
  have HB1 := Lib.hid hb1
  clear hb1
  go_wp2_with fail
  refine (one_yes 100 ⟨[109, 97, 105, 110, 32, 123, 32, 53, 32, 61, 32, 49, 59, 32, 125].toArray⟩ 4 1 10 _ (by decide) known2).mono ?_
  rintro e w2 ⟨rfl, hb2⟩
  have HB2 := Lib.hid (HB1.out.trans (hb2.mono HB1.out.size))
  clear hb2
  go_wp2_with fail
  refine (one_yes 100 ⟨[108, 111, 111, 112, 101, 114].toArray⟩ 4 0 0 _ (by decide) known3).mono ?_
  rintro e w3 ⟨rfl, hb3⟩
  have HB3 := Lib.hid (HB2.out.trans (hb3.mono HB2.out.size))
  clear hb3
  go_wp2_with fail
  go_ret
  exact ⟨rfl, HB3.out⟩
end Go.Proofs.YtehdljcmeimbcaaGreat

namespace Go.Proofs.YtehdljcmeimbcaaGreat
open Go.RowKit

/-- Twigs as they are read. -/
def RdT (w : World) (v : Value) (R : List Tw) : Prop := ∃ A cap, v = .slice A R.length cap ∧ ∀ (i : Nat) (t : Tw), R[i]? = some t → ∃ g kv, A = some ⟨g, 0, none⟩ ∧ g < w.heap.size ∧ IntRow w [] kv t.kids ∧ ∀ (o : Nat) (u : Value), (twCells t kv)[o]? = some u → w.cell? ⟨g, i * 6 + o, none⟩ = some u
theorem Laid.rd {n₀ : Nat} {w : World} {lv : Value} {L : List Tw} {ks : List Value} (h : Laid n₀ w lv L ks) : RdT w lv L := by
  obtain ⟨A, cap, rfl⟩ := own_form h.row
  refine ⟨A, cap, rfl, fun i t hi => ?_⟩
  obtain ⟨_, _, g, kv, h1, h2, h3, h4⟩ := tw_src h.row h.tws hi
  exact ⟨g, kv, h1, h2, h3, h4⟩
theorem RdT.below {w w' : World} {v : Value} {R : List Tw} (h : RdT w v R) (hb : Below w.heap.size w w') : RdT w' v R := by
  obtain ⟨A, cap, rfl, hc⟩ := h
  refine ⟨A, cap, rfl, fun i t hi => ?_⟩
  obtain ⟨g, kv, h1, h2, h3, h4⟩ := hc i t hi
  exact ⟨g, kv, h1, Nat.lt_of_lt_of_le h2 hb.size, h3.keep fun g cs m hg => hb.block g (lt_of_block hg), fun o u hu => (hb.cell (p := ⟨g, i * 6 + o, none⟩) h2).trans (h4 o u hu)⟩

/-- A kid's number, where it is read. -/
theorem IntRow.at {w : World} {v : Value} {l : List Int} (h : IntRow w [] v l) : ∃ A cap, v = .slice A l.length cap ∧ ∀ (k : Nat) (x : Int), l[k]? = some x → ∃ g, A = some ⟨g, 0, none⟩ ∧ g < w.heap.size ∧ w.cell? ⟨g, k, none⟩ = some (.int .i64 x) := by
  obtain ⟨A, cap, rfl, h⟩ := h
  refine ⟨A, cap, rfl, fun k x hk => ?_⟩
  obtain ⟨g, cs, m, h1, h2, _, h4⟩ := h (by have := (List.getElem?_eq_some_iff.1 hk).1; omega)
  exact ⟨g, h1, lt_of_block h2, by simp [World.cell?, h2, h4 k x hk]⟩

theorem two_new (w : World) (o o' : Obj) : (((w.alloc o).alloc o').drew).heap[w.heap.size]? = some o ∧ (((w.alloc o).alloc o').drew).heap[w.heap.size + 1]? = some o' := by
  have h1 := heap_alloc_new (w.alloc o) o'
  rw [World.size_alloc] at h1
  exact ⟨(Below.heap_alloc _ _ _ (by simp)).trans (heap_alloc_new w o), h1⟩
def twO (t : Tw) (kv : Value) : Obj := .cells #[.int .i64 t.kind, .string ⟨t.text.toArray⟩, .int .i64 t.n, .int .i64 t.line, .int .i64 t.col, kv] 39

end Go.Proofs.YtehdljcmeimbcaaGreat

namespace Go.Proofs.YtehdljcmeimbcaaGreat
open Go.RowKit

/-- Kids' numbers, as they are read. -/
def KidO (w : World) (kv : Value) (l : List Int) : Prop := ∃ A cap, kv = .slice A l.length cap ∧ ∀ (k : Nat) (x : Int), l[k]? = some x → ∃ g off, A = some ⟨g, off, none⟩ ∧ g < w.heap.size ∧ w.cell? ⟨g, off + k, none⟩ = some (.int .i64 x)
/-- Twigs, as they are read. -/
def RdO (w : World) (v : Value) (R : List Tw) : Prop := ∃ A cap, v = .slice A R.length cap ∧ ∀ (i : Nat) (t : Tw), R[i]? = some t → ∃ g off kv, A = some ⟨g, off, none⟩ ∧ g < w.heap.size ∧ KidO w kv t.kids ∧ ∀ (o : Nat) (u : Value), (twCells t kv)[o]? = some u → w.cell? ⟨g, off + i * 6 + o, none⟩ = some u
theorem KidO.below {w w' : World} {kv : Value} {l : List Int} (h : KidO w kv l) (hb : Below w.heap.size w w') : KidO w' kv l := by
  obtain ⟨A, cap, rfl, hc⟩ := h
  refine ⟨A, cap, rfl, fun k x hk => ?_⟩
  obtain ⟨g, off, h1, h2, h3⟩ := hc k x hk
  exact ⟨g, off, h1, Nat.lt_of_lt_of_le h2 hb.size, (hb.cell (p := ⟨g, off + k, none⟩) h2).trans h3⟩
theorem RdO.below {w w' : World} {v : Value} {R : List Tw} (h : RdO w v R) (hb : Below w.heap.size w w') : RdO w' v R := by
  obtain ⟨A, cap, rfl, hc⟩ := h
  refine ⟨A, cap, rfl, fun i t hi => ?_⟩
  obtain ⟨g, off, kv, h1, h2, h3, h4⟩ := hc i t hi
  exact ⟨g, off, kv, h1, Nat.lt_of_lt_of_le h2 hb.size, h3.below hb, fun o u hu => (hb.cell (p := ⟨g, off + i * 6 + o, none⟩) h2).trans (h4 o u hu)⟩
theorem RdO.form {w : World} {v : Value} {R : List Tw} (h : RdO w v R) : ∃ A cap, v = .slice A R.length cap := by
  obtain ⟨A, cap, e, _⟩ := h
  exact ⟨A, cap, e⟩
end Go.Proofs.YtehdljcmeimbcaaGreat

namespace Go.Proofs.YtehdljcmeimbcaaGreat
open Go.RowKit

def scs (ws : List (List UInt8)) : List Value := ws.map fun s => Value.string ⟨s.toArray⟩

set_option maxRecDepth 100000 in
theorem refWords_ok (w : World) :
    Calls Tryz.prog 56 #[] w fun e w' => e = .returned (.slice (some ⟨w.heap.size, 0, none⟩) 36 36) ∧ w' = w.alloc (.cells (scs wordsL).toArray 9) := by
  go_enter Tryz.func56, Tryz.ntmps56
  go_wp2
  go_ret
  exact ⟨rfl, rfl⟩

theorem words_at (w : World) (k : Nat) (h : k < 36) : (w.alloc (.cells (scs wordsL).toArray 9)).cell? ⟨w.heap.size, k, none⟩ = some (.string ⟨(wordsL.getD k []).toArray⟩) := by
  rw [cell_of_row _ w.heap.size k _ 9 (0, 0) (heap_alloc_new w _)]
  have hl : k < wordsL.length := h
  unfold scs
  simp [List.getD, List.getElem?_eq_getElem hl]

theorem isW_take (l : List UInt8) (k : Nat) (h : k < 36) (hn : (wordsL.take k).contains l = false) (hne : ¬ wordsL.getD k [] = l) : (wordsL.take (k + 1)).contains l = false := by
  have hl : k < wordsL.length := h
  rw [List.take_succ_eq_append_getElem hl]
  simp only [List.getD, List.getElem?_eq_getElem hl, Option.getD_some] at hne
  rw [Bool.eq_false_iff] at hn ⊢
  intro hc
  rw [List.contains_iff_mem, List.mem_append] at hc
  rcases hc with hc | hc
  · exact hn (by rw [List.contains_iff_mem]; exact hc)
  · simp at hc; exact hne hc.symm
theorem isW_hit (l : List UInt8) (k : Nat) (h : k < 36) (he : wordsL.getD k [] = l) : isW l = true := by
  have hl : k < wordsL.length := h
  simp only [List.getD, List.getElem?_eq_getElem hl, Option.getD_some] at he
  unfold isW
  rw [List.contains_iff_mem, ← he]
  exact List.getElem_mem hl

set_option maxRecDepth 100000 in
set_option maxHeartbeats 1000000 in
theorem refIsWord_ok (l : List UInt8) (w : World) :
    Calls Tryz.prog 31 #[.string ⟨l.toArray⟩] w fun e w' => e = .returned (.bool (isW l)) ∧ Below w.heap.size w w' := by
  have HW := Lib.hid (words_at w)
  have HB := Lib.hid ((Below.refl w.heap.size w).alloc (Nat.le_refl _) (.cells (scs wordsL).toArray 9))
  go_enter Tryz.func31, Tryz.ntmps31
  go_wp2_with (go_at_call 56; refine (refWords_ok _).mono ?_; rintro e w' ⟨rfl, rfl⟩)
  generalize w.alloc (.cells (scs wordsL).toArray 9) = w1 at HW HB ⊢
  go_loop [4] (fun i => ∃ k : Nat, k ≤ 36 ∧ i = .int .i64 k ∧ Hid ((wordsL.take k).contains l = false)) (fun i => 36 - (intOf i).toNat)
  case atStart => exact ⟨0, by omega, rfl, Lib.hid rfl⟩
  case round =>
    obtain ⟨k, hk, rfl, HK⟩ := hrel
    by_cases hlt : k < 36
    · have hcell := HW.out k hlt
      generalize hx : wordsL.getD k [] = x at hcell
      by_cases hxl : x = l
      · have HXL := Lib.hid hxl
        have hb : (x == l) = true := by simp [hxl]
        have HX := Lib.hid hx
        clear hxl hx
        go_wp2
        go_ret
        exact ⟨ret_bool (isW_hit l k hlt (HX.out.trans HXL.out)).symm, HB.out⟩
      · have HXL := Lib.hid hxl
        have hb : (x == l) = false := by simp [hxl]
        have HX := Lib.hid hx
        clear hxl hx
        go_wp2
        go_round
        case rel => exact ⟨k + 1, by omega, by go_num, Lib.hid (isW_take l k hlt HK.out (fun e => HXL.out (HX.out.symm.trans e)))⟩
        case measure => simp [intOf]; omega
    · obtain rfl : k = 36 := by omega
      go_wp2
      go_ret
      exact ⟨ret_bool (show false = isW l from HK.out.symm), HB.out⟩

/-- The reference's number: digits gone through, held at a bound. -/
def rnF : Int → List UInt8 → Option Int
  | n, [] => some n
  | n, x :: r => if isD x.toNat = true then rnF (min (10 * n + ((x.toNat : Int) - 48)) 1099511627776) r else none
def rnA (l : List UInt8) (n : Int) (j : Nat) : Option Int := rnF n (l.drop j)
theorem rnA_end (l : List UInt8) (n : Int) (j : Nat) (h : l.length ≤ j) : rnA l n j = some n := by
  unfold rnA; rw [List.drop_of_length_le h]; rfl
theorem rnA_not (l : List UInt8) (n : Int) (j : Nat) (h : j < l.length) (hd : isD (chr l j) = false) : rnA l n j = none := by
  obtain ⟨x, hx, hc⟩ := drop_chr l j h
  rw [hc] at hd
  unfold rnA; rw [hx]; simp only [rnF]; rw [hd]; rfl
theorem rnA_more (l : List UInt8) (n : Int) (j : Nat) (h : j < l.length) (hd : isD (chr l j) = true) : rnA l n j = rnA l (min (10 * n + (chr l j - 48)) 1099511627776) (j + 1) := by
  obtain ⟨x, hx, hc⟩ := drop_chr l j h
  rw [hc] at hd ⊢
  unfold rnA; rw [hx]; simp only [rnF]; rw [if_pos hd]
def rnT (l : List UInt8) : Int × Bool := match rnA l 0 0 with | some n => if l = [] ∨ 2147483647 < n then (0, false) else (n, true) | none => (0, false)

theorem rnF_big : ∀ (l : List UInt8) (n m : Int), 2147483647 < n → rnF n l = some m → 2147483647 < m
  | [], n, m, hn, h => by simp [rnF] at h; omega
  | x :: r, n, m, hn, h => by
    simp only [rnF] at h
    split at h
    · rename_i hd
      refine rnF_big r _ m ?_ h
      simp [isD] at hd
      omega
    · cases h
theorem rnF_num : ∀ (l : List UInt8) (n : Int), 0 ≤ n → n ≤ 2147483647 → (∀ x ∈ l, isD x.toNat = true) →
    (∃ m, numF n l = some m ∧ rnF n l = some m ∧ m ≤ 2147483647) ∨ (numF n l = none ∧ ∃ m, rnF n l = some m ∧ 2147483647 < m)
  | [], n, h0, h1, _ => .inl ⟨n, rfl, rfl, h1⟩
  | x :: r, n, h0, h1, hd => by
    have hx := hd x (List.mem_cons_self ..)
    have hx' := hx
    simp [isD] at hx'
    have hr : ∀ y ∈ r, isD y.toNat = true := fun y hy => hd y (List.mem_cons_of_mem _ hy)
    have e : min (10 * n + ((x.toNat : Int) - 48)) 1099511627776 = n * 10 + ((x.toNat : Int) - 48) := by omega
    simp only [numF, rnF]
    rw [if_pos hx, e]
    by_cases hb : 2147483647 < n * 10 + ((x.toNat : Int) - 48)
    · rw [if_pos hb]
      refine .inr ⟨rfl, ?_⟩
      have hs : ∀ (k : List UInt8) (q : Int), (∀ y ∈ k, isD y.toNat = true) → ∃ m, rnF q k = some m := by
        intro k
        induction k with
        | nil => exact fun q _ => ⟨q, rfl⟩
        | cons y k ih =>
          intro q hk
          simp only [rnF]
          rw [if_pos (hk y (List.mem_cons_self ..))]
          exact ih _ (fun z hz => hk z (List.mem_cons_of_mem _ hz))
      obtain ⟨m, hm⟩ := hs r (n * 10 + ((x.toNat : Int) - 48)) hr
      exact ⟨m, hm, rnF_big r _ m hb hm⟩
    · rw [if_neg hb]
      exact rnF_num r _ (by omega) (by omega) hr
theorem rnF_digits : ∀ (l : List UInt8) (n m : Int), rnF n l = some m → ∀ x ∈ l, isD x.toNat = true
  | [], _, _, _, x, hx => by cases hx
  | y :: r, n, m, h, x, hx => by
    simp only [rnF] at h
    split at h
    · rename_i hd
      rcases List.mem_cons.1 hx with rfl | hx
      · exact hd
      · exact rnF_digits r _ m h x hx
    · cases h
theorem run_of_all (k : Int) : ∀ l : List UInt8, (∀ x ∈ l, goes k x.toNat = true) → run k l = l.length
  | [], _ => rfl
  | x :: r, h => by
    simp only [run]
    rw [if_pos (h x (List.mem_cons_self ..)), run_of_all k r (fun y hy => h y (List.mem_cons_of_mem _ hy))]
    rfl
theorem mem_chr (l : List UInt8) (x : UInt8) (h : x ∈ l) : ∃ j, j < l.length ∧ chr l j = (x.toNat : Int) := by
  obtain ⟨j, hj, e⟩ := List.getElem_of_mem h
  refine ⟨j, hj, ?_⟩
  unfold chr
  rw [List.getElem?_eq_getElem hj, e]; rfl
theorem digits_whole (l : List UInt8) (hne : l ≠ []) (h : ∀ x ∈ l, isD x.toNat = true) : whole l 3 = true := by
  rcases l with _ | ⟨x, r⟩
  · exact absurd rfl hne
  · have hx := h x (List.mem_cons_self ..)
    have hc : chr (x :: r) 0 = (x.toNat : Int) := rfl
    have hnl : isL (x.toNat : Int) = false := by
      simp [isD] at hx
      rw [Bool.eq_false_iff]
      simp [isL]
      omega
    have hk : kindI (chr (x :: r) 0) = 3 := by rw [hc]; simp [kindI, hnl, hx]
    have hp : pre2 ((x :: r).drop 0) = false := by
      rw [Bool.eq_false_iff]
      intro hp
      have := (chr_pre2 _ hp).1
      rw [List.drop_zero, hc] at this
      simp [isD] at hx
      omega
    have hr : run 3 r = r.length := run_of_all 3 r (fun y hy => by simp [goes, h y (List.mem_cons_of_mem _ hy)])
    unfold whole endT ends
    rw [hk, hp]
    simp [hr]
    omega
theorem rnT_eq (l : List UInt8) : rnT l = numT l := by
  unfold rnT numT
  by_cases hw : whole l 3 = true
  · rw [if_pos hw]
    have hd := whole_digits l hw
    have hne : l ≠ [] := fun e => by subst e; exact absurd hw (by decide)
    have hall : ∀ x ∈ l, isD x.toNat = true := fun x hx => by
      obtain ⟨j, hj, e⟩ := mem_chr l x hx
      rw [← e]; exact hd j hj
    have hr := rnF_num l 0 (by omega) (by omega) hall
    unfold rnA numA
    rw [List.drop_zero]
    rcases hr with ⟨m, h1, h2, h3⟩ | ⟨h1, m, h2, h3⟩
    · rw [h1, h2]
      have : ¬ (l = [] ∨ 2147483647 < m) := by
        rintro (h | h)
        · exact hne h
        · omega
      simp only [if_neg this]
    · rw [h1, h2]
      simp only [if_pos (Or.inr h3 : l = [] ∨ 2147483647 < m)]
  · rw [if_neg hw]
    cases hr : rnA l 0 0 with
    | none => rfl
    | some m =>
      have hd := rnF_digits _ _ _ hr
      rw [List.drop_zero] at hd
      have hl : l = [] := by
        by_cases hne : l = []
        · exact hne
        · exact absurd (digits_whole l hne hd) hw
      simp [hl]
end Go.Proofs.YtehdljcmeimbcaaGreat
