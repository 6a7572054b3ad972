/- What a text's tokens are, and what is wrong with it, plainly; and what token.Scan's loop keeps. -/
import Derived.Test.YthgpepkcjjimlaaTokH
namespace Go.Proofs.Ythgpepkcjjimlaa
open Go.RowKit

structure Tok where
  kind : Int
  text : List UInt8
  n : Int
  line : Int
  col : Int
structure Dg where
  line : Int
  col : Int
  err : Int
def Tok.cells (t : Tok) : List Value := [.int .i64 t.kind, .string ⟨t.text.toArray⟩, .int .i64 t.n, .int .i64 t.line, .int .i64 t.col]
def Dg.cells (d : Dg) : List Value := [.int .i64 d.line, .int .i64 d.col, .int .i64 d.err]
def tcs (l : List Tok) : List Value := l.flatMap Tok.cells
def dcs (l : List Dg) : List Value := l.flatMap Dg.cells
theorem tcs_len (l : List Tok) : (tcs l).length = l.length * 5 := by
  unfold tcs
  induction l with
  | nil => rfl
  | cons t r ih => rw [List.flatMap_cons, List.length_append, ih]; simp [Tok.cells]; omega
theorem dcs_len (l : List Dg) : (dcs l).length = l.length * 3 := by
  unfold dcs
  induction l with
  | nil => rfl
  | cons t r ih => rw [List.flatMap_cons, List.length_append, ih]; simp [Dg.cells]; omega
theorem tcs_snoc (l : List Tok) (t : Tok) : tcs (l ++ [t]) = tcs l ++ t.cells := by simp [tcs]
theorem dcs_snoc (l : List Dg) (t : Dg) : dcs (l ++ [t]) = dcs l ++ t.cells := by simp [dcs]

def kindA (l : List UInt8) (a : Nat) : Int := kindI (chr l a)
def endA (l : List UInt8) (a : Nat) : Nat := if kindA l a = 0 then a + 1 else endT l (kindA l a) a
def textA (l : List UInt8) (a : Nat) : List UInt8 := (l.drop a).take (endA l a - a)
def tokA (l : List UInt8) (a : Nat) : Tok := ⟨tkind (kindA l a) (textA l a), textA l a, tnum (kindA l a) (textA l a), lineOf l a, (a : Int) - fromOf l a + 1⟩
def errA (l : List UInt8) (a : Nat) : Int := if kindA l a = 0 then 3 else terr (kindA l a) (textA l a)
def dgA (l : List UInt8) (a : Nat) : Dg := ⟨lineOf l a, (a : Int) - fromOf l a + 1, errA l a⟩

theorem endT_le (l : List UInt8) (k : Int) (a : Nat) (h : a < l.length) : endT l k a ≤ l.length := by
  unfold endT
  split
  · rename_i hp
    have := pre2_len _ hp
    simp at this; omega
  · exact ends_le l k (a + 1) (by omega)
theorem endT_gt (l : List UInt8) (k : Int) (a : Nat) : a < endT l k a := by
  unfold endT
  split
  · omega
  · have := ends_ge l k (a + 1); omega
theorem endA_le (l : List UInt8) (a : Nat) (h : a < l.length) : endA l a ≤ l.length := by
  unfold endA
  split
  · omega
  · exact endT_le l _ a h
theorem endA_gt (l : List UInt8) (a : Nat) : a < endA l a := by
  unfold endA
  split
  · omega
  · exact endT_gt l _ a
theorem nxt_ge (l : List UInt8) (a : Nat) : a ≤ nxt l a := by unfold nxt; omega

/-- The tokens from a place on, and what is wrong. -/
def scanG : Nat → List UInt8 → Nat → List Tok × List Dg
  | 0, _, _ => ([], [])
  | n + 1, l, a => if a < l.length then
      ((if kindA l a = 0 then (scanG n l (nxt l (endA l a))).1 else tokA l a :: (scanG n l (nxt l (endA l a))).1),
       (if errA l a = 0 then (scanG n l (nxt l (endA l a))).2 else dgA l a :: (scanG n l (nxt l (endA l a))).2))
    else ([], [])
theorem scanG_more : ∀ (n m : Nat) (l : List UInt8) (a : Nat), l.length - a ≤ n → l.length - a ≤ m → scanG n l a = scanG m l a
  | 0, 0, _, _, _, _ => rfl
  | 0, m + 1, l, a, h, _ => by
    have : ¬ a < l.length := by omega
    simp [scanG, this]
  | n + 1, 0, l, a, _, h => by
    have : ¬ a < l.length := by omega
    simp [scanG, this]
  | n + 1, m + 1, l, a, h1, h2 => by
    have hg := endA_gt l a
    have hn := nxt_ge l (endA l a)
    simp only [scanG]
    split
    · rw [scanG_more n m l (nxt l (endA l a)) (by omega) (by omega)]
    · rfl
def toks (l : List UInt8) (a : Nat) : List Tok := (scanG (l.length - a) l a).1
def dgs (l : List UInt8) (a : Nat) : List Dg := (scanG (l.length - a) l a).2
theorem scan_step (l : List UInt8) (a : Nat) (h : a < l.length) : scanG (l.length - a) l a =
    ((if kindA l a = 0 then toks l (nxt l (endA l a)) else tokA l a :: toks l (nxt l (endA l a))),
     (if errA l a = 0 then dgs l (nxt l (endA l a)) else dgA l a :: dgs l (nxt l (endA l a)))) := by
  have hg := endA_gt l a
  have hn := nxt_ge l (endA l a)
  have e : scanG (l.length - (nxt l (endA l a))) l (nxt l (endA l a)) = scanG (l.length - a - 1) l (nxt l (endA l a)) := scanG_more _ _ _ _ (by omega) (by omega)
  unfold toks dgs
  rw [e]
  obtain ⟨n, hn⟩ : ∃ n, l.length - a = n + 1 := ⟨l.length - a - 1, by omega⟩
  rw [hn]
  simp only [scanG]
  rw [if_pos h]
  rfl
theorem toks_skip (l : List UInt8) (a : Nat) (h : a < l.length) (hk : kindA l a = 0) : toks l a = toks l (nxt l (endA l a)) := by
  unfold toks; rw [scan_step l a h, if_pos hk]; rfl
theorem toks_one (l : List UInt8) (a : Nat) (h : a < l.length) (hk : ¬ kindA l a = 0) : toks l a = tokA l a :: toks l (nxt l (endA l a)) := by
  conv => lhs; unfold toks
  rw [scan_step l a h, if_neg hk]
theorem toks_end (l : List UInt8) (a : Nat) (h : ¬ a < l.length) : toks l a = [] := by
  unfold toks
  rw [show l.length - a = 0 from by omega]; rfl
theorem dgs_skip (l : List UInt8) (a : Nat) (h : a < l.length) (hk : errA l a = 0) : dgs l a = dgs l (nxt l (endA l a)) := by
  conv => lhs; unfold dgs
  rw [scan_step l a h, if_pos hk]
theorem dgs_one (l : List UInt8) (a : Nat) (h : a < l.length) (hk : ¬ errA l a = 0) : dgs l a = dgA l a :: dgs l (nxt l (endA l a)) := by
  conv => lhs; unfold dgs
  rw [scan_step l a h, if_neg hk]
theorem dgs_end (l : List UInt8) (a : Nat) (h : ¬ a < l.length) : dgs l a = [] := by
  unfold dgs
  rw [show l.length - a = 0 from by omega]; rfl
theorem len_toks : ∀ (n : Nat) (l : List UInt8) (a : Nat), l.length - a ≤ n → (toks l a).length ≤ l.length - a
  | 0, l, a, h => by rw [toks_end l a (by omega)]; simp
  | n + 1, l, a, h => by
    by_cases hl : a < l.length
    · have hg := endA_gt l a
      have hn := nxt_ge l (endA l a)
      have := len_toks n l (nxt l (endA l a)) (by omega)
      by_cases hk : kindA l a = 0
      · rw [toks_skip l a hl hk]; omega
      · rw [toks_one l a hl hk]; simp; omega
    · rw [toks_end l a hl]; simp
theorem len_dgs : ∀ (n : Nat) (l : List UInt8) (a : Nat), l.length - a ≤ n → (dgs l a).length ≤ l.length - a
  | 0, l, a, h => by rw [dgs_end l a (by omega)]; simp
  | n + 1, l, a, h => by
    by_cases hl : a < l.length
    · have hg := endA_gt l a
      have hn := nxt_ge l (endA l a)
      have := len_dgs n l (nxt l (endA l a)) (by omega)
      by_cases hk : errA l a = 0
      · rw [dgs_skip l a hl hk]; omega
      · rw [dgs_one l a hl hk]; simp; omega
    · rw [dgs_end l a hl]; simp

/-- What the loop of Scan keeps: w: the world when the call began; wr: the world now. -/
structure SI (l : List UInt8) (b off cap : Nat) (w : World) (v4 v5 : Value) (T : List Tok) (D : List Dg) (s : Nat) (wr : World) : Prop where
  below : Below w.heap.size w wr
  text : Bs wr b off l
  map : wr.heap[w.heap.size]? = some (wobj (wk 36))
  pl : Pl wr (w.heap.size + 1) (.slice (some ⟨b, off, none⟩) l.length cap) (lineOf l s) (fromOf l s) s
  own4 : wr.ownsRow (w.heap.size + 5) 38 5 v4 T.length (tcs T)
  own5 : wr.ownsRow (w.heap.size + 5) 35 3 v5 D.length (dcs D)

theorem grown_of_below {w w' : World} (h : Below w.heap.size w w') (row : Option Nat) : w.grownBy w' row := ⟨h.os, h.tape, h.output, h.size, fun i hi _ => h.block i hi⟩
theorem own_below {w w' : World} {base : Nat} {e : TypeId} {size n : Nat} {v : Value} {xs : List Value} (h : w.ownsRow base e size v n xs) (hb : Below w.heap.size w w') : w'.ownsRow base e size v n xs :=
  h.kept (grown_of_below hb none) (by cases hv : v.ownBlock <;> simp)
theorem own_ne {w : World} {base base' : Nat} {e e' : TypeId} {size size' n n' : Nat} {v v' : Value} {xs xs' : List Value} (h : w.ownsRow base e size v n xs) (h' : w.ownsRow base' e' size' v' n' xs') (hne : e ≠ e') : v.ownBlock = none ∨ v.ownBlock ≠ v'.ownBlock := by
  rcases h.2 with ⟨rfl, _⟩ | ⟨g, cap, cur, rfl, _, hg, _⟩
  · exact .inl rfl
  · right
    rcases h'.2 with ⟨rfl, _⟩ | ⟨g', cap', cur', rfl, _, hg', _⟩
    · simp [Value.ownBlock]
    · intro hgg
      have : g = g' := by simpa [Value.ownBlock] using hgg
      subst this
      rw [hg] at hg'
      injection hg' with hg'
      injection hg' with _ ht
      exact hne ht
section
variable {l : List UInt8} {b off cap : Nat} {w wr w2 : World} {v4 v5 : Value} {T : List Tok} {D : List Dg} {s : Nat}
theorem Pl.keep {g : Nat} {v : Value} {a b c : Nat} (h : Pl wr g v a b c) (hk : ∀ i, g ≤ i → i ≤ g + 3 → w2.heap[i]? = wr.heap[i]?) : Pl w2 g v a b c :=
  ⟨(hk _ (by omega) (by omega)).trans h.text, (hk _ (by omega) (by omega)).trans h.line, (hk _ (by omega) (by omega)).trans h.first, (hk _ (by omega) (by omega)).trans h.seen⟩
theorem SI.after (h : SI l b off cap w v4 v5 T D s wr) (hb : Below wr.heap.size wr w2) (h0 : 0 < l.length) : SI l b off cap w v4 v5 T D s w2 := by
  have hz : w.heap.size + 4 < wr.heap.size := lt_of_block h.pl.seen
  exact ⟨h.below.trans (hb.mono (by omega)), h.text.below hb (h.text.lt h0), heap_below hb (by omega) h.map, h.pl.keep fun i h1 h2 => hb.block i (by omega), own_below h.own4 hb, own_below h.own5 hb⟩
theorem SI.place {q : Nat} (h : SI l b off cap w v4 v5 T D s wr) (ht : Pt (w.heap.size + 1) wr w2) (hp : Pl w2 (w.heap.size + 1) (.slice (some ⟨b, off, none⟩) l.length cap) (lineOf l q) (fromOf l q) q) (hbw : b < w.heap.size) : SI l b off cap w v4 v5 T D q w2 := by
  have hz : w.heap.size + 4 < wr.heap.size := lt_of_block h.pl.seen
  refine ⟨h.below.trans ⟨ht.os, ht.tape, ht.output, by rw [ht.size]; exact Nat.le_refl _, fun k hk => ht.block k (by omega)⟩, h.text.keep fun k _ => World.cell?_of_block (ht.block b (by omega)), (ht.block _ (by omega)).trans h.map, hp, ?_, ?_⟩
  · refine ⟨h.own4.1, ?_⟩
    rcases h.own4.2 with hh | ⟨g, c, cur, hv, hg, hh, r⟩
    · exact .inl hh
    · exact .inr ⟨g, c, cur, hv, hg, (ht.block g (by omega)).trans hh, r⟩
  · refine ⟨h.own5.1, ?_⟩
    rcases h.own5.2 with hh | ⟨g, c, cur, hv, hg, hh, r⟩
    · exact .inl hh
    · exact .inr ⟨g, c, cur, hv, hg, (ht.block g (by omega)).trans hh, r⟩
theorem SI.app4 {v' : Value} {t : Tok} (h : SI l b off cap w v4 v5 T D s wr) (hg : wr.grownBy w2 v4.ownBlock) (ho : w2.ownsRow (w.heap.size + 5) 38 5 v' (T.length + 1) (tcs T ++ t.cells)) (hbw : b < w.heap.size) : SI l b off cap w v' v5 (T ++ [t]) D s w2 := by
  have hz : w.heap.size + 4 < wr.heap.size := lt_of_block h.pl.seen
  have hr : ∀ k, v4.ownBlock = some k → w.heap.size + 5 ≤ k := fun k hk => (h.own4.lt k hk).1
  have hk : ∀ k, k < w.heap.size + 5 → w2.heap[k]? = wr.heap[k]? := fun k hk => hg.block k (by omega) (fun e => by have := hr k e.symm; omega)
  refine ⟨h.below.grown hg (by omega) (fun k e => by have := hr k e; omega), h.text.keep fun k _ => World.cell?_of_block (hk b (by omega)), (hk _ (by omega)).trans h.map, h.pl.keep fun i h1 h2 => hk i (by omega), ?_, h.own5.kept hg (own_ne h.own5 h.own4 (by decide))⟩
  rw [tcs_snoc, List.length_append]
  exact ho
theorem SI.app5 {v' : Value} {t : Dg} (h : SI l b off cap w v4 v5 T D s wr) (hg : wr.grownBy w2 v5.ownBlock) (ho : w2.ownsRow (w.heap.size + 5) 35 3 v' (D.length + 1) (dcs D ++ t.cells)) (hbw : b < w.heap.size) : SI l b off cap w v4 v' T (D ++ [t]) s w2 := by
  have hz : w.heap.size + 4 < wr.heap.size := lt_of_block h.pl.seen
  have hr : ∀ k, v5.ownBlock = some k → w.heap.size + 5 ≤ k := fun k hk => (h.own5.lt k hk).1
  have hk : ∀ k, k < w.heap.size + 5 → w2.heap[k]? = wr.heap[k]? := fun k hk => hg.block k (by omega) (fun e => by have := hr k e.symm; omega)
  refine ⟨h.below.grown hg (by omega) (fun k e => by have := hr k e; omega), h.text.keep fun k _ => World.cell?_of_block (hk b (by omega)), (hk _ (by omega)).trans h.map, h.pl.keep fun i h1 h2 => hk i (by omega), h.own4.kept hg (own_ne h.own4 h.own5 (by decide)), ?_⟩
  rw [dcs_snoc, List.length_append]
  exact ho
end

theorem infoTok : (Try.prog.info? 38).map (fun i => (i.zero, i.size, i.bytes)) = some (some (.agg #[.int .i64 0, .string ⟨#[]⟩, .int .i64 0, .int .i64 0, .int .i64 0]), 5, 48) := by kernel_rfl
theorem infoDg : (Try.prog.info? 35).map (fun i => (i.zero, i.size, i.bytes)) = some (some (.agg #[.int .i64 0, .int .i64 0, .int .i64 0]), 3, 24) := by kernel_rfl

/-- append of one fault, of one token, to a row of the call's own. -/
theorem wpList_app5 {ops : Array Oper} {rest : List Oper} {o : Oper} {a : Act} {Q : Exit → Act → World → Prop} (w : World) (hgd : o.guard = none) (s x : Operand)
    (ho : o.op = .call { callee := .builtin .append, args := #[s, x], argTypes := #[25, 25] })
    (base : Nat) (v : Value) (D : List Dg) (hs : a.eval s = v) (hown : w.ownsRow base 35 3 v D.length (dcs D)) (ad : Addr) (d : Dg) (hx : a.eval x = .slice (some ad) 1 1)
    (hnews : ∀ j u, d.cells[j]? = some u → w.cell? (ad.add j) = some u) (hlen : D.length ≤ 1000000) (hbase : base ≤ w.heap.size)
    (h : ∀ v' w', w'.ownsRow base 35 3 v' (D.length + 1) (dcs D ++ d.cells) → w.grownBy w' v.ownBlock → wpList Try.prog ops Q rest (a.put o.dst v') w') : wpList Try.prog ops Q (o :: rest) a w := by
  obtain ⟨i5, hi, hz0, hz1, hz2⟩ := info_parts infoDg
  refine wpList_append_own w hgd s x 25 ho base 35 i5 _ 3 24 Try.underlying25 hi hz0 hz1 hz2 rfl (by decide) v _ _ hs hown ad 1 1 d.cells hx rfl hnews ?_ (by unfold maxLen; omega) (by omega) hbase (fun v' w' h1 h2 _ => h v' w' h1 h2)
  intro u hu
  simp [Dg.cells] at hu
  rcases hu with rfl | rfl | rfl <;> rfl
theorem wpList_app4 {ops : Array Oper} {rest : List Oper} {o : Oper} {a : Act} {Q : Exit → Act → World → Prop} (w : World) (hgd : o.guard = none) (s x : Operand)
    (ho : o.op = .call { callee := .builtin .append, args := #[s, x], argTypes := #[24, 24] })
    (base : Nat) (v : Value) (T : List Tok) (hs : a.eval s = v) (hown : w.ownsRow base 38 5 v T.length (tcs T)) (ad : Addr) (t : Tok) (hx : a.eval x = .slice (some ad) 1 1)
    (hnews : ∀ j u, t.cells[j]? = some u → w.cell? (ad.add j) = some u) (hlen : T.length ≤ 1000000) (hbase : base ≤ w.heap.size)
    (h : ∀ v' w', w'.ownsRow base 38 5 v' (T.length + 1) (tcs T ++ t.cells) → w.grownBy w' v.ownBlock → wpList Try.prog ops Q rest (a.put o.dst v') w') : wpList Try.prog ops Q (o :: rest) a w := by
  obtain ⟨i4, hi, hz0, hz1, hz2⟩ := info_parts infoTok
  refine wpList_append_own w hgd s x 24 ho base 38 i4 _ 5 48 Try.underlying24 hi hz0 hz1 hz2 rfl (by decide) v _ _ hs hown ad 1 1 t.cells hx rfl hnews ?_ (by unfold maxLen; omega) (by omega) hbase (fun v' w' h1 h2 _ => h v' w' h1 h2)
  intro u hu
  simp [Tok.cells] at hu
  rcases hu with rfl | rfl | rfl | rfl | rfl <;> rfl

/-- The cells of a block that was laid last. -/
theorem new_cells (w : World) (cs : List Value) (t : TypeId) : ∀ j u, cs[j]? = some u → (w.alloc (.cells cs.toArray t)).cell? ((⟨w.heap.size, 0, none⟩ : Addr).add j) = some u := by
  intro j u hu
  have hadd : (⟨w.heap.size, 0, none⟩ : Addr).add j = ⟨w.heap.size, j, none⟩ := by unfold Addr.add; split <;> simp_all
  rw [hadd, cell_of_row _ w.heap.size j cs.toArray t (0, 0) (heap_alloc_new w _)]
  simpa using hu
theorem nextAt_int (l : List UInt8) (b off cap : Nat) (p : Nat) (z : Int) (w : World) (hz : z = p) (hb : Bs w b off l) (hn : l.length ≤ 1000000000) (hat : p ≤ l.length) :
    Calls Try.prog 25 #[.slice (some ⟨b, off, none⟩) l.length cap, .int .i64 z] w fun e w' => e = .returned (.int .i64 (nxt l p)) ∧ w = w' := by
  subst hz
  exact nextAt_ok l b off cap p w hb hn hat
end Go.Proofs.Ythgpepkcjjimlaa
