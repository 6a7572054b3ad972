/- What a text's tokens are, and what is wrong with it, plainly; and what token.Scan's loop keeps; The grammar, plainly: a parser of tokens that answers trees. -/
import Derived.Test.YtehdljcmeimbcaaGreatB02
import Derived.Test.YtehdljcmeimbcaaGreatB01
namespace Go.Proofs.YtehdljcmeimbcaaGreat
open Go.RowKit

structure Tok where
  kind : Int
  text : List UInt8
  n : Int
  line : Int
  col : Int
structure Dg where
  line : Int
  col : Int
  err : Int
def Tok.cells (t : Tok) : List Value := [.int .i64 t.kind, .string ⟨t.text.toArray⟩, .int .i64 t.n, .int .i64 t.line, .int .i64 t.col]
def Dg.cells (d : Dg) : List Value := [.int .i64 d.line, .int .i64 d.col, .int .i64 d.err]
def tcs (l : List Tok) : List Value := l.flatMap Tok.cells
def dcs (l : List Dg) : List Value := l.flatMap Dg.cells
theorem tcs_len (l : List Tok) : (tcs l).length = l.length * 5 := by
  unfold tcs
  induction l with
  | nil => rfl
  | cons t r ih => rw [List.flatMap_cons, List.length_append, ih]; simp [Tok.cells]; omega
theorem dcs_len (l : List Dg) : (dcs l).length = l.length * 3 := by
  unfold dcs
  induction l with
  | nil => rfl
  | cons t r ih => rw [List.flatMap_cons, List.length_append, ih]; simp [Dg.cells]; omega
theorem tcs_snoc (l : List Tok) (t : Tok) : tcs (l ++ [t]) = tcs l ++ t.cells := by simp [tcs]
theorem dcs_snoc (l : List Dg) (t : Dg) : dcs (l ++ [t]) = dcs l ++ t.cells := by simp [dcs]

def kindA (l : List UInt8) (a : Nat) : Int := kindI (chr l a)
def endA (l : List UInt8) (a : Nat) : Nat := if kindA l a = 0 then a + 1 else endT l (kindA l a) a
def textA (l : List UInt8) (a : Nat) : List UInt8 := (l.drop a).take (endA l a - a)
def tokA (l : List UInt8) (a : Nat) : Tok := ⟨tkind (kindA l a) (textA l a), textA l a, tnum (kindA l a) (textA l a), lineOf l a, (a : Int) - fromOf l a + 1⟩
def errA (l : List UInt8) (a : Nat) : Int := if kindA l a = 0 then 3 else terr (kindA l a) (textA l a)
def dgA (l : List UInt8) (a : Nat) : Dg := ⟨lineOf l a, (a : Int) - fromOf l a + 1, errA l a⟩

theorem endT_le (l : List UInt8) (k : Int) (a : Nat) (h : a < l.length) : endT l k a ≤ l.length := by
  unfold endT
  split
  · rename_i hp
    have := pre2_len _ hp
    simp at this; omega
  · exact ends_le l k (a + 1) (by omega)
theorem endT_gt (l : List UInt8) (k : Int) (a : Nat) : a < endT l k a := by
  unfold endT
  split
  · omega
  · have := ends_ge l k (a + 1); omega
theorem endA_le (l : List UInt8) (a : Nat) (h : a < l.length) : endA l a ≤ l.length := by
  unfold endA
  split
  · omega
  · exact endT_le l _ a h
theorem endA_gt (l : List UInt8) (a : Nat) : a < endA l a := by
  unfold endA
  split
  · omega
  · exact endT_gt l _ a
theorem nxt_ge (l : List UInt8) (a : Nat) : a ≤ nxt l a := by unfold nxt; omega

/-- The tokens from a place on, and what is wrong. -/
def scanG : Nat → List UInt8 → Nat → List Tok × List Dg
  | 0, _, _ => ([], [])
  | n + 1, l, a => if a < l.length then
      ((if kindA l a = 0 then (scanG n l (nxt l (endA l a))).1 else tokA l a :: (scanG n l (nxt l (endA l a))).1),
       (if errA l a = 0 then (scanG n l (nxt l (endA l a))).2 else dgA l a :: (scanG n l (nxt l (endA l a))).2))
    else ([], [])
theorem scanG_more : ∀ (n m : Nat) (l : List UInt8) (a : Nat), l.length - a ≤ n → l.length - a ≤ m → scanG n l a = scanG m l a
  | 0, 0, _, _, _, _ => rfl
  | 0, m + 1, l, a, h, _ => by
    have : ¬ a < l.length := by omega
    simp [scanG, this]
  | n + 1, 0, l, a, _, h => by
    have : ¬ a < l.length := by omega
    simp [scanG, this]
  | n + 1, m + 1, l, a, h1, h2 => by
    have hg := endA_gt l a
    have hn := nxt_ge l (endA l a)
    simp only [scanG]
    split
    · rw [scanG_more n m l (nxt l (endA l a)) (by omega) (by omega)]
    · rfl
def toks (l : List UInt8) (a : Nat) : List Tok := (scanG (l.length - a) l a).1
def dgs (l : List UInt8) (a : Nat) : List Dg := (scanG (l.length - a) l a).2
theorem scan_step (l : List UInt8) (a : Nat) (h : a < l.length) : scanG (l.length - a) l a =
    ((if kindA l a = 0 then toks l (nxt l (endA l a)) else tokA l a :: toks l (nxt l (endA l a))),
     (if errA l a = 0 then dgs l (nxt l (endA l a)) else dgA l a :: dgs l (nxt l (endA l a)))) := by
  have hg := endA_gt l a
  have hn := nxt_ge l (endA l a)
  have e : scanG (l.length - (nxt l (endA l a))) l (nxt l (endA l a)) = scanG (l.length - a - 1) l (nxt l (endA l a)) := scanG_more _ _ _ _ (by omega) (by omega)
  unfold toks dgs
  rw [e]
  obtain ⟨n, hn⟩ : ∃ n, l.length - a = n + 1 := ⟨l.length - a - 1, by omega⟩
  rw [hn]
  simp only [scanG]
  rw [if_pos h]
  rfl
theorem toks_skip (l : List UInt8) (a : Nat) (h : a < l.length) (hk : kindA l a = 0) : toks l a = toks l (nxt l (endA l a)) := by
  unfold toks; rw [scan_step l a h, if_pos hk]; rfl
theorem toks_one (l : List UInt8) (a : Nat) (h : a < l.length) (hk : ¬ kindA l a = 0) : toks l a = tokA l a :: toks l (nxt l (endA l a)) := by
  conv => lhs; unfold toks
  rw [scan_step l a h, if_neg hk]
theorem toks_end (l : List UInt8) (a : Nat) (h : ¬ a < l.length) : toks l a = [] := by
  unfold toks
  rw [show l.length - a = 0 from by omega]; rfl
theorem dgs_skip (l : List UInt8) (a : Nat) (h : a < l.length) (hk : errA l a = 0) : dgs l a = dgs l (nxt l (endA l a)) := by
  conv => lhs; unfold dgs
  rw [scan_step l a h, if_pos hk]
theorem dgs_one (l : List UInt8) (a : Nat) (h : a < l.length) (hk : ¬ errA l a = 0) : dgs l a = dgA l a :: dgs l (nxt l (endA l a)) := by
  conv => lhs; unfold dgs
  rw [scan_step l a h, if_neg hk]
theorem dgs_end (l : List UInt8) (a : Nat) (h : ¬ a < l.length) : dgs l a = [] := by
  unfold dgs
  rw [show l.length - a = 0 from by omega]; rfl
theorem len_toks : ∀ (n : Nat) (l : List UInt8) (a : Nat), l.length - a ≤ n → (toks l a).length ≤ l.length - a
  | 0, l, a, h => by rw [toks_end l a (by omega)]; simp
  | n + 1, l, a, h => by
    by_cases hl : a < l.length
    · have hg := endA_gt l a
      have hn := nxt_ge l (endA l a)
      have := len_toks n l (nxt l (endA l a)) (by omega)
      by_cases hk : kindA l a = 0
      · rw [toks_skip l a hl hk]; omega
      · rw [toks_one l a hl hk]; simp; omega
    · rw [toks_end l a hl]; simp
theorem len_dgs : ∀ (n : Nat) (l : List UInt8) (a : Nat), l.length - a ≤ n → (dgs l a).length ≤ l.length - a
  | 0, l, a, h => by rw [dgs_end l a (by omega)]; simp
  | n + 1, l, a, h => by
    by_cases hl : a < l.length
    · have hg := endA_gt l a
      have hn := nxt_ge l (endA l a)
      have := len_dgs n l (nxt l (endA l a)) (by omega)
      by_cases hk : errA l a = 0
      · rw [dgs_skip l a hl hk]; omega
      · rw [dgs_one l a hl hk]; simp; omega
    · rw [dgs_end l a hl]; simp

/-- What the loop of Scan keeps: w: the world when the call began; wr: the world now. -/
structure SI (l : List UInt8) (b off cap : Nat) (w : World) (v4 v5 : Value) (T : List Tok) (D : List Dg) (s : Nat) (wr : World) : Prop where
  below : Below w.heap.size w wr
  text : Bs wr b off l
  map : wr.heap[w.heap.size]? = some (wobj (wk 36))
  pl : Pl wr (w.heap.size + 1) (.slice (some ⟨b, off, none⟩) l.length cap) (lineOf l s) (fromOf l s) s
  own4 : wr.ownsRow (w.heap.size + 5) 61 5 v4 T.length (tcs T)
  own5 : wr.ownsRow (w.heap.size + 5) 48 3 v5 D.length (dcs D)

theorem grown_of_below {w w' : World} (h : Below w.heap.size w w') (row : Option Nat) : w.grownBy w' row := ⟨h.os, h.tape, h.output, h.size, fun i hi _ => h.block i hi⟩
theorem own_below {w w' : World} {base : Nat} {e : TypeId} {size n : Nat} {v : Value} {xs : List Value} (h : w.ownsRow base e size v n xs) (hb : Below w.heap.size w w') : w'.ownsRow base e size v n xs :=
  h.kept (grown_of_below hb none) (by cases hv : v.ownBlock <;> simp)
theorem own_ne {w : World} {base base' : Nat} {e e' : TypeId} {size size' n n' : Nat} {v v' : Value} {xs xs' : List Value} (h : w.ownsRow base e size v n xs) (h' : w.ownsRow base' e' size' v' n' xs') (hne : e ≠ e') : v.ownBlock = none ∨ v.ownBlock ≠ v'.ownBlock := by
  rcases h.2 with ⟨rfl, _⟩ | ⟨g, cap, cur, rfl, _, hg, _⟩
  · exact .inl rfl
  · right
    rcases h'.2 with ⟨rfl, _⟩ | ⟨g', cap', cur', rfl, _, hg', _⟩
    · simp [Value.ownBlock]
    · intro hgg
      have : g = g' := by simpa [Value.ownBlock] using hgg
      subst this
      rw [hg] at hg'
      injection hg' with hg'
      injection hg' with _ ht
      exact hne ht
section
variable {l : List UInt8} {b off cap : Nat} {w wr w2 : World} {v4 v5 : Value} {T : List Tok} {D : List Dg} {s : Nat}
theorem Pl.keep {g : Nat} {v : Value} {a b c : Nat} (h : Pl wr g v a b c) (hk : ∀ i, g ≤ i → i ≤ g + 3 → w2.heap[i]? = wr.heap[i]?) : Pl w2 g v a b c :=
  ⟨(hk _ (by omega) (by omega)).trans h.text, (hk _ (by omega) (by omega)).trans h.line, (hk _ (by omega) (by omega)).trans h.first, (hk _ (by omega) (by omega)).trans h.seen⟩
theorem SI.after (h : SI l b off cap w v4 v5 T D s wr) (hb : Below wr.heap.size wr w2) (h0 : 0 < l.length) : SI l b off cap w v4 v5 T D s w2 := by
  have hz : w.heap.size + 4 < wr.heap.size := lt_of_block h.pl.seen
  exact ⟨h.below.trans (hb.mono (by omega)), h.text.below hb (h.text.lt h0), heap_below hb (by omega) h.map, h.pl.keep fun i h1 h2 => hb.block i (by omega), own_below h.own4 hb, own_below h.own5 hb⟩
theorem SI.place {q : Nat} (h : SI l b off cap w v4 v5 T D s wr) (ht : Pt (w.heap.size + 1) wr w2) (hp : Pl w2 (w.heap.size + 1) (.slice (some ⟨b, off, none⟩) l.length cap) (lineOf l q) (fromOf l q) q) (hbw : b < w.heap.size) : SI l b off cap w v4 v5 T D q w2 := by
  have hz : w.heap.size + 4 < wr.heap.size := lt_of_block h.pl.seen
  refine ⟨h.below.trans ⟨ht.os, ht.tape, ht.output, by rw [ht.size]; exact Nat.le_refl _, fun k hk => ht.block k (by omega)⟩, h.text.keep fun k _ => World.cell?_of_block (ht.block b (by omega)), (ht.block _ (by omega)).trans h.map, hp, ?_, ?_⟩
  · refine ⟨h.own4.1, ?_⟩
    rcases h.own4.2 with hh | ⟨g, c, cur, hv, hg, hh, r⟩
    · exact .inl hh
    · exact .inr ⟨g, c, cur, hv, hg, (ht.block g (by omega)).trans hh, r⟩
  · refine ⟨h.own5.1, ?_⟩
    rcases h.own5.2 with hh | ⟨g, c, cur, hv, hg, hh, r⟩
    · exact .inl hh
    · exact .inr ⟨g, c, cur, hv, hg, (ht.block g (by omega)).trans hh, r⟩
theorem SI.app4 {v' : Value} {t : Tok} (h : SI l b off cap w v4 v5 T D s wr) (hg : wr.grownBy w2 v4.ownBlock) (ho : w2.ownsRow (w.heap.size + 5) 61 5 v' (T.length + 1) (tcs T ++ t.cells)) (hbw : b < w.heap.size) : SI l b off cap w v' v5 (T ++ [t]) D s w2 := by
  have hz : w.heap.size + 4 < wr.heap.size := lt_of_block h.pl.seen
  have hr : ∀ k, v4.ownBlock = some k → w.heap.size + 5 ≤ k := fun k hk => (h.own4.lt k hk).1
  have hk : ∀ k, k < w.heap.size + 5 → w2.heap[k]? = wr.heap[k]? := fun k hk => hg.block k (by omega) (fun e => by have := hr k e.symm; omega)
  refine ⟨h.below.grown hg (by omega) (fun k e => by have := hr k e; omega), h.text.keep fun k _ => World.cell?_of_block (hk b (by omega)), (hk _ (by omega)).trans h.map, h.pl.keep fun i h1 h2 => hk i (by omega), ?_, h.own5.kept hg (own_ne h.own5 h.own4 (by decide))⟩
  rw [tcs_snoc, List.length_append]
  exact ho
theorem SI.app5 {v' : Value} {t : Dg} (h : SI l b off cap w v4 v5 T D s wr) (hg : wr.grownBy w2 v5.ownBlock) (ho : w2.ownsRow (w.heap.size + 5) 48 3 v' (D.length + 1) (dcs D ++ t.cells)) (hbw : b < w.heap.size) : SI l b off cap w v4 v' T (D ++ [t]) s w2 := by
  have hz : w.heap.size + 4 < wr.heap.size := lt_of_block h.pl.seen
  have hr : ∀ k, v5.ownBlock = some k → w.heap.size + 5 ≤ k := fun k hk => (h.own5.lt k hk).1
  have hk : ∀ k, k < w.heap.size + 5 → w2.heap[k]? = wr.heap[k]? := fun k hk => hg.block k (by omega) (fun e => by have := hr k e.symm; omega)
  refine ⟨h.below.grown hg (by omega) (fun k e => by have := hr k e; omega), h.text.keep fun k _ => World.cell?_of_block (hk b (by omega)), (hk _ (by omega)).trans h.map, h.pl.keep fun i h1 h2 => hk i (by omega), h.own4.kept hg (own_ne h.own4 h.own5 (by decide)), ?_⟩
  rw [dcs_snoc, List.length_append]
  exact ho
end

theorem infoTok : (Tryz.prog.info? 61).map (fun i => (i.zero, i.size, i.bytes)) = some (some (.agg #[.int .i64 0, .string ⟨#[]⟩, .int .i64 0, .int .i64 0, .int .i64 0]), 5, 48) := by kernel_rfl
theorem infoDg : (Tryz.prog.info? 48).map (fun i => (i.zero, i.size, i.bytes)) = some (some (.agg #[.int .i64 0, .int .i64 0, .int .i64 0]), 3, 24) := by kernel_rfl

/-- append of one fault, of one token, to a row of the call's own. -/
theorem wpList_app5 {ops : Array Oper} {rest : List Oper} {o : Oper} {a : Act} {Q : Exit → Act → World → Prop} (w : World) (hgd : o.guard = none) (s x : Operand)
    (ho : o.op = .call { callee := .builtin .append, args := #[s, x], argTypes := #[27, 27] })
    (base : Nat) (v : Value) (D : List Dg) (hs : a.eval s = v) (hown : w.ownsRow base 48 3 v D.length (dcs D)) (ad : Addr) (d : Dg) (hx : a.eval x = .slice (some ad) 1 1)
    (hnews : ∀ j u, d.cells[j]? = some u → w.cell? (ad.add j) = some u) (hlen : D.length ≤ 1000000) (hbase : base ≤ w.heap.size)
    (h : ∀ v' w', w'.ownsRow base 48 3 v' (D.length + 1) (dcs D ++ d.cells) → w.grownBy w' v.ownBlock → wpList Tryz.prog ops Q rest (a.put o.dst v') w') : wpList Tryz.prog ops Q (o :: rest) a w := by
  obtain ⟨i5, hi, hz0, hz1, hz2⟩ := info_parts infoDg
  refine wpList_append_own w hgd s x 27 ho base 48 i5 _ 3 24 Tryz.underlying27 hi hz0 hz1 hz2 rfl (by decide) v _ _ hs hown ad 1 1 d.cells hx rfl hnews ?_ (by unfold maxLen; omega) (by omega) hbase (fun v' w' h1 h2 _ => h v' w' h1 h2)
  intro u hu
  simp [Dg.cells] at hu
  rcases hu with rfl | rfl | rfl <;> rfl
theorem wpList_app4 {ops : Array Oper} {rest : List Oper} {o : Oper} {a : Act} {Q : Exit → Act → World → Prop} (w : World) (hgd : o.guard = none) (s x : Operand)
    (ho : o.op = .call { callee := .builtin .append, args := #[s, x], argTypes := #[42, 42] })
    (base : Nat) (v : Value) (T : List Tok) (hs : a.eval s = v) (hown : w.ownsRow base 61 5 v T.length (tcs T)) (ad : Addr) (t : Tok) (hx : a.eval x = .slice (some ad) 1 1)
    (hnews : ∀ j u, t.cells[j]? = some u → w.cell? (ad.add j) = some u) (hlen : T.length ≤ 1000000) (hbase : base ≤ w.heap.size)
    (h : ∀ v' w', w'.ownsRow base 61 5 v' (T.length + 1) (tcs T ++ t.cells) → w.grownBy w' v.ownBlock → wpList Tryz.prog ops Q rest (a.put o.dst v') w') : wpList Tryz.prog ops Q (o :: rest) a w := by
  obtain ⟨i4, hi, hz0, hz1, hz2⟩ := info_parts infoTok
  refine wpList_append_own w hgd s x 42 ho base 61 i4 _ 5 48 Tryz.underlying42 hi hz0 hz1 hz2 rfl (by decide) v _ _ hs hown ad 1 1 t.cells hx rfl hnews ?_ (by unfold maxLen; omega) (by omega) hbase (fun v' w' h1 h2 _ => h v' w' h1 h2)
  intro u hu
  simp [Tok.cells] at hu
  rcases hu with rfl | rfl | rfl | rfl | rfl <;> rfl

/-- The cells of a block that was laid last. -/
theorem new_cells (w : World) (cs : List Value) (t : TypeId) : ∀ j u, cs[j]? = some u → (w.alloc (.cells cs.toArray t)).cell? ((⟨w.heap.size, 0, none⟩ : Addr).add j) = some u := by
  intro j u hu
  have hadd : (⟨w.heap.size, 0, none⟩ : Addr).add j = ⟨w.heap.size, j, none⟩ := by unfold Addr.add; split <;> simp_all
  rw [hadd, cell_of_row _ w.heap.size j cs.toArray t (0, 0) (heap_alloc_new w _)]
  simpa using hu
theorem nextAt_int (l : List UInt8) (b off cap : Nat) (p : Nat) (z : Int) (w : World) (hz : z = p) (hb : Bs w b off l) (hn : l.length ≤ 1000000000) (hat : p ≤ l.length) :
    Calls Tryz.prog 23 #[.slice (some ⟨b, off, none⟩) l.length cap, .int .i64 z] w fun e w' => e = .returned (.int .i64 (nxt l p)) ∧ w = w' := by
  subst hz
  exact nextAt_ok l b off cap p w hb hn hat
end Go.Proofs.YtehdljcmeimbcaaGreat

namespace Go.Proofs.YtehdljcmeimbcaaGreat

/-- What a part of the grammar comes to: too few rounds; something wrong, and what stands from there on; a tree, and what stands behind it. -/
inductive Out where
  | dry
  | bad (err : Int) (r : List Tok)
  | ok (d : Nd) (k : Fo) (r : List Tok)

def Out.and (o : Out) (f : Nd → Fo → List Tok → Out) : Out :=
  match o with
  | .dry => .dry
  | .bad e r => .bad e r
  | .ok d k r => f d k r

def Fo.app : Fo → Fo → Fo
  | .nil, g => g
  | .cons d k r, g => .cons d k (r.app g)
def one (d : Nd) (k : Fo) : Fo := .cons d k .nil

def hd (r : List Tok) : Tok := r.headD ⟨0, [], 0, 0, 0⟩
def seesK (k : Int) (r : List Tok) (l : List (List UInt8)) : Bool := (hd r).kind == k && l.contains (hd r).text
def seesW (r : List Tok) (l : List (List UInt8)) : Bool := seesK 2 r l
def seesM (r : List Tok) (l : List (List UInt8)) : Bool := seesK 4 r l
/-- A token that must be. -/
def tk (c : Bool) (r : List Tok) (f : Tok → List Tok → Out) : Out := if c = true then f (hd r) r.tail else .bad 4 r
def tkM (l : List (List UInt8)) (r : List Tok) (f : Tok → List Tok → Out) : Out := tk (seesM r l) r f
def tkW (l : List (List UInt8)) (r : List Tok) (f : Tok → List Tok → Out) : Out := tk (seesW r l) r f
def tkK (k : Int) (r : List Tok) (f : Tok → List Tok → Out) : Out := tk ((hd r).kind == k) r f
/-- A token with which it is one nest deeper. -/
def ent (m : Nat) (r : List Tok) (f : Tok → List Tok → Out) : Out := if m = 64 then .bad 5 r else f (hd r) r.tail
def at_ (t : Tok) (k : Int) (s : List UInt8) (n : Int) : Nd := ⟨k, s, n, t.line, t.col⟩

def tyWords : List (List UInt8) := [[105, 110, 116], [102, 110], [116, 111, 107], [104, 97, 110, 100], [97, 114, 114]]
def isTyT (r : List Tok) : Bool := (hd r).kind == 1 || seesW r tyWords
/-- A type; a name that is used; the looper; a member; a callback. -/
def tyO (r : List Tok) : Out := tk (isTyT r) r fun t r => .ok (at_ t 5 t.text 0) .nil r
def useO (r : List Tok) : Out := tkK 1 r fun t r => .ok (at_ t 29 t.text 0) .nil r
def onO (r : List Tok) : Out := tkW [[111, 110]] r fun _ r => useO r
def memO (r : List Tok) : Out := tkK 1 r fun x r => (tyO r).and fun y yk r => tkM [[59]] r fun _ r => .ok (at_ x 4 x.text 0) (one y yk) r
def lifeWords : List (List UInt8) := [[99, 114, 101, 97, 116, 101], [115, 116, 97, 114, 116], [115, 116, 111, 112], [100, 101, 115, 116, 114, 111, 121]]
def lifeO (b : List Tok → Out) (r : List Tok) : Out := tkW lifeWords r fun x r => (b r).and fun d k r => .ok (at_ x 9 [] (lifeWords.idxOf x.text)) (one d k) r

/-- The parts of the grammar, and the loops in them with what they have so far. -/
inductive Gr where
  | decls (acc : Fo) | decl | members (t nm : Tok) (acc : Fo) | lives (t nm : Tok) (acc : Fo)
  | block | stmts (t : Tok) (acc : Fo) | stmt | to (d : Nd) (acc : Fo) | var
  | term | sum | sumL (d : Nd) (k : Fo) | product | prodL (d : Nd) (k : Fo) | unary | tight | tightL (d : Nd) (k : Fo) | first

def actWords : List (List UInt8) := [[99, 97, 108, 108], [99, 97, 110, 99, 101, 108], [106, 111, 105, 110], [108, 111, 103]]
def actKind (s : List UInt8) : Int := if s = [99, 97, 110, 99, 101, 108] then 16 else if s = [106, 111, 105, 110] then 17 else if s = [108, 111, 103] then 18 else 15
def nameNd : Tok → Int → Tok → Nd := fun t k nm => at_ t k nm.text 0
def isVarK (k : Int) : Bool := k == 29 || k == 30 || k == 31

def P : Nat → Gr → List Tok → Nat → Out
  | 0, _, _, _ => .dry
  | n + 1, q, r, m => match q with
    | .decls acc => if r = [] then .ok ⟨1, [], 0, 1, 1⟩ acc [] else (P n .decl r m).and fun d k r => P n (.decls (acc.app (one d k))) r m
    | .decl =>
      if seesW r [[108, 111, 111, 112, 101, 114]] = true then tkK 1 r.tail fun nm r' => tkM [[59]] r' fun _ r' => .ok (at_ (hd r) 2 nm.text 0) .nil r'
      else if seesW r [[99, 108, 97, 115, 115]] = true then tkK 1 r.tail fun nm r' => tkM [[123]] r' fun _ r' => P n (.members (hd r) nm .nil) r' m
      else if seesW r [[118, 97, 114]] = true then tkK 1 r.tail fun nm r' => (tyO r').and fun y yk r' => tkM [[59]] r' fun _ r' => .ok (at_ (hd r) 6 nm.text 0) (one y yk) r'
      else if seesW r [[102, 110]] = true then tkK 1 r.tail fun nm r' => (P n .block r' m).and fun d k r' => .ok (at_ (hd r) 7 nm.text 0) (one d k) r'
      else if seesW r [[99, 111, 109, 112]] = true then tkK 1 r.tail fun nm r' => (onO r').and fun u uk r' => tkM [[123]] r' fun _ r' => P n (.lives (hd r) nm (one u uk)) r' m
      else if seesW r [[101, 118, 101, 110, 116]] = true then tkK 1 r.tail fun nm r' => (onO r').and fun u uk r' => tkW [[111, 110], [111, 102, 102]] r' fun x r' =>
        (P n .block r' m).and fun d k r' => .ok (at_ (hd r) 10 nm.text (if x.text = [111, 110] then 1 else 0)) ((one u uk).app (one d k)) r'
      else tkW [[109, 97, 105, 110]] r fun t r' => (P n .block r' m).and fun d k r' => .ok (at_ t 11 [] 0) (one d k) r'
    | .members t nm acc =>
      if seesM r [[125]] = true then .ok (at_ t 3 nm.text 0) acc r.tail
      else (memO r).and fun d k r' => P n (.members t nm (acc.app (one d k))) r' m
    | .lives t nm acc =>
      if seesM r [[125]] = true then .ok (at_ t 8 nm.text 0) acc r.tail
      else (lifeO (fun r => P n .block r m) r).and fun d k r' => P n (.lives t nm (acc.app (one d k))) r' m
    | .block => if seesM r [[123]] = true then ent m r fun t r' => P n (.stmts t .nil) r' (m + 1) else .bad 4 r
    | .stmts t acc =>
      if seesM r [[125]] = true then .ok (at_ t 12 [] 0) acc r.tail
      else (P n .stmt r m).and fun d k r' => P n (.stmts t (acc.app (one d k))) r' m
    | .stmt =>
      if seesW r [[118, 97, 114]] = true then tkK 1 r.tail fun nm r' => (tyO r').and fun y yk r' => tkM [[61]] r' fun _ r' => (P n .term r' m).and fun d k r' => tkM [[59]] r' fun _ r' => .ok (at_ (hd r) 13 nm.text 0) ((one y yk).app (one d k)) r'
      else if seesW r actWords = true then (P n .term r.tail m).and fun d k r' => tkM [[59]] r' fun _ r' => .ok (at_ (hd r) (actKind (hd r).text) [] 0) (one d k) r'
      else if seesW r [[112, 111, 115, 116]] = true then tkK 1 r.tail fun nm r' => (P n .term r' m).and fun d k r' =>
        if seesW r' [[97, 102, 116, 101, 114]] = true then tkK 3 r'.tail fun x r' => P n (.to (at_ (hd r) 19 nm.text x.n) (one d k)) r' m
        else if seesW r' [[102, 114, 111, 110, 116]] = true then P n (.to (at_ (hd r) 19 nm.text (-1)) (one d k)) r'.tail m
        else P n (.to (at_ (hd r) 19 nm.text 0) (one d k)) r' m
      else if seesW r [[115, 112, 97, 119, 110]] = true then (P n .term r.tail m).and fun d k r' => P n (.to (at_ (hd r) 20 [] 0) (one d k)) r' m
      else if seesW r [[101, 110, 97, 98, 108, 101], [100, 105, 115, 97, 98, 108, 101]] = true then tkK 1 r.tail fun nm r' => tkM [[59]] r' fun _ r' => .ok (at_ (hd r) (if (hd r).text = [100, 105, 115, 97, 98, 108, 101] then 22 else 21) nm.text 0) .nil r'
      else if seesW r [[105, 102]] = true then (P n .term r.tail m).and fun d k r' => (P n .block r' m).and fun d' k' r' =>
        if seesW r' [[101, 108, 115, 101]] = true then (P n .block r'.tail m).and fun d'' k'' r' => .ok (at_ (hd r) 23 [] 0) ((one d k).app ((one d' k').app (one d'' k''))) r'
        else .ok (at_ (hd r) 23 [] 0) ((one d k).app ((one d' k').app (one (at_ (hd r) 12 [] 0) .nil))) r'
      else if seesW r [[119, 104, 105, 108, 101]] = true then (P n .term r.tail m).and fun d k r' => (P n .block r' m).and fun d' k' r' => .ok (at_ (hd r) 24 [] 0) ((one d k).app (one d' k')) r'
      else if seesW r [[114, 101, 116, 117, 114, 110]] = true then tkM [[59]] r.tail fun _ r' => .ok (at_ (hd r) 25 [] 0) .nil r'
      else (P n .var r m).and fun d k r' => tkM [[61]] r' fun _ r' => (P n .term r' m).and fun d' k' r' => tkM [[59]] r' fun _ r' => .ok (at_ (hd r) 14 [] 0) ((one d k).app (one d' k')) r'
    | .to d acc =>
      if seesW r [[116, 111]] = true then (P n .var r.tail m).and fun d' k' r' => tkM [[59]] r' fun _ r' => .ok d (acc.app (one d' k')) r'
      else tkM [[59]] r fun _ r' => .ok d acc r'
    | .var => (P n .tight r m).and fun d k r' => if isVarK d.kind = true then .ok d k r' else .bad 4 r'
    | .term => (P n .sum r m).and fun d k r' =>
      if seesM r' [[60], [61, 61]] = true then (P n .sum r'.tail m).and fun d' k' r'' => .ok (at_ (hd r') 32 (hd r').text 0) ((one d k).app (one d' k')) r''
      else .ok d k r'
    | .sum => (P n .product r m).and fun d k r' => P n (.sumL d k) r' m
    | .sumL d k =>
      if seesM r [[43], [45]] = true then (P n .product r.tail m).and fun d' k' r' => P n (.sumL (at_ (hd r) 32 (hd r).text 0) ((one d k).app (one d' k'))) r' m
      else .ok d k r
    | .product => (P n .unary r m).and fun d k r' => P n (.prodL d k) r' m
    | .prodL d k =>
      if seesM r [[42]] = true then (P n .unary r.tail m).and fun d' k' r' => P n (.prodL (at_ (hd r) 32 (hd r).text 0) ((one d k).app (one d' k'))) r' m
      else .ok d k r
    | .unary =>
      if seesW r [[97, 114, 114], [108, 101, 110]] = true then ent m r fun t r' => (P n .unary r' (m + 1)).and fun d k r' => .ok (at_ t (if t.text = [108, 101, 110] then 35 else 34) [] 0) (one d k) r'
      else P n .tight r m
    | .tight => (P n .first r m).and fun d k r' => P n (.tightL d k) r' m
    | .tightL d k =>
      if seesM r [[46]] = true then tkK 1 r.tail fun nm r' => P n (.tightL (at_ (hd r) 30 nm.text 0) (one d k)) r' m
      else if seesM r [[91]] = true then ent m r fun t r' => (P n .term r' (m + 1)).and fun d' k' r' => tkM [[93]] r' fun _ r' => P n (.tightL (at_ t 31 [] 0) ((one d k).app (one d' k'))) r' m
      else .ok d k r
    | .first =>
      if ((hd r).kind == 3) = true then .ok (at_ (hd r) 26 [] (hd r).n) .nil r.tail
      else if seesW r [[110, 117, 108, 108]] = true then .ok (at_ (hd r) 27 [] 0) .nil r.tail
      else if seesW r [[105, 116]] = true then .ok (at_ (hd r) 28 [] 0) .nil r.tail
      else if seesW r [[110, 101, 119]] = true then tkK 1 r.tail fun nm r' => .ok (at_ (hd r) 33 nm.text 0) .nil r'
      else if seesW r [[102, 110]] = true then (P n .block r.tail m).and fun d k r' => .ok (at_ (hd r) 36 [] 0) (one d k) r'
      else if seesM r [[40]] = true then ent m r fun _ r' => (P n .term r' (m + 1)).and fun d k r' => tkM [[41]] r' fun _ r' => .ok d k r'
      else useO r

/-- The numbers of a forest's trees, and the forest itself, each twig behind its kids, from number b on. -/
def Fo.ids : Nat → Fo → List Int
  | _, .nil => []
  | b, .cons _ k r => ((b + k.size : Nat) : Int) :: r.ids (b + k.size + 1)
def Fo.post : Nat → Fo → List Tw
  | _, .nil => []
  | b, .cons d k r => k.post b ++ d.tw (k.ids b) :: r.post (b + k.size + 1)

theorem Fo.size_app : ∀ f g : Fo, (f.app g).size = f.size + g.size
  | .nil, g => by simp [app, size]
  | .cons d k r, g => by simp [app, size, size_app r g]; omega
theorem Fo.post_len : ∀ (f : Fo) (b : Nat), (f.post b).length = f.size
  | .nil, _ => rfl
  | .cons d k r, b => by simp [post, size, post_len k, post_len r]; omega
theorem Fo.post_app : ∀ (f g : Fo) (b : Nat), (f.app g).post b = f.post b ++ g.post (b + f.size)
  | .nil, g, b => by simp [app, post, size]
  | .cons d k r, g, b => by
    simp only [app, post, size, post_app r g, List.append_assoc, List.cons_append]
    congr 4; omega
theorem Fo.ids_app : ∀ (f g : Fo) (b : Nat), (f.app g).ids b = f.ids b ++ g.ids (b + f.size)
  | .nil, g, b => by simp [app, ids, size]
  | .cons d k r, g, b => by
    simp only [app, ids, size, ids_app r g, List.cons_append]
    congr 3; omega
theorem Fo.app_nil : ∀ f : Fo, f.app .nil = f
  | .nil => rfl
  | .cons d k r => by simp [app, app_nil r]
theorem one_size (d : Nd) (k : Fo) : (one d k).size = k.size + 1 := by simp [one, Fo.size]; omega
theorem one_ids (d : Nd) (k : Fo) (b : Nat) : (one d k).ids b = [((b + k.size : Nat) : Int)] := rfl
theorem one_post (d : Nd) (k : Fo) (b : Nat) : (one d k).post b = k.post b ++ [d.tw (k.ids b)] := rfl

end Go.Proofs.YtehdljcmeimbcaaGreat
