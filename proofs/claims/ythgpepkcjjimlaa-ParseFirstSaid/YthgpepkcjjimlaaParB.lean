/- A parser in memory; parser.next. -/
import Derived.Test.YthgpepkcjjimlaaParA
import Derived.Test.YthgpepkcjjimlaaTokK
import Derived.Deep.QuietTactic
import Derived.BigQuiet
import Derived.RegionTactic
import Derived.ChangeAlike
import Derived.Outline
import Derived.WalkLawsBesides
namespace Go.Proofs.Ythgpepkcjjimlaa
open Go.RowKit

/-- Where a parser lies, and its tokens. -/
structure Cx where
  p : Nat
  A : Option Addr
  cap : Nat
  T : List Tok
  X : List Nat

def Cx.ptr (C : Cx) : Value := .pointer (some ⟨C.p, 0, none⟩)
/-- Tokens in memory, below a block. -/
def TkB (w : World) (B : Nat) (A : Option Addr) (T : List Tok) : Prop := ∀ i t, T[i]? = some t → ∃ g off, A = some ⟨g, off, none⟩ ∧ g < B ∧ w.cell? ⟨g, off + i * 5, none⟩ = some (.int .i64 t.kind) ∧ w.cell? ⟨g, off + i * 5 + 1, none⟩ = some (.string ⟨t.text.toArray⟩) ∧ w.cell? ⟨g, off + i * 5 + 2, none⟩ = some (.int .i64 t.n) ∧ w.cell? ⟨g, off + i * 5 + 3, none⟩ = some (.int .i64 t.line) ∧ w.cell? ⟨g, off + i * 5 + 4, none⟩ = some (.int .i64 t.col)
/-- A row of numbers in memory, in none of some blocks. -/
def IntRow (w : World) (X : List Nat) (v : Value) (l : List Int) : Prop := ∃ A cap, v = .slice A l.length cap ∧ (0 < l.length → ∃ g cs m, A = some ⟨g, 0, none⟩ ∧ w.heap[g]? = some (.cells cs 3 m) ∧ g ∉ X ∧ ∀ (i : Nat) (x : Int), l[i]? = some x → cs[i]? = some (Value.int .i64 x))
def twCells (t : Tw) (kv : Value) : List Value := [.int .i64 t.kind, .string ⟨t.text.toArray⟩, .int .i64 t.n, .int .i64 t.line, .int .i64 t.col, kv]
/-- Twigs in memory. -/
def Tws (w : World) (X : List Nat) : List Tw → List Value → Prop
  | [], xs => xs = []
  | t :: r, xs => ∃ kv ys, xs = twCells t kv ++ ys ∧ IntRow w X kv t.kids ∧ Tws w X r ys

structure PS (w : World) (C : Cx) (k m : Nat) (v : Value) (tw : List Tw) : Prop where
  par : w.heap[C.p]? = some (.cells #[.slice C.A C.T.length C.cap, .int .i64 k, .int .i64 m, v] 52 (0, 0))
  toks : TkB w C.p C.A C.T
  own : ∃ xs, w.ownsRow (C.p + 1) 63 6 v tw.length xs ∧ Tws w C.X tw xs
  kle : k ≤ C.T.length
  big : C.T.length ≤ 1000000
  few : tw.length ≤ 2 * k + 1
  nest : m ≤ 64
  xlt : ∀ b ∈ C.X, b < w.heap.size

/-- All but the parser and its twigs is as it was. -/
structure Kp (p : Nat) (v : Value) (w : World) (v' : Value) (w' : World) : Prop where
  os : w'.os = w.os
  tape : w'.tape = w.tape
  output : w'.output = w.output
  size : w.heap.size ≤ w'.heap.size
  block : ∀ k, k < w.heap.size → k ≠ p → v.ownBlock ≠ some k → w'.heap[k]? = w.heap[k]?
  own : ∀ k, v'.ownBlock = some k → v.ownBlock = some k ∨ w.heap.size ≤ k

theorem Kp.of {p : Nat} {v : Value} {w w' : World} (h : Below w.heap.size w w') : Kp p v w v w' := ⟨h.os, h.tape, h.output, h.size, fun k hk _ _ => h.block k hk, fun _ hk => .inl hk⟩
theorem Kp.refl (p : Nat) (v : Value) (w : World) : Kp p v w v w := .of (Below.refl _ _)
theorem Kp.trans {p : Nat} {v v' v'' : Value} {w w' w'' : World} (h : Kp p v w v' w') (g : Kp p v' w' v'' w'') : Kp p v w v'' w'' :=
  ⟨g.os.trans h.os, g.tape.trans h.tape, g.output.trans h.output, Nat.le_trans h.size g.size,
   fun k hk hp hv => (g.block k (Nat.lt_of_lt_of_le hk h.size) hp (fun e => (h.own k e).elim hv (by omega))).trans (h.block k hk hp hv),
   fun k hk => (g.own k hk).elim (fun e => h.own k e) (fun e => .inr (Nat.le_trans h.size e))⟩

/-- The same, whatever has become of the twigs. -/
def KpB (p : Nat) (v : Value) (w w' : World) : Prop := ∃ v', Kp p v w v' w'
theorem Kp.transB {p : Nat} {v v' : Value} {w w' w'' : World} (h : Kp p v w v' w') (g : KpB p v' w' w'') : KpB p v w w'' := let ⟨v'', g⟩ := g; ⟨v'', h.trans g⟩
theorem KpB.of {p : Nat} {v : Value} {w w' : World} (h : Below w.heap.size w w') : KpB p v w w' := ⟨v, .of h⟩
theorem PS.lt {w : World} {C : Cx} {k m : Nat} {v : Value} {tw : List Tw} (h : PS w C k m v tw) : C.p < w.heap.size := lt_of_block h.par
/-- What is below the parser stays. -/
theorem Kp.below {C : Cx} {k m : Nat} {v v' : Value} {tw : List Tw} {w w' : World} (h : Kp C.p v w v' w') (hs : PS w C k m v tw) : Below C.p w w' := by
  refine ⟨h.os, h.tape, h.output, h.size, fun b hb => h.block b (by have := hs.lt; omega) (by omega) fun e => ?_⟩
  obtain ⟨xs, ho, _⟩ := hs.own
  have := (ho.lt b e).1
  omega

theorem IntRow.keep {w w' : World} {X : List Nat} {v : Value} {l : List Int} (h : IntRow w X v l) (hk : ∀ (g : Nat) (cs : Array Value) (m : Nat × Nat), w.heap[g]? = some (Obj.cells cs 3 m) → w'.heap[g]? = w.heap[g]?) : IntRow w' X v l := by
  obtain ⟨A, cap, rfl, h⟩ := h
  refine ⟨A, cap, rfl, fun h0 => ?_⟩
  obtain ⟨g, cs, m, h1, h2, h3⟩ := h h0
  exact ⟨g, cs, m, h1, (hk g cs m h2).trans h2, h3⟩
theorem Tws.keep {w w' : World} {X : List Nat} (hk : ∀ (g : Nat) (cs : Array Value) (m : Nat × Nat), w.heap[g]? = some (Obj.cells cs 3 m) → w'.heap[g]? = w.heap[g]?) : ∀ {tw : List Tw} {xs : List Value}, Tws w X tw xs → Tws w' X tw xs
  | [], _, h => h
  | _ :: _, _, ⟨kv, ys, e, h1, h2⟩ => ⟨kv, ys, e, h1.keep hk, Tws.keep hk h2⟩
theorem TkB.below {w w' : World} {B B' : Nat} {A : Option Addr} {T : List Tok} (h : TkB w B A T) (hb : Below B' w w') (hB : B ≤ B') : TkB w' B A T := by
  intro i t hi
  obtain ⟨g, off, h1, h2, h3, h4, h5, h6, h7⟩ := h i t hi
  have hc := fun o => hb.cell (p := ⟨g, o, none⟩) (show g < B' by omega)
  exact ⟨g, off, h1, h2, (hc _).trans h3, (hc _).trans h4, (hc _).trans h5, (hc _).trans h6, (hc _).trans h7⟩
/-- A parser is as it was where nothing that lay there has turned. -/
theorem PS.after {w w' : World} {C : Cx} {k m : Nat} {v : Value} {tw : List Tw} (h : PS w C k m v tw) (hb : Below w.heap.size w w') : PS w' C k m v tw := by
  have hp := h.lt
  obtain ⟨xs, ho, ht⟩ := h.own
  refine ⟨(hb.block _ hp).trans h.par, h.toks.below hb (by omega), ⟨xs, ?_, ht.keep fun g cs m hg => hb.block g (lt_of_block hg)⟩, h.kle, h.big, h.few, h.nest, fun b hx => Nat.lt_of_lt_of_le (h.xlt b hx) hb.size⟩
  exact ho.kept (row := none) (w' := w') ⟨hb.os, hb.tape, hb.output, hb.size, fun k hk _ => hb.block k hk⟩ (by cases hv : v.ownBlock <;> simp)

def tokV (t : Tok) : Value := .agg #[.int .i64 t.kind, .string ⟨t.text.toArray⟩, .int .i64 t.n, .int .i64 t.line, .int .i64 t.col]
theorem hd_at (T : List Tok) (k : Nat) (h : k < T.length) : T[k]? = some (hd (T.drop k)) := by
  rw [List.getElem?_eq_getElem h, List.drop_eq_getElem_cons h]; rfl
theorem hd_end (T : List Tok) (k : Nat) (h : T.length ≤ k) : hd (T.drop k) = ⟨0, [], 0, 0, 0⟩ := by
  rw [List.drop_eq_nil_of_le h]; rfl
theorem PS.cells {w : World} {C : Cx} {k m : Nat} {v : Value} {tw : List Tw} (h : PS w C k m v tw) :
    w.cell? ⟨C.p, 0, none⟩ = some (.slice C.A C.T.length C.cap) ∧ w.cell? ⟨C.p, 1, none⟩ = some (.int .i64 k) ∧ w.cell? ⟨C.p, 2, none⟩ = some (.int .i64 m) ∧ w.cell? ⟨C.p, 3, none⟩ = some v := by
  have := h.par
  refine ⟨?_, ?_, ?_, ?_⟩ <;> simp [World.cell?, this]
theorem PS.free {w : World} {C : Cx} {k m : Nat} {v : Value} {tw : List Tw} (h : PS w C k m v tw) (i : Nat) : w.frozen? ⟨C.p, i, none⟩ = false := by
  have := h.par
  simp [World.frozen?, this]

theorem bdrew {B : Nat} {a b : World} (h : Below B a b) (n : Nat) : Below B a (b.drewN n) := ⟨h.os, h.tape, h.output, h.size, h.block⟩
/-- Below, behind stores into a block of five cells. -/
theorem bset5 {B : Nat} {a b : World} (h : Below B a b) (g : Nat) (hg : B ≤ g) (u0 u1 u2 u3 u4 : Value) :
    Below B a (((((b.setCell ⟨g, 0, none⟩ u0).setCell ⟨g, 1, none⟩ u1).setCell ⟨g, 2, none⟩ u2).setCell ⟨g, 3, none⟩ u3).setCell ⟨g, 4, none⟩ u4) :=
  ((((h.setCell (p := ⟨g, 0, none⟩) hg _).setCell (p := ⟨g, 1, none⟩) hg _).setCell (p := ⟨g, 2, none⟩) hg _).setCell (p := ⟨g, 3, none⟩) hg _).setCell (p := ⟨g, 4, none⟩) hg _

set_option maxRecDepth 100000 in
set_option maxHeartbeats 1000000 in
theorem next_ok (C : Cx) (w : World) (k m : Nat) (v : Value) (tw : List Tw) (h : PS w C k m v tw) :
    Calls Try.prog 66 #[C.ptr] w fun e w' => e = .returned (tokV (hd (C.T.drop k))) ∧ Below w.heap.size w w' := by
  obtain ⟨c0, c1, c2, c3⟩ := h.cells
  have hp := h.lt
  have hk := h.kle
  have hbig := h.big
  have HS := Lib.hid h
  clear h
  unfold Cx.ptr
  by_cases hlt : k < C.T.length
  · obtain ⟨g, off, hA, hg, t0, t1, t2, t3, t4⟩ := HS.out.toks k _ (hd_at C.T k hlt)
    rw [hA] at c0
    generalize hd (C.T.drop k) = t at *
    have HA := Lib.hid hA
    clear hA
    have hgw : g < w.heap.size := by omega
    go_enter Try.func66, Try.ntmps66
    go_wp2
    go_quiet (fail)
    go_wp2
    go_region
    go_wp2
    exact bodyPost_ret (v := tokV t) (by simp [results, Try.results66, go_sem, tokV]) rfl ⟨rfl, bset5 (bdrew ((Below.refl _ _).alloc (Nat.le_refl _) _) _) _ (Nat.le_refl _) _ _ _ _ _⟩
  · have he := hd_end C.T k (by omega)
    rw [he]
    have hkk : k = C.T.length := by omega
    subst hkk
    clear he
    go_enter Try.func66, Try.ntmps66
    go_wp2
    go_quiet (fail)
    go_wp2
    exact bodyPost_ret (v := tokV ⟨0, [], 0, 0, 0⟩) (by simp [results, Try.results66, go_sem, tokV]) rfl ⟨rfl, bset5 (bdrew ((Below.refl _ _).alloc (Nat.le_refl _) _) _) _ (Nat.le_refl _) _ _ _ _ _⟩
end Go.Proofs.Ythgpepkcjjimlaa
