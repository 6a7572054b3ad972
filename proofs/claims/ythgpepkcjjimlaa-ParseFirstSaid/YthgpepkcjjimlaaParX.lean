/- Rows of kids that grow: no twig's kids lie in their blocks. -/
import Derived.Test.YthgpepkcjjimlaaParG
namespace Go.Proofs.Ythgpepkcjjimlaa
open Go.RowKit

def Cx.ex (C : Cx) (x : Value) : Cx := { C with X := x.ownBlock.toList ++ C.X }
theorem Cx.ex_nil (C : Cx) : C.ex (.slice none 0 0) = C := rfl
theorem IntRow.turn {w w' : World} {X X' : List Nat} {v : Value} {l : List Int} (h : IntRow w X v l) (hk : ∀ (g : Nat) (cs : Array Value) (m : Nat × Nat), w.heap[g]? = some (Obj.cells cs 3 m) → g ∉ X → w'.heap[g]? = w.heap[g]? ∧ g ∉ X') : IntRow w' X' v l := by
  obtain ⟨A, cap, rfl, h⟩ := h
  refine ⟨A, cap, rfl, fun h0 => ?_⟩
  obtain ⟨g, cs, m, h1, h2, h3, h4⟩ := h h0
  exact ⟨g, cs, m, h1, (hk g cs m h2 h3).1.trans h2, (hk g cs m h2 h3).2, h4⟩
theorem Tws.turn {w w' : World} {X X' : List Nat} (hk : ∀ (g : Nat) (cs : Array Value) (m : Nat × Nat), w.heap[g]? = some (Obj.cells cs 3 m) → g ∉ X → w'.heap[g]? = w.heap[g]? ∧ g ∉ X') : ∀ {tw : List Tw} {xs : List Value}, Tws w X tw xs → Tws w' X' tw xs
  | [], _, h => h
  | _ :: _, _, ⟨kv, ys, e, h1, h2⟩ => ⟨kv, ys, e, h1.turn hk, Tws.turn hk h2⟩
variable {C : Cx} {w w' : World} {k m : Nat} {v : Value} {tw : List Tw}
theorem mem_ex {C : Cx} {x : Value} {b : Nat} : b ∈ (C.ex x).X ↔ x.ownBlock = some b ∨ b ∈ C.X := by
  unfold Cx.ex
  cases hx : x.ownBlock <;> simp [eq_comm]
/-- The held row may be let go. -/
theorem PS.exDrop {x : Value} (h : PS w (C.ex x) k m v tw) : PS w C k m v tw := by
  obtain ⟨xs, ho, ht⟩ := h.own
  exact ⟨h.par, h.toks, ⟨xs, ho, ht.turn fun g cs mm _ hx => ⟨rfl, fun hc => hx (mem_ex.2 (.inr hc))⟩⟩, h.kle, h.big, h.few, h.nest, fun b hb => h.xlt b (mem_ex.2 (.inr hb))⟩
/-- A row in a block that is new is held. -/
theorem PS.exNew (h : PS w C k m v tw) (o : Obj) (a c : Nat) : PS (w.alloc o) (C.ex (.slice (some ⟨w.heap.size, 0, none⟩) a c)) k m v tw := by
  have ha := h.al o
  obtain ⟨xs, ho, ht⟩ := h.own
  obtain ⟨xs', ho', _⟩ := ha.own
  refine ⟨ha.par, ha.toks, ⟨xs, ho.alloc o, ht.turn fun g cs mm hg hx => ⟨Below.heap_alloc _ _ _ (lt_of_block hg), fun hc => ?_⟩⟩, h.kle, h.big, h.few, h.nest, fun b hb => ?_⟩
  · rcases mem_ex.1 hc with e | e
    · have := lt_of_block hg
      simp [Value.ownBlock] at e
      omega
    · exact hx e
  · rcases mem_ex.1 hb with e | e
    · simp [Value.ownBlock] at e
      simp; omega
    · have := h.xlt b e
      simp; omega
/-- A held row has grown. -/
theorem PS.growI {x x' : Value} {base n : Nat} {xs : List Value} (h : PS w (C.ex x) k m v tw) (hx : w.ownsRow base 3 1 x n xs) (hp : C.p < base) (hg : w.grownBy w' x.ownBlock) (hat : ∀ g, x'.ownBlock = some g → x.ownBlock = some g ∨ w.heap.size ≤ g) (hlt : ∀ g, x'.ownBlock = some g → g < w'.heap.size) : PS w' (C.ex x') k m v tw := by
  have hpl : C.p < w.heap.size := h.lt
  have hne : x.ownBlock ≠ some C.p := fun e => by have := (hx.lt _ e).1; omega
  have hvx : ∀ b, v.ownBlock = some b → x.ownBlock ≠ some b := fun b e1 e2 => by
    obtain ⟨ys, ho, _⟩ := h.own
    obtain ⟨c1, h1⟩ := own_type ho b e1
    obtain ⟨c2, h2⟩ := own_type hx b e2
    exact not_int h1 (by decide) h2 rfl
  have hlow : Below C.p w w' := ⟨hg.os, hg.tape, hg.output, hg.size, fun b hb => hg.block b (by omega) fun e => by have := (hx.lt _ e.symm).1; omega⟩
  obtain ⟨ys, ho, ht⟩ := h.own
  refine ⟨(hg.block _ hpl fun e => hne e.symm).trans h.par, h.toks.below hlow (Nat.le_refl _), ⟨ys, ho.kept hg (by cases hv : v.ownBlock with | none => exact .inl rfl | some b => exact .inr fun e => hvx b hv e.symm), ht.turn fun g cs mm hgi hgx => ⟨hg.block g (lt_of_block hgi) fun e => hgx (mem_ex.2 (.inl e.symm)), fun hc => ?_⟩⟩, h.kle, h.big, h.few, h.nest, fun b hb => ?_⟩
  · rcases mem_ex.1 hc with e | e
    · rcases hat g e with e' | e'
      · exact hgx (mem_ex.2 (.inl e'))
      · have := lt_of_block hgi; omega
    · exact hgx (mem_ex.2 (.inr e))
  · rcases mem_ex.1 hb with e | e
    · exact hlt b e
    · exact Nat.lt_of_lt_of_le (h.xlt b (mem_ex.2 (.inr e))) hg.size
theorem Kp.growI {p : Nat} {v0 v x : Value} {w0 w w' : World} (hk : Kp p v0 w0 v w) (hg : w.grownBy w' x.ownBlock) (hb : ∀ b, x.ownBlock = some b → w0.heap.size ≤ b) : Kp p v0 w0 v w' :=
  ⟨hg.os.trans hk.os, hg.tape.trans hk.tape, hg.output.trans hk.output, Nat.le_trans hk.size hg.size, fun b h1 h2 h3 => (hg.block b (Nat.lt_of_lt_of_le h1 hk.size) fun e => by have := hb b e.symm; omega).trans (hk.block b h1 h2 h3), hk.own⟩
variable {w0 : World} {k0 : Nat} {v0 : Value} {tw0 : List Tw} {F : Fo} {q : Nat} {L : List (Nat × Obj)}
theorem St.growI {x x' : Value} {base n : Nat} {xs : List Value} (h : St (C.ex x) w0 k0 v0 tw0 w k m v F q L) (hx : w.ownsRow base 3 1 x n xs) (h0 : w0.heap.size ≤ base) (hp : C.p < base) (hg : w.grownBy w' x.ownBlock) (hat : ∀ g, x'.ownBlock = some g → x.ownBlock = some g ∨ w.heap.size ≤ g) (hlt : ∀ g, x'.ownBlock = some g → g < w'.heap.size) (hL : ∀ y ∈ L, x.ownBlock ≠ some y.1) : St (C.ex x') w0 k0 v0 tw0 w' k m v F q L := by
  refine ⟨h.ps.growI hx hp hg hat hlt, Kp.growI h.kp hg fun b e => by have := (hx.lt b e).1; omega, h.sz, h.few0, fun y hy => ?_⟩
  have hl := h.loc y hy
  exact ⟨(hg.block _ (lt_of_block hl.is) fun e => hL y hy e.symm).trans hl.is, hl.ne, hl.own⟩
theorem St.exDrop {x : Value} (h : St (C.ex x) w0 k0 v0 tw0 w k m v F q L) : St C w0 k0 v0 tw0 w k m v F q L :=
  ⟨h.ps.exDrop, h.kp, h.sz, h.few0, fun y hy => ⟨(h.loc y hy).is, (h.loc y hy).ne, (h.loc y hy).own⟩⟩
theorem St.exNew (h : St C w0 k0 v0 tw0 w k m v F q L) (o : Obj) (a c : Nat) : St (C.ex (.slice (some ⟨w.heap.size, 0, none⟩) a c)) w0 k0 v0 tw0 (w.alloc o) k m v F q L :=
  have ha := h.al o
  ⟨h.ps.exNew o a c, ha.kp, ha.sz, ha.few0, fun y hy => ⟨(ha.loc y hy).is, (ha.loc y hy).ne, (ha.loc y hy).own⟩⟩
/-- A row of numbers of the call's own stays over a call. -/
theorem ownI_keep {x v' : Value} {base n : Nat} {xs : List Value} {C' : Cx} (hx : w.ownsRow base 3 1 x n xs) (hs : PS w C' k m v tw) (hp : C'.p < base) (hk : Kp C'.p v w v' w') : w'.ownsRow base 3 1 x n xs := by
  rcases hx.2 with ⟨rfl, hn⟩ | ⟨g, cap, cur, rfl, hb, hg, h1, h2, h3, h4⟩
  · exact ⟨hx.1, .inl ⟨rfl, hn⟩⟩
  · refine ⟨hx.1, .inr ⟨g, cap, cur, rfl, hb, (hk.block g (lt_of_block hg) (by omega) fun e => ?_).trans hg, h1, h2, h3, h4⟩⟩
    obtain ⟨ys, ho, _⟩ := hs.own
    obtain ⟨c1, h5⟩ := own_type ho g e
    exact not_int h5 (by decide) hg rfl
theorem own_introw {x : Value} {base : Nat} {ids : List Int} {X : List Nat} (hx : w.ownsRow base 3 1 x ids.length (ids.map (Value.int .i64))) (hX : ∀ b ∈ X, b < base) : IntRow w X x ids := by
  rcases hx.2 with ⟨rfl, hn⟩ | ⟨g, cap, cur, rfl, hb, hg, h1, h2, h3, h4⟩
  · exact ⟨none, 0, by rw [hn], fun h => absurd h (by omega)⟩
  · refine ⟨_, _, rfl, fun _ => ⟨g, cur, _, rfl, hg, fun hm => absurd (hX g hm) (by omega), fun i y hi => ?_⟩⟩
    have h5 : (cur.toList.take (ids.length * 1))[i]? = some (.int .i64 y) := by rw [h4, List.getElem?_map, hi]; rfl
    have hil := (List.getElem?_eq_some_iff.1 hi).1
    rw [List.getElem?_take, if_pos (by omega)] at h5
    simpa using h5
end Go.Proofs.Ythgpepkcjjimlaa
