/- Arguments of acts, items and numbers, opened to what lies in memory. -/
import Derived.Test.YtmbdglolpagjdaaQxE
import Derived.Deep.Slices
import Derived.Deep.Fields
import Derived.ChangeSame
namespace Go.Proofs.Ytmbdglolpagjdaa
open Go.RowKit Go.ChangeShapes Go.WideShapes Go.Deep

theorem cellsAct : Try.prog.cellsOf 34 = 5 := by kernel_rfl
theorem cellsItem : Try.prog.cellsOf 32 = 3 := by kernel_rfl
theorem cellsI : Try.prog.cellsOf 3 = 1 := by kernel_rfl
theorem cellsJ : Try.prog.cellsOf 2 = 1 := by kernel_rfl
theorem spot_none {w : World} {a : Addr} {v : Value} (h : w.cell? (a.add 0) = some v) : a = ⟨a.block, a.off, none⟩ := by
  obtain ⟨b, off, spot⟩ := a
  cases spot with
  | none => rfl
  | some y =>
    exfalso
    unfold World.cell? at h
    split at h
    · simp [Addr.add] at h
    · simp at h
theorem add_none (b off n : Nat) : (⟨b, off, none⟩ : Addr).add n = ⟨b, off + n, none⟩ := by unfold Addr.add; split <;> simp_all
/-- An act. -/
structure ActD where
  k : Int
  t : Int
  f : Bool
  d : Int
  n : Int
def ActD.cells (a : ActD) : List Value := [.int .i64 a.k, .int .i64 a.t, .bool a.f, .int .i64 a.d, .int .i64 a.n]
/-- An item. -/
structure ItD where
  t : Int
  f : Bool
  d : Int
def ItD.cells (a : ItD) : List Value := [.int .i64 a.t, .bool a.f, .int .i64 a.d]
def intC (z : Int) : List Value := [.int .i64 z]
/-- Elements of a slice that came in, as they are read. -/
def Rows3 {α : Type} (f : α → List Value) (s : Nat) (P : α → Prop) (w : World) (A : Option Addr) (T : List α) : Prop := ∀ (i : Nat) (x : α), T[i]? = some x → ∃ g off, A = some ⟨g, off, none⟩ ∧ g < w.heap.size ∧ P x ∧ ∀ (j : Nat) (u : Value), (f x)[j]? = some u → w.cell? ⟨g, off + i * s + j, none⟩ = some u
theorem Rows3.kept {α : Type} {f : α → List Value} {s : Nat} {P : α → Prop} {w w' : World} {A : Option Addr} {T : List α} (h : Rows3 f s P w A T) (k : Kept (pOld w.heap.size) w w') : Rows3 f s P w' A T := fun i x hi => by
  obtain ⟨g, off, h1, h2, h3, h4⟩ := h i x hi
  refine ⟨g, off, h1, Nat.lt_of_lt_of_le h2 k.size, h3, fun j u hj => k.cell (h4 j u hj) fun o _ => by simp [pOld, h2]⟩
section
variable {H : Type} {enc : TypeId × Value → H} {w : World} {base : Nat} {held : Bool}
set_option maxRecDepth 100000 in
theorem open_item {fuel : Nat} {cs : List Value} {x : DataW H × List MemPlace} (h : DataW.trod enc Try.prog w base (fun _ => true) held fuel 32 cs = some x) :
    ∃ t : ItD, cs = t.cells ∧ (Lit.int .i64 t.t).wf = true ∧ (Lit.int .i64 t.d).wf = true := by
  obtain ⟨xs, n, _, _, hlen, hxl, hf⟩ := DataW.trod_struct Try.underlying32 h
  rw [cellsItem] at hlen
  match cs, hlen with
  | [c0, c1, c2], _ =>
    have hx5 : xs.length = 3 := hxl
    match xs, hx5 with
    | [x0, x1, x2], _ =>
      have h0 : DataW.trod enc Try.prog w base (fun _ => true) held n 3 [c0] = some x0 := hf 0 _ rfl
      have h1 : DataW.trod enc Try.prog w base (fun _ => true) held n 4 [c1] = some x1 := hf 1 _ rfl
      have h2 : DataW.trod enc Try.prog w base (fun _ => true) held n 2 [c2] = some x2 := hf 2 _ rfl
      obtain ⟨z0, e0, _, hw⟩ := DataW.trod_int (k := .i64) (by kernel_rfl) h0
      obtain ⟨z1, e1, _⟩ := DataW.trod_bool (by kernel_rfl) h1
      obtain ⟨z2, e2, _, hw2⟩ := DataW.trod_int (k := .i64) (by kernel_rfl) h2
      simp only [List.cons.injEq, and_true] at e0 e1 e2
      subst e0 e1 e2
      exact ⟨⟨z0, z1, z2⟩, rfl, hw, hw2⟩
set_option maxRecDepth 100000 in
theorem open_act {fuel : Nat} {cs : List Value} {x : DataW H × List MemPlace} (h : DataW.trod enc Try.prog w base (fun _ => true) held fuel 34 cs = some x) :
    ∃ t : ActD, cs = t.cells ∧ (Lit.int .i64 t.t).wf = true := by
  obtain ⟨xs, n, _, _, hlen, hxl, hf⟩ := DataW.trod_struct Try.underlying34 h
  rw [cellsAct] at hlen
  match cs, hlen with
  | [c0, c1, c2, c3, c4], _ =>
    have hx5 : xs.length = 3 := hxl
    match xs, hx5 with
    | [x0, x1, x2], _ =>
      have h0 : DataW.trod enc Try.prog w base (fun _ => true) held n 3 [c0] = some x0 := hf 0 _ rfl
      have h1 : DataW.trod enc Try.prog w base (fun _ => true) held n 32 [c1, c2, c3] = some x1 := hf 1 _ rfl
      have h2 : DataW.trod enc Try.prog w base (fun _ => true) held n 2 [c4] = some x2 := hf 2 _ rfl
      obtain ⟨z0, e0, _⟩ := DataW.trod_int (k := .i64) (by kernel_rfl) h0
      obtain ⟨y, e1, hw, _⟩ := open_item h1
      obtain ⟨z2, e2, _⟩ := DataW.trod_int (k := .i64) (by kernel_rfl) h2
      simp only [List.cons.injEq, and_true] at e0 e2
      simp only [ItD.cells, List.cons.injEq, and_true] at e1
      obtain ⟨e1, e3, e4⟩ := e1
      subst e0 e1 e2 e3 e4
      exact ⟨⟨z0, y.t, y.f, y.d, z2⟩, rfl, hw⟩
theorem open_i {fuel : Nat} {cs : List Value} {x : DataW H × List MemPlace} (h : DataW.trod enc Try.prog w base (fun _ => true) held fuel 3 cs = some x) : ∃ z : Int, cs = intC z ∧ (Lit.int .i64 z).wf = true := by
  obtain ⟨z, e, _, hw⟩ := DataW.trod_int (k := .i64) (by kernel_rfl) h
  exact ⟨z, e, hw⟩
theorem open_j {fuel : Nat} {cs : List Value} {x : DataW H × List MemPlace} (h : DataW.trod enc Try.prog w base (fun _ => true) held fuel 2 cs = some x) : ∃ z : Int, cs = intC z ∧ (Lit.int .i64 z).wf = true := by
  obtain ⟨z, e, _, hw⟩ := DataW.trod_int (k := .i64) (by kernel_rfl) h
  exact ⟨z, e, hw⟩
/-- A slice of elements that open to cells. -/
theorem open_rows {α : Type} (dflt : α) {f : α → List Value} {s : Nat} {P : α → Prop} {st et : TypeId} (hs0 : 0 < s) (hst : Try.prog.underlying st = some (.slice et)) (hce : Try.prog.cellsOf et = s) (hfs : ∀ x, (f x).length = s)
    (hop : ∀ {fuel : Nat} {cs : List Value} {x : DataW H × List MemPlace}, DataW.trod enc Try.prog w base (fun _ => true) held fuel et cs = some x → ∃ t : α, cs = f t ∧ P t)
    {fuel : Nat} {A : Option Addr} {len cap : Nat} {x : DataW H × List MemPlace} (h : DataW.trod enc Try.prog w base (fun _ => true) held fuel st [.slice A len cap] = some x) :
    ∃ T : List α, T.length = len ∧ Rows3 f s P w A T := by
  rcases open_slice hst h with ⟨hcs, _⟩ | ⟨a, len', cap', m, n, D, Pl, hcs, hb, hl, hm, hmm, hx, hi⟩
  · simp at hcs
    obtain ⟨rfl, rfl, rfl⟩ := hcs
    exact ⟨[], rfl, fun i t hi => by simp at hi⟩
  · simp at hcs
    obtain ⟨rfl, rfl, rfl⟩ := hcs
    simp only [if_true] at hmm
    subst hmm
    have key : ∀ i : Nat, ∃ t : α, i < len → P t ∧ ∀ j u, (f t)[j]? = some u → w.cell? (a.add (i * s + j)) = some u := by
      intro i
      by_cases hlt : i < len
      · obtain ⟨cs', hc, ht⟩ := hi i (by omega)
        obtain ⟨t, rfl, hP⟩ := hop ht
        refine ⟨t, fun _ => ⟨hP, fun j u hj => ?_⟩⟩
        rw [hce] at hc
        obtain ⟨_, hcl, hat⟩ := World.cells?_some hc
        have hj5 : j < s := by
          rcases Nat.lt_or_ge j s with h' | h'
          · exact h'
          · rw [List.getElem?_eq_none (by rw [hfs]; exact h')] at hj; cases hj
        rw [← Go.Deep.add_add, hat j hj5, hj]
      · exact ⟨dflt, fun h => absurd h hlt⟩
    obtain ⟨F, hF⟩ := Classical.axiomOfChoice key
    refine ⟨(List.range len).map F, by simp, fun i t hi => ?_⟩
    have hlt : i < len := by
      have := (List.getElem?_eq_some_iff.1 hi).1
      simpa using this
    have ht : F i = t := by
      rw [List.getElem?_map, List.getElem?_range hlt] at hi
      simpa using hi
    subst ht
    obtain ⟨hP, hc⟩ := hF i hlt
    have c0' := (hF 0 (by omega)).2 0 _ (List.getElem?_eq_getElem (by rw [hfs]; exact hs0))
    rw [Nat.zero_mul] at c0'
    have c0 : w.cell? (a.add 0) = some _ := c0'
    have ha := spot_none c0
    rw [ha] at hc ⊢
    refine ⟨a.block, a.off, rfl, ?_, hP, fun j u hj => ?_⟩
    · have := World.block_lt_of_cell? w _ c0
      rw [ha, add_none] at this
      exact this
    · have := hc j u hj
      rw [add_none, ← Nat.add_assoc] at this
      exact this
end
end Go.Proofs.Ytmbdglolpagjdaa
