/- Arguments that are slices, opened to what lies in memory: of no law of its own. -/
import Derived.Test.YtkljdpjdlccidaaDoorRwA
import Derived.Deep.Slices
import Derived.Deep.Fields
import Derived.ChangeSame
namespace Go.Proofs.YtkljdpjdlccidaaDoor
open Go.RowKit Go.ChangeShapes Go.WideShapes Go.Deep Go.Shelf
theorem spot_none {w : World} {a : Addr} {v : Value} (h : w.cell? (a.add 0) = some v) : a = ⟨a.block, a.off, none⟩ := by
  obtain ⟨b, off, spot⟩ := a
  cases spot with
  | none => rfl
  | some y =>
    exfalso
    unfold World.cell? at h
    split at h
    · simp [Addr.add] at h
    · simp at h
theorem add_none (b off n : Nat) : (⟨b, off, none⟩ : Addr).add n = ⟨b, off + n, none⟩ := by unfold Addr.add; split <;> simp_all
/-- Elements of a slice that came in, as they are read. -/
def Rows3 {α : Type} (f : α → List Value) (s : Nat) (P : α → Prop) (w : World) (A : Option Addr) (T : List α) : Prop := ∀ (i : Nat) (x : α), T[i]? = some x → ∃ g off, A = some ⟨g, off, none⟩ ∧ g < w.heap.size ∧ P x ∧ ∀ (j : Nat) (u : Value), (f x)[j]? = some u → w.cell? ⟨g, off + i * s + j, none⟩ = some u
theorem Rows3.kept {α : Type} {f : α → List Value} {s : Nat} {P : α → Prop} {w w' : World} {A : Option Addr} {T : List α} (h : Rows3 f s P w A T) (k : Kept (pOld w.heap.size) w w') : Rows3 f s P w' A T := fun i x hi => by
  obtain ⟨g, off, h1, h2, h3, h4⟩ := h i x hi
  refine ⟨g, off, h1, Nat.lt_of_lt_of_le h2 k.size, h3, fun j u hj => k.cell (h4 j u hj) fun o _ => by simp [pOld, h2]⟩
/-- A slice of one cell a member, as it came in. -/
def Row1 {α : Type} (f : α → Value) (w : World) (A : Option Addr) (m c : Nat) (l : List α) : Prop := m = l.length ∧ (A = none → c = 0 ∧ m = 0) ∧ Rows3 (fun x => [f x]) 1 (fun _ => True) w A l
theorem Row1.kept {α : Type} {f : α → Value} {w w' : World} {A : Option Addr} {m c : Nat} {l : List α} (h : Row1 f w A m c l) (k : Kept (pOld w.heap.size) w w') : Row1 f w' A m c l := ⟨h.1, h.2.1, h.2.2.kept k⟩
theorem Row1.src {α : Type} {f : α → Value} {w : World} {A : Option Addr} {m c : Nat} {l : List α} (h : Row1 f w A m c l) : Src w (.slice A m c) m (rowV f l) := by
  obtain ⟨h1, h2, h3⟩ := h
  cases A with
  | none =>
    obtain ⟨e1, e2⟩ := h2 rfl
    subst e1 e2
    refine .inl ⟨rfl, rfl, ?_⟩
    cases l with
    | nil => rfl
    | cons => cases h1
  | some ad =>
    refine .inr ⟨ad, c, rfl, fun j u hj => ?_⟩
    rw [rowV, List.getElem?_map, Option.map_eq_some_iff] at hj
    obtain ⟨z, hz, rfl⟩ := hj
    obtain ⟨g, off, e1, _, _, e4⟩ := h3 j z hz
    cases e1
    have := e4 0 _ rfl
    rw [add_none]
    simpa using this
/-- A member, where it lies. -/
theorem Row1.at {α : Type} {f : α → Value} {w : World} {A : Option Addr} {m c : Nat} {l : List α} (h : Row1 f w A m c l) {i : Nat} (hi : i < l.length) : ∃ g off, A = some ⟨g, off, none⟩ ∧ g < w.heap.size ∧ w.cell? ⟨g, off + i, none⟩ = some (f l[i]) := by
  obtain ⟨g, off, e1, e2, _, e4⟩ := h.2.2 i l[i] (List.getElem?_eq_getElem hi)
  have := e4 0 _ rfl
  exact ⟨g, off, e1, e2, by simpa using this⟩
section
variable {H : Type} {enc : TypeId × Value → H} {w : World} {base : Nat} {held : Bool}
/-- A slice of elements that open to cells. -/
theorem open_rows {α : Type} (dflt : α) {f : α → List Value} {s : Nat} {P : α → Prop} {st et : TypeId} (hs0 : 0 < s) (hst : Tryd.prog.underlying st = some (.slice et)) (hce : Tryd.prog.cellsOf et = s) (hfs : ∀ x, (f x).length = s)
    (hop : ∀ {fuel : Nat} {cs : List Value} {x : DataW H × List MemPlace}, DataW.trod enc Tryd.prog w base (fun _ => true) held fuel et cs = some x → ∃ t : α, cs = f t ∧ P t)
    {fuel : Nat} {A : Option Addr} {len cap : Nat} {x : DataW H × List MemPlace} (h : DataW.trod enc Tryd.prog w base (fun _ => true) held fuel st [.slice A len cap] = some x) :
    ∃ T : List α, T.length = len ∧ Rows3 f s P w A T := by
  rcases open_slice hst h with ⟨hcs, _⟩ | ⟨a, len', cap', m, n, D, Pl, hcs, hb, hl, hm, hmm, hx, hi⟩
  · simp at hcs
    obtain ⟨rfl, rfl, rfl⟩ := hcs
    exact ⟨[], rfl, fun i t hi => by simp at hi⟩
  · simp at hcs
    obtain ⟨rfl, rfl, rfl⟩ := hcs
    simp only [if_true] at hmm
    subst hmm
    have key : ∀ i : Nat, ∃ t : α, i < len → P t ∧ ∀ j u, (f t)[j]? = some u → w.cell? (a.add (i * s + j)) = some u := by
      intro i
      by_cases hlt : i < len
      · obtain ⟨cs', hc, ht⟩ := hi i (by omega)
        obtain ⟨t, rfl, hP⟩ := hop ht
        refine ⟨t, fun _ => ⟨hP, fun j u hj => ?_⟩⟩
        rw [hce] at hc
        obtain ⟨_, hcl, hat⟩ := World.cells?_some hc
        have hj5 : j < s := by
          rcases Nat.lt_or_ge j s with h' | h'
          · exact h'
          · rw [List.getElem?_eq_none (by rw [hfs]; exact h')] at hj; cases hj
        rw [← Go.Deep.add_add, hat j hj5, hj]
      · exact ⟨dflt, fun h => absurd h hlt⟩
    obtain ⟨F, hF⟩ := Classical.axiomOfChoice key
    refine ⟨(List.range len).map F, by simp, fun i t hi => ?_⟩
    have hlt : i < len := by
      have := (List.getElem?_eq_some_iff.1 hi).1
      simpa using this
    have ht : F i = t := by
      rw [List.getElem?_map, List.getElem?_range hlt] at hi
      simpa using hi
    subst ht
    obtain ⟨hP, hc⟩ := hF i hlt
    have c0' := (hF 0 (by omega)).2 0 _ (List.getElem?_eq_getElem (by rw [hfs]; exact hs0))
    rw [Nat.zero_mul] at c0'
    have c0 : w.cell? (a.add 0) = some _ := c0'
    have ha := spot_none c0
    rw [ha] at hc ⊢
    refine ⟨a.block, a.off, rfl, ?_, hP, fun j u hj => ?_⟩
    · have := World.block_lt_of_cell? w _ c0
      rw [ha, add_none] at this
      exact this
    · have := hc j u hj
      rw [add_none, ← Nat.add_assoc] at this
      exact this
/-- A slice of one cell a member. -/
theorem open_row1 {α : Type} (dflt : α) {f : α → Value} {st et : TypeId} (hst : Tryd.prog.underlying st = some (.slice et)) (hce : Tryd.prog.cellsOf et = 1)
    (hop : ∀ {fuel : Nat} {cs : List Value} {x : DataW H × List MemPlace}, DataW.trod enc Tryd.prog w base (fun _ => true) held fuel et cs = some x → ∃ t : α, cs = [f t] ∧ True)
    {fuel : Nat} {cs : List Value} {x : DataW H × List MemPlace} (h : DataW.trod enc Tryd.prog w base (fun _ => true) held fuel st cs = some x) :
    ∃ A m c, cs = [.slice A m c] ∧ ∃ l : List α, Row1 f w A m c l := by
  obtain ⟨A, m, c, rfl, hn⟩ : ∃ A m c, cs = [.slice A m c] ∧ (A = none → c = 0 ∧ m = 0) := by
    rcases open_slice hst h with ⟨hcs, _⟩ | ⟨a, len', cap', _, _, _, _, hcs, _⟩
    · exact ⟨none, 0, 0, hcs, fun _ => ⟨rfl, rfl⟩⟩
    · exact ⟨some a, len', cap', hcs, fun h => by cases h⟩
  obtain ⟨l, hl, hr⟩ := open_rows dflt (f := fun x => [f x]) (by omega) hst hce (fun _ => rfl) hop h
  exact ⟨A, m, c, rfl, l, hl.symm, hn, hr⟩
end
end Go.Proofs.YtkljdpjdlccidaaDoor
