/- A queue's heap as a value with the methods of a heap: what it reads. -/
import Derived.Test.YtmbdglolpagjdaaQuG
import Derived.Deep.RegionHeld3
import Derived.StillTailTactics
import Derived.BigRegion
import Derived.Deep.RegionLaw
import Derived.Deep.AppendLies
namespace Go.Proofs.Ytmbdglolpagjdaa
open Go.RowKit Go.Shelf

abbrev PP := Nat → Option TypeId → Bool
abbrev DM := DataW Unit
theorem keptStore {p : PP} {W0 W : World} (h : Kept p W0 W) {a : Addr} (v : Value) (ho : ∀ o, W.heap[a.block]? = some o → a.block < W0.heap.size → p a.block (tag o) = false) : Kept p W0 (W.setCell a v) :=
  ⟨h.os, h.tape, h.output, Nat.le_trans h.size (KeepsWalks.setCell W a v).size, fun b o hb hp => by
    have h1 := h.same b o hb hp
    refine (Below.heap_setCell _ _ _ b fun e => ?_).trans h1
    subst e
    rw [ho o h1 (Array.getElem?_eq_some_iff.1 hb).1] at hp; cases hp⟩
theorem keptGrown {p : PP} {W0 W W' : World} {row : Option Nat} (h : Kept p W0 W) (hg : W.grownBy W' row) (ho : ∀ j o, row = some j → W.heap[j]? = some o → j < W0.heap.size → p j (tag o) = false) : Kept p W0 W' :=
  ⟨hg.os.trans h.os, hg.tape.trans h.tape, hg.output.trans h.output, Nat.le_trans h.size hg.size, fun b o hb hp => by
    have h1 := h.same b o hb hp
    refine (hg.block b (Array.getElem?_eq_some_iff.1 h1).1 fun e => ?_).trans h1
    rw [ho b o e.symm h1 (Array.getElem?_eq_some_iff.1 hb).1] at hp; cases hp⟩
/-- p names none of the blocks in which a queue lies. -/
def Mine (p : PP) (W0 : World) (b : Nat) (t : Option TypeId) : Prop := b < W0.heap.size → p b t = false
def row4 (l : List Ent) : List Value := l.flatMap Ent.cells
theorem row4_len (l : List Ent) : (row4 l).length = l.length * 4 := by
  unfold row4; induction l with
  | nil => rfl
  | cons x r ih => simp [List.flatMap_cons, Ent.cells, ih]; omega
theorem row4_get {l : List Ent} : ∀ {i : Nat}, i < l.length → ∀ k, k < 4 → (row4 l)[i * 4 + k]? = (nth l i).cells[k]? := by
  induction l with
  | nil => intro i h; simp at h
  | cons x r ih =>
    intro i h k hk
    cases i with
    | zero =>
      have : nth (x :: r) 0 = x := rfl
      rw [this]
      simp only [row4, List.flatMap_cons, Nat.zero_mul, Nat.zero_add]
      rw [List.getElem?_append_left (by simp [Ent.cells]; omega)]
    | succ i =>
      have h1 := ih (i := i) (by simpa using h) k hk
      have : nth (x :: r) (i + 1) = nth r i := rfl
      rw [this, ← h1]
      simp only [row4, List.flatMap_cons]
      rw [List.getElem?_append_right (by simp [Ent.cells]; omega)]
      congr 1
      simp [Ent.cells]; omega
/-- A queue's heap in memory: its entries; its map; all else that p names is as it was at W0. -/
structure QS (p : PP) (W0 : World) (bq bp bm : Nat) (pu : Int) (l : List Ent) (D : DM) (W : World) : Prop where
  qb : ∃ v, W.heap[bq]? = some (.cells #[v, .map (some bm), .int .i64 pu] 59 (0, 0)) ∧ W.ownsRow 0 63 4 v l.length (row4 l) ∧ ∀ g, v.ownBlock = some g → Mine p W0 g (some 63)
  bpb : W.heap[bp]? = some (.cells #[.pointer (some ⟨bq, 0, none⟩)] 24 (0, 0))
  mp : W.ownsMap Try.prog 3 (plainElem Try.prog 3) bm (Maps.size D) D
  kept : Kept p W0 W
  mq : Mine p W0 bq (some 59)
  mm : Mine p W0 bm none
  small : l.length ≤ 1000000
theorem QS.ext {p : PP} {W0 : World} {bq bp bm : Nat} {pu : Int} {l : List Ent} {D : DM} {W W' : World} (h : QS p W0 bq bp bm pu l D W) (k : Ext W W') : QS p W0 bq bp bm pu l D W' := by
  obtain ⟨⟨v, h1, h2, h3⟩, h4, h5, h6, h7, h8, h9⟩ := h
  have k1 := k.kept (fun _ _ => true)
  exact ⟨⟨v, k1.same _ _ h1 rfl, k1.row h2 fun _ _ => rfl, h3⟩, k1.same _ _ h4 rfl, k1.map h5 rfl, h6.trans (k.kept p), h7, h8, h9⟩
/-- A slice of entries, written out. -/
theorem own4 {W : World} {v : Value} {l : List Ent} (h : W.ownsRow 0 63 4 v l.length (row4 l)) : ∃ A c, v = .slice A l.length c := by
  rcases h.2 with ⟨rfl, h0⟩ | ⟨g, cap, _, rfl, _⟩
  · exact ⟨none, 0, by rw [h0]⟩
  · exact ⟨_, cap, rfl⟩
theorem own4_cells {W : World} {A : Option Addr} {c : Nat} {l : List Ent} (h : W.ownsRow 0 63 4 (.slice A l.length c) l.length (row4 l)) {i : Nat} (hi : i < l.length) :
    ∃ g, A = some ⟨g, 0, none⟩ ∧ (∀ o, W.heap[g]? = some o → tag o = some 63) ∧ W.cell? ⟨g, i * 4, none⟩ = some (.int .i64 (nth l i).task) ∧ W.cell? ⟨g, i * 4 + 1, none⟩ = some (.bool (nth l i).front) ∧
      W.cell? ⟨g, i * 4 + 2, none⟩ = some (.int .i64 (nth l i).due) ∧ W.cell? ⟨g, i * 4 + 3, none⟩ = some (.int .i64 (nth l i).nth) := by
  rcases h.2 with ⟨_, h0⟩ | ⟨g, cap, cur, e, _, h1, h2, h3, h4, h5⟩
  · omega
  · injection e with e _ _
    refine ⟨g, e, fun o ho => by rw [h1] at ho; cases ho; rfl, ?_⟩
    have hc : ∀ k, k < 4 → W.cell? ⟨g, i * 4 + k, none⟩ = (nth l i).cells[k]? := fun k hk => by
      have h6 : cur.toList[i * 4 + k]? = (row4 l)[i * 4 + k]? := by rw [← h5, List.getElem?_take, if_pos (by omega)]
      rw [row4_get hi k hk] at h6
      simp only [World.cell?, h1]
      simpa using h6
    exact ⟨hc 0 (by omega), hc 1 (by omega), hc 2 (by omega), hc 3 (by omega)⟩
/-- The value that container/heap is given. -/
def pv (bq bp : Nat) : Value := .agg #[.pointer (some ⟨bq, 0, none⟩), .func (.func 47) #[] #[], .func (.func 48) #[] #[.pointer (some ⟨bp, 0, none⟩)]]

section
variable {p : PP} {W0 : World} {bq bp bm : Nat} {pu : Int}
set_option maxHeartbeats 1000000 in
set_option maxRecDepth 100000 in
theorem elen_ok {l : List Ent} {D : DM} {W : World} (h : QS p W0 bq bp bm pu l D W) : Calls Try.prog 73 #[pv bq bp] W fun e W' => e = .returned (.int .i64 l.length) ∧ Ext W W' := by
  obtain ⟨v, h1, h2, h3⟩ := h.qb
  obtain ⟨A, c, rfl⟩ := own4 h2
  have hlt := (Array.getElem?_eq_some_iff.1 h1).1
  have c0 : W.cell? ⟨bq, 0, none⟩ = some (.slice A l.length c) := by simp [World.cell?, h1]
  unfold pv
  have HH := Lib.hid h
  clear h h1 h2 h3
  go_enter Try.func73, Try.ntmps73
  go_wp2
  go_ret
  exact ⟨rfl, Ext.one _ _⟩

/-- The box in which a method keeps its receiver. -/
def pvo (bq bp : Nat) : Obj := .cells #[.pointer (some ⟨bq, 0, none⟩), .func (.func 47) #[] #[], .func (.func 48) #[] #[.pointer (some ⟨bp, 0, none⟩)]] 74
theorem pvo_cells {W : World} {b bq bp : Nat} (h : W.heap[b]? = some (pvo bq bp)) : W.cell? ⟨b, 0, none⟩ = some (.pointer (some ⟨bq, 0, none⟩)) ∧ W.cell? ⟨b, 1, none⟩ = some (.func (.func 47) #[] #[]) ∧ W.cell? ⟨b, 2, none⟩ = some (.func (.func 48) #[] #[.pointer (some ⟨bp, 0, none⟩)]) := by
  simp [World.cell?, h, pvo]

set_option maxHeartbeats 1000000 in
set_option maxRecDepth 100000 in
theorem eless_ok {l : List Ent} {D : DM} {W : World} (h : QS p W0 bq bp bm pu l D W) {i j : Nat} (hi : i < l.length) (hj : j < l.length) : Calls Try.prog 74 #[pv bq bp, .int .i64 i, .int .i64 j] W fun e W' => e = .returned (.bool (eLt (nth l i) (nth l j))) ∧ Ext W W' := by
  obtain ⟨W1, hW1⟩ : ∃ W1, W1 = W.alloc (pvo bq bp) := ⟨_, rfl⟩
  have hx : Ext W W1 := by rw [hW1]; exact Ext.one _ _
  have hb : W1.heap[W.heap.size]? = some (pvo bq bp) := by rw [hW1]; exact World.alloc_heap_new _ _
  obtain ⟨p0, p1, _⟩ := pvo_cells hb
  obtain ⟨v, h1, h2, h3⟩ := (h.ext hx).qb
  obtain ⟨A, c, rfl⟩ := own4 h2
  have c0 : W1.cell? ⟨bq, 0, none⟩ = some (.slice A l.length c) := by simp [World.cell?, h1]
  obtain ⟨g, rfl, _, a0, a1, a2, a3⟩ := own4_cells h2 hi
  obtain ⟨g', e, _, b0, b1, b2, b3⟩ := own4_cells h2 hj
  injection e with e; injection e with e; subst e
  have hi' : (i : Int) < (l.length : Int) := by omega
  have hj' : (j : Int) < (l.length : Int) := by omega
  have hsm : (l.length : Int) ≤ 1000000 := by have := h.small; omega
  have hah := fun w => ahead_ok (nth l i) (nth l j) w
  have HX := Lib.hid hx
  have HW := Lib.hid hW1
  simp only [Ent.val] at hah
  clear h h1 h2 h3 hb hx hW1
  generalize nth l i = x at *
  generalize nth l j = y at *
  unfold pv
  go_enter Try.func74, Try.ntmps74
  go_wp2_with fail
  change Code.wp _ _ _ _ (W.alloc (pvo bq bp))
  rw [← HW.out]
  go_still_tail 16, (by kernel_rfl)
  change wpList _ _ _ _ _ W1.drew
  go_wp2_with fail
  refine (hah _).mono ?_
  rintro e w' ⟨rfl, hx2⟩
  go_wp2_with fail
  go_ret
  exact ⟨rfl, HX.out.trans ((Ext.drew _).trans hx2)⟩
end
end Go.Proofs.Ytmbdglolpagjdaa
