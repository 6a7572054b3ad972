/- A pile of places, by which a heap is gone over in order: what it holds; Len, Less. -/
import Derived.Test.YtmbdglolpagjdaaQuL
namespace Go.Proofs.Ytmbdglolpagjdaa
open Go.RowKit Go.Shelf

def rowI (s : List Nat) : List Value := s.map fun n : Nat => .int .i64 (n : Int)
/-- Places in memory, of a heap l; all else that pR B names is as it was at W0. -/
structure PS (B : Nat) (W0 : World) (l : List Ent) (bl bp : Nat) (s : List Nat) (W : World) : Prop where
  pb : ∃ v, W.heap[bp]? = some (.cells #[v] 42 (0, 0)) ∧ W.ownsRow B 3 1 v s.length (rowI s)
  lb : ∃ A c, W.heap[bl]? = some (.cells #[.slice A l.length c] 56 (0, 0)) ∧ W.ownsRow 0 63 4 (.slice A l.length c) l.length (row4 l)
  kept : Kept (pR B) W0 W
  hB : B ≤ bp
  hlt : ∀ i, i < s.length → nth s i < l.length
  lsm : l.length ≤ 1000000
  ssm : s.length ≤ 1000000
theorem PS.ext {B : Nat} {W0 : World} {l : List Ent} {bl bp : Nat} {s : List Nat} {W W' : World} (h : PS B W0 l bl bp s W) (k : Ext W W') : PS B W0 l bl bp s W' := by
  obtain ⟨⟨v, h1, h2⟩, ⟨A, c, h3, h4⟩, h5, h6, h7, h8, h9⟩ := h
  have k1 := k.kept (fun _ _ => true)
  exact ⟨⟨v, k1.same _ _ h1 rfl, k1.row h2 fun _ _ => rfl⟩, ⟨A, c, k1.same _ _ h3 rfl, k1.row h4 fun _ _ => rfl⟩, h5.trans (k.kept _), h6, h7, h8, h9⟩
theorem own1 {W : World} {B : Nat} {v : Value} {s : List Nat} (h : W.ownsRow B 3 1 v s.length (rowI s)) : ∃ A c, v = .slice A s.length c := by
  rcases h.2 with ⟨rfl, h0⟩ | ⟨g, cap, _, rfl, _⟩
  · exact ⟨none, 0, by rw [h0]⟩
  · exact ⟨_, cap, rfl⟩
theorem rowI_get {s : List Nat} {i : Nat} (hi : i < s.length) : (rowI s)[i]? = some (.int .i64 ((nth s i : Nat) : Int)) := by
  unfold rowI; rw [List.getElem?_map, nth_some hi]; rfl
theorem own1_cell {W : World} {B : Nat} {A : Option Addr} {n c : Nat} {s : List Nat} (h : W.ownsRow B 3 1 (.slice A n c) n (rowI s)) (hn : n = s.length) {i : Nat} (hi : i < s.length) :
    ∃ g, A = some ⟨g, 0, none⟩ ∧ W.cell? ⟨g, i, none⟩ = some (.int .i64 ((nth s i : Nat) : Int)) ∧ ∀ k, W.frozen? ⟨g, k, none⟩ = false := by
  subst hn
  obtain ⟨g, cap, e, _⟩ := h.form (by omega)
  injection e with e _ _
  subst e
  exact ⟨g, rfl, by rw [h.cellAt i (by omega), rowI_get hi], fun k => h.frozenAt k⟩
section
variable {B : Nat} {W0 : World} {l : List Ent} {bl bp : Nat}
theorem PS.slot {s : List Nat} {W : World} (h : PS B W0 l bl bp s W) {A : Option Addr} {n c : Nat} (hn : n = s.length) (h1 : W.heap[bp]? = some (.cells #[.slice A n c] 42 (0, 0))) :
    W.cell? ⟨bp, 0, none⟩ = some (.slice A n c) ∧ W.frozen? ⟨bp, 0, none⟩ = false ∧ W.ownsRow B 3 1 (.slice A n c) n (rowI s) ∧ bp < W.heap.size ∧ ∀ b o, W.heap[b]? = some o → tag o ≠ some 3 → ∀ g, (Value.slice A n c).ownBlock = some g → g ≠ b := by
  subst hn
  obtain ⟨⟨v, h1', h2⟩, _⟩ := h
  rw [h1] at h1'
  simp only [Option.some.injEq, Obj.cells.injEq, and_true] at h1'
  have e : v = .slice A s.length c := by simpa using h1'.symm
  subst e
  refine ⟨by simp [World.cell?, h1], frozen_of_row W bp 0 _ _ h1, h2, (Array.getElem?_eq_some_iff.1 h1).1, fun b o hb ht g hv e => ?_⟩
  subst e
  rcases h2.2 with ⟨h0, _⟩ | ⟨g', cap, cur, e, _, k1, _⟩
  · rw [h0] at hv; cases hv
  · rw [e] at hv
    have : g' = g := by simpa [Value.ownBlock] using hv
    subst this
    rw [hb] at k1; cases k1; exact ht rfl
/-- The list's slice, in its box. -/
theorem PS.list {s : List Nat} {W : World} (h : PS B W0 l bl bp s W) : ∃ A c, W.cell? ⟨bl, 0, none⟩ = some (.slice A l.length c) ∧ bl < W.heap.size ∧ W.ownsRow 0 63 4 (.slice A l.length c) l.length (row4 l) := by
  obtain ⟨A, c, h1, h2⟩ := h.lb
  exact ⟨A, c, by simp [World.cell?, h1], (Array.getElem?_eq_some_iff.1 h1).1, h2⟩

/-- The value that container/heap is given. -/
def pvi (bl bp : Nat) : Value := .agg #[.pointer (some ⟨bp, 0, none⟩), .func (.func 51) #[] #[.pointer (some ⟨bl, 0, none⟩)], .func (.func 52) #[] #[]]
def pvio (bl bp : Nat) : Obj := .cells #[.pointer (some ⟨bp, 0, none⟩), .func (.func 51) #[] #[.pointer (some ⟨bl, 0, none⟩)], .func (.func 52) #[] #[]] 98 (0, 0)
theorem pvio_cells {W : World} {b bl bp : Nat} (h : W.heap[b]? = some (pvio bl bp)) : W.cell? ⟨b, 0, none⟩ = some (.pointer (some ⟨bp, 0, none⟩)) ∧ W.cell? ⟨b, 1, none⟩ = some (.func (.func 51) #[] #[.pointer (some ⟨bl, 0, none⟩)]) ∧ W.cell? ⟨b, 2, none⟩ = some (.func (.func 52) #[] #[]) := by
  simp [World.cell?, h, pvio]

set_option maxHeartbeats 1000000 in
set_option maxRecDepth 100000 in
theorem moved2_ok (a b : Value) (w : World) : Calls Try.prog 52 #[a, b] w fun e w' => e = .returned (.tuple #[]) ∧ w' = w := by
  go_enter Try.func52, Try.ntmps52
  go_wp2
  go_end0
  exact ⟨rfl, rfl⟩

set_option maxHeartbeats 1000000 in
set_option maxRecDepth 100000 in
theorem ahead2_ok {s : List Nat} {W : World} (h : PS B W0 l bl bp s W) {i j : Nat} (hi : i < l.length) (hj : j < l.length) : Calls Try.prog 51 #[.int .i64 i, .int .i64 j, .pointer (some ⟨bl, 0, none⟩)] W fun e W' => e = .returned (.bool (eLt (nth l i) (nth l j))) ∧ Ext W W' := by
  obtain ⟨A, c, c0, hlt, ow⟩ := h.list
  obtain ⟨g, rfl, _, a0, a1, a2, a3⟩ := own4_cells ow hi
  obtain ⟨g', e, _, b0, b1, b2, b3⟩ := own4_cells ow hj
  injection e with e; injection e with e; subst e
  have hi' : (i : Int) < (l.length : Int) := by omega
  have hj' : (j : Int) < (l.length : Int) := by omega
  have hsm : (l.length : Int) ≤ 1000000 := by have := h.lsm; omega
  have hah := fun w => ahead_ok (nth l i) (nth l j) w
  simp only [Ent.val] at hah
  clear h ow
  generalize nth l i = x at *
  generalize nth l j = y at *
  go_enter Try.func51, Try.ntmps51
  go_wp2_with fail
  go_still_tail 8, (by kernel_rfl)
  change wpList _ _ _ _ _ W.drew
  go_wp2_with fail
  refine (hah _).mono ?_
  rintro e w' ⟨rfl, hx2⟩
  go_wp2_with fail
  go_ret
  exact ⟨rfl, (Ext.drew _).trans hx2⟩

set_option maxHeartbeats 1000000 in
set_option maxRecDepth 100000 in
theorem ilen_ok {s : List Nat} {W : World} (h : PS B W0 l bl bp s W) : Calls Try.prog 78 #[pvi bl bp] W fun e W' => e = .returned (.int .i64 s.length) ∧ Ext W W' := by
  obtain ⟨v, h1, h2⟩ := h.pb
  obtain ⟨A, c, rfl⟩ := own1 h2
  obtain ⟨c0, _, _, hlt, _⟩ := h.slot rfl h1
  unfold pvi
  clear h h1 h2
  go_enter Try.func78, Try.ntmps78
  go_wp2
  go_ret
  exact ⟨rfl, Ext.one _ _⟩

set_option maxHeartbeats 1000000 in
set_option maxRecDepth 100000 in
theorem iless_ok {s : List Nat} {W : World} (h : PS B W0 l bl bp s W) {i j : Nat} (hi : i < s.length) (hj : j < s.length) : Calls Try.prog 79 #[pvi bl bp, .int .i64 i, .int .i64 j] W fun e W' => e = .returned (.bool (eLt (nth l (nth s i)) (nth l (nth s j)))) ∧ Ext W W' := by
  obtain ⟨W1, hW1⟩ : ∃ W1, W1 = W.alloc (pvio bl bp) := ⟨_, rfl⟩
  have hx : Ext W W1 := by rw [hW1]; exact Ext.one _ _
  have hb : W1.heap[W.heap.size]? = some (pvio bl bp) := by rw [hW1]; exact World.alloc_heap_new _ _
  obtain ⟨p0, p1, _⟩ := pvio_cells hb
  have h' := h.ext hx
  obtain ⟨v, h1, h2⟩ := h'.pb
  obtain ⟨A, c, rfl⟩ := own1 h2
  obtain ⟨c0, _, ow, hlt, _⟩ := h'.slot rfl h1
  obtain ⟨g, rfl, a0, _⟩ := own1_cell ow rfl hi
  obtain ⟨g', e, b0, _⟩ := own1_cell ow rfl hj
  injection e with e; injection e with e; subst e
  have hi' : (i : Int) < (s.length : Int) := by omega
  have hj' : (j : Int) < (s.length : Int) := by omega
  have hsm : (s.length : Int) ≤ 1000000 := by have := h.ssm; omega
  have hah := ahead2_ok (h'.ext (Ext.drew _)) (h.hlt i hi) (h.hlt j hj)
  have HX := Lib.hid hx
  have HW := Lib.hid hW1
  clear h h' h1 h2 hb hx hW1 ow
  generalize nth s i = x at *
  generalize nth s j = y at *
  unfold pvi
  go_enter Try.func79, Try.ntmps79
  go_wp2_with fail
  change Code.wp _ _ _ _ (W.alloc (pvio bl bp))
  rw [← HW.out]
  go_still_tail 16, (by kernel_rfl)
  change wpList _ _ _ _ _ W1.drew
  go_wp2_with fail
  refine hah.mono ?_
  rintro e w' ⟨rfl, hx2⟩
  go_wp2_with fail
  go_ret
  exact ⟨rfl, HX.out.trans ((Ext.drew _).trans hx2)⟩
end
end Go.Proofs.Ytmbdglolpagjdaa
