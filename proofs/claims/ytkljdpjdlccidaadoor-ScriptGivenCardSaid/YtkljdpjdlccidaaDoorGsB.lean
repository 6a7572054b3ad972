/- A row of entries in memory that is sorted in place: its cells, and two of them changed for one another. -/
import Derived.Test.YtkljdpjdlccidaaDoorGsA
import Derived.Test.YtkljdpjdlccidaaDoorSaF
import Derived.Test.YtkljdpjdlccidaaDoorQtA
namespace Go.Proofs.YtkljdpjdlccidaaDoor
open Go.RowKit Go.Shelf
theorem flat_len (T : List En) : (T.flatMap En.cells).length = T.length * 3 := by
  induction T with
  | nil => rfl
  | cons x T ih => simp only [List.flatMap_cons, List.length_append, ih, List.length_cons]; simp [En.cells]; omega
theorem flat_set : ∀ (T : List En) (i : Nat) (y : En), i < T.length → (((T.flatMap En.cells).set (i * 3) (.int .i64 y.k)).set (i * 3 + 1) (.int .i64 y.a)).set (i * 3 + 2) (.int .i64 y.n) = (T.set i y).flatMap En.cells
  | [], i, y, h => absurd h (Nat.not_lt_zero _)
  | x :: T, 0, y, _ => by simp [En.cells]
  | x :: T, i + 1, y, h => by
    have ih := flat_set T i y (by simpa using h)
    have e0 : (i + 1) * 3 = i * 3 + 1 + 1 + 1 := by omega
    simp only [List.set_cons_succ, List.flatMap_cons, En.cells, List.cons_append, List.nil_append, e0] at ih ⊢
    rw [ih]
theorem flat_at : ∀ (T : List En) (i r : Nat) (x : En) (u : Value), T[i]? = some x → (En.cells x)[r]? = some u → (T.flatMap En.cells)[i * 3 + r]? = some u
  | [], i, r, x, u, h, _ => by simp at h
  | y :: T, 0, r, x, u, h, h2 => by
    obtain rfl : y = x := by simpa using h
    have hr : r < (En.cells y).length := (List.getElem?_eq_some_iff.1 h2).1
    rw [List.flatMap_cons, Nat.zero_mul, Nat.zero_add, List.getElem?_append_left hr]
    exact h2
  | y :: T, i + 1, r, x, u, h, h2 => by
    have ih := flat_at T i r x u (by simpa using h) h2
    have hl : (En.cells y).length = 3 := rfl
    rw [List.flatMap_cons, List.getElem?_append_right (by rw [hl, Nat.succ_mul]; omega), hl]
    rw [show (i + 1) * 3 + r - 3 = i * 3 + r by rw [Nat.succ_mul]; omega]
    exact ih
theorem set_mid (pre m rest : List Value) (k : Nat) (v : Value) (h : k < m.length) : (pre ++ m ++ rest).set (pre.length + k) v = pre ++ m.set k v ++ rest := by
  rw [List.append_assoc, List.set_append_right _ _ (by omega), Nat.add_sub_cancel_left, List.set_append_left _ _ h, List.append_assoc]
/-- The row, in its block. -/
def RowG (g off : Nat) (T : List En) (w : World) : Prop := ∃ (pre rest : List Value) (t : TypeId), pre.length = off ∧ w.heap[g]? = some (.cells (pre ++ T.flatMap En.cells ++ rest).toArray t (0, 0))
def nG (g : Nat) : Nat → Option TypeId → Bool := fun b _ => b != g
section
variable {g off : Nat} {T : List En} {w w' : World}
theorem RowG.kept (h : RowG g off T w) {p : Nat → Option TypeId → Bool} (k : Kept p w w') (hp : ∀ o, p g o = true) : RowG g off T w' := by
  obtain ⟨pre, rest, t, h1, h2⟩ := h
  exact ⟨pre, rest, t, h1, k.same _ _ h2 (hp _)⟩
theorem RowG.lt (h : RowG g off T w) : g < w.heap.size := by
  obtain ⟨pre, rest, t, h1, h2⟩ := h
  exact (Array.getElem?_eq_some_iff.1 h2).1
theorem RowG.ext (h : RowG g off T w) (k : Ext w w') : RowG g off T w' := h.kept k fun o => by simp [pOld, h.lt]
theorem RowG.at (h : RowG g off T w) {i : Nat} {x : En} (hi : T[i]? = some x) : w.cell? ⟨g, off + i * 3, none⟩ = some (.int .i64 x.k) ∧ w.cell? ⟨g, off + i * 3 + 1, none⟩ = some (.int .i64 x.a) ∧ w.cell? ⟨g, off + i * 3 + 2, none⟩ = some (.int .i64 x.n) := by
  obtain ⟨pre, rest, t, rfl, h2⟩ := h
  have key : ∀ (r : Nat) (u : Value), (En.cells x)[r]? = some u → w.cell? ⟨g, pre.length + i * 3 + r, none⟩ = some u := fun r u hu => by
    have hf := flat_at T i r x u hi hu
    have hl := (List.getElem?_eq_some_iff.1 hf).1
    simp only [World.cell?, h2]
    rw [List.getElem?_toArray, List.append_assoc, List.getElem?_append_right (by omega), show pre.length + i * 3 + r - pre.length = i * 3 + r by omega, List.getElem?_append_left hl]
    exact hf
  exact ⟨key 0 _ rfl, key 1 _ rfl, key 2 _ rfl⟩
theorem RowG.soft (h : RowG g off T w) : ∀ n, w.frozen? ⟨g, n, none⟩ = false := by
  obtain ⟨pre, rest, t, h1, h2⟩ := h
  exact fun n => frozen_of_row w g n _ _ h2
def putG (w : World) (g k : Nat) (y : En) : World := ((w.setCell ⟨g, k, none⟩ (.int .i64 y.k)).setCell ⟨g, k + 1, none⟩ (.int .i64 y.a)).setCell ⟨g, k + 2, none⟩ (.int .i64 y.n)
theorem RowG.put (h : RowG g off T w) {i : Nat} (hi : i < T.length) (y : En) : RowG g off (T.set i y) (putG w g (off + i * 3) y) := by
  obtain ⟨pre, rest, t, rfl, h2⟩ := h
  refine ⟨pre, rest, t, rfl, ?_⟩
  unfold putG
  have hl := flat_len T
  rw [heap_setCell_same _ g _ _ _ _ (heap_setCell_same _ g _ _ _ _ (heap_setCell_same w g _ _ _ _ h2)), ← flat_set T i y hi]
  congr 2
  apply Array.ext'
  simp only [Array.toList_setIfInBounds]
  rw [set_mid pre _ rest (i * 3) _ (by omega), Nat.add_assoc, set_mid pre _ rest (i * 3 + 1) _ (by rw [List.length_set]; omega), Nat.add_assoc, set_mid pre _ rest (i * 3 + 2) _ (by rw [List.length_set, List.length_set]; omega)]
theorem putG_kept (w : World) (g k : Nat) (y : En) : Kept (nG g) w (putG w g k y) := ((Kept.setCell _ fun o ho => by simp [nG]).trans (Kept.setCell _ fun o ho => by simp [nG])).trans (Kept.setCell _ fun o ho => by simp [nG])
theorem ext_nG (g : Nat) {w w' : World} (k : Ext w w') : Kept (nG g) w w' := k.mono fun b t hb _ => by simp [pOld, hb]
/-- Two members changed for one another. -/
theorem RowG.swap (h : RowG g off T w) {i j : Nat} {x y : En} (hi : T[i]? = some x) (hj : T[j]? = some y) : RowG g off ((T.set i y).set j x) (putG (putG w g (off + i * 3) y) g (off + j * 3) x) ∧ Kept (nG g) w (putG (putG w g (off + i * 3) y) g (off + j * 3) x) := by
  have h1 := (List.getElem?_eq_some_iff.1 hi).1
  have h2 := (List.getElem?_eq_some_iff.1 hj).1
  exact ⟨(h.put h1 y).put (by simpa using h2) x, (putG_kept ..).trans (putG_kept ..)⟩
end
end Go.Proofs.YtkljdpjdlccidaaDoor
