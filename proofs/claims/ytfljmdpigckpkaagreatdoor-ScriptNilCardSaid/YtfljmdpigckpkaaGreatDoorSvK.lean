/- The box of a program while it is copied; a step of each of the copying's rounds. Written by genVK.py. -/
import Derived.Test.YtfljmdpigckpkaaGreatDoorSvJ
namespace Go.Proofs.YtfljmdpigckpkaaGreatDoor
open Go.RowKit Go.Shelf
attribute [local go_sem] Oper.semAt_some
def bxo (v0 v1 v2 v3 v4 v5 v6 v7 : Value) : Obj := .cells #[v0, v1, v2, v3, v4, v5, v6, v7] 35 (0, 0)
theorem bxo_cells {w : World} {b : Nat} {v0 v1 v2 v3 v4 v5 v6 v7 : Value} (h : w.heap[b]? = some (bxo v0 v1 v2 v3 v4 v5 v6 v7)) : w.cell? ⟨b, 0, none⟩ = some v0 ∧ w.cell? ⟨b, 1, none⟩ = some v1 ∧ w.cell? ⟨b, 2, none⟩ = some v2 ∧ w.cell? ⟨b, 3, none⟩ = some v3 ∧ w.cell? ⟨b, 4, none⟩ = some v4 ∧ w.cell? ⟨b, 5, none⟩ = some v5 ∧ w.cell? ⟨b, 6, none⟩ = some v6 ∧ w.cell? ⟨b, 7, none⟩ = some v7 ∧ b < w.heap.size ∧ ∀ n, w.frozen? ⟨b, n, none⟩ = false := by
  refine ⟨?_, ?_, ?_, ?_, ?_, ?_, ?_, ?_, (Array.getElem?_eq_some_iff.1 h).1, fun n => frozen_of_row w b n _ _ h⟩
  all_goals simp [World.cell?, h, bxo]
theorem bxo_set0 {w : World} {b : Nat} {v0 v1 v2 v3 v4 v5 v6 v7 : Value} (h : w.heap[b]? = some (bxo v0 v1 v2 v3 v4 v5 v6 v7)) (u : Value) : (w.setCell ⟨b, 0, none⟩ u).heap[b]? = some (bxo u v1 v2 v3 v4 v5 v6 v7) := by
  rw [heap_setCell_same w b 0 _ _ u h]; rfl
theorem bxo_set1 {w : World} {b : Nat} {v0 v1 v2 v3 v4 v5 v6 v7 : Value} (h : w.heap[b]? = some (bxo v0 v1 v2 v3 v4 v5 v6 v7)) (u : Value) : (w.setCell ⟨b, 1, none⟩ u).heap[b]? = some (bxo v0 u v2 v3 v4 v5 v6 v7) := by
  rw [heap_setCell_same w b 1 _ _ u h]; rfl
theorem bxo_set2 {w : World} {b : Nat} {v0 v1 v2 v3 v4 v5 v6 v7 : Value} (h : w.heap[b]? = some (bxo v0 v1 v2 v3 v4 v5 v6 v7)) (u : Value) : (w.setCell ⟨b, 2, none⟩ u).heap[b]? = some (bxo v0 v1 u v3 v4 v5 v6 v7) := by
  rw [heap_setCell_same w b 2 _ _ u h]; rfl
theorem bxo_set3 {w : World} {b : Nat} {v0 v1 v2 v3 v4 v5 v6 v7 : Value} (h : w.heap[b]? = some (bxo v0 v1 v2 v3 v4 v5 v6 v7)) (u : Value) : (w.setCell ⟨b, 3, none⟩ u).heap[b]? = some (bxo v0 v1 v2 u v4 v5 v6 v7) := by
  rw [heap_setCell_same w b 3 _ _ u h]; rfl
theorem bxo_set4 {w : World} {b : Nat} {v0 v1 v2 v3 v4 v5 v6 v7 : Value} (h : w.heap[b]? = some (bxo v0 v1 v2 v3 v4 v5 v6 v7)) (u : Value) : (w.setCell ⟨b, 4, none⟩ u).heap[b]? = some (bxo v0 v1 v2 v3 u v5 v6 v7) := by
  rw [heap_setCell_same w b 4 _ _ u h]; rfl
theorem bxo_set5 {w : World} {b : Nat} {v0 v1 v2 v3 v4 v5 v6 v7 : Value} (h : w.heap[b]? = some (bxo v0 v1 v2 v3 v4 v5 v6 v7)) (u : Value) : (w.setCell ⟨b, 5, none⟩ u).heap[b]? = some (bxo v0 v1 v2 v3 v4 u v6 v7) := by
  rw [heap_setCell_same w b 5 _ _ u h]; rfl
theorem bxo_set6 {w : World} {b : Nat} {v0 v1 v2 v3 v4 v5 v6 v7 : Value} (h : w.heap[b]? = some (bxo v0 v1 v2 v3 v4 v5 v6 v7)) (u : Value) : (w.setCell ⟨b, 6, none⟩ u).heap[b]? = some (bxo v0 v1 v2 v3 v4 v5 u v7) := by
  rw [heap_setCell_same w b 6 _ _ u h]; rfl
theorem bxo_set7 {w : World} {b : Nat} {v0 v1 v2 v3 v4 v5 v6 v7 : Value} (h : w.heap[b]? = some (bxo v0 v1 v2 v3 v4 v5 v6 v7)) (u : Value) : (w.setCell ⟨b, 7, none⟩ u).heap[b]? = some (bxo v0 v1 v2 v3 v4 v5 v6 u) := by
  rw [heap_setCell_same w b 7 _ _ u h]; rfl
theorem ext_ne {W w w' : World} {g : Nat} (h : Ext W w) (k : Kept (ne' g) w w') (hg : W.heap.size ≤ g) : Ext W w' := Kept.trans h (k.mono fun b t _ hp => by
  simp [pOld] at hp
  simp [ne']; omega)
/-- What was there is as it was, but for the box. -/
def ExtB (B : Nat) (W W' : World) : Prop := Kept (fun b _ => decide (b < W.heap.size) && b != B) W W'
theorem ExtB.refl (B : Nat) (W : World) : ExtB B W W := Kept.refl _ _
theorem ExtB.trans {B : Nat} {W W' W'' : World} (h : ExtB B W W') (k : ExtB B W' W'') : ExtB B W W'' := Kept.trans h (k.mono fun b t hb hp => by
  have := h.size
  simp at hp ⊢
  exact ⟨by omega, hp.2⟩)
theorem Ext.toB {W W' : World} (B : Nat) (h : Ext W W') : ExtB B W W' := h.mono fun b t hb _ => by simp [pOld, hb]
theorem ExtB.box {B : Nat} {W w w' : World} (h : ExtB B W w) (k : Kept (ne' B) w w') : ExtB B W w' := Kept.trans h (k.mono fun b t _ hp => by
  simp at hp
  simp [ne', hp.2])
theorem ExtB.at' {B g : Nat} {W w w' : World} (h : ExtB B W w) (k : Kept (ne' g) w w') (hg : W.heap.size ≤ g) : ExtB B W w' := Kept.trans h (k.mono fun b t _ hp => by
  simp at hp
  simp [ne']; omega)
/-- What was there is as it was, but for the box and what is answered. -/
def ExtC (B : Nat) (W W' : World) : Prop := Kept (fun b _ => decide (b < W.heap.size) && (b != B && b != B + 1)) W W'
theorem ExtB.toC {B : Nat} {W W' : World} (h : ExtB B W W') : ExtC B W W' := h.mono fun b t hb hp => by
  simp at hp
  simp [hb, hp.2.1]
theorem ExtC.trans {B : Nat} {W W' W'' : World} (h : ExtC B W W') (k : ExtC B W' W'') : ExtC B W W'' := Kept.trans h (k.mono fun b t hb hp => by
  have := h.size
  simp at hp ⊢
  exact ⟨by omega, hp.2⟩)
theorem ExtB.thenC {B : Nat} {W W' W'' : World} (h : ExtB B W W') (k : ExtC B W' W'') : ExtC B W W'' := h.toC.trans k
theorem ExtC.at1 {B : Nat} {w w' : World} (k : Kept (ne' (B + 1)) w w') : ExtC B w w' := k.mono fun b t _ hp => by
  simp at hp
  simp [ne', hp.2.2]
/-- A part that is done: it stays whatever is done to the box, to what is answered and to what is made later. -/
def Dn (B : Nat) (w : World) (X : World → Prop) : Prop := ∀ w', ExtC B w w' → X w'
theorem Dn.go {B : Nat} {w w' : World} {X : World → Prop} (h : Dn B w X) (k : ExtB B w w') : Dn B w' X := fun _ q => h _ (k.thenC q)
theorem Dn.own {B B1 : Nat} {w : World} {t : TypeId} {s : Nat} {v : Value} {n : Nat} {xs : List Value} (h : w.ownsRow B1 t s v n xs) (hB : B + 1 < B1) : Dn B w fun w => w.ownsRow B1 t s v n xs := fun w' k => k.row h fun g hg => by
  have h1 := own_base h g hg
  have h2 := own_lt h g hg
  simp [h2]; omega
/-- All but a block, the box and what is answered; but two, .. -/
def n2 (g B : Nat) : Nat → Option TypeId → Bool := fun b _ => b != g && (b != B && b != B + 1)
def n3 (k g B : Nat) : Nat → Option TypeId → Bool := fun b _ => b != k && (b != g && (b != B && b != B + 1))
/-- It stays whatever is done to them. -/
def R2 (g B : Nat) (w : World) (X : World → Prop) : Prop := ∀ w', Kept (n2 g B) w w' → X w'
def R3 (k g B : Nat) (w : World) (X : World → Prop) : Prop := ∀ w', Kept (n3 k g B) w w' → X w'
theorem R2.go {g B : Nat} {w w' : World} {X : World → Prop} (h : R2 g B w X) (k : Kept (n2 g B) w w') : R2 g B w' X := fun _ q => h _ (k.trans q)
theorem R3.go {c g B : Nat} {w w' : World} {X : World → Prop} (h : R3 c g B w X) (k : Kept (n3 c g B) w w') : R3 c g B w' X := fun _ q => h _ (k.trans q)
theorem R2.here {g B : Nat} {w : World} {X : World → Prop} (h : R2 g B w X) : X w := h _ (Kept.refl _ _)
theorem R3.here {c g B : Nat} {w : World} {X : World → Prop} (h : R3 c g B w X) : X w := h _ (Kept.refl _ _)
theorem R2.dn {g B : Nat} {w : World} {X : World → Prop} (h : R2 g B w X) : Dn B w X := fun w' k => h w' (k.mono fun b t hb hp => by
  simp [n2] at hp
  simp [hb, hp.2])
theorem R3.r2 {c g B : Nat} {w : World} {X : World → Prop} (h : R3 c g B w X) : R2 g B w X := fun w' k => h w' (k.mono fun b t _ hp => by
  simp [n3] at hp
  simp [n2, hp.2])
theorem R2.old {g B : Nat} {W w : World} {X : World → Prop} (h : ∀ w, Ext W w → X w) (k : Ext W w) (hg : W.heap.size ≤ g) (hB : W.heap.size ≤ B) : R2 g B w X := fun w' q => h w' (Kept.trans k (q.mono fun b t _ hp => by
  simp [pOld] at hp
  simp [n2]; omega))
theorem R3.old {c g B : Nat} {W w : World} {X : World → Prop} (h : ∀ w, Ext W w → X w) (k : Ext W w) (hc : W.heap.size ≤ c) (hg : W.heap.size ≤ g) (hB : W.heap.size ≤ B) : R3 c g B w X := fun w' q => h w' (Kept.trans k (q.mono fun b t _ hp => by
  simp [pOld] at hp
  simp [n3]; omega))
theorem ne'_n2 {g B : Nat} {w w' : World} (h : Kept (ne' g) w w') : Kept (n2 g B) w w' := h.mono fun b t _ hp => by
  simp [n2] at hp
  simp [ne', hp.1]
theorem ne'_n3 {c g B : Nat} {w w' : World} (h : Kept (ne' c) w w') : Kept (n3 c g B) w w' := h.mono fun b t _ hp => by
  simp [n3] at hp
  simp [ne', hp.1]
theorem n2_own {g B B1 : Nat} {w w' : World} {t : TypeId} {s : Nat} {v : Value} {n : Nat} {xs : List Value} (k : Kept (n2 g B) w w') (h : w.ownsRow B1 t s v n xs) (hg : g < B1) (hB : B + 1 < B1) : w'.ownsRow B1 t s v n xs := k.row h fun b hb => by
  have := own_base h b hb
  simp [n2]; omega
theorem n3_own {c g B B1 : Nat} {w w' : World} {t : TypeId} {s : Nat} {v : Value} {n : Nat} {xs : List Value} (k : Kept (n3 c g B) w w') (h : w.ownsRow B1 t s v n xs) (hc : c < B1) (hg : g < B1) (hB : B + 1 < B1) : w'.ownsRow B1 t s v n xs := k.row h fun b hb => by
  have := own_base h b hb
  simp [n3]; omega
theorem own_some {W : World} {B : Nat} {t : TypeId} {s : Nat} {A : Option Addr} {n c : Nat} {xs : List Value} (h : W.ownsRow B t s (.slice A n c) n xs) (hn : 0 < n) : ∃ g, A = some ⟨g, 0, none⟩ ∧ B ≤ g ∧ g < W.heap.size := by
  rcases h.2 with ⟨_, h0⟩ | ⟨g, cap, cur, e, hb, h1, _⟩
  · omega
  · exact ⟨g, by injection e, hb, (Array.getElem?_eq_some_iff.1 h1).1⟩
theorem own_cells {α : Type} {f : α → List Value} {s : Nat} (hfs : ∀ x, (f x).length = s) {W : World} {B : Nat} {t : TypeId} {g n c : Nat} {T : List α} (h : W.ownsRow B t s (.slice (some ⟨g, 0, none⟩) n c) n (T.flatMap f)) {i : Nat} {x : α} (hi : T[i]? = some x) : ∀ (r : Nat) (u : Value), (f x)[r]? = some u → W.cell? ⟨g, i * s + r, none⟩ = some u := fun r u hr => by
  have := h.cells (g := g) rfl _ u (flat_at hfs T i r x u hi hr)
  simpa [add_none] using this
end Go.Proofs.YtfljmdpigckpkaaGreatDoor
