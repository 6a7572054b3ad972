/- What stays true whatever is done to one block; rows of many cells, a cell of which is set; programs that are alike but for where they lie. Of no law of its own but for the kinds. -/
import Derived.Test.YtfljmdpigckpkaaGreatDoorSvC
namespace Go.Proofs.YtfljmdpigckpkaaGreatDoor
open Go.RowKit Go.Shelf
def ne' (g : Nat) : Nat → Option TypeId → Bool := fun b _ => b != g
/-- It holds, and goes on holding whatever is done to the block g. -/
def Rob (g : Nat) (w : World) (X : World → Prop) : Prop := ∀ w', Kept (ne' g) w w' → X w'
section
variable {g : Nat} {w w' : World} {X Y : World → Prop}
theorem Rob.here (h : Rob g w X) : X w := h _ (Kept.refl _ _)
theorem Rob.kept (h : Rob g w X) (k : Kept (ne' g) w w') : Rob g w' X := fun _ k2 => h _ (k.trans k2)
theorem Rob.ext (h : Rob g w X) (k : Ext w w') : Rob g w' X := h.kept (k.kept _)
theorem Rob.mono (h : Rob g w X) (hx : ∀ w, X w → Y w) : Rob g w Y := fun _ k => hx _ (h _ k)
theorem Rob.and (h : Rob g w X) (k : Rob g w Y) : Rob g w fun w => X w ∧ Y w := fun _ q => ⟨h _ q, k _ q⟩
theorem Rob.old {W : World} (h : ∀ w, Ext W w → X w) (k : Ext W w) (hg : W.heap.size ≤ g) : Rob g w X := fun w' q => h w' (Kept.trans k (q.mono fun b t _ hp => by
  simp [pOld] at hp
  simp [ne']; omega))
theorem Rob.row {B : Nat} {t : TypeId} {s : Nat} {v : Value} {n : Nat} {xs : List Value} (h : w.ownsRow B t s v n xs) (hne : ∀ b, v.ownBlock = some b → b ≠ g) : Rob g w fun w => w.ownsRow B t s v n xs := fun _ q => q.row h fun b hb => by
  simp [ne', hne b hb]
theorem Rob.obj {b : Nat} {o : Obj} (h : w.heap[b]? = some o) (hne : b ≠ g) : Rob g w fun w => w.heap[b]? = some o := fun _ q => q.same _ _ h (by simp [ne', hne])
end
/-- A cell of a row is set. -/
theorem ownN_set {W : World} {B : Nat} {t : TypeId} {s : Nat} {v : Value} {n : Nat} {xs : List Value} (h : W.ownsRow B t s v n xs) {k : Nat} (hk : k < xs.length) (u : Value) :
    ∃ g c, v = .slice (some ⟨g, 0, none⟩) n c ∧ (W.setCell ⟨g, k, none⟩ u).ownsRow B t s v n (xs.set k u) ∧ (∀ m, W.frozen? ⟨g, m, none⟩ = false) ∧ W.cell? ⟨g, k, none⟩ = some xs[k] ∧ g < W.heap.size ∧ B ≤ g ∧ Kept (ne' g) W (W.setCell ⟨g, k, none⟩ u) := by
  rcases h.2 with ⟨_, h0⟩ | ⟨g, cap, cur, e, hb, h1, h2, h3, h4, h5⟩
  · have := h.1
    rw [h0, Nat.zero_mul] at this
    omega
  · refine ⟨g, cap, e, ⟨by simpa using h.1, .inr ⟨g, cap, _, e, hb, heap_setCell_same W g k _ _ _ h1, h2, h3, by simpa using h4, ?_⟩⟩, fun n => frozen_of_row W g n _ _ h1, ?_, (Array.getElem?_eq_some_iff.1 h1).1, hb, Kept.setCell _ fun o ho => by simp [ne']⟩
    · simp only [Array.toList_setIfInBounds, List.take_set, h5]
    · have h6 : cur.toList[k]? = xs[k]? := by rw [← h5, List.getElem?_take, if_pos (by have := h.1; omega)]
      rw [List.getElem?_eq_getElem hk] at h6
      simp only [World.cell?, h1]
      simpa using h6
theorem flat_set {α : Type} {f : α → List Value} {s : Nat} (hfs : ∀ x, (f x).length = s) : ∀ (T : List α) (i r : Nat) (x y : α) (u : Value), T[i]? = some x → r < s → f y = (f x).set r u → (T.flatMap f).set (i * s + r) u = (T.set i y).flatMap f
  | [], i, r, x, y, u, h, _, _ => by simp at h
  | z :: T, 0, r, x, y, u, h, hr, he => by
    obtain rfl : z = x := by simpa using h
    rw [List.set_cons_zero, List.flatMap_cons, List.flatMap_cons, he, Nat.zero_mul, Nat.zero_add, List.set_append_left _ _ (by rw [hfs]; exact hr)]
  | z :: T, i + 1, r, x, y, u, h, hr, he => by
    have ih := flat_set hfs T i r x y u (by simpa using h) hr he
    rw [List.set_cons_succ, List.flatMap_cons, List.flatMap_cons, ← ih, List.set_append_right _ _ (by rw [hfs, Nat.succ_mul]; omega), hfs]
    rw [show (i + 1) * s + r - s = i * s + r by rw [Nat.succ_mul]; omega]
/-- Alike but for where they lie. -/
def Cls.like (x y : Cls) : Prop := y.name = x.name ∧ y.names = x.names ∧ y.flds = x.flds
def Ins.like (x y : Ins) : Prop := y.op = x.op ∧ y.a = x.a ∧ y.b = x.b ∧ y.c = x.c ∧ y.n = x.n ∧ y.l = x.l ∧ y.site = x.site ∧ y.line = x.line
def allLike {α : Type} (R : α → α → Prop) (S T : List α) : Prop := T.length = S.length ∧ ∀ (i : Nat) (x y : α), S[i]? = some x → T[i]? = some y → R x y
def Fn.like (x y : Fn) : Prop := y.name = x.name ∧ y.caps = x.caps ∧ y.regs = x.regs ∧ allLike Ins.like x.code y.code
theorem allLike.refl {α : Type} {R : α → α → Prop} (hr : ∀ x, R x x) (S : List α) : allLike R S S := ⟨rfl, fun i x y h h' => by rw [h] at h'; cases h'; exact hr x⟩
theorem Cls.like.refl (x : Cls) : Cls.like x x := ⟨rfl, rfl, rfl⟩
theorem Ins.like.refl (x : Ins) : Ins.like x x := ⟨rfl, rfl, rfl, rfl, rfl, rfl, rfl, rfl⟩
theorem Fn.like.refl (x : Fn) : Fn.like x x := ⟨rfl, rfl, rfl, .refl Ins.like.refl _⟩
theorem allLike.set {α : Type} {R : α → α → Prop} {S T : List α} (h : allLike R S T) {i : Nat} {x y : α} (hx : S[i]? = some x) (hr : R x y) : allLike R S (T.set i y) := by
  refine ⟨by simp [h.1], fun j a b ha hb => ?_⟩
  rw [List.getElem?_set] at hb
  by_cases e : i = j
  · subst e
    rw [hx] at ha
    cases ha
    have hlt : i < T.length := by rw [h.1]; exact (List.getElem?_eq_some_iff.1 hx).1
    simp [hlt] at hb
    rw [← hb]
    exact hr
  · rw [if_neg e] at hb
    exact h.2 j a b ha hb
/-- Programs that are alike but for where they lie. -/
structure PrgLike (P Q : Prg) : Prop where
  loops : Q.loops = P.loops
  clss : allLike Cls.like P.clss Q.clss
  glbs : Q.glbs = P.glbs
  fns : allLike Fn.like P.fns Q.fns
  cmps : Q.cmps = P.cmps
  evts : Q.evts = P.evts
  main : Q.main = P.main
  sits : Q.sits = P.sits
theorem allLike.all {α : Type} {T : List α} {X : α → Prop} {i : Nat} {y : α} (h : ∀ x ∈ T, X x) (hy : X y) : ∀ x ∈ T.set i y, X x := fun x hx => by
  rcases List.mem_or_eq_of_mem_set hx with h1 | h1
  · exact h x h1
  · rw [h1]; exact hy
end Go.Proofs.YtfljmdpigckpkaaGreatDoor
