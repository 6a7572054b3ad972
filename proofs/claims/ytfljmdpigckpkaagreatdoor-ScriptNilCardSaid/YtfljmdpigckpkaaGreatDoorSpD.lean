/- The document's parts: may a program's parts be, but its code? Written by genD.py. -/
import Derived.Test.YtfljmdpigckpkaaGreatDoorSpC
import Derived.Test.YtfljmdpigckpkaaGreatDoorQtA
namespace Go.Proofs.YtfljmdpigckpkaaGreatDoor
open Go.RowKit Go.Shelf
attribute [local go_sem] Oper.semAt_some
def fsA (x : Cmp) (k : Nat) : Int := [x.fs0, x.fs1, x.fs2, x.fs3].getD k 0
/-- A program whose parts may be. -/
structure PartsOk (P : Prg) : Prop where
  n0 : 1 ≤ P.loops.length ∧ P.loops.length ≤ 8
  n1 : P.clss.length ≤ 16
  n2 : P.glbs.length ≤ 32
  n3 : P.cmps.length ≤ 8
  n4 : P.evts.length ≤ 8
  n5 : 1 ≤ P.fns.length ∧ P.fns.length ≤ 64
  mn : rootB P P.main = true
  cls : ∀ (i : Nat) (h : i < P.clss.length), P.clss[i].flds.length ≤ 8 ∧ P.clss[i].names.length = P.clss[i].flds.length
  cmp : ∀ (i : Nat) (h : i < P.cmps.length), (∀ k : Nat, k < 4 → 0 ≤ fsA P.cmps[i] k → rootB P (fsA P.cmps[i] k) = true) ∧ inI P.cmps[i].loop P.loops.length = true
  evt : ∀ (i : Nat) (h : i < P.evts.length), inI P.evts[i].loop P.loops.length = true ∧ rootB P P.evts[i].fn = true
section
variable {w : World} {P : Prg}
theorem Prg.cls_at (h : P.In w) {i : Nat} (hi : i < P.clss.length) : ∃ g off, P.clssA = some ⟨g, off, none⟩ ∧ g < w.heap.size ∧ Cls.In w P.clss[i] ∧ w.cell? ⟨g, off + i * 3 + 1, none⟩ = some (.slice P.clss[i].namesA P.clss[i].names.length P.clss[i].namesC) ∧ w.cell? ⟨g, off + i * 3 + 2, none⟩ = some (.slice P.clss[i].fldsA P.clss[i].flds.length P.clss[i].fldsC) := by
  obtain ⟨g, off, h1, h2, h3, h4⟩ := h.clss.2.2 i _ (List.getElem?_eq_getElem hi)
  exact ⟨g, off, h1, h2, h3, h4 1 _ rfl, h4 2 _ rfl⟩
theorem Prg.cmp_at (h : P.In w) {i : Nat} (hi : i < P.cmps.length) : ∃ g off, P.cmpsA = some ⟨g, off, none⟩ ∧ g < w.heap.size ∧ w.cell? ⟨g, off + i * 6 + 1, none⟩ = some (.int .i64 P.cmps[i].loop) ∧ ∀ k : Nat, k < 4 → w.cell? ⟨g, off + i * 6 + 2 + k, none⟩ = some (.int .i64 (fsA P.cmps[i] k)) := by
  obtain ⟨g, off, h1, h2, h3, h4⟩ := h.cmps.2.2 i _ (List.getElem?_eq_getElem hi)
  refine ⟨g, off, h1, h2, h4 1 _ rfl, fun k hk => ?_⟩
  match k, hk with
  | 0, _ => exact h4 2 _ rfl
  | 1, _ => exact h4 3 _ rfl
  | 2, _ => exact h4 4 _ rfl
  | 3, _ => exact h4 5 _ rfl
theorem Prg.evt_at (h : P.In w) {i : Nat} (hi : i < P.evts.length) : ∃ g off, P.evtsA = some ⟨g, off, none⟩ ∧ g < w.heap.size ∧ w.cell? ⟨g, off + i * 4 + 1, none⟩ = some (.int .i64 P.evts[i].loop) ∧ w.cell? ⟨g, off + i * 4 + 3, none⟩ = some (.int .i64 P.evts[i].fn) := by
  obtain ⟨g, off, h1, h2, h3, h4⟩ := h.evts.2.2 i _ (List.getElem?_eq_getElem hi)
  exact ⟨g, off, h1, h2, h4 1 _ rfl, h4 3 _ rfl⟩
end
attribute [local irreducible] wpQuiet
end Go.Proofs.YtfljmdpigckpkaaGreatDoor
