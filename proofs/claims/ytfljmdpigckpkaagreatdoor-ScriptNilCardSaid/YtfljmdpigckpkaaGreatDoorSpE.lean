/- The document's May: may a program be? -/
import Derived.Test.YtfljmdpigckpkaaGreatDoorSpD
namespace Go.Proofs.YtfljmdpigckpkaaGreatDoor
open Go.RowKit Go.Shelf
attribute [local go_sem] Oper.semAt_some
def cntS (l : List Ins) : Nat := l.countP fun x => siteO x.op
def siteBase (P : Prg) (i : Nat) : Nat := ((P.fns.take i).map fun f => cntS f.code).sum
/-- What an instruction's place is. -/
def placeP (P : Prg) (i : Nat) (f : Fn) (at' : Nat) (x : Ins) : Prop :=
  (siteO x.op = false → x.site = -1) ∧ (siteO x.op = true → x.site = ((siteBase P i + cntS (f.code.take at') : Nat) : Int) ∧ ∃ s, P.sits[siteBase P i + cntS (f.code.take at')]? = some s ∧ s.fn = i ∧ s.at' = at')
/-- A function that may be. -/
structure FnOk (P : Prg) (i : Nat) (f : Fn) : Prop where
  regs : 0 ≤ f.regs ∧ f.regs ≤ 256
  caps : 0 ≤ f.caps ∧ f.caps ≤ f.regs
  code : 1 ≤ f.code.length ∧ f.code.length ≤ 512
  ins : ∀ (k : Nat) (h : k < f.code.length), InsOk P f f.code[k] ∧ placeP P i f k f.code[k]
  last : ∀ (h : f.code.length - 1 < f.code.length), f.code[f.code.length - 1].op = 33 ∨ f.code[f.code.length - 1].op = 31
/-- A program that may be. -/
structure MayP (P : Prg) : Prop where
  parts : PartsOk P
  fns : ∀ (i : Nat) (h : i < P.fns.length), FnOk P i P.fns[i]
  sites : siteBase P P.fns.length = P.sits.length ∧ P.sits.length ≤ 512
theorem siteBase_succ (P : Prg) {i : Nat} (h : i < P.fns.length) : siteBase P (i + 1) = siteBase P i + cntS P.fns[i].code := by
  unfold siteBase
  rw [List.take_succ_eq_append_getElem h, List.map_append, List.sum_append]
  simp
theorem cntS_succ (l : List Ins) {k : Nat} (h : k < l.length) : cntS (l.take (k + 1)) = cntS (l.take k) + if siteO l[k].op = true then 1 else 0 := by
  unfold cntS
  rw [List.take_succ_eq_append_getElem h, List.countP_append]
  simp [List.countP_cons]
theorem cntS_le (l : List Ins) (k : Nat) : cntS (l.take k) ≤ l.length := by
  unfold cntS
  exact Nat.le_trans List.countP_le_length (by simp; omega)
section
variable {w : World} {P : Prg}
theorem Fn.ins_at {f : Fn} (h : f.In w) {k : Nat} (hk : k < f.code.length) : ∃ g off, f.codeA = some ⟨g, off, none⟩ ∧ g < w.heap.size ∧ Ins.In w f.code[k] ∧ w.cell? ⟨g, off + k * 8, none⟩ = some (.int .i64 f.code[k].op) ∧ w.cell? ⟨g, off + k * 8 + 1, none⟩ = some (.int .i64 f.code[k].a) ∧ w.cell? ⟨g, off + k * 8 + 2, none⟩ = some (.int .i64 f.code[k].b) ∧ w.cell? ⟨g, off + k * 8 + 3, none⟩ = some (.int .i64 f.code[k].c) ∧ w.cell? ⟨g, off + k * 8 + 4, none⟩ = some (.int .i64 f.code[k].n) ∧ w.cell? ⟨g, off + k * 8 + 5, none⟩ = some (.slice f.code[k].lA f.code[k].l.length f.code[k].lC) ∧ w.cell? ⟨g, off + k * 8 + 6, none⟩ = some (.int .i64 f.code[k].site) ∧ w.cell? ⟨g, off + k * 8 + 7, none⟩ = some (.int .i64 f.code[k].line) := by
  obtain ⟨g, off, h1, h2, h3, h4⟩ := h.code.2.2 k _ (List.getElem?_eq_getElem hk)
  exact ⟨g, off, h1, h2, h3, h4 0 _ rfl, h4 1 _ rfl, h4 2 _ rfl, h4 3 _ rfl, h4 4 _ rfl, h4 5 _ rfl, h4 6 _ rfl, h4 7 _ rfl⟩
theorem Fn.op_at {f : Fn} (h : f.In w) {k : Nat} (hk : k < f.code.length) : ∃ g off, f.codeA = some ⟨g, off, none⟩ ∧ g < w.heap.size ∧ w.cell? ⟨g, off + k * 8, none⟩ = some (.int .i64 f.code[k].op) := by
  obtain ⟨g, off, h1, h2, h3, h4⟩ := h.code.2.2 k _ (List.getElem?_eq_getElem hk)
  exact ⟨g, off, h1, h2, h4 0 _ rfl⟩
theorem Prg.fn_in (h : P.In w) {i : Nat} (hi : i < P.fns.length) : Fn.In w P.fns[i] := by
  obtain ⟨g, off, h1, h2, h3, h4⟩ := Prg.fn_at h hi
  exact h3
theorem Prg.sit_at (h : P.In w) {k : Nat} (hk : k < P.sits.length) : ∃ g off, P.sitsA = some ⟨g, off, none⟩ ∧ g < w.heap.size ∧ w.cell? ⟨g, off + k * 2, none⟩ = some (.int .i64 P.sits[k].fn) ∧ w.cell? ⟨g, off + k * 2 + 1, none⟩ = some (.int .i64 P.sits[k].at') := by
  obtain ⟨g, off, h1, h2, h3, h4⟩ := h.sits.2.2 k _ (List.getElem?_eq_getElem hk)
  exact ⟨g, off, h1, h2, h4 0 _ rfl, h4 1 _ rfl⟩
end
end Go.Proofs.YtfljmdpigckpkaaGreatDoor
