/- The document's instr: may an instruction be? -/
import Derived.Test.YtfljmdpigckpkaaGreatDoorSpB
namespace Go.Proofs.YtfljmdpigckpkaaGreatDoor
open Go.RowKit Go.Shelf
attribute [local go_sem] Oper.semAt_some
def Ins.v (x : Ins) : Value := .agg #[.int .i64 x.op, .int .i64 x.a, .int .i64 x.b, .int .i64 x.c, .int .i64 x.n, .slice x.lA x.l.length x.lC, .int .i64 x.site, .int .i64 x.line]
def Ins.o (x : Ins) : Obj := .cells #[.int .i64 x.op, .int .i64 x.a, .int .i64 x.b, .int .i64 x.c, .int .i64 x.n, .slice x.lA x.l.length x.lC, .int .i64 x.site, .int .i64 x.line] 25 (0, 0)
def Fn.v (x : Fn) : Value := .agg #[.string x.name, .int .i64 x.caps, .int .i64 x.regs, .slice x.codeA x.code.length x.codeC]
def Fn.o (x : Fn) : Obj := .cells #[.string x.name, .int .i64 x.caps, .int .i64 x.regs, .slice x.codeA x.code.length x.codeC] 92 (0, 0)
theorem Ins.o_cells {w : World} {b : Nat} {x : Ins} (h : w.heap[b]? = some x.o) : w.cell? ⟨b, 0, none⟩ = some (.int .i64 x.op) ∧ w.cell? ⟨b, 1, none⟩ = some (.int .i64 x.a) ∧ w.cell? ⟨b, 2, none⟩ = some (.int .i64 x.b) ∧ w.cell? ⟨b, 3, none⟩ = some (.int .i64 x.c) ∧ w.cell? ⟨b, 4, none⟩ = some (.int .i64 x.n) ∧ w.cell? ⟨b, 5, none⟩ = some (.slice x.lA x.l.length x.lC) ∧ w.cell? ⟨b, 6, none⟩ = some (.int .i64 x.site) ∧ w.cell? ⟨b, 7, none⟩ = some (.int .i64 x.line) ∧ b < w.heap.size := by
  refine ⟨?_, ?_, ?_, ?_, ?_, ?_, ?_, ?_, (Array.getElem?_eq_some_iff.1 h).1⟩
  all_goals simp [World.cell?, h, Ins.o]
theorem Fn.o_cells {w : World} {b : Nat} {x : Fn} (h : w.heap[b]? = some x.o) : w.cell? ⟨b, 0, none⟩ = some (.string x.name) ∧ w.cell? ⟨b, 1, none⟩ = some (.int .i64 x.caps) ∧ w.cell? ⟨b, 2, none⟩ = some (.int .i64 x.regs) ∧ w.cell? ⟨b, 3, none⟩ = some (.slice x.codeA x.code.length x.codeC) ∧ b < w.heap.size := by
  refine ⟨?_, ?_, ?_, ?_, (Array.getElem?_eq_some_iff.1 h).1⟩
  all_goals simp [World.cell?, h, Fn.o]
def tailB (P : Prg) (f : Fn) (x : Ins) : Bool :=
  if x.op = 9 ∨ x.op = 10 then inI x.n P.glbs.length
  else if x.op = 14 then inI x.n P.clss.length
  else if x.op = 21 then inI x.n P.fns.length && ((P.fns[x.n.toNat]?).map fun g => g.caps == (x.l.length : Int)).getD false
  else if x.op = 23 then inI x.c P.loops.length && inI x.n 1000001
  else if x.op = 24 then inI x.c P.loops.length
  else if x.op = 26 ∨ x.op = 27 then inI x.n P.evts.length
  else if x.op = 31 ∨ x.op = 32 then inI x.n f.code.length
  else true
def rgA (x : Ins) (i : Nat) : Int := [x.a, x.b, x.c].getD i 0
/-- An instruction that may be, of a function. -/
structure InsOk (P : Prg) (f : Fn) (x : Ins) : Prop where
  op1 : 1 ≤ x.op
  op2 : x.op ≤ 33
  rg : ∀ i : Nat, (i : Int) < namedO x.op → inI (rgA x i) f.regs = true
  ls : ∀ (i : Nat) (h : i < x.l.length), x.op = 21 ∧ inI x.l[i] f.regs = true
  tl : tailB P f x = true
/-- What is answered, and what it says. -/
def AnsB (Q : Prop) (W : World) (e : Ending) (W' : World) : Prop := ∃ b : Bool, e = .returned (.bool b) ∧ (b = true → Q) ∧ Ext W W'
theorem AnsB.no {Q : Prop} {W W' : World} (k : Ext W W') : AnsB Q W (.returned (.bool false)) W' := ⟨false, rfl, fun h => (by cases h), k⟩
theorem AnsB.yes {Q : Prop} {W W' : World} (q : Q) (k : Ext W W') : AnsB Q W (.returned (.bool true)) W' := ⟨true, rfl, fun _ => q, k⟩
theorem AnsB.of {Q : Prop} {W W' : World} (b : Bool) (q : b = true → Q) (k : Ext W W') : AnsB Q W (.returned (.bool b)) W' := ⟨b, rfl, q, k⟩
/-- The boxes while an instruction is looked at. -/
structure IB (B b : Nat) (P : Prg) (f : Fn) (x : Ins) (w : World) : Prop where
  bp : w.heap[B]? = some P.o
  bf : w.heap[B + 1]? = some f.o
  bx : w.heap[B + 1 + 1]? = some x.o
  br : w.heap[b]? = some (.cells #[.int .i64 x.a, .int .i64 x.b, .int .i64 x.c] 3 (0, 0))
theorem IB.ext {B b : Nat} {P : Prg} {f : Fn} {x : Ins} {w w' : World} (h : IB B b P f x w) (k : Ext w w') : IB B b P f x w' :=
  have kk := k.kept (fun _ _ => true)
  ⟨kk.same _ _ h.bp rfl, kk.same _ _ h.bf rfl, kk.same _ _ h.bx rfl, kk.same _ _ h.br rfl⟩
theorem IB.reg {B b : Nat} {P : Prg} {f : Fn} {x : Ins} {w : World} (h : IB B b P f x w) {i : Nat} (hi : i < 3) : w.cell? ⟨b, i, none⟩ = some (.int .i64 (rgA x i)) ∧ b < w.heap.size := by
  refine ⟨?_, (Array.getElem?_eq_some_iff.1 h.br).1⟩
  match i, hi with
  | 0, _ => simp [World.cell?, h.br, rgA]
  | 1, _ => simp [World.cell?, h.br, rgA]
  | 2, _ => simp [World.cell?, h.br, rgA]
end Go.Proofs.YtfljmdpigckpkaaGreatDoor
