/- Programs (api.Prog), plainly and as they came in. Written by genA.py; The document's in, Named, Shared, IsSite, root; The document's instr: may an instruction be?; A region that draws its order, whose operations only read, and whose callees leave what lay as it was: walked once; The document's parts: may a program's parts be, but its code? Written by genD.py. -/
import Derived.Test.YtfljmdpigckpkaaGreatDoorB01
import Derived.OpenShut
import Derived.Deep.QuietTactic
namespace Go.Proofs.YtfljmdpigckpkaaGreatDoor
open Go.RowKit Go.ChangeShapes Go.WideShapes Go.Deep Go.Shelf
def sV (s : ByteArray) : Value := .string s
/-- A slice of members of more than one cell, as it came in. -/
def RowN {α : Type} (f : α → List Value) (s : Nat) (P : α → Prop) (w : World) (A : Option Addr) (m c : Nat) (T : List α) : Prop := m = T.length ∧ (A = none → c = 0 ∧ m = 0) ∧ Rows3 f s P w A T
theorem Rows3.mono {α : Type} {f : α → List Value} {s : Nat} {P P' : α → Prop} {w w' : World} {A : Option Addr} {T : List α} (h : Rows3 f s P w A T) (k : Kept (pOld w.heap.size) w w') (hP : ∀ x, P x → P' x) : Rows3 f s P' w' A T := fun i x hi => by
  obtain ⟨g, off, h1, h2, h3, h4⟩ := h i x hi
  exact ⟨g, off, h1, Nat.lt_of_lt_of_le h2 k.size, hP x h3, fun j u hj => k.cell (h4 j u hj) fun o _ => by simp [pOld, h2]⟩
theorem RowN.mono {α : Type} {f : α → List Value} {s : Nat} {P P' : α → Prop} {w w' : World} {A : Option Addr} {m c : Nat} {T : List α} (h : RowN f s P w A m c T) (k : Kept (pOld w.heap.size) w w') (hP : ∀ x, P x → P' x) : RowN f s P' w' A m c T := ⟨h.1, h.2.1, h.2.2.mono k hP⟩
section
variable {H : Type} {enc : TypeId × Value → H} {w : World} {base : Nat} {held : Bool}
theorem open_rowN {α : Type} (dflt : α) {f : α → List Value} {s : Nat} {P : α → Prop} {st et : TypeId} (hs0 : 0 < s) (hst : Tryz.prog.underlying st = some (.slice et)) (hce : Tryz.prog.cellsOf et = s) (hfs : ∀ x, (f x).length = s)
    (hop : ∀ {fuel : Nat} {cs : List Value} {x : DataW H × List MemPlace}, DataW.trod enc Tryz.prog w base (fun _ => true) held fuel et cs = some x → ∃ t : α, cs = f t ∧ P t)
    {fuel : Nat} {cs : List Value} {x : DataW H × List MemPlace} (h : DataW.trod enc Tryz.prog w base (fun _ => true) held fuel st cs = some x) :
    ∃ A m c, cs = [.slice A m c] ∧ ∃ l : List α, RowN f s P w A m c l := by
  obtain ⟨A, m, c, rfl, hn⟩ : ∃ A m c, cs = [.slice A m c] ∧ (A = none → c = 0 ∧ m = 0) := by
    rcases open_slice hst h with ⟨hcs, _⟩ | ⟨a, len', cap', _, _, _, _, hcs, _⟩
    · exact ⟨none, 0, 0, hcs, fun _ => ⟨rfl, rfl⟩⟩
    · exact ⟨some a, len', cap', hcs, fun h => by cases h⟩
  obtain ⟨l, hl, hr⟩ := open_rows dflt hs0 hst hce hfs hop h
  exact ⟨A, m, c, rfl, l, hl.symm, hn, hr⟩
theorem open_len {st et : TypeId} (hst : Tryz.prog.underlying st = some (.slice et)) {fuel : Nat} {A : Option Addr} {m c : Nat} {x : DataW H × List MemPlace} (h : DataW.trod enc Tryz.prog w base (fun _ => true) held fuel st [.slice A m c] = some x) : m ≤ 9223372036854775807 := by
  rcases open_slice hst h with ⟨hcs, _⟩ | ⟨a, len', cap', mm, n, D, Pl, hcs, hb, hl, hm, hmm, hx, hi⟩
  · simp at hcs; omega
  · simp at hcs
    obtain ⟨_, rfl, _⟩ := hcs
    have : maxLen = 9223372036854775807 := rfl
    omega
theorem open_z {t : TypeId} (ht : Tryz.prog.underlying t = some (.int .i64)) {fuel : Nat} {cs : List Value} {x : DataW H × List MemPlace} (h : DataW.trod enc Tryz.prog w base (fun _ => true) held fuel t cs = some x) : ∃ z : Int, cs = [iV z] ∧ True := by
  obtain ⟨z, e, _⟩ := DataW.trod_int (k := .i64) ht h
  exact ⟨z, e, trivial⟩
theorem open_s {fuel : Nat} {cs : List Value} {x : DataW H × List MemPlace} (h : DataW.trod enc Tryz.prog w base (fun _ => true) held fuel 9 cs = some x) : ∃ z : ByteArray, cs = [sV z] ∧ True := by
  obtain ⟨z, e, _⟩ := DataW.trod_string (by kernel_rfl) h
  exact ⟨z, e, trivial⟩
theorem open_bo {fuel : Nat} {cs : List Value} {x : DataW H × List MemPlace} (h : DataW.trod enc Tryz.prog w base (fun _ => true) held fuel 4 cs = some x) : ∃ z : Bool, cs = [bV z] ∧ True := by
  obtain ⟨z, e, _⟩ := DataW.trod_bool (by kernel_rfl) h
  exact ⟨z, e, trivial⟩
theorem cellsInt : Tryz.prog.cellsOf 3 = 1 := by kernel_rfl
set_option maxRecDepth 100000 in
theorem open_a4 {fuel : Nat} {cs : List Value} {x : DataW H × List MemPlace} (h : DataW.trod enc Tryz.prog w base (fun _ => true) held fuel 136 cs = some x) : ∃ z0 z1 z2 z3 : Int, cs = [iV z0, iV z1, iV z2, iV z3] := by
  obtain ⟨xs, m, rfl, rfl, hlen, hn, hel⟩ := DataW.trod_array Tryz.underlying136 h
  rw [show Tryz.prog.cellsOf 136 = 4 by kernel_rfl] at hlen
  simp only [cellsInt] at hel
  match cs, hlen, xs, hn with
  | [c0, c1, c2, c3], _, [x0, x1, x2, x3], _ =>
    have h0 : DataW.trod enc Tryz.prog w base (fun _ => true) held m 3 [c0] = some x0 := hel 0 (by decide)
    have h1 : DataW.trod enc Tryz.prog w base (fun _ => true) held m 3 [c1] = some x1 := hel 1 (by decide)
    have h2 : DataW.trod enc Tryz.prog w base (fun _ => true) held m 3 [c2] = some x2 := hel 2 (by decide)
    have h3 : DataW.trod enc Tryz.prog w base (fun _ => true) held m 3 [c3] = some x3 := hel 3 (by decide)
    obtain ⟨z0, e0, _⟩ := open_z (by kernel_rfl) h0
    obtain ⟨z1, e1, _⟩ := open_z (by kernel_rfl) h1
    obtain ⟨z2, e2, _⟩ := open_z (by kernel_rfl) h2
    obtain ⟨z3, e3, _⟩ := open_z (by kernel_rfl) h3
    rw [List.cons.injEq] at e0 e1 e2 e3
    exact ⟨z0, z1, z2, z3, by rw [e0.1, e1.1, e2.1, e3.1]⟩
end

/-- api.Instr. -/
structure Ins where
  op : Int
  a : Int
  b : Int
  c : Int
  n : Int
  lA : Option Addr
  lC : Nat
  l : List Int
  site : Int
  line : Int
def Ins.cells (x : Ins) : List Value := [iV x.op, iV x.a, iV x.b, iV x.c, iV x.n, .slice x.lA x.l.length x.lC, iV x.site, iV x.line]
/-- What lies behind it. -/
structure Ins.In (w : World) (x : Ins) : Prop where
  l : Row1 iV w x.lA x.l.length x.lC x.l
  lL : x.l.length ≤ 9223372036854775807
theorem Ins.In.kept {w w' : World} {x : Ins} (k : Kept (pOld w.heap.size) w w') (h : Ins.In w x) : Ins.In w' x := ⟨h.l.kept k, h.lL⟩
theorem cellsIns : Tryz.prog.cellsOf 25 = 8 := by kernel_rfl
set_option maxRecDepth 100000 in
theorem open_Ins {H : Type} {enc : TypeId × Value → H} {w : World} {base : Nat} {held : Bool} {fuel : Nat} {cs : List Value} {x : DataW H × List MemPlace} (h : DataW.trod enc Tryz.prog w base (fun _ => true) held fuel 25 cs = some x) : ∃ t : Ins, cs = t.cells ∧ Ins.In w t := by
  obtain ⟨xs, n, _, _, hlen, hxl, hf⟩ := DataW.trod_struct Tryz.underlying25 h
  rw [cellsIns] at hlen
  match cs, hlen with
  | [c0, c1, c2, c3, c4, c5, c6, c7], _ =>
    have hx5 : xs.length = 8 := hxl
    match xs, hx5 with
    | [x0, x1, x2, x3, x4, x5, x6, x7], _ =>
      have h0 : DataW.trod enc Tryz.prog w base (fun _ => true) held n 22 [c0] = some x0 := hf 0 _ rfl
      obtain ⟨z0, e0, _⟩ := open_z (by kernel_rfl) h0
      have h1 : DataW.trod enc Tryz.prog w base (fun _ => true) held n 3 [c1] = some x1 := hf 1 _ rfl
      obtain ⟨z1, e1, _⟩ := open_z (by kernel_rfl) h1
      have h2 : DataW.trod enc Tryz.prog w base (fun _ => true) held n 3 [c2] = some x2 := hf 2 _ rfl
      obtain ⟨z2, e2, _⟩ := open_z (by kernel_rfl) h2
      have h3 : DataW.trod enc Tryz.prog w base (fun _ => true) held n 3 [c3] = some x3 := hf 3 _ rfl
      obtain ⟨z3, e3, _⟩ := open_z (by kernel_rfl) h3
      have h4 : DataW.trod enc Tryz.prog w base (fun _ => true) held n 2 [c4] = some x4 := hf 4 _ rfl
      obtain ⟨z4, e4, _⟩ := open_z (by kernel_rfl) h4
      have h5 : DataW.trod enc Tryz.prog w base (fun _ => true) held n 23 [c5] = some x5 := hf 5 _ rfl
      obtain ⟨A5, m5, k5, e5, l5, r5⟩ := open_row1 (0 : Int) (f := iV) Tryz.underlying23 (by kernel_rfl) (open_z (by kernel_rfl)) h5
      obtain rfl := r5.1
      have L5 := open_len Tryz.underlying23 (e5 ▸ h5)
      have h6 : DataW.trod enc Tryz.prog w base (fun _ => true) held n 3 [c6] = some x6 := hf 6 _ rfl
      obtain ⟨z6, e6, _⟩ := open_z (by kernel_rfl) h6
      have h7 : DataW.trod enc Tryz.prog w base (fun _ => true) held n 3 [c7] = some x7 := hf 7 _ rfl
      obtain ⟨z7, e7, _⟩ := open_z (by kernel_rfl) h7
      simp only [List.cons.injEq, and_true] at e0 e1 e2 e3 e4 e5 e6 e7
      subst e0
      subst e1
      subst e2
      subst e3
      subst e4
      subst e5
      subst e6
      subst e7
      exact ⟨⟨z0, z1, z2, z3, z4, A5, k5, l5, z6, z7⟩, rfl, ⟨r5, L5⟩⟩
/-- api.Func. -/
structure Fn where
  name : ByteArray
  caps : Int
  regs : Int
  codeA : Option Addr
  codeC : Nat
  code : List Ins
def Fn.cells (x : Fn) : List Value := [sV x.name, iV x.caps, iV x.regs, .slice x.codeA x.code.length x.codeC]
/-- What lies behind it. -/
structure Fn.In (w : World) (x : Fn) : Prop where
  code : RowN Ins.cells 8 (Ins.In w) w x.codeA x.code.length x.codeC x.code
  codeL : x.code.length ≤ 9223372036854775807
theorem Fn.In.kept {w w' : World} {x : Fn} (k : Kept (pOld w.heap.size) w w') (h : Fn.In w x) : Fn.In w' x := ⟨h.code.mono k fun _ => Ins.In.kept k, h.codeL⟩
theorem cellsFn : Tryz.prog.cellsOf 92 = 4 := by kernel_rfl
set_option maxRecDepth 100000 in
theorem open_Fn {H : Type} {enc : TypeId × Value → H} {w : World} {base : Nat} {held : Bool} {fuel : Nat} {cs : List Value} {x : DataW H × List MemPlace} (h : DataW.trod enc Tryz.prog w base (fun _ => true) held fuel 92 cs = some x) : ∃ t : Fn, cs = t.cells ∧ Fn.In w t := by
  obtain ⟨xs, n, _, _, hlen, hxl, hf⟩ := DataW.trod_struct Tryz.underlying92 h
  rw [cellsFn] at hlen
  match cs, hlen with
  | [c0, c1, c2, c3], _ =>
    have hx5 : xs.length = 4 := hxl
    match xs, hx5 with
    | [x0, x1, x2, x3], _ =>
      have h0 : DataW.trod enc Tryz.prog w base (fun _ => true) held n 9 [c0] = some x0 := hf 0 _ rfl
      obtain ⟨z0, e0, _⟩ := open_s h0
      have h1 : DataW.trod enc Tryz.prog w base (fun _ => true) held n 3 [c1] = some x1 := hf 1 _ rfl
      obtain ⟨z1, e1, _⟩ := open_z (by kernel_rfl) h1
      have h2 : DataW.trod enc Tryz.prog w base (fun _ => true) held n 3 [c2] = some x2 := hf 2 _ rfl
      obtain ⟨z2, e2, _⟩ := open_z (by kernel_rfl) h2
      have h3 : DataW.trod enc Tryz.prog w base (fun _ => true) held n 26 [c3] = some x3 := hf 3 _ rfl
      obtain ⟨A3, m3, k3, e3, l3, r3⟩ := open_rowN (⟨0, 0, 0, 0, 0, none, 0, [], 0, 0⟩ : Ins) (by omega) Tryz.underlying26 cellsIns (fun _ => rfl) open_Ins h3
      obtain rfl := r3.1
      have L3 := open_len Tryz.underlying26 (e3 ▸ h3)
      simp only [List.cons.injEq, and_true] at e0 e1 e2 e3
      subst e0
      subst e1
      subst e2
      subst e3
      exact ⟨⟨z0, z1, z2, A3, k3, l3⟩, rfl, ⟨r3, L3⟩⟩
/-- api.Class. -/
structure Cls where
  name : ByteArray
  namesA : Option Addr
  namesC : Nat
  names : List ByteArray
  fldsA : Option Addr
  fldsC : Nat
  flds : List Int
def Cls.cells (x : Cls) : List Value := [sV x.name, .slice x.namesA x.names.length x.namesC, .slice x.fldsA x.flds.length x.fldsC]
/-- What lies behind it. -/
structure Cls.In (w : World) (x : Cls) : Prop where
  names : Row1 sV w x.namesA x.names.length x.namesC x.names
  flds : Row1 iV w x.fldsA x.flds.length x.fldsC x.flds
  namesL : x.names.length ≤ 9223372036854775807
  fldsL : x.flds.length ≤ 9223372036854775807
theorem Cls.In.kept {w w' : World} {x : Cls} (k : Kept (pOld w.heap.size) w w') (h : Cls.In w x) : Cls.In w' x := ⟨h.names.kept k, h.flds.kept k, h.namesL, h.fldsL⟩
theorem cellsCls : Tryz.prog.cellsOf 319 = 3 := by kernel_rfl
set_option maxRecDepth 100000 in
theorem open_Cls {H : Type} {enc : TypeId × Value → H} {w : World} {base : Nat} {held : Bool} {fuel : Nat} {cs : List Value} {x : DataW H × List MemPlace} (h : DataW.trod enc Tryz.prog w base (fun _ => true) held fuel 319 cs = some x) : ∃ t : Cls, cs = t.cells ∧ Cls.In w t := by
  obtain ⟨xs, n, _, _, hlen, hxl, hf⟩ := DataW.trod_struct Tryz.underlying319 h
  rw [cellsCls] at hlen
  match cs, hlen with
  | [c0, c1, c2], _ =>
    have hx5 : xs.length = 3 := hxl
    match xs, hx5 with
    | [x0, x1, x2], _ =>
      have h0 : DataW.trod enc Tryz.prog w base (fun _ => true) held n 9 [c0] = some x0 := hf 0 _ rfl
      obtain ⟨z0, e0, _⟩ := open_s h0
      have h1 : DataW.trod enc Tryz.prog w base (fun _ => true) held n 27 [c1] = some x1 := hf 1 _ rfl
      obtain ⟨A1, m1, k1, e1, l1, r1⟩ := open_row1 ByteArray.empty (f := sV) Tryz.underlying27 (by kernel_rfl) open_s h1
      obtain rfl := r1.1
      have L1 := open_len Tryz.underlying27 (e1 ▸ h1)
      have h2 : DataW.trod enc Tryz.prog w base (fun _ => true) held n 317 [c2] = some x2 := hf 2 _ rfl
      obtain ⟨A2, m2, k2, e2, l2, r2⟩ := open_row1 (0 : Int) (f := iV) Tryz.underlying317 (by kernel_rfl) (open_z (by kernel_rfl)) h2
      obtain rfl := r2.1
      have L2 := open_len Tryz.underlying317 (e2 ▸ h2)
      simp only [List.cons.injEq, and_true] at e0 e1 e2
      subst e0
      subst e1
      subst e2
      exact ⟨⟨z0, A1, k1, l1, A2, k2, l2⟩, rfl, ⟨r1, r2, L1, L2⟩⟩
/-- api.Global. -/
structure Glb where
  name : ByteArray
  ty : Int
def Glb.cells (x : Glb) : List Value := [sV x.name, iV x.ty]
def Glb.In (_ : World) (_ : Glb) : Prop := True
theorem Glb.In.kept {w w' : World} {x : Glb} (_ : Kept (pOld w.heap.size) w w') (h : Glb.In w x) : Glb.In w' x := h
theorem cellsGlb : Tryz.prog.cellsOf 90 = 2 := by kernel_rfl
set_option maxRecDepth 100000 in
theorem open_Glb {H : Type} {enc : TypeId × Value → H} {w : World} {base : Nat} {held : Bool} {fuel : Nat} {cs : List Value} {x : DataW H × List MemPlace} (h : DataW.trod enc Tryz.prog w base (fun _ => true) held fuel 90 cs = some x) : ∃ t : Glb, cs = t.cells ∧ Glb.In w t := by
  obtain ⟨xs, n, _, _, hlen, hxl, hf⟩ := DataW.trod_struct Tryz.underlying90 h
  rw [cellsGlb] at hlen
  match cs, hlen with
  | [c0, c1], _ =>
    have hx5 : xs.length = 2 := hxl
    match xs, hx5 with
    | [x0, x1], _ =>
      have h0 : DataW.trod enc Tryz.prog w base (fun _ => true) held n 9 [c0] = some x0 := hf 0 _ rfl
      obtain ⟨z0, e0, _⟩ := open_s h0
      have h1 : DataW.trod enc Tryz.prog w base (fun _ => true) held n 88 [c1] = some x1 := hf 1 _ rfl
      obtain ⟨z1, e1, _⟩ := open_z (by kernel_rfl) h1
      simp only [List.cons.injEq, and_true] at e0 e1
      subst e0
      subst e1
      exact ⟨⟨z0, z1⟩, rfl, trivial⟩
/-- api.Comp. -/
structure Cmp where
  name : ByteArray
  loop : Int
  fs0 : Int
  fs1 : Int
  fs2 : Int
  fs3 : Int
def Cmp.cells (x : Cmp) : List Value := [sV x.name, iV x.loop, iV x.fs0, iV x.fs1, iV x.fs2, iV x.fs3]
def Cmp.In (_ : World) (_ : Cmp) : Prop := True
theorem Cmp.In.kept {w w' : World} {x : Cmp} (_ : Kept (pOld w.heap.size) w w') (h : Cmp.In w x) : Cmp.In w' x := h
theorem cellsCmp : Tryz.prog.cellsOf 138 = 6 := by kernel_rfl
set_option maxRecDepth 100000 in
theorem open_Cmp {H : Type} {enc : TypeId × Value → H} {w : World} {base : Nat} {held : Bool} {fuel : Nat} {cs : List Value} {x : DataW H × List MemPlace} (h : DataW.trod enc Tryz.prog w base (fun _ => true) held fuel 138 cs = some x) : ∃ t : Cmp, cs = t.cells ∧ Cmp.In w t := by
  obtain ⟨xs, n, _, _, hlen, hxl, hf⟩ := DataW.trod_struct Tryz.underlying138 h
  rw [cellsCmp] at hlen
  match cs, hlen with
  | [c0, c1, c2, c3, c4, c5], _ =>
    have hx5 : xs.length = 3 := hxl
    match xs, hx5 with
    | [x0, x1, x2], _ =>
      have h0 : DataW.trod enc Tryz.prog w base (fun _ => true) held n 9 [c0] = some x0 := hf 0 _ rfl
      obtain ⟨z0, e0, _⟩ := open_s h0
      have h1 : DataW.trod enc Tryz.prog w base (fun _ => true) held n 3 [c1] = some x1 := hf 1 _ rfl
      obtain ⟨z1, e1, _⟩ := open_z (by kernel_rfl) h1
      have h2 : DataW.trod enc Tryz.prog w base (fun _ => true) held n 136 [c2, c3, c4, c5] = some x2 := hf 2 _ rfl
      obtain ⟨y0, y1, y2, y3, e2⟩ := open_a4 h2
      simp only [List.cons.injEq, and_true] at e0 e1 e2
      subst e0
      subst e1
      obtain ⟨rfl, rfl, rfl, rfl⟩ := e2
      exact ⟨⟨z0, z1, y0, y1, y2, y3⟩, rfl, trivial⟩
/-- api.Event. -/
structure Evt where
  name : ByteArray
  loop : Int
  on : Bool
  fn : Int
def Evt.cells (x : Evt) : List Value := [sV x.name, iV x.loop, bV x.on, iV x.fn]
def Evt.In (_ : World) (_ : Evt) : Prop := True
theorem Evt.In.kept {w w' : World} {x : Evt} (_ : Kept (pOld w.heap.size) w w') (h : Evt.In w x) : Evt.In w' x := h
theorem cellsEvt : Tryz.prog.cellsOf 97 = 4 := by kernel_rfl
set_option maxRecDepth 100000 in
theorem open_Evt {H : Type} {enc : TypeId × Value → H} {w : World} {base : Nat} {held : Bool} {fuel : Nat} {cs : List Value} {x : DataW H × List MemPlace} (h : DataW.trod enc Tryz.prog w base (fun _ => true) held fuel 97 cs = some x) : ∃ t : Evt, cs = t.cells ∧ Evt.In w t := by
  obtain ⟨xs, n, _, _, hlen, hxl, hf⟩ := DataW.trod_struct Tryz.underlying97 h
  rw [cellsEvt] at hlen
  match cs, hlen with
  | [c0, c1, c2, c3], _ =>
    have hx5 : xs.length = 4 := hxl
    match xs, hx5 with
    | [x0, x1, x2, x3], _ =>
      have h0 : DataW.trod enc Tryz.prog w base (fun _ => true) held n 9 [c0] = some x0 := hf 0 _ rfl
      obtain ⟨z0, e0, _⟩ := open_s h0
      have h1 : DataW.trod enc Tryz.prog w base (fun _ => true) held n 3 [c1] = some x1 := hf 1 _ rfl
      obtain ⟨z1, e1, _⟩ := open_z (by kernel_rfl) h1
      have h2 : DataW.trod enc Tryz.prog w base (fun _ => true) held n 4 [c2] = some x2 := hf 2 _ rfl
      obtain ⟨z2, e2, _⟩ := open_bo h2
      have h3 : DataW.trod enc Tryz.prog w base (fun _ => true) held n 3 [c3] = some x3 := hf 3 _ rfl
      obtain ⟨z3, e3, _⟩ := open_z (by kernel_rfl) h3
      simp only [List.cons.injEq, and_true] at e0 e1 e2 e3
      subst e0
      subst e1
      subst e2
      subst e3
      exact ⟨⟨z0, z1, z2, z3⟩, rfl, trivial⟩
/-- api.Site. -/
structure Sit where
  fn : Int
  at' : Int
def Sit.cells (x : Sit) : List Value := [iV x.fn, iV x.at']
def Sit.In (_ : World) (_ : Sit) : Prop := True
theorem Sit.In.kept {w w' : World} {x : Sit} (_ : Kept (pOld w.heap.size) w w') (h : Sit.In w x) : Sit.In w' x := h
theorem cellsSit : Tryz.prog.cellsOf 95 = 2 := by kernel_rfl
set_option maxRecDepth 100000 in
theorem open_Sit {H : Type} {enc : TypeId × Value → H} {w : World} {base : Nat} {held : Bool} {fuel : Nat} {cs : List Value} {x : DataW H × List MemPlace} (h : DataW.trod enc Tryz.prog w base (fun _ => true) held fuel 95 cs = some x) : ∃ t : Sit, cs = t.cells ∧ Sit.In w t := by
  obtain ⟨xs, n, _, _, hlen, hxl, hf⟩ := DataW.trod_struct Tryz.underlying95 h
  rw [cellsSit] at hlen
  match cs, hlen with
  | [c0, c1], _ =>
    have hx5 : xs.length = 2 := hxl
    match xs, hx5 with
    | [x0, x1], _ =>
      have h0 : DataW.trod enc Tryz.prog w base (fun _ => true) held n 3 [c0] = some x0 := hf 0 _ rfl
      obtain ⟨z0, e0, _⟩ := open_z (by kernel_rfl) h0
      have h1 : DataW.trod enc Tryz.prog w base (fun _ => true) held n 3 [c1] = some x1 := hf 1 _ rfl
      obtain ⟨z1, e1, _⟩ := open_z (by kernel_rfl) h1
      simp only [List.cons.injEq, and_true] at e0 e1
      subst e0
      subst e1
      exact ⟨⟨z0, z1⟩, rfl, trivial⟩
/-- api.Prog. -/
structure Prg where
  loopsA : Option Addr
  loopsC : Nat
  loops : List ByteArray
  clssA : Option Addr
  clssC : Nat
  clss : List Cls
  glbsA : Option Addr
  glbsC : Nat
  glbs : List Glb
  fnsA : Option Addr
  fnsC : Nat
  fns : List Fn
  cmpsA : Option Addr
  cmpsC : Nat
  cmps : List Cmp
  evtsA : Option Addr
  evtsC : Nat
  evts : List Evt
  main : Int
  sitsA : Option Addr
  sitsC : Nat
  sits : List Sit
def Prg.cells (x : Prg) : List Value := [.slice x.loopsA x.loops.length x.loopsC, .slice x.clssA x.clss.length x.clssC, .slice x.glbsA x.glbs.length x.glbsC, .slice x.fnsA x.fns.length x.fnsC, .slice x.cmpsA x.cmps.length x.cmpsC, .slice x.evtsA x.evts.length x.evtsC, iV x.main, .slice x.sitsA x.sits.length x.sitsC]
/-- What lies behind it. -/
structure Prg.In (w : World) (x : Prg) : Prop where
  loops : Row1 sV w x.loopsA x.loops.length x.loopsC x.loops
  clss : RowN Cls.cells 3 (Cls.In w) w x.clssA x.clss.length x.clssC x.clss
  glbs : RowN Glb.cells 2 (Glb.In w) w x.glbsA x.glbs.length x.glbsC x.glbs
  fns : RowN Fn.cells 4 (Fn.In w) w x.fnsA x.fns.length x.fnsC x.fns
  cmps : RowN Cmp.cells 6 (Cmp.In w) w x.cmpsA x.cmps.length x.cmpsC x.cmps
  evts : RowN Evt.cells 4 (Evt.In w) w x.evtsA x.evts.length x.evtsC x.evts
  sits : RowN Sit.cells 2 (Sit.In w) w x.sitsA x.sits.length x.sitsC x.sits
  loopsL : x.loops.length ≤ 9223372036854775807
  clssL : x.clss.length ≤ 9223372036854775807
  glbsL : x.glbs.length ≤ 9223372036854775807
  fnsL : x.fns.length ≤ 9223372036854775807
  cmpsL : x.cmps.length ≤ 9223372036854775807
  evtsL : x.evts.length ≤ 9223372036854775807
  sitsL : x.sits.length ≤ 9223372036854775807
theorem Prg.In.kept {w w' : World} {x : Prg} (k : Kept (pOld w.heap.size) w w') (h : Prg.In w x) : Prg.In w' x := ⟨h.loops.kept k, h.clss.mono k fun _ => Cls.In.kept k, h.glbs.mono k fun _ => Glb.In.kept k, h.fns.mono k fun _ => Fn.In.kept k, h.cmps.mono k fun _ => Cmp.In.kept k, h.evts.mono k fun _ => Evt.In.kept k, h.sits.mono k fun _ => Sit.In.kept k, h.loopsL, h.clssL, h.glbsL, h.fnsL, h.cmpsL, h.evtsL, h.sitsL⟩
theorem cellsPrg : Tryz.prog.cellsOf 35 = 8 := by kernel_rfl
set_option maxRecDepth 100000 in
theorem open_Prg {H : Type} {enc : TypeId × Value → H} {w : World} {base : Nat} {held : Bool} {fuel : Nat} {cs : List Value} {x : DataW H × List MemPlace} (h : DataW.trod enc Tryz.prog w base (fun _ => true) held fuel 35 cs = some x) : ∃ t : Prg, cs = t.cells ∧ Prg.In w t := by
  obtain ⟨xs, n, _, _, hlen, hxl, hf⟩ := DataW.trod_struct Tryz.underlying35 h
  rw [cellsPrg] at hlen
  match cs, hlen with
  | [c0, c1, c2, c3, c4, c5, c6, c7], _ =>
    have hx5 : xs.length = 8 := hxl
    match xs, hx5 with
    | [x0, x1, x2, x3, x4, x5, x6, x7], _ =>
      have h0 : DataW.trod enc Tryz.prog w base (fun _ => true) held n 27 [c0] = some x0 := hf 0 _ rfl
      obtain ⟨A0, m0, k0, e0, l0, r0⟩ := open_row1 ByteArray.empty (f := sV) Tryz.underlying27 (by kernel_rfl) open_s h0
      obtain rfl := r0.1
      have L0 := open_len Tryz.underlying27 (e0 ▸ h0)
      have h1 : DataW.trod enc Tryz.prog w base (fun _ => true) held n 28 [c1] = some x1 := hf 1 _ rfl
      obtain ⟨A1, m1, k1, e1, l1, r1⟩ := open_rowN (⟨ByteArray.empty, none, 0, [], none, 0, []⟩ : Cls) (by omega) Tryz.underlying28 cellsCls (fun _ => rfl) open_Cls h1
      obtain rfl := r1.1
      have L1 := open_len Tryz.underlying28 (e1 ▸ h1)
      have h2 : DataW.trod enc Tryz.prog w base (fun _ => true) held n 29 [c2] = some x2 := hf 2 _ rfl
      obtain ⟨A2, m2, k2, e2, l2, r2⟩ := open_rowN (⟨ByteArray.empty, 0⟩ : Glb) (by omega) Tryz.underlying29 cellsGlb (fun _ => rfl) open_Glb h2
      obtain rfl := r2.1
      have L2 := open_len Tryz.underlying29 (e2 ▸ h2)
      have h3 : DataW.trod enc Tryz.prog w base (fun _ => true) held n 30 [c3] = some x3 := hf 3 _ rfl
      obtain ⟨A3, m3, k3, e3, l3, r3⟩ := open_rowN (⟨ByteArray.empty, 0, 0, none, 0, []⟩ : Fn) (by omega) Tryz.underlying30 cellsFn (fun _ => rfl) open_Fn h3
      obtain rfl := r3.1
      have L3 := open_len Tryz.underlying30 (e3 ▸ h3)
      have h4 : DataW.trod enc Tryz.prog w base (fun _ => true) held n 31 [c4] = some x4 := hf 4 _ rfl
      obtain ⟨A4, m4, k4, e4, l4, r4⟩ := open_rowN (⟨ByteArray.empty, 0, 0, 0, 0, 0⟩ : Cmp) (by omega) Tryz.underlying31 cellsCmp (fun _ => rfl) open_Cmp h4
      obtain rfl := r4.1
      have L4 := open_len Tryz.underlying31 (e4 ▸ h4)
      have h5 : DataW.trod enc Tryz.prog w base (fun _ => true) held n 32 [c5] = some x5 := hf 5 _ rfl
      obtain ⟨A5, m5, k5, e5, l5, r5⟩ := open_rowN (⟨ByteArray.empty, 0, false, 0⟩ : Evt) (by omega) Tryz.underlying32 cellsEvt (fun _ => rfl) open_Evt h5
      obtain rfl := r5.1
      have L5 := open_len Tryz.underlying32 (e5 ▸ h5)
      have h6 : DataW.trod enc Tryz.prog w base (fun _ => true) held n 3 [c6] = some x6 := hf 6 _ rfl
      obtain ⟨z6, e6, _⟩ := open_z (by kernel_rfl) h6
      have h7 : DataW.trod enc Tryz.prog w base (fun _ => true) held n 33 [c7] = some x7 := hf 7 _ rfl
      obtain ⟨A7, m7, k7, e7, l7, r7⟩ := open_rowN (⟨0, 0⟩ : Sit) (by omega) Tryz.underlying33 cellsSit (fun _ => rfl) open_Sit h7
      obtain rfl := r7.1
      have L7 := open_len Tryz.underlying33 (e7 ▸ h7)
      simp only [List.cons.injEq, and_true] at e0 e1 e2 e3 e4 e5 e6 e7
      subst e0
      subst e1
      subst e2
      subst e3
      subst e4
      subst e5
      subst e6
      subst e7
      exact ⟨⟨A0, k0, l0, A1, k1, l1, A2, k2, l2, A3, k3, l3, A4, k4, l4, A5, k5, l5, z6, A7, k7, l7⟩, rfl, ⟨r0, r1, r2, r3, r4, r5, r7, L0, L1, L2, L3, L4, L5, L7⟩⟩
end Go.Proofs.YtfljmdpigckpkaaGreatDoor

namespace Go.Proofs.YtfljmdpigckpkaaGreatDoor
open Go.RowKit Go.Shelf
attribute [local go_sem] Oper.semAt_some
def inI (n m : Int) : Bool := decide (0 ≤ n) && decide (n < m)
theorem inI_true {n m : Int} (h : inI n m = true) : ∃ k : Nat, n = k ∧ (k : Int) < m := by
  simp [inI] at h
  exact ⟨n.toNat, by omega, by omega⟩
set_option maxRecDepth 100000 in
theorem in_ok (n m : Int) (W : World) : Calls Tryz.prog 257 #[.int .i64 n, .int .i64 m] W fun e W' => e = .returned (.bool (inI n m)) ∧ W' = W := by
  by_cases h0 : n ≥ 0
  · by_cases h1 : n < m
    · have hr : inI n m = true := by simp [inI]; omega
      rw [hr]
      clear hr
      go_enter Tryz.func257, Tryz.ntmps257
      go_wp2_with fail
      go_ret
      exact ⟨rfl, rfl⟩
    · have hr : inI n m = false := by simp [inI]; omega
      rw [hr]
      clear hr
      have z9 : decide (n < m) = false := decide_eq_false h1
      go_enter Tryz.func257, Tryz.ntmps257
      go_wp2_with fail
      go_ret
      exact ⟨by rw [← z9]; rfl, rfl⟩
  · have hr : inI n m = false := by simp [inI]; omega
    rw [hr]
    clear hr
    go_enter Tryz.func257, Tryz.ntmps257
    go_wp2_with fail
    go_ret
    exact ⟨rfl, rfl⟩
/-- How many registers an operation names. -/
def namedO (o : Int) : Int := if o = 26 ∨ o = 27 ∨ o = 31 ∨ o = 33 then 0 else if o = 1 ∨ o = 8 ∨ o = 9 ∨ o = 10 ∨ o = 11 ∨ o = 14 ∨ o = 21 ∨ o = 22 ∨ o = 25 ∨ o = 29 ∨ o = 30 ∨ o = 32 then 1 else if o = 3 ∨ o = 4 ∨ o = 5 ∨ o = 6 ∨ o = 7 ∨ o = 18 ∨ o = 19 then 3 else 2
def sharedO (o : Int) : Bool := o == 9 || o == 10 || (decide (23 ≤ o) && decide (o ≤ 30))
def siteO (o : Int) : Bool := decide (9 ≤ o) && decide (o ≤ 30) && o != 20
theorem ops33 {o : Int} (h : 1 ≤ o) (h2 : o ≤ 33) : o = 1 ∨ o = 2 ∨ o = 3 ∨ o = 4 ∨ o = 5 ∨ o = 6 ∨ o = 7 ∨ o = 8 ∨ o = 9 ∨ o = 10 ∨ o = 11 ∨ o = 12 ∨ o = 13 ∨ o = 14 ∨ o = 15 ∨ o = 16 ∨ o = 17 ∨ o = 18 ∨ o = 19 ∨ o = 20 ∨ o = 21 ∨ o = 22 ∨ o = 23 ∨ o = 24 ∨ o = 25 ∨ o = 26 ∨ o = 27 ∨ o = 28 ∨ o = 29 ∨ o = 30 ∨ o = 31 ∨ o = 32 ∨ o = 33 := by omega
theorem namedO_le (o : Int) : 0 ≤ namedO o ∧ namedO o ≤ 3 := by
  unfold namedO
  split
  · omega
  · split
    · omega
    · split <;> omega
set_option maxHeartbeats 4000000 in
set_option maxRecDepth 100000 in
theorem IsSite_ok (o : Int) (h : 1 ≤ o) (h2 : o ≤ 33) (W : World) : Calls Tryz.prog 36 #[.int .i64 o] W fun e W' => e = .returned (.bool (siteO o)) ∧ W' = W := by
  rcases ops33 h h2 with rfl | rfl | rfl | rfl | rfl | rfl | rfl | rfl | rfl | rfl | rfl | rfl | rfl | rfl | rfl | rfl | rfl | rfl | rfl | rfl | rfl | rfl | rfl | rfl | rfl | rfl | rfl | rfl | rfl | rfl | rfl | rfl | rfl
  all_goals
    clear h h2
    go_enter Tryz.func36, Tryz.ntmps36
    go_wp2_with fail
    go_ret
    exact ⟨rfl, rfl⟩
set_option maxHeartbeats 4000000 in
set_option maxRecDepth 100000 in
theorem Shared_ok (o : Int) (h : 1 ≤ o) (h2 : o ≤ 33) (W : World) : Calls Tryz.prog 163 #[.int .i64 o] W fun e W' => e = .returned (.bool (sharedO o)) ∧ W' = W := by
  rcases ops33 h h2 with rfl | rfl | rfl | rfl | rfl | rfl | rfl | rfl | rfl | rfl | rfl | rfl | rfl | rfl | rfl | rfl | rfl | rfl | rfl | rfl | rfl | rfl | rfl | rfl | rfl | rfl | rfl | rfl | rfl | rfl | rfl | rfl | rfl
  all_goals
    clear h h2
    go_enter Tryz.func163, Tryz.ntmps163
    go_wp2_with fail
    go_ret
    exact ⟨rfl, rfl⟩
/-- A program as an argument, and in a box. -/
def Prg.v (P : Prg) : Value := .agg #[.slice P.loopsA P.loops.length P.loopsC, .slice P.clssA P.clss.length P.clssC, .slice P.glbsA P.glbs.length P.glbsC, .slice P.fnsA P.fns.length P.fnsC, .slice P.cmpsA P.cmps.length P.cmpsC, .slice P.evtsA P.evts.length P.evtsC, .int .i64 P.main, .slice P.sitsA P.sits.length P.sitsC]
def Prg.o (P : Prg) : Obj := .cells #[.slice P.loopsA P.loops.length P.loopsC, .slice P.clssA P.clss.length P.clssC, .slice P.glbsA P.glbs.length P.glbsC, .slice P.fnsA P.fns.length P.fnsC, .slice P.cmpsA P.cmps.length P.cmpsC, .slice P.evtsA P.evts.length P.evtsC, .int .i64 P.main, .slice P.sitsA P.sits.length P.sitsC] 35 (0, 0)
theorem Prg.o_cells {w : World} {b : Nat} {P : Prg} (h : w.heap[b]? = some P.o) : w.cell? ⟨b, 0, none⟩ = some (.slice P.loopsA P.loops.length P.loopsC) ∧ w.cell? ⟨b, 1, none⟩ = some (.slice P.clssA P.clss.length P.clssC) ∧ w.cell? ⟨b, 2, none⟩ = some (.slice P.glbsA P.glbs.length P.glbsC) ∧ w.cell? ⟨b, 3, none⟩ = some (.slice P.fnsA P.fns.length P.fnsC) ∧ w.cell? ⟨b, 4, none⟩ = some (.slice P.cmpsA P.cmps.length P.cmpsC) ∧ w.cell? ⟨b, 5, none⟩ = some (.slice P.evtsA P.evts.length P.evtsC) ∧ w.cell? ⟨b, 6, none⟩ = some (.int .i64 P.main) ∧ w.cell? ⟨b, 7, none⟩ = some (.slice P.sitsA P.sits.length P.sitsC) ∧ b < w.heap.size := by
  refine ⟨?_, ?_, ?_, ?_, ?_, ?_, ?_, ?_, (Array.getElem?_eq_some_iff.1 h).1⟩
  all_goals simp [World.cell?, h, Prg.o]
/-- A function's number, where it lies. -/
theorem Prg.fn_at {w : World} {P : Prg} (h : P.In w) {i : Nat} (hi : i < P.fns.length) : ∃ g off, P.fnsA = some ⟨g, off, none⟩ ∧ g < w.heap.size ∧ Fn.In w P.fns[i] ∧ w.cell? ⟨g, off + i * 4, none⟩ = some (.string P.fns[i].name) ∧ w.cell? ⟨g, off + i * 4 + 1, none⟩ = some (.int .i64 P.fns[i].caps) ∧ w.cell? ⟨g, off + i * 4 + 2, none⟩ = some (.int .i64 P.fns[i].regs) ∧ w.cell? ⟨g, off + i * 4 + 3, none⟩ = some (.slice P.fns[i].codeA P.fns[i].code.length P.fns[i].codeC) := by
  obtain ⟨g, off, h1, h2, h3, h4⟩ := h.fns.2.2 i _ (List.getElem?_eq_getElem hi)
  exact ⟨g, off, h1, h2, h3, h4 0 _ rfl, h4 1 _ rfl, h4 2 _ rfl, h4 3 _ rfl⟩
/-- May a function be begun without cells? -/
def rootB (P : Prg) (f : Int) : Bool := inI f P.fns.length && ((P.fns[f.toNat]?).map fun g => g.caps == 0).getD false
theorem rootB_at {P : Prg} {f : Int} (h : rootB P f = true) : ∃ (i : Nat) (h : i < P.fns.length), f = i ∧ (P.fns[i]).caps = 0 := by
  unfold rootB at h
  rw [Bool.and_eq_true] at h
  obtain ⟨k, rfl, hk⟩ := inI_true h.1
  have hk' : k < P.fns.length := by omega
  have h2 := h.2
  simp [hk'] at h2
  exact ⟨k, hk', rfl, h2⟩
end Go.Proofs.YtfljmdpigckpkaaGreatDoor

namespace Go.Proofs.YtfljmdpigckpkaaGreatDoor
open Go.RowKit Go.Shelf
attribute [local go_sem] Oper.semAt_some
def Ins.v (x : Ins) : Value := .agg #[.int .i64 x.op, .int .i64 x.a, .int .i64 x.b, .int .i64 x.c, .int .i64 x.n, .slice x.lA x.l.length x.lC, .int .i64 x.site, .int .i64 x.line]
def Ins.o (x : Ins) : Obj := .cells #[.int .i64 x.op, .int .i64 x.a, .int .i64 x.b, .int .i64 x.c, .int .i64 x.n, .slice x.lA x.l.length x.lC, .int .i64 x.site, .int .i64 x.line] 25 (0, 0)
def Fn.v (x : Fn) : Value := .agg #[.string x.name, .int .i64 x.caps, .int .i64 x.regs, .slice x.codeA x.code.length x.codeC]
def Fn.o (x : Fn) : Obj := .cells #[.string x.name, .int .i64 x.caps, .int .i64 x.regs, .slice x.codeA x.code.length x.codeC] 92 (0, 0)
theorem Ins.o_cells {w : World} {b : Nat} {x : Ins} (h : w.heap[b]? = some x.o) : w.cell? ⟨b, 0, none⟩ = some (.int .i64 x.op) ∧ w.cell? ⟨b, 1, none⟩ = some (.int .i64 x.a) ∧ w.cell? ⟨b, 2, none⟩ = some (.int .i64 x.b) ∧ w.cell? ⟨b, 3, none⟩ = some (.int .i64 x.c) ∧ w.cell? ⟨b, 4, none⟩ = some (.int .i64 x.n) ∧ w.cell? ⟨b, 5, none⟩ = some (.slice x.lA x.l.length x.lC) ∧ w.cell? ⟨b, 6, none⟩ = some (.int .i64 x.site) ∧ w.cell? ⟨b, 7, none⟩ = some (.int .i64 x.line) ∧ b < w.heap.size := by
  refine ⟨?_, ?_, ?_, ?_, ?_, ?_, ?_, ?_, (Array.getElem?_eq_some_iff.1 h).1⟩
  all_goals simp [World.cell?, h, Ins.o]
theorem Fn.o_cells {w : World} {b : Nat} {x : Fn} (h : w.heap[b]? = some x.o) : w.cell? ⟨b, 0, none⟩ = some (.string x.name) ∧ w.cell? ⟨b, 1, none⟩ = some (.int .i64 x.caps) ∧ w.cell? ⟨b, 2, none⟩ = some (.int .i64 x.regs) ∧ w.cell? ⟨b, 3, none⟩ = some (.slice x.codeA x.code.length x.codeC) ∧ b < w.heap.size := by
  refine ⟨?_, ?_, ?_, ?_, (Array.getElem?_eq_some_iff.1 h).1⟩
  all_goals simp [World.cell?, h, Fn.o]
def tailB (P : Prg) (f : Fn) (x : Ins) : Bool :=
  if x.op = 9 ∨ x.op = 10 then inI x.n P.glbs.length
  else if x.op = 14 then inI x.n P.clss.length
  else if x.op = 21 then inI x.n P.fns.length && ((P.fns[x.n.toNat]?).map fun g => g.caps == (x.l.length : Int)).getD false
  else if x.op = 23 then inI x.c P.loops.length && inI x.n 1000001
  else if x.op = 24 then inI x.c P.loops.length
  else if x.op = 26 ∨ x.op = 27 then inI x.n P.evts.length
  else if x.op = 31 ∨ x.op = 32 then inI x.n f.code.length
  else true
def rgA (x : Ins) (i : Nat) : Int := [x.a, x.b, x.c].getD i 0
/-- An instruction that may be, of a function. -/
structure InsOk (P : Prg) (f : Fn) (x : Ins) : Prop where
  op1 : 1 ≤ x.op
  op2 : x.op ≤ 33
  rg : ∀ i : Nat, (i : Int) < namedO x.op → inI (rgA x i) f.regs = true
  ls : ∀ (i : Nat) (h : i < x.l.length), x.op = 21 ∧ inI x.l[i] f.regs = true
  tl : tailB P f x = true
/-- What is answered, and what it says. -/
def AnsB (Q : Prop) (W : World) (e : Ending) (W' : World) : Prop := ∃ b : Bool, e = .returned (.bool b) ∧ (b = true → Q) ∧ Ext W W'
theorem AnsB.no {Q : Prop} {W W' : World} (k : Ext W W') : AnsB Q W (.returned (.bool false)) W' := ⟨false, rfl, fun h => (by cases h), k⟩
theorem AnsB.yes {Q : Prop} {W W' : World} (q : Q) (k : Ext W W') : AnsB Q W (.returned (.bool true)) W' := ⟨true, rfl, fun _ => q, k⟩
theorem AnsB.of {Q : Prop} {W W' : World} (b : Bool) (q : b = true → Q) (k : Ext W W') : AnsB Q W (.returned (.bool b)) W' := ⟨b, rfl, q, k⟩
/-- The boxes while an instruction is looked at. -/
structure IB (B b : Nat) (P : Prg) (f : Fn) (x : Ins) (w : World) : Prop where
  bp : w.heap[B]? = some P.o
  bf : w.heap[B + 1]? = some f.o
  bx : w.heap[B + 1 + 1]? = some x.o
  br : w.heap[b]? = some (.cells #[.int .i64 x.a, .int .i64 x.b, .int .i64 x.c] 3 (0, 0))
theorem IB.ext {B b : Nat} {P : Prg} {f : Fn} {x : Ins} {w w' : World} (h : IB B b P f x w) (k : Ext w w') : IB B b P f x w' :=
  have kk := k.kept (fun _ _ => true)
  ⟨kk.same _ _ h.bp rfl, kk.same _ _ h.bf rfl, kk.same _ _ h.bx rfl, kk.same _ _ h.br rfl⟩
theorem IB.reg {B b : Nat} {P : Prg} {f : Fn} {x : Ins} {w : World} (h : IB B b P f x w) {i : Nat} (hi : i < 3) : w.cell? ⟨b, i, none⟩ = some (.int .i64 (rgA x i)) ∧ b < w.heap.size := by
  refine ⟨?_, (Array.getElem?_eq_some_iff.1 h.br).1⟩
  match i, hi with
  | 0, _ => simp [World.cell?, h.br, rgA]
  | 1, _ => simp [World.cell?, h.br, rgA]
  | 2, _ => simp [World.cell?, h.br, rgA]
end Go.Proofs.YtfljmdpigckpkaaGreatDoor

namespace Go.Proofs.YtfljmdpigckpkaaGreatDoor
/-- A world that has come of W by growth alone. -/
structure ExtBy (W : World) where
  w : World
  x : Ext W w
instance (W : World) : Inhabited (ExtBy W) := ⟨⟨W, Ext.refl W⟩⟩
theorem region_quiet_ext {P : Program} {id : Nat} {Q : Exit → Act → World → Prop} {a : Act} {w : World} {l : List Oper} (hm : P.follows .mixedOrders = true) (hB : Region.lexB .any l.toArray = true)
    (h : wpQuiet P l.toArray (fun w' => ∃ p : ExtBy w, w' = p.w) (fun a' => ∀ w', (∃ p : ExtBy w, w' = p.w) → Q .normal a' w') l a) : (Code.region id l.toArray true).wp P Q a w :=
  wp_region_quiet (C := fun w' => ∃ p : ExtBy w, w' = p.w) hm hB ⟨⟨_, Ext.drew w⟩, rfl⟩ (by simpa using h)
theorem ExtBy.call {P : Program} {W : World} {f : FuncId} {args : Array Value} {v : Value} {p : ExtBy W} (h : Calls P f args p.w fun e w' => e = .returned v ∧ Ext p.w w') : Calls P f args p.w fun e w'' => e = .returned v ∧ ∃ q : ExtBy W, w'' = q.w :=
  h.mono fun _ w' k => ⟨k.1, ⟨w', p.x.trans k.2⟩, rfl⟩
end Go.Proofs.YtfljmdpigckpkaaGreatDoor

namespace Go.Proofs.YtfljmdpigckpkaaGreatDoor
open Go.RowKit Go.Shelf
attribute [local go_sem] Oper.semAt_some
def fsA (x : Cmp) (k : Nat) : Int := [x.fs0, x.fs1, x.fs2, x.fs3].getD k 0
/-- A program whose parts may be. -/
structure PartsOk (P : Prg) : Prop where
  n0 : 1 ≤ P.loops.length ∧ P.loops.length ≤ 8
  n1 : P.clss.length ≤ 16
  n2 : P.glbs.length ≤ 32
  n3 : P.cmps.length ≤ 8
  n4 : P.evts.length ≤ 8
  n5 : 1 ≤ P.fns.length ∧ P.fns.length ≤ 64
  mn : rootB P P.main = true
  cls : ∀ (i : Nat) (h : i < P.clss.length), P.clss[i].flds.length ≤ 8 ∧ P.clss[i].names.length = P.clss[i].flds.length
  cmp : ∀ (i : Nat) (h : i < P.cmps.length), (∀ k : Nat, k < 4 → 0 ≤ fsA P.cmps[i] k → rootB P (fsA P.cmps[i] k) = true) ∧ inI P.cmps[i].loop P.loops.length = true
  evt : ∀ (i : Nat) (h : i < P.evts.length), inI P.evts[i].loop P.loops.length = true ∧ rootB P P.evts[i].fn = true
section
variable {w : World} {P : Prg}
theorem Prg.cls_at (h : P.In w) {i : Nat} (hi : i < P.clss.length) : ∃ g off, P.clssA = some ⟨g, off, none⟩ ∧ g < w.heap.size ∧ Cls.In w P.clss[i] ∧ w.cell? ⟨g, off + i * 3 + 1, none⟩ = some (.slice P.clss[i].namesA P.clss[i].names.length P.clss[i].namesC) ∧ w.cell? ⟨g, off + i * 3 + 2, none⟩ = some (.slice P.clss[i].fldsA P.clss[i].flds.length P.clss[i].fldsC) := by
  obtain ⟨g, off, h1, h2, h3, h4⟩ := h.clss.2.2 i _ (List.getElem?_eq_getElem hi)
  exact ⟨g, off, h1, h2, h3, h4 1 _ rfl, h4 2 _ rfl⟩
theorem Prg.cmp_at (h : P.In w) {i : Nat} (hi : i < P.cmps.length) : ∃ g off, P.cmpsA = some ⟨g, off, none⟩ ∧ g < w.heap.size ∧ w.cell? ⟨g, off + i * 6 + 1, none⟩ = some (.int .i64 P.cmps[i].loop) ∧ ∀ k : Nat, k < 4 → w.cell? ⟨g, off + i * 6 + 2 + k, none⟩ = some (.int .i64 (fsA P.cmps[i] k)) := by
  obtain ⟨g, off, h1, h2, h3, h4⟩ := h.cmps.2.2 i _ (List.getElem?_eq_getElem hi)
  refine ⟨g, off, h1, h2, h4 1 _ rfl, fun k hk => ?_⟩
  match k, hk with
  | 0, _ => exact h4 2 _ rfl
  | 1, _ => exact h4 3 _ rfl
  | 2, _ => exact h4 4 _ rfl
  | 3, _ => exact h4 5 _ rfl
theorem Prg.evt_at (h : P.In w) {i : Nat} (hi : i < P.evts.length) : ∃ g off, P.evtsA = some ⟨g, off, none⟩ ∧ g < w.heap.size ∧ w.cell? ⟨g, off + i * 4 + 1, none⟩ = some (.int .i64 P.evts[i].loop) ∧ w.cell? ⟨g, off + i * 4 + 3, none⟩ = some (.int .i64 P.evts[i].fn) := by
  obtain ⟨g, off, h1, h2, h3, h4⟩ := h.evts.2.2 i _ (List.getElem?_eq_getElem hi)
  exact ⟨g, off, h1, h2, h4 1 _ rfl, h4 3 _ rfl⟩
end
attribute [local irreducible] wpQuiet
end Go.Proofs.YtfljmdpigckpkaaGreatDoor
