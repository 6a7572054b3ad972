/- Programs (api.Prog), plainly and as they came in. Written by genA.py. -/
import Derived.Test.YtfljmdpigckpkaaGreatDoorOpA
import Derived.OpenShut
namespace Go.Proofs.YtfljmdpigckpkaaGreatDoor
open Go.RowKit Go.ChangeShapes Go.WideShapes Go.Deep Go.Shelf
def sV (s : ByteArray) : Value := .string s
/-- A slice of members of more than one cell, as it came in. -/
def RowN {α : Type} (f : α → List Value) (s : Nat) (P : α → Prop) (w : World) (A : Option Addr) (m c : Nat) (T : List α) : Prop := m = T.length ∧ (A = none → c = 0 ∧ m = 0) ∧ Rows3 f s P w A T
theorem Rows3.mono {α : Type} {f : α → List Value} {s : Nat} {P P' : α → Prop} {w w' : World} {A : Option Addr} {T : List α} (h : Rows3 f s P w A T) (k : Kept (pOld w.heap.size) w w') (hP : ∀ x, P x → P' x) : Rows3 f s P' w' A T := fun i x hi => by
  obtain ⟨g, off, h1, h2, h3, h4⟩ := h i x hi
  exact ⟨g, off, h1, Nat.lt_of_lt_of_le h2 k.size, hP x h3, fun j u hj => k.cell (h4 j u hj) fun o _ => by simp [pOld, h2]⟩
theorem RowN.mono {α : Type} {f : α → List Value} {s : Nat} {P P' : α → Prop} {w w' : World} {A : Option Addr} {m c : Nat} {T : List α} (h : RowN f s P w A m c T) (k : Kept (pOld w.heap.size) w w') (hP : ∀ x, P x → P' x) : RowN f s P' w' A m c T := ⟨h.1, h.2.1, h.2.2.mono k hP⟩
section
variable {H : Type} {enc : TypeId × Value → H} {w : World} {base : Nat} {held : Bool}
theorem open_rowN {α : Type} (dflt : α) {f : α → List Value} {s : Nat} {P : α → Prop} {st et : TypeId} (hs0 : 0 < s) (hst : Tryz.prog.underlying st = some (.slice et)) (hce : Tryz.prog.cellsOf et = s) (hfs : ∀ x, (f x).length = s)
    (hop : ∀ {fuel : Nat} {cs : List Value} {x : DataW H × List MemPlace}, DataW.trod enc Tryz.prog w base (fun _ => true) held fuel et cs = some x → ∃ t : α, cs = f t ∧ P t)
    {fuel : Nat} {cs : List Value} {x : DataW H × List MemPlace} (h : DataW.trod enc Tryz.prog w base (fun _ => true) held fuel st cs = some x) :
    ∃ A m c, cs = [.slice A m c] ∧ ∃ l : List α, RowN f s P w A m c l := by
  obtain ⟨A, m, c, rfl, hn⟩ : ∃ A m c, cs = [.slice A m c] ∧ (A = none → c = 0 ∧ m = 0) := by
    rcases open_slice hst h with ⟨hcs, _⟩ | ⟨a, len', cap', _, _, _, _, hcs, _⟩
    · exact ⟨none, 0, 0, hcs, fun _ => ⟨rfl, rfl⟩⟩
    · exact ⟨some a, len', cap', hcs, fun h => by cases h⟩
  obtain ⟨l, hl, hr⟩ := open_rows dflt hs0 hst hce hfs hop h
  exact ⟨A, m, c, rfl, l, hl.symm, hn, hr⟩
theorem open_len {st et : TypeId} (hst : Tryz.prog.underlying st = some (.slice et)) {fuel : Nat} {A : Option Addr} {m c : Nat} {x : DataW H × List MemPlace} (h : DataW.trod enc Tryz.prog w base (fun _ => true) held fuel st [.slice A m c] = some x) : m ≤ 9223372036854775807 := by
  rcases open_slice hst h with ⟨hcs, _⟩ | ⟨a, len', cap', mm, n, D, Pl, hcs, hb, hl, hm, hmm, hx, hi⟩
  · simp at hcs; omega
  · simp at hcs
    obtain ⟨_, rfl, _⟩ := hcs
    have : maxLen = 9223372036854775807 := rfl
    omega
theorem open_z {t : TypeId} (ht : Tryz.prog.underlying t = some (.int .i64)) {fuel : Nat} {cs : List Value} {x : DataW H × List MemPlace} (h : DataW.trod enc Tryz.prog w base (fun _ => true) held fuel t cs = some x) : ∃ z : Int, cs = [iV z] ∧ True := by
  obtain ⟨z, e, _⟩ := DataW.trod_int (k := .i64) ht h
  exact ⟨z, e, trivial⟩
theorem open_s {fuel : Nat} {cs : List Value} {x : DataW H × List MemPlace} (h : DataW.trod enc Tryz.prog w base (fun _ => true) held fuel 9 cs = some x) : ∃ z : ByteArray, cs = [sV z] ∧ True := by
  obtain ⟨z, e, _⟩ := DataW.trod_string (by kernel_rfl) h
  exact ⟨z, e, trivial⟩
theorem open_bo {fuel : Nat} {cs : List Value} {x : DataW H × List MemPlace} (h : DataW.trod enc Tryz.prog w base (fun _ => true) held fuel 4 cs = some x) : ∃ z : Bool, cs = [bV z] ∧ True := by
  obtain ⟨z, e, _⟩ := DataW.trod_bool (by kernel_rfl) h
  exact ⟨z, e, trivial⟩
theorem cellsInt : Tryz.prog.cellsOf 3 = 1 := by kernel_rfl
set_option maxRecDepth 100000 in
theorem open_a4 {fuel : Nat} {cs : List Value} {x : DataW H × List MemPlace} (h : DataW.trod enc Tryz.prog w base (fun _ => true) held fuel 136 cs = some x) : ∃ z0 z1 z2 z3 : Int, cs = [iV z0, iV z1, iV z2, iV z3] := by
  obtain ⟨xs, m, rfl, rfl, hlen, hn, hel⟩ := DataW.trod_array Tryz.underlying136 h
  rw [show Tryz.prog.cellsOf 136 = 4 by kernel_rfl] at hlen
  simp only [cellsInt] at hel
  match cs, hlen, xs, hn with
  | [c0, c1, c2, c3], _, [x0, x1, x2, x3], _ =>
    have h0 : DataW.trod enc Tryz.prog w base (fun _ => true) held m 3 [c0] = some x0 := hel 0 (by decide)
    have h1 : DataW.trod enc Tryz.prog w base (fun _ => true) held m 3 [c1] = some x1 := hel 1 (by decide)
    have h2 : DataW.trod enc Tryz.prog w base (fun _ => true) held m 3 [c2] = some x2 := hel 2 (by decide)
    have h3 : DataW.trod enc Tryz.prog w base (fun _ => true) held m 3 [c3] = some x3 := hel 3 (by decide)
    obtain ⟨z0, e0, _⟩ := open_z (by kernel_rfl) h0
    obtain ⟨z1, e1, _⟩ := open_z (by kernel_rfl) h1
    obtain ⟨z2, e2, _⟩ := open_z (by kernel_rfl) h2
    obtain ⟨z3, e3, _⟩ := open_z (by kernel_rfl) h3
    rw [List.cons.injEq] at e0 e1 e2 e3
    exact ⟨z0, z1, z2, z3, by rw [e0.1, e1.1, e2.1, e3.1]⟩
end

/-- api.Instr. -/
structure Ins where
  op : Int
  a : Int
  b : Int
  c : Int
  n : Int
  lA : Option Addr
  lC : Nat
  l : List Int
  site : Int
  line : Int
def Ins.cells (x : Ins) : List Value := [iV x.op, iV x.a, iV x.b, iV x.c, iV x.n, .slice x.lA x.l.length x.lC, iV x.site, iV x.line]
/-- What lies behind it. -/
structure Ins.In (w : World) (x : Ins) : Prop where
  l : Row1 iV w x.lA x.l.length x.lC x.l
  lL : x.l.length ≤ 9223372036854775807
theorem Ins.In.kept {w w' : World} {x : Ins} (k : Kept (pOld w.heap.size) w w') (h : Ins.In w x) : Ins.In w' x := ⟨h.l.kept k, h.lL⟩
theorem cellsIns : Tryz.prog.cellsOf 25 = 8 := by kernel_rfl
set_option maxRecDepth 100000 in
theorem open_Ins {H : Type} {enc : TypeId × Value → H} {w : World} {base : Nat} {held : Bool} {fuel : Nat} {cs : List Value} {x : DataW H × List MemPlace} (h : DataW.trod enc Tryz.prog w base (fun _ => true) held fuel 25 cs = some x) : ∃ t : Ins, cs = t.cells ∧ Ins.In w t := by
  obtain ⟨xs, n, _, _, hlen, hxl, hf⟩ := DataW.trod_struct Tryz.underlying25 h
  rw [cellsIns] at hlen
  match cs, hlen with
  | [c0, c1, c2, c3, c4, c5, c6, c7], _ =>
    have hx5 : xs.length = 8 := hxl
    match xs, hx5 with
    | [x0, x1, x2, x3, x4, x5, x6, x7], _ =>
      have h0 : DataW.trod enc Tryz.prog w base (fun _ => true) held n 22 [c0] = some x0 := hf 0 _ rfl
      obtain ⟨z0, e0, _⟩ := open_z (by kernel_rfl) h0
      have h1 : DataW.trod enc Tryz.prog w base (fun _ => true) held n 3 [c1] = some x1 := hf 1 _ rfl
      obtain ⟨z1, e1, _⟩ := open_z (by kernel_rfl) h1
      have h2 : DataW.trod enc Tryz.prog w base (fun _ => true) held n 3 [c2] = some x2 := hf 2 _ rfl
      obtain ⟨z2, e2, _⟩ := open_z (by kernel_rfl) h2
      have h3 : DataW.trod enc Tryz.prog w base (fun _ => true) held n 3 [c3] = some x3 := hf 3 _ rfl
      obtain ⟨z3, e3, _⟩ := open_z (by kernel_rfl) h3
      have h4 : DataW.trod enc Tryz.prog w base (fun _ => true) held n 2 [c4] = some x4 := hf 4 _ rfl
      obtain ⟨z4, e4, _⟩ := open_z (by kernel_rfl) h4
      have h5 : DataW.trod enc Tryz.prog w base (fun _ => true) held n 23 [c5] = some x5 := hf 5 _ rfl
      obtain ⟨A5, m5, k5, e5, l5, r5⟩ := open_row1 (0 : Int) (f := iV) Tryz.underlying23 (by kernel_rfl) (open_z (by kernel_rfl)) h5
      obtain rfl := r5.1
      have L5 := open_len Tryz.underlying23 (e5 ▸ h5)
      have h6 : DataW.trod enc Tryz.prog w base (fun _ => true) held n 3 [c6] = some x6 := hf 6 _ rfl
      obtain ⟨z6, e6, _⟩ := open_z (by kernel_rfl) h6
      have h7 : DataW.trod enc Tryz.prog w base (fun _ => true) held n 3 [c7] = some x7 := hf 7 _ rfl
      obtain ⟨z7, e7, _⟩ := open_z (by kernel_rfl) h7
      simp only [List.cons.injEq, and_true] at e0 e1 e2 e3 e4 e5 e6 e7
      subst e0
      subst e1
      subst e2
      subst e3
      subst e4
      subst e5
      subst e6
      subst e7
      exact ⟨⟨z0, z1, z2, z3, z4, A5, k5, l5, z6, z7⟩, rfl, ⟨r5, L5⟩⟩
/-- api.Func. -/
structure Fn where
  name : ByteArray
  caps : Int
  regs : Int
  codeA : Option Addr
  codeC : Nat
  code : List Ins
def Fn.cells (x : Fn) : List Value := [sV x.name, iV x.caps, iV x.regs, .slice x.codeA x.code.length x.codeC]
/-- What lies behind it. -/
structure Fn.In (w : World) (x : Fn) : Prop where
  code : RowN Ins.cells 8 (Ins.In w) w x.codeA x.code.length x.codeC x.code
  codeL : x.code.length ≤ 9223372036854775807
theorem Fn.In.kept {w w' : World} {x : Fn} (k : Kept (pOld w.heap.size) w w') (h : Fn.In w x) : Fn.In w' x := ⟨h.code.mono k fun _ => Ins.In.kept k, h.codeL⟩
theorem cellsFn : Tryz.prog.cellsOf 92 = 4 := by kernel_rfl
set_option maxRecDepth 100000 in
theorem open_Fn {H : Type} {enc : TypeId × Value → H} {w : World} {base : Nat} {held : Bool} {fuel : Nat} {cs : List Value} {x : DataW H × List MemPlace} (h : DataW.trod enc Tryz.prog w base (fun _ => true) held fuel 92 cs = some x) : ∃ t : Fn, cs = t.cells ∧ Fn.In w t := by
  obtain ⟨xs, n, _, _, hlen, hxl, hf⟩ := DataW.trod_struct Tryz.underlying92 h
  rw [cellsFn] at hlen
  match cs, hlen with
  | [c0, c1, c2, c3], _ =>
    have hx5 : xs.length = 4 := hxl
    match xs, hx5 with
    | [x0, x1, x2, x3], _ =>
      have h0 : DataW.trod enc Tryz.prog w base (fun _ => true) held n 9 [c0] = some x0 := hf 0 _ rfl
      obtain ⟨z0, e0, _⟩ := open_s h0
      have h1 : DataW.trod enc Tryz.prog w base (fun _ => true) held n 3 [c1] = some x1 := hf 1 _ rfl
      obtain ⟨z1, e1, _⟩ := open_z (by kernel_rfl) h1
      have h2 : DataW.trod enc Tryz.prog w base (fun _ => true) held n 3 [c2] = some x2 := hf 2 _ rfl
      obtain ⟨z2, e2, _⟩ := open_z (by kernel_rfl) h2
      have h3 : DataW.trod enc Tryz.prog w base (fun _ => true) held n 26 [c3] = some x3 := hf 3 _ rfl
      obtain ⟨A3, m3, k3, e3, l3, r3⟩ := open_rowN (⟨0, 0, 0, 0, 0, none, 0, [], 0, 0⟩ : Ins) (by omega) Tryz.underlying26 cellsIns (fun _ => rfl) open_Ins h3
      obtain rfl := r3.1
      have L3 := open_len Tryz.underlying26 (e3 ▸ h3)
      simp only [List.cons.injEq, and_true] at e0 e1 e2 e3
      subst e0
      subst e1
      subst e2
      subst e3
      exact ⟨⟨z0, z1, z2, A3, k3, l3⟩, rfl, ⟨r3, L3⟩⟩
/-- api.Class. -/
structure Cls where
  name : ByteArray
  namesA : Option Addr
  namesC : Nat
  names : List ByteArray
  fldsA : Option Addr
  fldsC : Nat
  flds : List Int
def Cls.cells (x : Cls) : List Value := [sV x.name, .slice x.namesA x.names.length x.namesC, .slice x.fldsA x.flds.length x.fldsC]
/-- What lies behind it. -/
structure Cls.In (w : World) (x : Cls) : Prop where
  names : Row1 sV w x.namesA x.names.length x.namesC x.names
  flds : Row1 iV w x.fldsA x.flds.length x.fldsC x.flds
  namesL : x.names.length ≤ 9223372036854775807
  fldsL : x.flds.length ≤ 9223372036854775807
theorem Cls.In.kept {w w' : World} {x : Cls} (k : Kept (pOld w.heap.size) w w') (h : Cls.In w x) : Cls.In w' x := ⟨h.names.kept k, h.flds.kept k, h.namesL, h.fldsL⟩
theorem cellsCls : Tryz.prog.cellsOf 319 = 3 := by kernel_rfl
set_option maxRecDepth 100000 in
theorem open_Cls {H : Type} {enc : TypeId × Value → H} {w : World} {base : Nat} {held : Bool} {fuel : Nat} {cs : List Value} {x : DataW H × List MemPlace} (h : DataW.trod enc Tryz.prog w base (fun _ => true) held fuel 319 cs = some x) : ∃ t : Cls, cs = t.cells ∧ Cls.In w t := by
  obtain ⟨xs, n, _, _, hlen, hxl, hf⟩ := DataW.trod_struct Tryz.underlying319 h
  rw [cellsCls] at hlen
  match cs, hlen with
  | [c0, c1, c2], _ =>
    have hx5 : xs.length = 3 := hxl
    match xs, hx5 with
    | [x0, x1, x2], _ =>
      have h0 : DataW.trod enc Tryz.prog w base (fun _ => true) held n 9 [c0] = some x0 := hf 0 _ rfl
      obtain ⟨z0, e0, _⟩ := open_s h0
      have h1 : DataW.trod enc Tryz.prog w base (fun _ => true) held n 27 [c1] = some x1 := hf 1 _ rfl
      obtain ⟨A1, m1, k1, e1, l1, r1⟩ := open_row1 ByteArray.empty (f := sV) Tryz.underlying27 (by kernel_rfl) open_s h1
      obtain rfl := r1.1
      have L1 := open_len Tryz.underlying27 (e1 ▸ h1)
      have h2 : DataW.trod enc Tryz.prog w base (fun _ => true) held n 317 [c2] = some x2 := hf 2 _ rfl
      obtain ⟨A2, m2, k2, e2, l2, r2⟩ := open_row1 (0 : Int) (f := iV) Tryz.underlying317 (by kernel_rfl) (open_z (by kernel_rfl)) h2
      obtain rfl := r2.1
      have L2 := open_len Tryz.underlying317 (e2 ▸ h2)
      simp only [List.cons.injEq, and_true] at e0 e1 e2
      subst e0
      subst e1
      subst e2
      exact ⟨⟨z0, A1, k1, l1, A2, k2, l2⟩, rfl, ⟨r1, r2, L1, L2⟩⟩
/-- api.Global. -/
structure Glb where
  name : ByteArray
  ty : Int
def Glb.cells (x : Glb) : List Value := [sV x.name, iV x.ty]
def Glb.In (_ : World) (_ : Glb) : Prop := True
theorem Glb.In.kept {w w' : World} {x : Glb} (_ : Kept (pOld w.heap.size) w w') (h : Glb.In w x) : Glb.In w' x := h
theorem cellsGlb : Tryz.prog.cellsOf 90 = 2 := by kernel_rfl
set_option maxRecDepth 100000 in
theorem open_Glb {H : Type} {enc : TypeId × Value → H} {w : World} {base : Nat} {held : Bool} {fuel : Nat} {cs : List Value} {x : DataW H × List MemPlace} (h : DataW.trod enc Tryz.prog w base (fun _ => true) held fuel 90 cs = some x) : ∃ t : Glb, cs = t.cells ∧ Glb.In w t := by
  obtain ⟨xs, n, _, _, hlen, hxl, hf⟩ := DataW.trod_struct Tryz.underlying90 h
  rw [cellsGlb] at hlen
  match cs, hlen with
  | [c0, c1], _ =>
    have hx5 : xs.length = 2 := hxl
    match xs, hx5 with
    | [x0, x1], _ =>
      have h0 : DataW.trod enc Tryz.prog w base (fun _ => true) held n 9 [c0] = some x0 := hf 0 _ rfl
      obtain ⟨z0, e0, _⟩ := open_s h0
      have h1 : DataW.trod enc Tryz.prog w base (fun _ => true) held n 88 [c1] = some x1 := hf 1 _ rfl
      obtain ⟨z1, e1, _⟩ := open_z (by kernel_rfl) h1
      simp only [List.cons.injEq, and_true] at e0 e1
      subst e0
      subst e1
      exact ⟨⟨z0, z1⟩, rfl, trivial⟩
/-- api.Comp. -/
structure Cmp where
  name : ByteArray
  loop : Int
  fs0 : Int
  fs1 : Int
  fs2 : Int
  fs3 : Int
def Cmp.cells (x : Cmp) : List Value := [sV x.name, iV x.loop, iV x.fs0, iV x.fs1, iV x.fs2, iV x.fs3]
def Cmp.In (_ : World) (_ : Cmp) : Prop := True
theorem Cmp.In.kept {w w' : World} {x : Cmp} (_ : Kept (pOld w.heap.size) w w') (h : Cmp.In w x) : Cmp.In w' x := h
theorem cellsCmp : Tryz.prog.cellsOf 138 = 6 := by kernel_rfl
set_option maxRecDepth 100000 in
theorem open_Cmp {H : Type} {enc : TypeId × Value → H} {w : World} {base : Nat} {held : Bool} {fuel : Nat} {cs : List Value} {x : DataW H × List MemPlace} (h : DataW.trod enc Tryz.prog w base (fun _ => true) held fuel 138 cs = some x) : ∃ t : Cmp, cs = t.cells ∧ Cmp.In w t := by
  obtain ⟨xs, n, _, _, hlen, hxl, hf⟩ := DataW.trod_struct Tryz.underlying138 h
  rw [cellsCmp] at hlen
  match cs, hlen with
  | [c0, c1, c2, c3, c4, c5], _ =>
    have hx5 : xs.length = 3 := hxl
    match xs, hx5 with
    | [x0, x1, x2], _ =>
      have h0 : DataW.trod enc Tryz.prog w base (fun _ => true) held n 9 [c0] = some x0 := hf 0 _ rfl
      obtain ⟨z0, e0, _⟩ := open_s h0
      have h1 : DataW.trod enc Tryz.prog w base (fun _ => true) held n 3 [c1] = some x1 := hf 1 _ rfl
      obtain ⟨z1, e1, _⟩ := open_z (by kernel_rfl) h1
      have h2 : DataW.trod enc Tryz.prog w base (fun _ => true) held n 136 [c2, c3, c4, c5] = some x2 := hf 2 _ rfl
      obtain ⟨y0, y1, y2, y3, e2⟩ := open_a4 h2
      simp only [List.cons.injEq, and_true] at e0 e1 e2
      subst e0
      subst e1
      obtain ⟨rfl, rfl, rfl, rfl⟩ := e2
      exact ⟨⟨z0, z1, y0, y1, y2, y3⟩, rfl, trivial⟩
/-- api.Event. -/
structure Evt where
  name : ByteArray
  loop : Int
  on : Bool
  fn : Int
def Evt.cells (x : Evt) : List Value := [sV x.name, iV x.loop, bV x.on, iV x.fn]
def Evt.In (_ : World) (_ : Evt) : Prop := True
theorem Evt.In.kept {w w' : World} {x : Evt} (_ : Kept (pOld w.heap.size) w w') (h : Evt.In w x) : Evt.In w' x := h
theorem cellsEvt : Tryz.prog.cellsOf 97 = 4 := by kernel_rfl
set_option maxRecDepth 100000 in
theorem open_Evt {H : Type} {enc : TypeId × Value → H} {w : World} {base : Nat} {held : Bool} {fuel : Nat} {cs : List Value} {x : DataW H × List MemPlace} (h : DataW.trod enc Tryz.prog w base (fun _ => true) held fuel 97 cs = some x) : ∃ t : Evt, cs = t.cells ∧ Evt.In w t := by
  obtain ⟨xs, n, _, _, hlen, hxl, hf⟩ := DataW.trod_struct Tryz.underlying97 h
  rw [cellsEvt] at hlen
  match cs, hlen with
  | [c0, c1, c2, c3], _ =>
    have hx5 : xs.length = 4 := hxl
    match xs, hx5 with
    | [x0, x1, x2, x3], _ =>
      have h0 : DataW.trod enc Tryz.prog w base (fun _ => true) held n 9 [c0] = some x0 := hf 0 _ rfl
      obtain ⟨z0, e0, _⟩ := open_s h0
      have h1 : DataW.trod enc Tryz.prog w base (fun _ => true) held n 3 [c1] = some x1 := hf 1 _ rfl
      obtain ⟨z1, e1, _⟩ := open_z (by kernel_rfl) h1
      have h2 : DataW.trod enc Tryz.prog w base (fun _ => true) held n 4 [c2] = some x2 := hf 2 _ rfl
      obtain ⟨z2, e2, _⟩ := open_bo h2
      have h3 : DataW.trod enc Tryz.prog w base (fun _ => true) held n 3 [c3] = some x3 := hf 3 _ rfl
      obtain ⟨z3, e3, _⟩ := open_z (by kernel_rfl) h3
      simp only [List.cons.injEq, and_true] at e0 e1 e2 e3
      subst e0
      subst e1
      subst e2
      subst e3
      exact ⟨⟨z0, z1, z2, z3⟩, rfl, trivial⟩
/-- api.Site. -/
structure Sit where
  fn : Int
  at' : Int
def Sit.cells (x : Sit) : List Value := [iV x.fn, iV x.at']
def Sit.In (_ : World) (_ : Sit) : Prop := True
theorem Sit.In.kept {w w' : World} {x : Sit} (_ : Kept (pOld w.heap.size) w w') (h : Sit.In w x) : Sit.In w' x := h
theorem cellsSit : Tryz.prog.cellsOf 95 = 2 := by kernel_rfl
set_option maxRecDepth 100000 in
theorem open_Sit {H : Type} {enc : TypeId × Value → H} {w : World} {base : Nat} {held : Bool} {fuel : Nat} {cs : List Value} {x : DataW H × List MemPlace} (h : DataW.trod enc Tryz.prog w base (fun _ => true) held fuel 95 cs = some x) : ∃ t : Sit, cs = t.cells ∧ Sit.In w t := by
  obtain ⟨xs, n, _, _, hlen, hxl, hf⟩ := DataW.trod_struct Tryz.underlying95 h
  rw [cellsSit] at hlen
  match cs, hlen with
  | [c0, c1], _ =>
    have hx5 : xs.length = 2 := hxl
    match xs, hx5 with
    | [x0, x1], _ =>
      have h0 : DataW.trod enc Tryz.prog w base (fun _ => true) held n 3 [c0] = some x0 := hf 0 _ rfl
      obtain ⟨z0, e0, _⟩ := open_z (by kernel_rfl) h0
      have h1 : DataW.trod enc Tryz.prog w base (fun _ => true) held n 3 [c1] = some x1 := hf 1 _ rfl
      obtain ⟨z1, e1, _⟩ := open_z (by kernel_rfl) h1
      simp only [List.cons.injEq, and_true] at e0 e1
      subst e0
      subst e1
      exact ⟨⟨z0, z1⟩, rfl, trivial⟩
/-- api.Prog. -/
structure Prg where
  loopsA : Option Addr
  loopsC : Nat
  loops : List ByteArray
  clssA : Option Addr
  clssC : Nat
  clss : List Cls
  glbsA : Option Addr
  glbsC : Nat
  glbs : List Glb
  fnsA : Option Addr
  fnsC : Nat
  fns : List Fn
  cmpsA : Option Addr
  cmpsC : Nat
  cmps : List Cmp
  evtsA : Option Addr
  evtsC : Nat
  evts : List Evt
  main : Int
  sitsA : Option Addr
  sitsC : Nat
  sits : List Sit
def Prg.cells (x : Prg) : List Value := [.slice x.loopsA x.loops.length x.loopsC, .slice x.clssA x.clss.length x.clssC, .slice x.glbsA x.glbs.length x.glbsC, .slice x.fnsA x.fns.length x.fnsC, .slice x.cmpsA x.cmps.length x.cmpsC, .slice x.evtsA x.evts.length x.evtsC, iV x.main, .slice x.sitsA x.sits.length x.sitsC]
/-- What lies behind it. -/
structure Prg.In (w : World) (x : Prg) : Prop where
  loops : Row1 sV w x.loopsA x.loops.length x.loopsC x.loops
  clss : RowN Cls.cells 3 (Cls.In w) w x.clssA x.clss.length x.clssC x.clss
  glbs : RowN Glb.cells 2 (Glb.In w) w x.glbsA x.glbs.length x.glbsC x.glbs
  fns : RowN Fn.cells 4 (Fn.In w) w x.fnsA x.fns.length x.fnsC x.fns
  cmps : RowN Cmp.cells 6 (Cmp.In w) w x.cmpsA x.cmps.length x.cmpsC x.cmps
  evts : RowN Evt.cells 4 (Evt.In w) w x.evtsA x.evts.length x.evtsC x.evts
  sits : RowN Sit.cells 2 (Sit.In w) w x.sitsA x.sits.length x.sitsC x.sits
  loopsL : x.loops.length ≤ 9223372036854775807
  clssL : x.clss.length ≤ 9223372036854775807
  glbsL : x.glbs.length ≤ 9223372036854775807
  fnsL : x.fns.length ≤ 9223372036854775807
  cmpsL : x.cmps.length ≤ 9223372036854775807
  evtsL : x.evts.length ≤ 9223372036854775807
  sitsL : x.sits.length ≤ 9223372036854775807
theorem Prg.In.kept {w w' : World} {x : Prg} (k : Kept (pOld w.heap.size) w w') (h : Prg.In w x) : Prg.In w' x := ⟨h.loops.kept k, h.clss.mono k fun _ => Cls.In.kept k, h.glbs.mono k fun _ => Glb.In.kept k, h.fns.mono k fun _ => Fn.In.kept k, h.cmps.mono k fun _ => Cmp.In.kept k, h.evts.mono k fun _ => Evt.In.kept k, h.sits.mono k fun _ => Sit.In.kept k, h.loopsL, h.clssL, h.glbsL, h.fnsL, h.cmpsL, h.evtsL, h.sitsL⟩
theorem cellsPrg : Tryz.prog.cellsOf 35 = 8 := by kernel_rfl
set_option maxRecDepth 100000 in
theorem open_Prg {H : Type} {enc : TypeId × Value → H} {w : World} {base : Nat} {held : Bool} {fuel : Nat} {cs : List Value} {x : DataW H × List MemPlace} (h : DataW.trod enc Tryz.prog w base (fun _ => true) held fuel 35 cs = some x) : ∃ t : Prg, cs = t.cells ∧ Prg.In w t := by
  obtain ⟨xs, n, _, _, hlen, hxl, hf⟩ := DataW.trod_struct Tryz.underlying35 h
  rw [cellsPrg] at hlen
  match cs, hlen with
  | [c0, c1, c2, c3, c4, c5, c6, c7], _ =>
    have hx5 : xs.length = 8 := hxl
    match xs, hx5 with
    | [x0, x1, x2, x3, x4, x5, x6, x7], _ =>
      have h0 : DataW.trod enc Tryz.prog w base (fun _ => true) held n 27 [c0] = some x0 := hf 0 _ rfl
      obtain ⟨A0, m0, k0, e0, l0, r0⟩ := open_row1 ByteArray.empty (f := sV) Tryz.underlying27 (by kernel_rfl) open_s h0
      obtain rfl := r0.1
      have L0 := open_len Tryz.underlying27 (e0 ▸ h0)
      have h1 : DataW.trod enc Tryz.prog w base (fun _ => true) held n 28 [c1] = some x1 := hf 1 _ rfl
      obtain ⟨A1, m1, k1, e1, l1, r1⟩ := open_rowN (⟨ByteArray.empty, none, 0, [], none, 0, []⟩ : Cls) (by omega) Tryz.underlying28 cellsCls (fun _ => rfl) open_Cls h1
      obtain rfl := r1.1
      have L1 := open_len Tryz.underlying28 (e1 ▸ h1)
      have h2 : DataW.trod enc Tryz.prog w base (fun _ => true) held n 29 [c2] = some x2 := hf 2 _ rfl
      obtain ⟨A2, m2, k2, e2, l2, r2⟩ := open_rowN (⟨ByteArray.empty, 0⟩ : Glb) (by omega) Tryz.underlying29 cellsGlb (fun _ => rfl) open_Glb h2
      obtain rfl := r2.1
      have L2 := open_len Tryz.underlying29 (e2 ▸ h2)
      have h3 : DataW.trod enc Tryz.prog w base (fun _ => true) held n 30 [c3] = some x3 := hf 3 _ rfl
      obtain ⟨A3, m3, k3, e3, l3, r3⟩ := open_rowN (⟨ByteArray.empty, 0, 0, none, 0, []⟩ : Fn) (by omega) Tryz.underlying30 cellsFn (fun _ => rfl) open_Fn h3
      obtain rfl := r3.1
      have L3 := open_len Tryz.underlying30 (e3 ▸ h3)
      have h4 : DataW.trod enc Tryz.prog w base (fun _ => true) held n 31 [c4] = some x4 := hf 4 _ rfl
      obtain ⟨A4, m4, k4, e4, l4, r4⟩ := open_rowN (⟨ByteArray.empty, 0, 0, 0, 0, 0⟩ : Cmp) (by omega) Tryz.underlying31 cellsCmp (fun _ => rfl) open_Cmp h4
      obtain rfl := r4.1
      have L4 := open_len Tryz.underlying31 (e4 ▸ h4)
      have h5 : DataW.trod enc Tryz.prog w base (fun _ => true) held n 32 [c5] = some x5 := hf 5 _ rfl
      obtain ⟨A5, m5, k5, e5, l5, r5⟩ := open_rowN (⟨ByteArray.empty, 0, false, 0⟩ : Evt) (by omega) Tryz.underlying32 cellsEvt (fun _ => rfl) open_Evt h5
      obtain rfl := r5.1
      have L5 := open_len Tryz.underlying32 (e5 ▸ h5)
      have h6 : DataW.trod enc Tryz.prog w base (fun _ => true) held n 3 [c6] = some x6 := hf 6 _ rfl
      obtain ⟨z6, e6, _⟩ := open_z (by kernel_rfl) h6
      have h7 : DataW.trod enc Tryz.prog w base (fun _ => true) held n 33 [c7] = some x7 := hf 7 _ rfl
      obtain ⟨A7, m7, k7, e7, l7, r7⟩ := open_rowN (⟨0, 0⟩ : Sit) (by omega) Tryz.underlying33 cellsSit (fun _ => rfl) open_Sit h7
      obtain rfl := r7.1
      have L7 := open_len Tryz.underlying33 (e7 ▸ h7)
      simp only [List.cons.injEq, and_true] at e0 e1 e2 e3 e4 e5 e6 e7
      subst e0
      subst e1
      subst e2
      subst e3
      subst e4
      subst e5
      subst e6
      subst e7
      exact ⟨⟨A0, k0, l0, A1, k1, l1, A2, k2, l2, A3, k3, l3, A4, k4, l4, A5, k5, l5, z6, A7, k7, l7⟩, rfl, ⟨r0, r1, r2, r3, r4, r5, r7, L0, L1, L2, L3, L4, L5, L7⟩⟩
end Go.Proofs.YtfljmdpigckpkaaGreatDoor
