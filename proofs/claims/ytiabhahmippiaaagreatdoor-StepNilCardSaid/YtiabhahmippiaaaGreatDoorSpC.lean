/- The document's instr: may an instruction be? -/
import Derived.Test.YtiabhahmippiaaaGreatDoorSpB
namespace Go.Proofs.YtiabhahmippiaaaGreatDoor
open Go.RowKit Go.Shelf
attribute [local go_sem] Oper.semAt_some
def Ins.v (x : Ins) : Value := .agg #[.int .i64 x.op, .int .i64 x.a, .int .i64 x.b, .int .i64 x.c, .int .i64 x.n, .slice x.lA x.l.length x.lC, .int .i64 x.site, .int .i64 x.line]
def Ins.o (x : Ins) : Obj := .cells #[.int .i64 x.op, .int .i64 x.a, .int .i64 x.b, .int .i64 x.c, .int .i64 x.n, .slice x.lA x.l.length x.lC, .int .i64 x.site, .int .i64 x.line] 77 (0, 0)
def Fn.v (x : Fn) : Value := .agg #[.string x.name, .int .i64 x.caps, .int .i64 x.regs, .slice x.codeA x.code.length x.codeC]
def Fn.o (x : Fn) : Obj := .cells #[.string x.name, .int .i64 x.caps, .int .i64 x.regs, .slice x.codeA x.code.length x.codeC] 87 (0, 0)
theorem Ins.o_cells {w : World} {b : Nat} {x : Ins} (h : w.heap[b]? = some x.o) : w.cell? ⟨b, 0, none⟩ = some (.int .i64 x.op) ∧ w.cell? ⟨b, 1, none⟩ = some (.int .i64 x.a) ∧ w.cell? ⟨b, 2, none⟩ = some (.int .i64 x.b) ∧ w.cell? ⟨b, 3, none⟩ = some (.int .i64 x.c) ∧ w.cell? ⟨b, 4, none⟩ = some (.int .i64 x.n) ∧ w.cell? ⟨b, 5, none⟩ = some (.slice x.lA x.l.length x.lC) ∧ w.cell? ⟨b, 6, none⟩ = some (.int .i64 x.site) ∧ w.cell? ⟨b, 7, none⟩ = some (.int .i64 x.line) ∧ b < w.heap.size := by
  refine ⟨?_, ?_, ?_, ?_, ?_, ?_, ?_, ?_, (Array.getElem?_eq_some_iff.1 h).1⟩
  all_goals simp [World.cell?, h, Ins.o]
theorem Fn.o_cells {w : World} {b : Nat} {x : Fn} (h : w.heap[b]? = some x.o) : w.cell? ⟨b, 0, none⟩ = some (.string x.name) ∧ w.cell? ⟨b, 1, none⟩ = some (.int .i64 x.caps) ∧ w.cell? ⟨b, 2, none⟩ = some (.int .i64 x.regs) ∧ w.cell? ⟨b, 3, none⟩ = some (.slice x.codeA x.code.length x.codeC) ∧ b < w.heap.size := by
  refine ⟨?_, ?_, ?_, ?_, (Array.getElem?_eq_some_iff.1 h).1⟩
  all_goals simp [World.cell?, h, Fn.o]
def tailB (P : Prg) (f : Fn) (x : Ins) : Bool :=
  if x.op = 9 ∨ x.op = 10 then inI x.n P.glbs.length
  else if x.op = 14 then inI x.n P.clss.length
  else if x.op = 21 then inI x.n P.fns.length && ((P.fns[x.n.toNat]?).map fun g => g.caps == (x.l.length : Int)).getD false
  else if x.op = 23 then inI x.c P.loops.length && inI x.n 1000001
  else if x.op = 24 then inI x.c P.loops.length
  else if x.op = 26 ∨ x.op = 27 then inI x.n P.evts.length
  else if x.op = 31 ∨ x.op = 32 then inI x.n f.code.length
  else true
def rgA (x : Ins) (i : Nat) : Int := [x.a, x.b, x.c].getD i 0
/-- An instruction that may be, of a function. -/
structure InsOk (P : Prg) (f : Fn) (x : Ins) : Prop where
  op1 : 1 ≤ x.op
  op2 : x.op ≤ 33
  rg : ∀ i : Nat, (i : Int) < namedO x.op → inI (rgA x i) f.regs = true
  ls : ∀ (i : Nat) (h : i < x.l.length), x.op = 21 ∧ inI x.l[i] f.regs = true
  tl : tailB P f x = true
/-- What is answered, and what it says. -/
def AnsB (Q : Prop) (W : World) (e : Ending) (W' : World) : Prop := ∃ b : Bool, e = .returned (.bool b) ∧ (b = true → Q) ∧ Ext W W'
theorem AnsB.no {Q : Prop} {W W' : World} (k : Ext W W') : AnsB Q W (.returned (.bool false)) W' := ⟨false, rfl, fun h => (by cases h), k⟩
theorem AnsB.yes {Q : Prop} {W W' : World} (q : Q) (k : Ext W W') : AnsB Q W (.returned (.bool true)) W' := ⟨true, rfl, fun _ => q, k⟩
theorem AnsB.of {Q : Prop} {W W' : World} (b : Bool) (q : b = true → Q) (k : Ext W W') : AnsB Q W (.returned (.bool b)) W' := ⟨b, rfl, q, k⟩
/-- The boxes while an instruction is looked at. -/
structure IB (B b : Nat) (P : Prg) (f : Fn) (x : Ins) (w : World) : Prop where
  bp : w.heap[B]? = some P.o
  bf : w.heap[B + 1]? = some f.o
  bx : w.heap[B + 1 + 1]? = some x.o
  br : w.heap[b]? = some (.cells #[.int .i64 x.a, .int .i64 x.b, .int .i64 x.c] 3 (0, 0))
theorem IB.ext {B b : Nat} {P : Prg} {f : Fn} {x : Ins} {w w' : World} (h : IB B b P f x w) (k : Ext w w') : IB B b P f x w' :=
  have kk := k.kept (fun _ _ => true)
  ⟨kk.same _ _ h.bp rfl, kk.same _ _ h.bf rfl, kk.same _ _ h.bx rfl, kk.same _ _ h.br rfl⟩
theorem IB.reg {B b : Nat} {P : Prg} {f : Fn} {x : Ins} {w : World} (h : IB B b P f x w) {i : Nat} (hi : i < 3) : w.cell? ⟨b, i, none⟩ = some (.int .i64 (rgA x i)) ∧ b < w.heap.size := by
  refine ⟨?_, (Array.getElem?_eq_some_iff.1 h.br).1⟩
  match i, hi with
  | 0, _ => simp [World.cell?, h.br, rgA]
  | 1, _ => simp [World.cell?, h.br, rgA]
  | 2, _ => simp [World.cell?, h.br, rgA]
set_option maxHeartbeats 8000000 in
set_option maxRecDepth 100000 in
theorem instr_ok {P : Prg} {f : Fn} {x : Ins} {W : World} (hP : P.In W) (hX : x.In W) : Calls Tryz.prog 30 #[P.v, f.v, x.v] W (AnsB (InsOk P f x) W) := by
  unfold Prg.v Fn.v Ins.v
  obtain ⟨W3, hW3⟩ : ∃ W3, W3 = ((W.alloc P.o).alloc f.o).alloc x.o := ⟨_, rfl⟩
  have hE3 : Ext W W3 := by rw [hW3]; exact ((Ext.one _ _).trans (Ext.one _ _)).trans (Ext.one _ _)
  have k2 : Ext (W.alloc P.o) W3 := by rw [hW3]; exact (Ext.one _ _).trans (Ext.one _ _)
  have k3 : Ext ((W.alloc P.o).alloc f.o) W3 := by rw [hW3]; exact Ext.one _ _
  have hp3 : W3.heap[W.heap.size]? = some P.o := (k2.kept (fun _ _ => true)).same _ _ (World.alloc_heap_new _ _) rfl
  have hf3 : W3.heap[W.heap.size + 1]? = some f.o := (k3.kept (fun _ _ => true)).same _ _ (by have := World.alloc_heap_new (W.alloc P.o) f.o; rwa [World.size_alloc] at this) rfl
  have hx3 : W3.heap[W.heap.size + 1 + 1]? = some x.o := by rw [hW3]; have := World.alloc_heap_new ((W.alloc P.o).alloc f.o) x.o; rwa [World.size_alloc, World.size_alloc] at this
  obtain ⟨i0, i1, i2, i3, _, _, _, _, il⟩ := Ins.o_cells hx3
  have HE3 := Lib.hid hE3
  have HW := Lib.hid hW3
  have HB3 := Lib.hid (And.intro hp3 (And.intro hf3 hx3))
  have HP := Lib.hid hP
  have HXI := Lib.hid hX
  clear hE3 k2 k3 hp3 hf3 hx3 hW3 hP hX
  by_cases ho1 : x.op < 1
  · go_enter Tryz.func30, Tryz.ntmps30
    go_upto_region 1 with (fail)
    change Code.wp _ _ _ _ (((W.alloc P.o).alloc f.o).alloc x.o)
    rw [← HW.out]
    go_wp2_with fail
    go_ret
    exact AnsB.no HE3.out
  by_cases ho2 : x.op > 33
  · go_enter Tryz.func30, Tryz.ntmps30
    go_upto_region 1 with (fail)
    change Code.wp _ _ _ _ (((W.alloc P.o).alloc f.o).alloc x.o)
    rw [← HW.out]
    go_wp2_with fail
    go_ret
    exact AnsB.no HE3.out
  go_enter Tryz.func30, Tryz.ntmps30
  go_upto_region 1 with (fail)
  change Code.wp _ _ _ _ (((W.alloc P.o).alloc f.o).alloc x.o)
  rw [← HW.out]
  go_upto_region 4 with (fail)
  obtain ⟨W4, hW4⟩ : ∃ W4, W4 = W3.alloc (.cells #[.int .i64 x.a, .int .i64 x.b, .int .i64 x.c] 3) := ⟨_, rfl⟩
  rw [← hW4]
  have k4 : Ext W3 W4 := by rw [hW4]; exact Ext.one _ _
  have hb4 : IB W.heap.size W3.heap.size P f x W4 := by
    have kk := k4.kept (fun _ _ => true)
    obtain ⟨q1, q2, q3⟩ := HB3.out
    exact ⟨kk.same _ _ q1 rfl, kk.same _ _ q2 rfl, kk.same _ _ q3 rfl, by rw [hW4]; exact World.alloc_heap_new _ _⟩
  have HB4 := Lib.hid hb4
  have HE4 := Lib.hid (HE3.out.trans k4)
  clear k4 hW4 hb4 i0 i1 i2 i3 il HB3 HE3 HW
  generalize W3.heap.size = bR at *
  have hnm := namedO_le x.op
  have HNM := Lib.hid (fun w => Named_ok x.op (by omega) (by omega) w)
  have HOP := Lib.hid (show 1 ≤ x.op ∧ x.op ≤ 33 by omega)
  clear ho1 ho2
  obtain ⟨nm, hnm'⟩ : ∃ nm : Nat, (nm : Int) = namedO x.op := ⟨(namedO x.op).toNat, by omega⟩
  rw [← hnm'] at HNM hnm
  have HNE := Lib.hid hnm'
  clear hnm'
  go_wp2_with fail
  go_loopg [8] nm (fun k v8 wr => ∃ (i : Nat), i + k = nm ∧ v8 = .int .i64 i ∧ Ext W4 wr ∧ Go.RowKit.Hid (∀ j : Nat, j < i → inI (rgA x j) f.regs = true))
  case atStart => exact ⟨0, by omega, rfl, Ext.refl _, Lib.hid (fun j hj => absurd hj (Nat.not_lt_zero _))⟩
  case round =>
    obtain ⟨i, hik, rfl, hx, HR⟩ := hrel
    have hb := HB4.out.ext hx
    obtain ⟨i0, i1, i2, i3, i4, i5, _, _, il⟩ := Ins.o_cells hb.bx
    obtain ⟨_, _, f2, f3, fl⟩ := Fn.o_cells hb.bf
    have HX := Lib.hid hx
    rcases Nat.lt_or_ge i nm with hi | hi
    · obtain ⟨r0, rl⟩ := hb.reg (show i < 3 by omega)
      have z0 : (i : Int) < (nm : Int) := by omega
      have z3 : (i : Int) < 3 := by omega
      have hin := fun n => in_ok (rgA x i) f.regs (wr.drewN n)
      cases hc : inI (rgA x i) f.regs with
      | false =>
        rw [hc] at hin
        have HIN := Lib.hid hin
        generalize rgA x i = rv at r0 HIN
        clear hx hb hc hin hik
        go_wp2_with (go_at_call 62; refine (HNM.out _).mono ?_; rintro e w2 ⟨rfl, hw⟩; rw [hw]; clear hw)
        go_quiet (first | (go_at_call 37; exact Calls.quiet_of_same (HIN.out _)))
        go_wp2_with fail
        go_ret
        exact AnsB.no ((HE4.out.trans HX.out).trans (Ext.drewN _ _))
      | true =>
        have HR2 := Lib.hid (fun (j : Nat) (hj : j < i + 1) => show inI (rgA x j) f.regs = true by
          rcases Nat.lt_or_ge j i with q | q
          · exact HR.out j q
          · have : j = i := by omega
            rw [this]; exact hc)
        rw [hc] at hin
        have HIN := Lib.hid hin
        generalize rgA x i = rv at r0 HIN
        clear hx hb hc hin
        go_wp2_with (go_at_call 62; refine (HNM.out _).mono ?_; rintro e w2 ⟨rfl, hw⟩; rw [hw]; clear hw)
        go_quiet (first | (go_at_call 37; exact Calls.quiet_of_same (HIN.out _)))
        go_wp2_with fail
        go_roundg (gk - 1)
        case measure => omega
        case rel => exact ⟨i + 1, by omega, by go_num, HX.out.trans (Ext.drewN _ _), HR2⟩
    · have z0 : ¬ (i : Int) < (nm : Int) := by omega
      have HRG := Lib.hid (fun (j : Nat) (hj : (j : Int) < namedO x.op) => show inI (rgA x j) f.regs = true from HR.out j (by have := HNE.out; omega))
      have HB5 := Lib.hid hb
      have HE5 := Lib.hid (HE4.out.trans hx)
      clear hx hb hik hi
      go_wp2_with (go_at_call 62; refine (HNM.out _).mono ?_; rintro e w2 ⟨rfl, hw⟩; rw [hw]; clear hw)
      clear i0 i1 i2 i3 i4 i5 il f2 f3 fl z0 HB4
      go_loopg [9] x.l.length (fun k v9 wr => ∃ (i : Nat), i + k = x.l.length ∧ v9 = .int .i64 i ∧ Ext W wr ∧ IB W.heap.size bR P f x wr ∧ Go.RowKit.Hid (∀ (j : Nat) (h : j < x.l.length), j < i → x.op = 21 ∧ inI x.l[j] f.regs = true))
      case atStart => exact ⟨0, by omega, rfl, HE5.out, HB5.out, Lib.hid (fun j _ hj => absurd hj (Nat.not_lt_zero _))⟩
      case round =>
        clear HE5 HB5 HE4
        obtain ⟨i, hik, rfl, hx, hb, HR⟩ := hrel
        obtain ⟨i0, i1, i2, i3, i4, i5, _, _, il⟩ := Ins.o_cells hb.bx
        obtain ⟨_, _, f2, f3, fl⟩ := Fn.o_cells hb.bf
        obtain ⟨p0, p1, p2, p3, p4, p5, p6, p7, pl⟩ := Prg.o_cells hb.bp
        have HX := Lib.hid hx
        have HB := Lib.hid hb
        have hll := HXI.out.lL
        rcases Nat.lt_or_ge i x.l.length with hi | hi
        · have z0 : (i : Int) < (x.l.length : Int) := by omega
          by_cases h21 : x.op = 21
          · obtain ⟨g, off, e1, hgl, cl⟩ := Row1.at (HXI.out.kept hx).l hi
            have hin := fun n => in_ok x.l[i] f.regs (wr.drewN n)
            have z21 : (x.op != 21) = false := by simp [h21]
            have HRi := Lib.hid (fun (q : inI x.l[i] f.regs = true) (j : Nat) (h : j < x.l.length) (hj : j < i + 1) => show x.op = 21 ∧ inI x.l[j] f.regs = true by
              rcases Nat.lt_or_ge j i with q1 | q1
              · exact HR.out j h q1
              · have : j = i := by omega
                subst this
                exact ⟨h21, q⟩)
            rw [e1] at i5
            generalize x.l[i] = li at cl hin HRi
            unfold iV at cl
            clear e1 h21 hx hb
            cases hc : inI li f.regs with
            | false =>
              rw [hc] at hin
              have HIN := Lib.hid hin
              clear hin hc hik
              go_wp2_with fail
              go_quiet (first | (go_at_call 37; exact Calls.quiet_of_same (HIN.out _)))
              go_wp2_with fail
              go_ret
              exact AnsB.no (HX.out.trans (Ext.drewN _ _))
            | true =>
              rw [hc] at hin
              have HIN := Lib.hid hin
              have HR2 := Lib.hid (HRi.out hc)
              clear hin hc
              go_wp2_with fail
              go_quiet (first | (go_at_call 37; exact Calls.quiet_of_same (HIN.out _)))
              go_wp2_with fail
              go_roundg (gk - 1)
              case measure => omega
              case rel => exact ⟨i + 1, by omega, by go_num, HX.out.trans (Ext.drewN _ _), HB.out.ext (Ext.drewN _ _), HR2⟩
          · have z21 : (x.op != 21) = true := by simp [h21]
            clear h21 hx hb hik
            go_wp2_with fail
            go_quiet (fail)
            go_wp2_with fail
            go_ret
            exact AnsB.no (HX.out.trans (Ext.drewN _ _))
        · have z0 : ¬ (i : Int) < (x.l.length : Int) := by omega
          have HT := Lib.hid (fun (q : tailB P f x = true) => (⟨HOP.out.1, HOP.out.2, HRG.out, fun j h => HR.out j h (by omega), q⟩ : InsOk P f x))
          clear hx hb hik hi HR
          go_upto_region 14 with (fail)
          rcases ops33 HOP.out.1 HOP.out.2 with h | h | h | h | h | h | h | h | h | h | h | h | h | h | h | h | h | h | h | h | h | h | h | h | h | h | h | h | h | h | h | h | h
          · rw [h] at i0
            have HFIN := Lib.hid (HT.out (by simp [tailB, h]))
            clear h
            go_wp2_with fail
            go_ret
            exact AnsB.yes HFIN.out HX.out
          · rw [h] at i0
            have HFIN := Lib.hid (HT.out (by simp [tailB, h]))
            clear h
            go_wp2_with fail
            go_ret
            exact AnsB.yes HFIN.out HX.out
          · rw [h] at i0
            have HFIN := Lib.hid (HT.out (by simp [tailB, h]))
            clear h
            go_wp2_with fail
            go_ret
            exact AnsB.yes HFIN.out HX.out
          · rw [h] at i0
            have HFIN := Lib.hid (HT.out (by simp [tailB, h]))
            clear h
            go_wp2_with fail
            go_ret
            exact AnsB.yes HFIN.out HX.out
          · rw [h] at i0
            have HFIN := Lib.hid (HT.out (by simp [tailB, h]))
            clear h
            go_wp2_with fail
            go_ret
            exact AnsB.yes HFIN.out HX.out
          · rw [h] at i0
            have HFIN := Lib.hid (HT.out (by simp [tailB, h]))
            clear h
            go_wp2_with fail
            go_ret
            exact AnsB.yes HFIN.out HX.out
          · rw [h] at i0
            have HFIN := Lib.hid (HT.out (by simp [tailB, h]))
            clear h
            go_wp2_with fail
            go_ret
            exact AnsB.yes HFIN.out HX.out
          · rw [h] at i0
            have HFIN := Lib.hid (HT.out (by simp [tailB, h]))
            clear h
            go_wp2_with fail
            go_ret
            exact AnsB.yes HFIN.out HX.out
          · rw [h] at i0
            have HFIN := Lib.hid (fun (q : inI x.n P.glbs.length = true) => HT.out (by simp [tailB, h]; exact q))
            clear h
            go_wp2_with (go_at_call 37; refine (in_ok _ _ _).mono ?_; rintro e w2 ⟨rfl, hw⟩; rw [hw]; clear hw)
            go_ret
            exact AnsB.of _ HFIN.out HX.out
          · rw [h] at i0
            have HFIN := Lib.hid (fun (q : inI x.n P.glbs.length = true) => HT.out (by simp [tailB, h]; exact q))
            clear h
            go_wp2_with (go_at_call 37; refine (in_ok _ _ _).mono ?_; rintro e w2 ⟨rfl, hw⟩; rw [hw]; clear hw)
            go_ret
            exact AnsB.of _ HFIN.out HX.out
          · rw [h] at i0
            have HFIN := Lib.hid (HT.out (by simp [tailB, h]))
            clear h
            go_wp2_with fail
            go_ret
            exact AnsB.yes HFIN.out HX.out
          · rw [h] at i0
            have HFIN := Lib.hid (HT.out (by simp [tailB, h]))
            clear h
            go_wp2_with fail
            go_ret
            exact AnsB.yes HFIN.out HX.out
          · rw [h] at i0
            have HFIN := Lib.hid (HT.out (by simp [tailB, h]))
            clear h
            go_wp2_with fail
            go_ret
            exact AnsB.yes HFIN.out HX.out
          · rw [h] at i0
            have HFIN := Lib.hid (fun (q : inI x.n P.clss.length = true) => HT.out (by simp [tailB, h]; exact q))
            clear h
            go_wp2_with (go_at_call 37; refine (in_ok _ _ _).mono ?_; rintro e w2 ⟨rfl, hw⟩; rw [hw]; clear hw)
            go_ret
            exact AnsB.of _ HFIN.out HX.out
          · rw [h] at i0
            have HFIN := Lib.hid (HT.out (by simp [tailB, h]))
            clear h
            go_wp2_with fail
            go_ret
            exact AnsB.yes HFIN.out HX.out
          · rw [h] at i0
            have HFIN := Lib.hid (HT.out (by simp [tailB, h]))
            clear h
            go_wp2_with fail
            go_ret
            exact AnsB.yes HFIN.out HX.out
          · rw [h] at i0
            have HFIN := Lib.hid (HT.out (by simp [tailB, h]))
            clear h
            go_wp2_with fail
            go_ret
            exact AnsB.yes HFIN.out HX.out
          · rw [h] at i0
            have HFIN := Lib.hid (HT.out (by simp [tailB, h]))
            clear h
            go_wp2_with fail
            go_ret
            exact AnsB.yes HFIN.out HX.out
          · rw [h] at i0
            have HFIN := Lib.hid (HT.out (by simp [tailB, h]))
            clear h
            go_wp2_with fail
            go_ret
            exact AnsB.yes HFIN.out HX.out
          · rw [h] at i0
            have HFIN := Lib.hid (HT.out (by simp [tailB, h]))
            clear h
            go_wp2_with fail
            go_ret
            exact AnsB.yes HFIN.out HX.out
          · rw [h] at i0
            have hin := fun n => in_ok x.n P.fns.length (wr.drewN n)
            cases hc : inI x.n P.fns.length with
            | false =>
              rw [hc] at hin
              have HIN := Lib.hid hin
              clear h hin hc
              go_upto_region 21 with (fail)
              go_quiet (first | (go_at_call 37; exact Calls.quiet_of_same (HIN.out _)))
              go_wp2_with fail
              go_ret
              exact AnsB.no (HX.out.trans (Ext.drewN _ _))
            | true =>
              rw [hc] at hin
              have HIN := Lib.hid hin
              obtain ⟨kf, hkf, hlf⟩ := inI_true hc
              have hkf' : kf < P.fns.length := by omega
              obtain ⟨gf, offf, ef, hgf, _, _, cf, _, _⟩ := Prg.fn_at (HP.out.kept HX.out) hkf'
              have hfin : P.fns[kf].caps = (x.l.length : Int) → tailB P f x = true := fun q => by
                have h9 : x.n.toNat = kf := by omega
                simp [tailB, h, hc, h9, hkf', q]
              have HFIN := Lib.hid hfin
              generalize P.fns[kf].caps = zc at cf HFIN
              rw [hkf] at i4 HIN
              rw [ef] at p3
              clear h hin hc ef hfin hkf
              by_cases hz : zc = (x.l.length : Int)
              · have hz' : (zc == (x.l.length : Int)) = true := by simpa using hz
                have HF2 := Lib.hid (HT.out (HFIN.out hz))
                clear hz
                go_upto_region 21 with (fail)
                go_quiet (first | (go_at_call 37; exact Calls.quiet_of_same (HIN.out _)))
                go_wp2_with fail
                go_ret
                exact AnsB.yes HF2.out (HX.out.trans (Ext.drewN _ _))
              · have hz' : (zc == (x.l.length : Int)) = false := by simpa using hz
                clear hz
                go_upto_region 21 with (fail)
                go_quiet (first | (go_at_call 37; exact Calls.quiet_of_same (HIN.out _)))
                go_wp2_with fail
                go_ret
                exact AnsB.no (HX.out.trans (Ext.drewN _ _))
          · rw [h] at i0
            have HFIN := Lib.hid (HT.out (by simp [tailB, h]))
            clear h
            go_wp2_with fail
            go_ret
            exact AnsB.yes HFIN.out HX.out
          · rw [h] at i0
            have hin := fun w => in_ok x.c P.loops.length w
            cases hc : inI x.c P.loops.length with
            | false =>
              rw [hc] at hin
              have HIN := Lib.hid hin
              clear h hin hc
              go_wp2_with (go_at_call 37; refine (HIN.out _).mono ?_; rintro e w2 ⟨rfl, hw⟩; rw [hw]; clear hw)
              go_ret
              exact AnsB.no HX.out
            | true =>
              rw [hc] at hin
              have HIN := Lib.hid hin
              have HFIN := Lib.hid (fun (q : inI x.n 1000001 = true) => HT.out (by simp [tailB, h, hc]; exact q))
              clear h hin hc
              go_wp2_with (first
                | (go_at_call 37; with_reducible refine (HIN.out _).mono ?_; rintro e w2 ⟨rfl, hw⟩; rw [hw]; clear hw)
                | (go_at_call 37; with_reducible refine (in_ok x.n 1000001 _).mono ?_; rintro e w2 ⟨rfl, hw⟩; rw [hw]; clear hw))
              go_ret
              exact AnsB.of _ HFIN.out HX.out
          · rw [h] at i0
            have HFIN := Lib.hid (fun (q : inI x.c P.loops.length = true) => HT.out (by simp [tailB, h]; exact q))
            clear h
            go_wp2_with (go_at_call 37; refine (in_ok _ _ _).mono ?_; rintro e w2 ⟨rfl, hw⟩; rw [hw]; clear hw)
            go_ret
            exact AnsB.of _ HFIN.out HX.out
          · rw [h] at i0
            have HFIN := Lib.hid (HT.out (by simp [tailB, h]))
            clear h
            go_wp2_with fail
            go_ret
            exact AnsB.yes HFIN.out HX.out
          · rw [h] at i0
            have HFIN := Lib.hid (fun (q : inI x.n P.evts.length = true) => HT.out (by simp [tailB, h]; exact q))
            clear h
            go_wp2_with (go_at_call 37; refine (in_ok _ _ _).mono ?_; rintro e w2 ⟨rfl, hw⟩; rw [hw]; clear hw)
            go_ret
            exact AnsB.of _ HFIN.out HX.out
          · rw [h] at i0
            have HFIN := Lib.hid (fun (q : inI x.n P.evts.length = true) => HT.out (by simp [tailB, h]; exact q))
            clear h
            go_wp2_with (go_at_call 37; refine (in_ok _ _ _).mono ?_; rintro e w2 ⟨rfl, hw⟩; rw [hw]; clear hw)
            go_ret
            exact AnsB.of _ HFIN.out HX.out
          · rw [h] at i0
            have HFIN := Lib.hid (HT.out (by simp [tailB, h]))
            clear h
            go_wp2_with fail
            go_ret
            exact AnsB.yes HFIN.out HX.out
          · rw [h] at i0
            have HFIN := Lib.hid (HT.out (by simp [tailB, h]))
            clear h
            go_wp2_with fail
            go_ret
            exact AnsB.yes HFIN.out HX.out
          · rw [h] at i0
            have HFIN := Lib.hid (HT.out (by simp [tailB, h]))
            clear h
            go_wp2_with fail
            go_ret
            exact AnsB.yes HFIN.out HX.out
          · rw [h] at i0
            have HFIN := Lib.hid (fun (q : inI x.n f.code.length = true) => HT.out (by simp [tailB, h]; exact q))
            clear h
            go_wp2_with (go_at_call 37; refine (in_ok _ _ _).mono ?_; rintro e w2 ⟨rfl, hw⟩; rw [hw]; clear hw)
            go_ret
            exact AnsB.of _ HFIN.out HX.out
          · rw [h] at i0
            have HFIN := Lib.hid (fun (q : inI x.n f.code.length = true) => HT.out (by simp [tailB, h]; exact q))
            clear h
            go_wp2_with (go_at_call 37; refine (in_ok _ _ _).mono ?_; rintro e w2 ⟨rfl, hw⟩; rw [hw]; clear hw)
            go_ret
            exact AnsB.of _ HFIN.out HX.out
          · rw [h] at i0
            have HFIN := Lib.hid (HT.out (by simp [tailB, h]))
            clear h
            go_wp2_with fail
            go_ret
            exact AnsB.yes HFIN.out HX.out
end Go.Proofs.YtiabhahmippiaaaGreatDoor
