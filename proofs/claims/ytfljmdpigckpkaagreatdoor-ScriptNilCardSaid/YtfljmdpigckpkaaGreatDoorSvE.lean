/- The program's numbersMayBe: yes of an instruction that may be. Written by genVE.py. -/
import Derived.Test.YtfljmdpigckpkaaGreatDoorSvD
namespace Go.Proofs.YtfljmdpigckpkaaGreatDoor
open Go.RowKit Go.Shelf
attribute [local go_sem] Oper.semAt_some
/-- The boxes of a program, a function, an instruction. -/
structure Box3 (B : Nat) (P : Prg) (f : Fn) (x : Ins) (w : World) : Prop where
  bp : w.heap[B]? = some P.o
  bf : w.heap[B + 1]? = some f.o
  bx : w.heap[B + 1 + 1]? = some x.o
theorem Box3.new (P : Prg) (f : Fn) (x : Ins) (W : World) : Box3 W.heap.size P f x (((W.alloc P.o).alloc f.o).alloc x.o) := by
  have k2 : Ext (W.alloc P.o) (((W.alloc P.o).alloc f.o).alloc x.o) := (Ext.one _ _).trans (Ext.one _ _)
  have k3 : Ext ((W.alloc P.o).alloc f.o) (((W.alloc P.o).alloc f.o).alloc x.o) := Ext.one _ _
  refine ⟨(k2.kept (fun _ _ => true)).same _ _ (World.alloc_heap_new _ _) rfl, (k3.kept (fun _ _ => true)).same _ _ (by have := World.alloc_heap_new (W.alloc P.o) f.o; rwa [World.size_alloc] at this) rfl, ?_⟩
  have := World.alloc_heap_new ((W.alloc P.o).alloc f.o) x.o
  rwa [World.size_alloc, World.size_alloc] at this
set_option maxHeartbeats 8000000 in
set_option maxRecDepth 100000 in
theorem numbersA {P : Prg} {f : Fn} {x : Ins} {W : World} (hi : InsOk P f x) (hop : x.op = 9 ∨ x.op = 10) : Calls Tryz.prog 283 #[P.v, f.v, x.v] W fun e W' => e = .returned (.bool true) ∧ Ext W W' := by
  have tl := hi.tl
  unfold tailB at tl
  have tl2 : inI x.n P.glbs.length = true := by rcases hop with ho | ho <;> simpa [ho] using tl
  unfold Prg.v
  unfold Fn.v Ins.v
  obtain ⟨W3, hW3⟩ : ∃ W3, W3 = ((W.alloc P.o).alloc f.o).alloc x.o := ⟨_, rfl⟩
  have hE3 : Ext W W3 := by rw [hW3]; exact ((Ext.one _ _).trans (Ext.one _ _)).trans (Ext.one _ _)
  have hb3 : Box3 W.heap.size P f x W3 := by rw [hW3]; exact Box3.new P f x W
  obtain ⟨x0, x1, x2, x3, x4, x5, x6, x7, xl⟩ := Prg.o_cells hb3.bp
  obtain ⟨f0, f1, f2, f3, fl⟩ := Fn.o_cells hb3.bf
  obtain ⟨i0, i1, i2, i3, i4, i5, i6, i7, il⟩ := Ins.o_cells hb3.bx
  have HE3 := Lib.hid hE3
  have HW := Lib.hid hW3
  have HA := Lib.hid (tl2 ▸ amongL_ok x.n P.glbs.length W3)
  clear hE3 hb3 hW3 hi tl tl2
  rcases hop with ho | ho
  all_goals
    rw [ho] at i0
    clear ho
    go_enter Tryz.func283, Tryz.ntmps283
    go_upto_region 1 with (fail)
    change Code.wp _ _ _ _ (((W.alloc P.o).alloc f.o).alloc x.o)
    rw [← HW.out]
    go_wp2_with (go_at_call 294; refine HA.out.mono ?_; rintro e w2 ⟨rfl, hw⟩; rw [hw]; clear hw)
    go_ret
    exact ⟨rfl, HE3.out⟩
set_option maxHeartbeats 8000000 in
set_option maxRecDepth 100000 in
theorem numbersB {P : Prg} {f : Fn} {x : Ins} {W : World} (hP : P.In W) (hi : InsOk P f x) (hty : x.op = 11 → typB P x.n = true) (hop : x.op = 11) : Calls Tryz.prog 283 #[P.v, f.v, x.v] W fun e W' => e = .returned (.bool true) ∧ Ext W W' := by
  have tl := hi.tl
  unfold tailB at tl
  have ht := hty hop
  have hT := fun (w : World) (k : Ext W w) => isType_ok (hP.kept k) ht
  unfold Prg.v at hT ⊢
  unfold Fn.v Ins.v
  obtain ⟨W3, hW3⟩ : ∃ W3, W3 = ((W.alloc P.o).alloc f.o).alloc x.o := ⟨_, rfl⟩
  have hE3 : Ext W W3 := by rw [hW3]; exact ((Ext.one _ _).trans (Ext.one _ _)).trans (Ext.one _ _)
  have hb3 : Box3 W.heap.size P f x W3 := by rw [hW3]; exact Box3.new P f x W
  obtain ⟨x0, x1, x2, x3, x4, x5, x6, x7, xl⟩ := Prg.o_cells hb3.bp
  obtain ⟨f0, f1, f2, f3, fl⟩ := Fn.o_cells hb3.bf
  obtain ⟨i0, i1, i2, i3, i4, i5, i6, i7, il⟩ := Ins.o_cells hb3.bx
  have HE3 := Lib.hid hE3
  have HW := Lib.hid hW3
  have HT := Lib.hid (hT W3 hE3)
  clear hE3 hb3 hW3 hi tl ht hT hP hty
  have ho := hop
  clear hop
  all_goals
    rw [ho] at i0
    clear ho
    go_enter Tryz.func283, Tryz.ntmps283
    go_upto_region 1 with (fail)
    change Code.wp _ _ _ _ (((W.alloc P.o).alloc f.o).alloc x.o)
    rw [← HW.out]
    go_wp2_with (go_at_call 280; refine HT.out.mono ?_; rintro e w2 ⟨rfl, hx2⟩; have HX2 := Lib.hid hx2; clear hx2)
    go_ret
    exact ⟨rfl, HE3.out.trans HX2.out⟩
set_option maxHeartbeats 8000000 in
set_option maxRecDepth 100000 in
theorem numbersC {P : Prg} {f : Fn} {x : Ins} {W : World} (hi : InsOk P f x) (hop : x.op = 14) : Calls Tryz.prog 283 #[P.v, f.v, x.v] W fun e W' => e = .returned (.bool true) ∧ Ext W W' := by
  have tl := hi.tl
  unfold tailB at tl
  have tl2 : inI x.n P.clss.length = true := by have ho := hop; simpa [ho] using tl
  unfold Prg.v
  unfold Fn.v Ins.v
  obtain ⟨W3, hW3⟩ : ∃ W3, W3 = ((W.alloc P.o).alloc f.o).alloc x.o := ⟨_, rfl⟩
  have hE3 : Ext W W3 := by rw [hW3]; exact ((Ext.one _ _).trans (Ext.one _ _)).trans (Ext.one _ _)
  have hb3 : Box3 W.heap.size P f x W3 := by rw [hW3]; exact Box3.new P f x W
  obtain ⟨x0, x1, x2, x3, x4, x5, x6, x7, xl⟩ := Prg.o_cells hb3.bp
  obtain ⟨f0, f1, f2, f3, fl⟩ := Fn.o_cells hb3.bf
  obtain ⟨i0, i1, i2, i3, i4, i5, i6, i7, il⟩ := Ins.o_cells hb3.bx
  have HE3 := Lib.hid hE3
  have HW := Lib.hid hW3
  have HA := Lib.hid (tl2 ▸ amongL_ok x.n P.clss.length W3)
  clear hE3 hb3 hW3 hi tl tl2
  have ho := hop
  clear hop
  all_goals
    rw [ho] at i0
    clear ho
    go_enter Tryz.func283, Tryz.ntmps283
    go_upto_region 1 with (fail)
    change Code.wp _ _ _ _ (((W.alloc P.o).alloc f.o).alloc x.o)
    rw [← HW.out]
    go_wp2_with (go_at_call 294; refine HA.out.mono ?_; rintro e w2 ⟨rfl, hw⟩; rw [hw]; clear hw)
    go_ret
    exact ⟨rfl, HE3.out⟩
set_option maxHeartbeats 8000000 in
set_option maxRecDepth 100000 in
theorem numbersD {P : Prg} {f : Fn} {x : Ins} {W : World} (hP : P.In W) (hi : InsOk P f x) (hop : x.op = 21) : Calls Tryz.prog 283 #[P.v, f.v, x.v] W fun e W' => e = .returned (.bool true) ∧ Ext W W' := by
  have tl := hi.tl
  unfold tailB at tl
  have tl2 : inI x.n P.fns.length = true ∧ ((P.fns[x.n.toNat]?).map fun g => g.caps == (x.l.length : Int)).getD false = true := by simpa [hop] using tl
  obtain ⟨hin, hcp⟩ := tl2
  obtain ⟨k, hk, hkl⟩ := inI_true hin
  have hk' : k < P.fns.length := by omega
  rw [hk] at hin hcp
  have hcp2 : (P.fns[k]).caps = (x.l.length : Int) := by simpa [hk'] using hcp
  unfold Prg.v
  unfold Fn.v Ins.v
  obtain ⟨W3, hW3⟩ : ∃ W3, W3 = ((W.alloc P.o).alloc f.o).alloc x.o := ⟨_, rfl⟩
  have hE3 : Ext W W3 := by rw [hW3]; exact ((Ext.one _ _).trans (Ext.one _ _)).trans (Ext.one _ _)
  have hb3 : Box3 W.heap.size P f x W3 := by rw [hW3]; exact Box3.new P f x W
  obtain ⟨x0, x1, x2, x3, x4, x5, x6, x7, xl⟩ := Prg.o_cells hb3.bp
  obtain ⟨f0, f1, f2, f3, fl⟩ := Fn.o_cells hb3.bf
  obtain ⟨i0, i1, i2, i3, i4, i5, i6, i7, il⟩ := Ins.o_cells hb3.bx
  have HE3 := Lib.hid hE3
  have HW := Lib.hid hW3
  obtain ⟨g, off, e1, hgl, _, _, c1, _, _⟩ := Prg.fn_at (hP.kept hE3) hk'
  rw [hcp2] at c1
  rw [hk] at i4
  rw [e1] at x3
  have HA := Lib.hid (fun w => hin ▸ amongL_ok k P.fns.length w)
  have z1 : ((x.l.length : Int) == (x.l.length : Int)) = true := by simp
  clear hE3 hb3 hW3 hi tl e1 hin hk hcp hcp2 hP
  have ho := hop
  clear hop
  all_goals
    rw [ho] at i0
    clear ho
    go_enter Tryz.func283, Tryz.ntmps283
    go_upto_region 1 with (fail)
    change Code.wp _ _ _ _ (((W.alloc P.o).alloc f.o).alloc x.o)
    rw [← HW.out]
    go_wp2_with fail
    go_quiet (first | (go_at_call 294; exact Calls.quiet_of_same (HA.out _)))
    go_wp2_with fail
    go_ret
    exact ⟨rfl, HE3.out.trans (Ext.drewN _ _)⟩
set_option maxHeartbeats 8000000 in
set_option maxRecDepth 100000 in
theorem numbersE {P : Prg} {f : Fn} {x : Ins} {W : World} (hi : InsOk P f x) (hop : x.op = 23) : Calls Tryz.prog 283 #[P.v, f.v, x.v] W fun e W' => e = .returned (.bool true) ∧ Ext W W' := by
  have tl := hi.tl
  unfold tailB at tl
  have tl2 : inI x.c P.loops.length = true ∧ inI x.n 1000001 = true := by have ho := hop; simpa [ho] using tl
  unfold Prg.v
  unfold Fn.v Ins.v
  obtain ⟨W3, hW3⟩ : ∃ W3, W3 = ((W.alloc P.o).alloc f.o).alloc x.o := ⟨_, rfl⟩
  have hE3 : Ext W W3 := by rw [hW3]; exact ((Ext.one _ _).trans (Ext.one _ _)).trans (Ext.one _ _)
  have hb3 : Box3 W.heap.size P f x W3 := by rw [hW3]; exact Box3.new P f x W
  obtain ⟨x0, x1, x2, x3, x4, x5, x6, x7, xl⟩ := Prg.o_cells hb3.bp
  obtain ⟨f0, f1, f2, f3, fl⟩ := Fn.o_cells hb3.bf
  obtain ⟨i0, i1, i2, i3, i4, i5, i6, i7, il⟩ := Ins.o_cells hb3.bx
  have HE3 := Lib.hid hE3
  have HW := Lib.hid hW3
  have HA := Lib.hid (tl2.1 ▸ amongI_ok x.c P.loops.length W3)
  have HA2 := Lib.hid (tl2.2 ▸ amongL_ok x.n 1000001 W3)
  clear hE3 hb3 hW3 hi tl tl2
  have ho := hop
  clear hop
  all_goals
    rw [ho] at i0
    clear ho
    go_enter Tryz.func283, Tryz.ntmps283
    go_upto_region 1 with (fail)
    change Code.wp _ _ _ _ (((W.alloc P.o).alloc f.o).alloc x.o)
    rw [← HW.out]
    go_wp2_with (first
      | (go_at_call 272; refine HA.out.mono ?_; rintro e w2 ⟨rfl, hw⟩; rw [hw]; clear hw)
      | (go_at_call 294; refine HA2.out.mono ?_; rintro e w2 ⟨rfl, hw⟩; rw [hw]; clear hw))
    go_ret
    exact ⟨rfl, HE3.out⟩
set_option maxHeartbeats 8000000 in
set_option maxRecDepth 100000 in
theorem numbersF {P : Prg} {f : Fn} {x : Ins} {W : World} (hi : InsOk P f x) (hop : x.op = 24) : Calls Tryz.prog 283 #[P.v, f.v, x.v] W fun e W' => e = .returned (.bool true) ∧ Ext W W' := by
  have tl := hi.tl
  unfold tailB at tl
  have tl2 : inI x.c P.loops.length = true := by have ho := hop; simpa [ho] using tl
  unfold Prg.v
  unfold Fn.v Ins.v
  obtain ⟨W3, hW3⟩ : ∃ W3, W3 = ((W.alloc P.o).alloc f.o).alloc x.o := ⟨_, rfl⟩
  have hE3 : Ext W W3 := by rw [hW3]; exact ((Ext.one _ _).trans (Ext.one _ _)).trans (Ext.one _ _)
  have hb3 : Box3 W.heap.size P f x W3 := by rw [hW3]; exact Box3.new P f x W
  obtain ⟨x0, x1, x2, x3, x4, x5, x6, x7, xl⟩ := Prg.o_cells hb3.bp
  obtain ⟨f0, f1, f2, f3, fl⟩ := Fn.o_cells hb3.bf
  obtain ⟨i0, i1, i2, i3, i4, i5, i6, i7, il⟩ := Ins.o_cells hb3.bx
  have HE3 := Lib.hid hE3
  have HW := Lib.hid hW3
  have HA := Lib.hid (tl2 ▸ amongI_ok x.c P.loops.length W3)
  clear hE3 hb3 hW3 hi tl tl2
  have ho := hop
  clear hop
  all_goals
    rw [ho] at i0
    clear ho
    go_enter Tryz.func283, Tryz.ntmps283
    go_upto_region 1 with (fail)
    change Code.wp _ _ _ _ (((W.alloc P.o).alloc f.o).alloc x.o)
    rw [← HW.out]
    go_wp2_with (go_at_call 272; refine HA.out.mono ?_; rintro e w2 ⟨rfl, hw⟩; rw [hw]; clear hw)
    go_ret
    exact ⟨rfl, HE3.out⟩
set_option maxHeartbeats 8000000 in
set_option maxRecDepth 100000 in
theorem numbersG {P : Prg} {f : Fn} {x : Ins} {W : World} (hi : InsOk P f x) (hop : x.op = 26 ∨ x.op = 27) : Calls Tryz.prog 283 #[P.v, f.v, x.v] W fun e W' => e = .returned (.bool true) ∧ Ext W W' := by
  have tl := hi.tl
  unfold tailB at tl
  have tl2 : inI x.n P.evts.length = true := by rcases hop with ho | ho <;> simpa [ho] using tl
  unfold Prg.v
  unfold Fn.v Ins.v
  obtain ⟨W3, hW3⟩ : ∃ W3, W3 = ((W.alloc P.o).alloc f.o).alloc x.o := ⟨_, rfl⟩
  have hE3 : Ext W W3 := by rw [hW3]; exact ((Ext.one _ _).trans (Ext.one _ _)).trans (Ext.one _ _)
  have hb3 : Box3 W.heap.size P f x W3 := by rw [hW3]; exact Box3.new P f x W
  obtain ⟨x0, x1, x2, x3, x4, x5, x6, x7, xl⟩ := Prg.o_cells hb3.bp
  obtain ⟨f0, f1, f2, f3, fl⟩ := Fn.o_cells hb3.bf
  obtain ⟨i0, i1, i2, i3, i4, i5, i6, i7, il⟩ := Ins.o_cells hb3.bx
  have HE3 := Lib.hid hE3
  have HW := Lib.hid hW3
  have HA := Lib.hid (tl2 ▸ amongL_ok x.n P.evts.length W3)
  clear hE3 hb3 hW3 hi tl tl2
  rcases hop with ho | ho
  all_goals
    rw [ho] at i0
    clear ho
    go_enter Tryz.func283, Tryz.ntmps283
    go_upto_region 1 with (fail)
    change Code.wp _ _ _ _ (((W.alloc P.o).alloc f.o).alloc x.o)
    rw [← HW.out]
    go_wp2_with (go_at_call 294; refine HA.out.mono ?_; rintro e w2 ⟨rfl, hw⟩; rw [hw]; clear hw)
    go_ret
    exact ⟨rfl, HE3.out⟩
set_option maxHeartbeats 8000000 in
set_option maxRecDepth 100000 in
theorem numbersH {P : Prg} {f : Fn} {x : Ins} {W : World} (hi : InsOk P f x) (hop : x.op = 31 ∨ x.op = 32) : Calls Tryz.prog 283 #[P.v, f.v, x.v] W fun e W' => e = .returned (.bool true) ∧ Ext W W' := by
  have tl := hi.tl
  unfold tailB at tl
  have tl2 : inI x.n f.code.length = true := by rcases hop with ho | ho <;> simpa [ho] using tl
  unfold Prg.v
  unfold Fn.v Ins.v
  obtain ⟨W3, hW3⟩ : ∃ W3, W3 = ((W.alloc P.o).alloc f.o).alloc x.o := ⟨_, rfl⟩
  have hE3 : Ext W W3 := by rw [hW3]; exact ((Ext.one _ _).trans (Ext.one _ _)).trans (Ext.one _ _)
  have hb3 : Box3 W.heap.size P f x W3 := by rw [hW3]; exact Box3.new P f x W
  obtain ⟨x0, x1, x2, x3, x4, x5, x6, x7, xl⟩ := Prg.o_cells hb3.bp
  obtain ⟨f0, f1, f2, f3, fl⟩ := Fn.o_cells hb3.bf
  obtain ⟨i0, i1, i2, i3, i4, i5, i6, i7, il⟩ := Ins.o_cells hb3.bx
  have HE3 := Lib.hid hE3
  have HW := Lib.hid hW3
  have HA := Lib.hid (tl2 ▸ amongL_ok x.n f.code.length W3)
  clear hE3 hb3 hW3 hi tl tl2
  rcases hop with ho | ho
  all_goals
    rw [ho] at i0
    clear ho
    go_enter Tryz.func283, Tryz.ntmps283
    go_upto_region 1 with (fail)
    change Code.wp _ _ _ _ (((W.alloc P.o).alloc f.o).alloc x.o)
    rw [← HW.out]
    go_wp2_with (go_at_call 294; refine HA.out.mono ?_; rintro e w2 ⟨rfl, hw⟩; rw [hw]; clear hw)
    go_ret
    exact ⟨rfl, HE3.out⟩
set_option maxHeartbeats 8000000 in
set_option maxRecDepth 100000 in
theorem numbersZ {P : Prg} {f : Fn} {x : Ins} {W : World} (hi : InsOk P f x) (hop : x.op = 1 ∨ x.op = 2 ∨ x.op = 3 ∨ x.op = 4 ∨ x.op = 5 ∨ x.op = 6 ∨ x.op = 7 ∨ x.op = 8 ∨ x.op = 12 ∨ x.op = 13 ∨ x.op = 15 ∨ x.op = 16 ∨ x.op = 17 ∨ x.op = 18 ∨ x.op = 19 ∨ x.op = 20 ∨ x.op = 22 ∨ x.op = 25 ∨ x.op = 28 ∨ x.op = 29 ∨ x.op = 30 ∨ x.op = 33) : Calls Tryz.prog 283 #[P.v, f.v, x.v] W fun e W' => e = .returned (.bool true) ∧ Ext W W' := by
  have tl := hi.tl
  unfold tailB at tl
  unfold Prg.v
  unfold Fn.v Ins.v
  obtain ⟨W3, hW3⟩ : ∃ W3, W3 = ((W.alloc P.o).alloc f.o).alloc x.o := ⟨_, rfl⟩
  have hE3 : Ext W W3 := by rw [hW3]; exact ((Ext.one _ _).trans (Ext.one _ _)).trans (Ext.one _ _)
  have hb3 : Box3 W.heap.size P f x W3 := by rw [hW3]; exact Box3.new P f x W
  obtain ⟨x0, x1, x2, x3, x4, x5, x6, x7, xl⟩ := Prg.o_cells hb3.bp
  obtain ⟨f0, f1, f2, f3, fl⟩ := Fn.o_cells hb3.bf
  obtain ⟨i0, i1, i2, i3, i4, i5, i6, i7, il⟩ := Ins.o_cells hb3.bx
  have HE3 := Lib.hid hE3
  have HW := Lib.hid hW3
  clear hE3 hb3 hW3 hi tl
  rcases hop with ho | ho | ho | ho | ho | ho | ho | ho | ho | ho | ho | ho | ho | ho | ho | ho | ho | ho | ho | ho | ho | ho
  all_goals
    rw [ho] at i0
    clear ho
    go_enter Tryz.func283, Tryz.ntmps283
    go_upto_region 1 with (fail)
    change Code.wp _ _ _ _ (((W.alloc P.o).alloc f.o).alloc x.o)
    rw [← HW.out]
    go_wp2_with fail
    go_ret
    exact ⟨rfl, HE3.out⟩
theorem numbers_ok {P : Prg} {f : Fn} {x : Ins} {W : World} (hP : P.In W) (hi : InsOk P f x) (hty : x.op = 11 → typB P x.n = true) : Calls Tryz.prog 283 #[P.v, f.v, x.v] W fun e W' => e = .returned (.bool true) ∧ Ext W W' := by
  have h1 := hi.op1
  have h2 := hi.op2
  by_cases hA : x.op = 9 ∨ x.op = 10
  · exact numbersA hi hA
  by_cases hB : x.op = 11
  · exact numbersB hP hi hty hB
  by_cases hC : x.op = 14
  · exact numbersC hi hC
  by_cases hD : x.op = 21
  · exact numbersD hP hi hD
  by_cases hE : x.op = 23
  · exact numbersE hi hE
  by_cases hF : x.op = 24
  · exact numbersF hi hF
  by_cases hG : x.op = 26 ∨ x.op = 27
  · exact numbersG hi hG
  by_cases hH : x.op = 31 ∨ x.op = 32
  · exact numbersH hi hH
  exact numbersZ hi (by omega)
end Go.Proofs.YtfljmdpigckpkaaGreatDoor
