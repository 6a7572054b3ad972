/- The program's mayBe: yes of a program that may be. -/
import Derived.Test.YtfljmdpigckpkaaGreatDoorSvG
import Derived.Test.YtfljmdpigckpkaaGreatDoorSvH
namespace Go.Proofs.YtfljmdpigckpkaaGreatDoor
open Go.RowKit Go.Shelf
attribute [local go_sem] Oper.semAt_some
set_option maxHeartbeats 8000000 in
set_option maxRecDepth 100000 in
theorem mayBe_ok {P : Prg} {W : World} (hT : Tab W) (h : P.In W) (hg : GoodP P) (hL : NoL P) : Calls Tryz.prog 135 #[P.v] W fun e W' => e = .returned (.bool true) ∧ Ext W W' := by
  have H1 := Lib.hid (fun w => countsMayBe_ok w hg)
  have H2 := Lib.hid (fun (w : World) (k : Ext W w) => valuesMayBe_ok (h.kept k) hg)
  have H3 := Lib.hid (fun (w : World) (k : Ext W w) => tasksMayBe_ok (h.kept k) hg)
  have H4 := Lib.hid (fun (w : World) (k : Ext W w) => codeMayBe_ok (hT.ext k) (h.kept k) hg hL)
  have H5 := Lib.hid (fun (w : World) (k : Ext W w) => sitesMayBe_ok (h.kept k) hg)
  unfold Prg.v at H1 H2 H3 H4 H5 ⊢
  obtain ⟨W1, hW1⟩ : ∃ W1, W1 = W.alloc P.o := ⟨_, rfl⟩
  have hE1 : Ext W W1 := by rw [hW1]; exact Ext.one _ _
  have hb1 : W1.heap[W.heap.size]? = some P.o := by rw [hW1]; exact World.alloc_heap_new _ _
  obtain ⟨x0, x1, x2, x3, x4, x5, x6, x7, xl⟩ := Prg.o_cells hb1
  have E1 := Lib.hid hE1
  have HB1 := Lib.hid hb1
  have HW := Lib.hid hW1
  clear hE1 hb1 hW1 h hg hT hL
  go_enter Tryz.func135, Tryz.ntmps135
  go_upto_region 1 with (fail)
  change Code.wp _ _ _ _ (W.alloc P.o)
  rw [← HW.out]
  go_wp2_with (first
    | (go_at_call 201; refine (H5.out _ E5.out).mono ?_; rintro e w2 ⟨rfl, hx2⟩; have E6 := Lib.hid (E5.out.trans hx2); clear hx2)
    | (go_at_call 200; refine (H4.out _ E4.out).mono ?_; rintro e w2 ⟨rfl, hx2⟩; have E5 := Lib.hid (E4.out.trans hx2); have HB5 := Lib.hid ((hx2.kept (fun _ _ => true)).same _ _ HB4.out rfl); obtain ⟨t0, t1, t2, t3, t4, t5, t6, t7, tl⟩ := Prg.o_cells HB5.out; clear hx2)
    | (go_at_call 199; refine (H3.out _ E3.out).mono ?_; rintro e w2 ⟨rfl, hx2⟩; have E4 := Lib.hid (E3.out.trans hx2); have HB4 := Lib.hid ((hx2.kept (fun _ _ => true)).same _ _ HB3.out rfl); obtain ⟨s0, s1, s2, s3, s4, s5, s6, s7, sl⟩ := Prg.o_cells HB4.out; clear hx2)
    | (go_at_call 198; refine (H2.out _ E2.out).mono ?_; rintro e w2 ⟨rfl, hx2⟩; have E3 := Lib.hid (E2.out.trans hx2); have HB3 := Lib.hid ((hx2.kept (fun _ _ => true)).same _ _ HB2.out rfl); obtain ⟨r0, r1, r2, r3, r4, r5, r6, r7, rl⟩ := Prg.o_cells HB3.out; clear hx2)
    | (go_at_call 197; refine (H1.out _).mono ?_; rintro e w2 ⟨rfl, hx2⟩; have E2 := Lib.hid (E1.out.trans hx2); have HB2 := Lib.hid ((hx2.kept (fun _ _ => true)).same _ _ HB1.out rfl); obtain ⟨q0, q1, q2, q3, q4, q5, q6, q7, ql⟩ := Prg.o_cells HB2.out; clear hx2))
  go_ret
  exact ⟨rfl, E6.out⟩
end Go.Proofs.YtfljmdpigckpkaaGreatDoor
