/- What is answered of code, and of a thread, that is not there: the closed sentence. -/
import Derived.Test.YtiabhahmippiaaaGreatDoorSwG
namespace Go.Proofs.YtiabhahmippiaaaGreatDoor
open Go.RowKit Go.Shelf
attribute [local go_sem] Oper.semAt_some
@[go_sem] theorem fieldP (w : World) : (Instr.field 30 (.agg #[.slice none 0 0, .slice none 0 0, .slice none 0 0, .slice none 0 0, .slice none 0 0, .slice none 0 0, .int .i64 0, .slice none 0 0]) 3).run Tryz.prog w = .ok (.slice none 0 0) w := by kernel_rfl
def oJ : Obj := .cells ([iJoin].flatMap Ins.cells).toArray 77 (0, 0)
set_option maxHeartbeats 8000000 in
set_option maxRecDepth 100000 in
theorem StepNil_ok {W : World} (hT : Tab W) : Calls Tryz.prog 4 #[] W fun e W' => e = .returned (.bool true) ∧ Ext W W' := by
  obtain ⟨W1, hW1⟩ : ∃ W1, W1 = W.alloc zTh := ⟨_, rfl⟩
  have hx1 : Ext W W1 := by rw [hW1]; exact Ext.one _ _
  have hb1 : W1.heap[W.heap.size]? = some zTh := by rw [hW1]; exact World.alloc_heap_new _ _
  have HZT := Lib.hid (fun w (k : Ext W1 w) => (k.kept (fun _ _ => true)).same _ _ hb1 rfl)
  have HT := Lib.hid (fun w (k : Ext W1 w) => (hT.ext hx1).ext k)
  have HX1 := Lib.hid hx1
  have HW := Lib.hid hW1
  clear hx1 hb1 hW1 hT
  go_enter Tryz.func4, Tryz.ntmps4
  go_upto_region 4 with (fail)
  change Code.wp _ _ _ _ (W.alloc zTh)
  rw [← HW.out]
  generalize W.heap.size = bz at *
  have HST := Lib.hid (fun (u : Value) (w : World) => Step_none (noneT_nil w) u 0 0)
  have HSZ := Lib.hid (fun (u : Value) (w : World) (k : Ext W1 w) => Step_none (noneT_zero (HZT.out w k)) u 0 0)
  unfold zaskV at HST HSZ
  clear HW
  go_upto_region 5 with (go_at_call 10; refine (Begin_nil _ _ _).mono ?_; rintro e w2 ⟨rfl, hw⟩; rw [hw]; clear hw)
  go_upto_region 6 with (first
    | (go_at_call 12; refine (heapNew_ok _).mono ?_; rintro e w2 ⟨rfl, -, hx2⟩; have HX2 := Lib.hid hx2; clear hx2)
    | (go_at_call 21; refine (HST.out _ _).mono ?_; rintro e w3 ⟨rfl, hx3⟩; have HX3 := Lib.hid ((HX2.out.trans hx3).trans (Ext.one _ zask)); clear hx3))
  change Code.wp _ _ _ _ (w3.alloc zask)
  generalize w3.alloc zask = v3 at *
  clear HX2
  go_upto_region 7 with (first
    | (go_at_call 12; refine (heapNew_ok _).mono ?_; rintro e w4 ⟨rfl, -, hx4⟩; have HX4 := Lib.hid (HX3.out.trans hx4); clear hx4)
    | (go_at_call 21; refine (HSZ.out _ _ HX4.out).mono ?_; rintro e w5 ⟨rfl, hx5⟩; have HX5 := Lib.hid ((HX4.out.trans hx5).trans (Ext.one _ zask)); clear hx5))
  change Code.wp _ _ _ _ (w5.alloc zask)
  generalize w5.alloc zask = v5 at *
  clear HX4 HX3
  have HNX := Lib.hid (Next_nil v5)
  unfold zinsV at HNX
  go_upto_region 8 with (go_at_call 22; refine HNX.out.mono ?_; rintro e w6 ⟨rfl, hx6⟩; have HX6 := Lib.hid ((HX5.out.trans hx6).trans (Ext.one _ zins)); clear hx6)
  change Code.wp _ _ _ _ (w6.alloc zins)
  generalize w6.alloc zins = v6 at *
  clear HX5 HNX
  obtain ⟨W7, hW7⟩ : ∃ W7, W7 = v6.alloc oJ := ⟨_, rfl⟩
  have hx7 : Ext v6 W7 := by rw [hW7]; exact Ext.one _ _
  have hb7 : W7.heap[v6.heap.size]? = some oJ := by rw [hW7]; exact World.alloc_heap_new _ _
  have HS := Lib.hid (smallJ W7 hb7)
  have HX7 := Lib.hid (HX6.out.trans hx7)
  have HW7 := Lib.hid hW7
  clear hx7 hb7 hW7
  go_upto_region 11 with (first
    | (go_at_call 23; (change Calls _ _ #[Value.slice (some ⟨v6.heap.size, 0, none⟩) 1 1] (v6.alloc oJ) _); rw [← HW7.out]; refine HS.out.mono ?_; rintro e w8 ⟨P, rfl, hin, hg, hL, hx8, F, hF, hca, hre⟩; have HNW := Lib.hid (New_ok (HT.out _ (HX7.out.trans hx8)) hin hg hL); have HX8 := Lib.hid (HX7.out.trans hx8); have HFF := Lib.hid (And.intro hF (And.intro hca hre)); clear hin hg hL hx8 hF hca hre)
    | (go_at_call 9; refine HNW.out.mono ?_; rintro e w9 ⟨bc, Q, rfl, hcd, hlk, hx9, hbc⟩; have HCD := Lib.hid hcd; have HLK := Lib.hid hlk; have HX9 := Lib.hid (HX8.out.trans hx9); clear hcd hlk hx9 hbc))
  obtain ⟨hq1, h0, hfl⟩ := like_fn HLK.out HFF.out.1
  have hca : Q.fns[0].caps = 0 := hfl.2.1.trans HFF.out.2.1
  have hre : Q.fns[0].regs = ((4 : Nat) : Int) := hfl.2.2.1.trans HFF.out.2.2
  have HB1 := Lib.hid (fun w (k : Ext w9 w) => Begin_none (HCD.out.ext k) (i := 1) (by simp [inI, hq1]) none 0 0)
  have HB0 := Lib.hid (fun w (k : Ext w9 w) (A : Option Addr) => show Calls Tryz.prog 10 #[.pointer (some ⟨bc, 0, none⟩), .int .i64 0, .slice A 1 1] w _ from Begin_no (HCD.out.ext k) h0 A 1 1 (by rw [hca]; rfl))
  have HBG := Lib.hid (show Calls Tryz.prog 10 #[.pointer (some ⟨bc, 0, none⟩), .int .i64 0, .slice none 0 0] w9 _ from Begin_ok HCD.out h0 hca hre (by omega) none 0)
  clear hq1 hfl hca hre
  go_upto_region 14 with (go_at_call 10; refine HBG.out.mono ?_; rintro e w10 ⟨bt, g, bf, gr, rfl, ht, hx10, -⟩; have HTH := Lib.hid (fun w (k : Ext w10 w) => ht.ext k); have HX10 := Lib.hid hx10; have HSH := Lib.hid (Step_noheap ht 0 0); clear ht hx10)
  unfold zaskV at HSH
  go_upto_region 15 with (go_at_call 21; refine HSH.out.mono ?_; rintro e w11 ⟨rfl, hx11⟩; have HX11 := Lib.hid (hx11.trans (Ext.one _ zask)); clear hx11)
  change Code.wp _ _ _ _ (w11.alloc zask)
  generalize w11.alloc zask = v11 at *
  have HX12 := Lib.hid (HX10.out.trans HX11.out)
  go_upto_region 16 with (go_at_call 10; refine (HB1.out _ HX12.out).mono ?_; rintro e w12 ⟨rfl, hw⟩; rw [hw]; clear hw)
  have hxb : Ext v11 (v11.alloc (.cells #[.int .i64 1] 2 (0, 0))) := Ext.one _ _
  have HBV := Lib.hid (HB0.out _ (HX12.out.trans hxb) (some ⟨v11.heap.size, 0, none⟩))
  have HXB := Lib.hid ((((HX9.out.trans HX10.out).trans HX11.out)).trans hxb)
  have HSN := Lib.hid (Same_none (noneT_nil (v11.alloc (.cells #[.int .i64 1] 2 (0, 0)))) (noneT_zero (HZT.out _ HXB.out)))
  have HSY := Lib.hid (Same_th (HTH.out _ (HX11.out.trans hxb)))
  have HPN := Lib.hid (fun w => Prog_nil w)
  unfold zprgV at HPN
  clear hxb
  go_wp2_with (first
    | (go_at_call 10; refine HBV.out.mono ?_; rintro e w12 ⟨rfl, hw⟩; rw [hw]; clear hw; generalize v11.alloc _ = vb at *)
    | (go_at_call 24; refine (Over_nil _).mono ?_; rintro e w12 ⟨rfl, hw⟩; rw [hw]; clear hw)
    | (go_at_call 25; refine (Trap_nil _).mono ?_; rintro e w12 ⟨rfl, hw⟩; rw [hw]; clear hw)
    | (go_at_call 14; refine (Copy_nil _).mono ?_; rintro e w12 ⟨rfl, hw⟩; rw [hw]; clear hw)
    | (go_at_call 18; refine HSN.out.mono ?_; rintro e w12 ⟨rfl, hw⟩; rw [hw]; clear hw HSN)
    | (go_at_call 18; refine HSY.out.mono ?_; rintro e w12 ⟨rfl, hw⟩; rw [hw]; clear hw HSY)
    | (go_at_call 26; refine (Done_nil _ _).mono ?_; rintro e w12 ⟨rfl, hw⟩; rw [hw]; clear hw)
    | (go_at_call 27; refine (Frames_nil _).mono ?_; rintro e w12 ⟨rfl, hw⟩; rw [hw]; clear hw)
    | (go_at_call 28; refine (HPN.out _).mono ?_; rintro e w13 ⟨rfl, hx13⟩; have HX13 := Lib.hid (HXB.out.trans hx13); clear hx13)
    | (go_at_call 8; refine (known_ok (HT.out _ HX13.out)).mono ?_; rintro e w14 ⟨rfl, hx14⟩; have HX14 := Lib.hid (HX13.out.trans hx14); clear hx14))
  go_ret
  exact ⟨rfl, HX1.out.trans HX14.out⟩
end Go.Proofs.YtiabhahmippiaaaGreatDoor
