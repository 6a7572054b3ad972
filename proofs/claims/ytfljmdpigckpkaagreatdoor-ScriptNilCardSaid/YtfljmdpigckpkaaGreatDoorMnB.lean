/- Run, Work, Tick, Inject, Life, the looks, Copy and Same of a machine that is not there, and of a zero one. -/
import Derived.Test.YtfljmdpigckpkaaGreatDoorMnA
import Derived.Test.YtfljmdpigckpkaaGreatDoorSwB
import Derived.Handy
namespace Go.Proofs.YtfljmdpigckpkaaGreatDoor
open Go.RowKit Go.Shelf Go.Conc
attribute [local go_sem] Oper.semAt_some
section
variable {v u : Value} {w : World}
set_option maxHeartbeats 1000000
set_option maxRecDepth 100000
theorem Run_no (h : NoM v w) : Calls Tryz.prog 8 #[v, .int .i64 0] w fun e w' => e = .returned (.int .i64 1) ∧ Ext w w' := by
  have HE := Lib.hid (fun (u : Value) (w' : World) (k : Ext w w') => enter_no (u := u) (h.ext k))
  rcases h with rfl | ⟨b, rfl, h⟩
  all_goals
    go_enter Tryz.func8, Tryz.ntmps8
    go_wp2_with (go_at_call 38; refine (HE.out _ _ ((Ext.one _ _).trans (Ext.one _ _))).mono ?_; rintro e w2 ⟨rfl, hw⟩; rw [hw]; clear hw)
    go_ret
    exact ⟨rfl, (Ext.one _ _).trans (Ext.one _ _)⟩
theorem Work_no (h : NoM v w) : Calls Tryz.prog 18 #[v, .int .i64 1] w fun e w' => e = .returned (.int .i64 1) ∧ Ext w w' := by
  have HE := Lib.hid (fun (u : Value) (w' : World) (k : Ext w w') => enter_no (u := u) (h.ext k))
  rcases h with rfl | ⟨b, rfl, h⟩
  all_goals
    go_enter Tryz.func18, Tryz.ntmps18
    go_wp2_with (go_at_call 38; refine (HE.out _ _ ((Ext.one _ _).trans (Ext.one _ _))).mono ?_; rintro e w2 ⟨rfl, hw⟩; rw [hw]; clear hw)
    go_ret
    exact ⟨rfl, (Ext.one _ _).trans (Ext.one _ _)⟩
theorem Tick_no (h : NoM v w) : Calls Tryz.prog 19 #[v, .int .i64 1] w fun e w' => e = .returned (.int .i64 1) ∧ Ext w w' := by
  have HE := Lib.hid (fun (u : Value) (w' : World) (k : Ext w w') => enter_no (u := u) (h.ext k))
  rcases h with rfl | ⟨b, rfl, h⟩
  all_goals
    go_enter Tryz.func19, Tryz.ntmps19
    go_wp2_with (go_at_call 38; refine (HE.out _ _ ((Ext.one _ _).trans (Ext.one _ _))).mono ?_; rintro e w2 ⟨rfl, hw⟩; rw [hw]; clear hw)
    go_ret
    exact ⟨rfl, (Ext.one _ _).trans (Ext.one _ _)⟩
theorem Inject_no (h : NoM v w) : Calls Tryz.prog 20 #[v, .int .i64 0, .int .i64 0] w fun e w' => e = .returned (.int .i64 1) ∧ Ext w w' := by
  have HE := Lib.hid (fun (u : Value) (w' : World) (k : Ext w w') => enter_no (u := u) (h.ext k))
  rcases h with rfl | ⟨b, rfl, h⟩
  all_goals
    go_enter Tryz.func20, Tryz.ntmps20
    go_wp2_with (go_at_call 38; refine (HE.out _ _ (((Ext.one _ _).trans (Ext.one _ _)).trans (Ext.one _ _))).mono ?_; rintro e w2 ⟨rfl, hw⟩; rw [hw]; clear hw)
    go_ret
    exact ⟨rfl, ((Ext.one _ _).trans (Ext.one _ _)).trans (Ext.one _ _)⟩
theorem Life_no (h : NoM v w) : Calls Tryz.prog 21 #[v, .int .i64 0, .int .i64 0] w fun e w' => e = .returned (.int .i64 1) ∧ Ext w w' := by
  have HE := Lib.hid (fun (u : Value) (w' : World) (k : Ext w w') => enter_no (u := u) (h.ext k))
  rcases h with rfl | ⟨b, rfl, h⟩
  all_goals
    go_enter Tryz.func21, Tryz.ntmps21
    go_wp2_with (go_at_call 38; refine (HE.out _ _ (((Ext.one _ _).trans (Ext.one _ _)).trans (Ext.one _ _))).mono ?_; rintro e w2 ⟨rfl, hw⟩; rw [hw]; clear hw)
    go_ret
    exact ⟨rfl, ((Ext.one _ _).trans (Ext.one _ _)).trans (Ext.one _ _)⟩
theorem Full_no (h : NoM v w) : Calls Tryz.prog 10 #[v] w fun e w' => e = .returned (.bool false) ∧ Ext w w' := by
  have H := Lib.hid (there_no h)
  clear h
  go_enter Tryz.func10, Tryz.ntmps10
  go_wp2_with (first | (go_at_call 48; refine H.out.mono ?_; rintro e w2 ⟨b, rfl, hb, hx⟩; obtain ⟨c0, c10, c11, c12, c15, c16, c17, c18, c20, cl⟩ := zMo_cells hb; have HB := Lib.hid hb; have HX := Lib.hid hx; clear hb hx))
  go_ret
  exact ⟨rfl, HX.out⟩
theorem Now_no (h : NoM v w) : Calls Tryz.prog 25 #[v] w fun e w' => e = .returned (.int .i64 0) ∧ Ext w w' := by
  have H := Lib.hid (there_no h)
  clear h
  go_enter Tryz.func25, Tryz.ntmps25
  go_wp2_with (first | (go_at_call 48; refine H.out.mono ?_; rintro e w2 ⟨b, rfl, hb, hx⟩; obtain ⟨c0, c10, c11, c12, c15, c16, c17, c18, c20, cl⟩ := zMo_cells hb; have HB := Lib.hid hb; have HX := Lib.hid hx; clear hb hx))
  go_ret
  exact ⟨rfl, HX.out⟩
theorem Marks_no (h : NoM v w) : Calls Tryz.prog 16 #[v, .int .i64 0] w fun e w' => e = .returned (.slice none 0 0) ∧ Ext w w' := by
  have H := Lib.hid (there_no h)
  clear h
  go_enter Tryz.func16, Tryz.ntmps16
  go_wp2_with (first | (go_at_call 48; refine H.out.mono ?_; rintro e w2 ⟨b, rfl, hb, hx⟩; obtain ⟨c0, c10, c11, c12, c15, c16, c17, c18, c20, cl⟩ := zMo_cells hb; have HB := Lib.hid hb; have HX := Lib.hid hx; clear hb hx))
  go_ret
  exact ⟨rfl, HX.out⟩
theorem cloneL_nil (W : World) : Calls Tryz.prog 55 #[.slice none 0 0] W fun e W' => e = .returned (.slice none 0 0) ∧ W' = W := by
  have he : ∀ w : World, (binOp .eql 46 (.slice none 0 0) (.slice none 0 0)).run Tryz.prog w = .ok (.bool true) w := fun w => by kernel_rfl
  go_enter Tryz.func55, Tryz.ntmps55
  go_wp2_with fail
  go_ret
  exact ⟨rfl, rfl⟩
theorem Globals_no (h : NoM v w) : Calls Tryz.prog 26 #[v] w fun e w' => e = .returned (.slice none 0 0) ∧ Ext w w' := by
  have H := Lib.hid (there_no h)
  clear h
  go_enter Tryz.func26, Tryz.ntmps26
  go_wp2_with (first | (go_at_call 48; refine H.out.mono ?_; rintro e w2 ⟨b, rfl, hb, hx⟩; obtain ⟨c0, c10, c11, c12, c15, c16, c17, c18, c20, cl⟩ := zMo_cells hb; have HB := Lib.hid hb; have HX := Lib.hid hx; clear hb hx) | (go_at_call 55; refine (cloneL_nil _).mono ?_; rintro e w3 ⟨rfl, hw⟩; rw [hw]; clear hw))
  go_ret
  exact ⟨rfl, HX.out⟩
theorem Log_no (h : NoM v w) : Calls Tryz.prog 17 #[v] w fun e w' => e = .returned (.slice none 0 0) ∧ Ext w w' := by
  have H := Lib.hid (there_no h)
  clear h
  go_enter Tryz.func17, Tryz.ntmps17
  go_wp2_with (first | (go_at_call 48; refine H.out.mono ?_; rintro e w2 ⟨b, rfl, hb, hx⟩; obtain ⟨c0, c10, c11, c12, c15, c16, c17, c18, c20, cl⟩ := zMo_cells hb; have HB := Lib.hid hb; have HX := Lib.hid hx; clear hb hx) | (go_at_call 55; refine (cloneL_nil _).mono ?_; rintro e w3 ⟨rfl, hw⟩; rw [hw]; clear hw))
  go_ret
  exact ⟨rfl, HX.out⟩
theorem hCopy_nil (W : World) : Calls Tryz.prog 67 #[.pointer none] W fun e W' => e = .returned (.pointer none) ∧ W' = W := by
  go_enter Tryz.func67, Tryz.ntmps67
  go_wp2_with fail
  go_ret
  exact ⟨rfl, rfl⟩
theorem Heap_no (h : NoM v w) : Calls Tryz.prog 27 #[v] w fun e w' => e = .returned (.pointer none) ∧ Ext w w' := by
  have H := Lib.hid (there_no h)
  clear h
  go_enter Tryz.func27, Tryz.ntmps27
  go_wp2_with (first | (go_at_call 48; refine H.out.mono ?_; rintro e w2 ⟨b, rfl, hb, hx⟩; obtain ⟨c0, c10, c11, c12, c15, c16, c17, c18, c20, cl⟩ := zMo_cells hb; have HB := Lib.hid hb; have HX := Lib.hid hx; clear hb hx) | (go_at_call 67; refine (hCopy_nil _).mono ?_; rintro e w3 ⟨rfl, hw⟩; rw [hw]; clear hw))
  go_ret
  exact ⟨rfl, HX.out⟩
theorem Blocked_no (h : NoM v w) : Calls Tryz.prog 23 #[v] w fun e w' => e = .returned (.slice none 0 0) ∧ Ext w w' := by
  have H := Lib.hid (there_no h)
  clear h
  go_enter Tryz.func23, Tryz.ntmps23
  go_upto_region 3 with (go_at_call 48; refine H.out.mono ?_; rintro e w2 ⟨b, rfl, hb, hx⟩; obtain ⟨c0, c10, c11, c12, c15, c16, c17, c18, c20, cl⟩ := zMo_cells hb; have HB := Lib.hid hb; have HX := Lib.hid hx; clear hb hx)
  go_rounds 1
  go_ret
  exact ⟨rfl, HX.out⟩
theorem Tasks_no (h : NoM v w) : Calls Tryz.prog 14 #[v] w fun e w' => e = .returned (.slice none 0 0) ∧ Ext w w' := by
  have H := Lib.hid (there_no h)
  clear h
  go_enter Tryz.func14, Tryz.ntmps14
  go_upto_region 3 with (go_at_call 48; refine H.out.mono ?_; rintro e w2 ⟨b, rfl, hb, hx⟩; obtain ⟨c0, c10, c11, c12, c15, c16, c17, c18, c20, cl⟩ := zMo_cells hb; have HB := Lib.hid hb; have HX := Lib.hid hx; clear hb hx)
  go_rounds 1
  go_ret
  exact ⟨rfl, HX.out⟩
theorem Ended_no (h : NoM v w) : Calls Tryz.prog 12 #[v] w fun e w' => e = .returned (.bool false) ∧ Ext w w' := by
  have H := Lib.hid (isNone_no h)
  clear h
  go_enter Tryz.func12, Tryz.ntmps12
  go_wp2_with (go_at_call 51; refine H.out.mono ?_; rintro e w2 ⟨rfl, hw⟩; rw [hw]; clear hw)
  go_ret
  exact ⟨rfl, Ext.refl _⟩
theorem Copy_no (h : NoM v w) : Calls Tryz.prog 29 #[v] w fun e w' => e = .returned (.pointer none) ∧ Ext w w' := by
  have H := Lib.hid (isNone_no h)
  clear h
  go_enter Tryz.func29, Tryz.ntmps29
  go_wp2_with (go_at_call 51; refine H.out.mono ?_; rintro e w2 ⟨rfl, hw⟩; rw [hw]; clear hw)
  go_ret
  exact ⟨rfl, Ext.refl _⟩
theorem Same_no (h : NoM v w) (h' : NoM u w) : Calls Tryz.prog 30 #[v, u] w fun e w' => e = .returned (.bool true) ∧ w' = w := by
  have H := Lib.hid (isNone_no h)
  have H' := Lib.hid (isNone_no h')
  clear h h'
  go_enter Tryz.func30, Tryz.ntmps30
  go_upto_region 2 with (go_at_call 51; refine H.out.mono ?_; rintro e w2 ⟨rfl, hw⟩; rw [hw]; clear hw)
  go_wp2_with (first
    | (go_at_call 51; refine H.out.mono ?_; rintro e w2 ⟨rfl, hw⟩; rw [hw]; clear hw H)
    | (go_at_call 51; refine H'.out.mono ?_; rintro e w2 ⟨rfl, hw⟩; rw [hw]; clear hw))
  go_ret
  exact ⟨rfl, rfl⟩
end
end Go.Proofs.YtfljmdpigckpkaaGreatDoor
