/- What the program answers of a machine that is not there, and of a zero one; Run, Work, Tick, Inject, Life, the looks, Copy and Same of a machine that is not there, and of a zero one; Waits, Site and Can of a machine that is not there, and of a zero one; Whom the first task waits for; what is to be stepped next; a step; What is to be stepped next: none, or the first task; a step; Whom a looper's next step is of. Written by genMcI.py; The first task begins; it ends; steps are counted. -/
import Derived.Test.YtfljmdpigckpkaaGreatDoorB26
import Derived.Test.YtfljmdpigckpkaaGreatDoorB01
import Derived.Test.YtfljmdpigckpkaaGreatDoorB12
import Derived.Handy
namespace Go.Proofs.YtfljmdpigckpkaaGreatDoor
open Go.RowKit Go.Shelf
attribute [local go_sem] Oper.semAt_some
def zMo : Obj := .cells #[.pointer none, .slice none 0 0, .slice none 0 0, .slice none 0 0, .slice none 0 0, .slice none 0 0, .slice none 0 0, .int .i64 0, .slice none 0 0, .map none, .pointer none, .slice none 0 0, .slice none 0 0, .pointer none, .slice none 0 0, .slice none 0 0, .slice none 0 0, .slice none 0 0, .int .i64 0, .int .i64 0, .bool false] 70 (0, 0)
theorem zMo_cells {w : World} {b : Nat} (h : w.heap[b]? = some zMo) : w.cell? ⟨b, 0, none⟩ = some (.pointer none) ∧ w.cell? ⟨b, 10, none⟩ = some (.pointer none) ∧ w.cell? ⟨b, 11, none⟩ = some (.slice none 0 0) ∧ w.cell? ⟨b, 12, none⟩ = some (.slice none 0 0) ∧ w.cell? ⟨b, 15, none⟩ = some (.slice none 0 0) ∧ w.cell? ⟨b, 16, none⟩ = some (.slice none 0 0) ∧ w.cell? ⟨b, 17, none⟩ = some (.slice none 0 0) ∧ w.cell? ⟨b, 18, none⟩ = some (.int .i64 0) ∧ w.cell? ⟨b, 20, none⟩ = some (.bool false) ∧ b < w.heap.size := by
  refine ⟨?_, ?_, ?_, ?_, ?_, ?_, ?_, ?_, ?_, (Array.getElem?_eq_some_iff.1 h).1⟩
  all_goals simp [World.cell?, h, zMo]
/-- No machine: nil, or a zero one. -/
def NoM (v : Value) (w : World) : Prop := v = .pointer none ∨ ∃ b, v = .pointer (some ⟨b, 0, none⟩) ∧ w.heap[b]? = some zMo
theorem NoM.ext {v : Value} {w w' : World} (h : NoM v w) (k : Ext w w') : NoM v w' := h.imp id fun ⟨b, h1, h2⟩ => ⟨b, h1, (k.kept (fun _ _ => true)).same _ _ h2 rfl⟩
section
variable {v u : Value} {w : World}
set_option maxHeartbeats 1000000
set_option maxRecDepth 100000
theorem isNone_no (h : NoM v w) : Calls Tryz.prog 51 #[v] w fun e w' => e = .returned (.bool true) ∧ w' = w := by
  rcases h with rfl | ⟨b, rfl, h⟩
  · go_enter Tryz.func51, Tryz.ntmps51
    go_wp2_with fail
    go_ret
    exact ⟨rfl, rfl⟩
  · obtain ⟨c0, c10, c11, c12, c15, c16, c17, c18, c20, cl⟩ := zMo_cells h
    clear h
    go_enter Tryz.func51, Tryz.ntmps51
    go_wp2_with fail
    go_ret
    exact ⟨rfl, rfl⟩
theorem there_no (h : NoM v w) : Calls Tryz.prog 48 #[v] w fun e w' => ∃ b, e = .returned (.pointer (some ⟨b, 0, none⟩)) ∧ w'.heap[b]? = some zMo ∧ Ext w w' := by
  rcases h with rfl | ⟨b, rfl, h⟩
  · have h1 : (w.alloc zMo).heap[w.heap.size]? = some zMo := World.alloc_heap_new _ _
    have h2 : Ext w (w.alloc zMo) := Ext.one _ _
    unfold zMo at h1 h2
    go_enter Tryz.func48, Tryz.ntmps48
    go_wp2_with fail
    go_ret
    exact ⟨_, rfl, h1, h2⟩
  · obtain ⟨c0, c10, c11, c12, c15, c16, c17, c18, c20, cl⟩ := zMo_cells h
    go_enter Tryz.func48, Tryz.ntmps48
    go_wp2_with fail
    go_ret
    exact ⟨_, rfl, h, Ext.refl _⟩
theorem enter_no (h : NoM v w) : Calls Tryz.prog 38 #[v, u] w fun e w' => e = .returned (.int .i64 1) ∧ w' = w := by
  have H := Lib.hid (isNone_no h)
  clear h
  go_enter Tryz.func38, Tryz.ntmps38
  go_wp2_with (go_at_call 51; refine H.out.mono ?_; rintro e w2 ⟨rfl, hw⟩; rw [hw]; clear hw)
  go_ret
  exact ⟨rfl, rfl⟩
end
end Go.Proofs.YtfljmdpigckpkaaGreatDoor

namespace Go.Proofs.YtfljmdpigckpkaaGreatDoor
open Go.RowKit Go.Shelf Go.Conc
attribute [local go_sem] Oper.semAt_some
section
variable {v u : Value} {w : World}
set_option maxHeartbeats 1000000
set_option maxRecDepth 100000
theorem Run_no (h : NoM v w) : Calls Tryz.prog 8 #[v, .int .i64 0] w fun e w' => e = .returned (.int .i64 1) ∧ Ext w w' := by
  have HE := Lib.hid (fun (u : Value) (w' : World) (k : Ext w w') => enter_no (u := u) (h.ext k))
  rcases h with rfl | ⟨b, rfl, h⟩
  all_goals
    go_enter Tryz.func8, Tryz.ntmps8
    go_wp2_with (go_at_call 38; refine (HE.out _ _ ((Ext.one _ _).trans (Ext.one _ _))).mono ?_; rintro e w2 ⟨rfl, hw⟩; rw [hw]; clear hw)
    go_ret
    exact ⟨rfl, (Ext.one _ _).trans (Ext.one _ _)⟩
theorem Work_no (h : NoM v w) : Calls Tryz.prog 18 #[v, .int .i64 1] w fun e w' => e = .returned (.int .i64 1) ∧ Ext w w' := by
  have HE := Lib.hid (fun (u : Value) (w' : World) (k : Ext w w') => enter_no (u := u) (h.ext k))
  rcases h with rfl | ⟨b, rfl, h⟩
  all_goals
    go_enter Tryz.func18, Tryz.ntmps18
    go_wp2_with (go_at_call 38; refine (HE.out _ _ ((Ext.one _ _).trans (Ext.one _ _))).mono ?_; rintro e w2 ⟨rfl, hw⟩; rw [hw]; clear hw)
    go_ret
    exact ⟨rfl, (Ext.one _ _).trans (Ext.one _ _)⟩
theorem Tick_no (h : NoM v w) : Calls Tryz.prog 19 #[v, .int .i64 1] w fun e w' => e = .returned (.int .i64 1) ∧ Ext w w' := by
  have HE := Lib.hid (fun (u : Value) (w' : World) (k : Ext w w') => enter_no (u := u) (h.ext k))
  rcases h with rfl | ⟨b, rfl, h⟩
  all_goals
    go_enter Tryz.func19, Tryz.ntmps19
    go_wp2_with (go_at_call 38; refine (HE.out _ _ ((Ext.one _ _).trans (Ext.one _ _))).mono ?_; rintro e w2 ⟨rfl, hw⟩; rw [hw]; clear hw)
    go_ret
    exact ⟨rfl, (Ext.one _ _).trans (Ext.one _ _)⟩
theorem Inject_no (h : NoM v w) : Calls Tryz.prog 20 #[v, .int .i64 0, .int .i64 0] w fun e w' => e = .returned (.int .i64 1) ∧ Ext w w' := by
  have HE := Lib.hid (fun (u : Value) (w' : World) (k : Ext w w') => enter_no (u := u) (h.ext k))
  rcases h with rfl | ⟨b, rfl, h⟩
  all_goals
    go_enter Tryz.func20, Tryz.ntmps20
    go_wp2_with (go_at_call 38; refine (HE.out _ _ (((Ext.one _ _).trans (Ext.one _ _)).trans (Ext.one _ _))).mono ?_; rintro e w2 ⟨rfl, hw⟩; rw [hw]; clear hw)
    go_ret
    exact ⟨rfl, ((Ext.one _ _).trans (Ext.one _ _)).trans (Ext.one _ _)⟩
theorem Life_no (h : NoM v w) : Calls Tryz.prog 21 #[v, .int .i64 0, .int .i64 0] w fun e w' => e = .returned (.int .i64 1) ∧ Ext w w' := by
  have HE := Lib.hid (fun (u : Value) (w' : World) (k : Ext w w') => enter_no (u := u) (h.ext k))
  rcases h with rfl | ⟨b, rfl, h⟩
  all_goals
    go_enter Tryz.func21, Tryz.ntmps21
    go_wp2_with (go_at_call 38; refine (HE.out _ _ (((Ext.one _ _).trans (Ext.one _ _)).trans (Ext.one _ _))).mono ?_; rintro e w2 ⟨rfl, hw⟩; rw [hw]; clear hw)
    go_ret
    exact ⟨rfl, ((Ext.one _ _).trans (Ext.one _ _)).trans (Ext.one _ _)⟩
theorem Full_no (h : NoM v w) : Calls Tryz.prog 10 #[v] w fun e w' => e = .returned (.bool false) ∧ Ext w w' := by
  have H := Lib.hid (there_no h)
  clear h
  go_enter Tryz.func10, Tryz.ntmps10
  go_wp2_with (first | (go_at_call 48; refine H.out.mono ?_; rintro e w2 ⟨b, rfl, hb, hx⟩; obtain ⟨c0, c10, c11, c12, c15, c16, c17, c18, c20, cl⟩ := zMo_cells hb; have HB := Lib.hid hb; have HX := Lib.hid hx; clear hb hx))
  go_ret
  exact ⟨rfl, HX.out⟩
theorem Now_no (h : NoM v w) : Calls Tryz.prog 25 #[v] w fun e w' => e = .returned (.int .i64 0) ∧ Ext w w' := by
  have H := Lib.hid (there_no h)
  clear h
  go_enter Tryz.func25, Tryz.ntmps25
  go_wp2_with (first | (go_at_call 48; refine H.out.mono ?_; rintro e w2 ⟨b, rfl, hb, hx⟩; obtain ⟨c0, c10, c11, c12, c15, c16, c17, c18, c20, cl⟩ := zMo_cells hb; have HB := Lib.hid hb; have HX := Lib.hid hx; clear hb hx))
  go_ret
  exact ⟨rfl, HX.out⟩
theorem Marks_no (h : NoM v w) : Calls Tryz.prog 16 #[v, .int .i64 0] w fun e w' => e = .returned (.slice none 0 0) ∧ Ext w w' := by
  have H := Lib.hid (there_no h)
  clear h
  go_enter Tryz.func16, Tryz.ntmps16
  go_wp2_with (first | (go_at_call 48; refine H.out.mono ?_; rintro e w2 ⟨b, rfl, hb, hx⟩; obtain ⟨c0, c10, c11, c12, c15, c16, c17, c18, c20, cl⟩ := zMo_cells hb; have HB := Lib.hid hb; have HX := Lib.hid hx; clear hb hx))
  go_ret
  exact ⟨rfl, HX.out⟩
theorem cloneL_nil (W : World) : Calls Tryz.prog 55 #[.slice none 0 0] W fun e W' => e = .returned (.slice none 0 0) ∧ W' = W := by
  have he : ∀ w : World, (binOp .eql 46 (.slice none 0 0) (.slice none 0 0)).run Tryz.prog w = .ok (.bool true) w := fun w => by kernel_rfl
  go_enter Tryz.func55, Tryz.ntmps55
  go_wp2_with fail
  go_ret
  exact ⟨rfl, rfl⟩
theorem Globals_no (h : NoM v w) : Calls Tryz.prog 26 #[v] w fun e w' => e = .returned (.slice none 0 0) ∧ Ext w w' := by
  have H := Lib.hid (there_no h)
  clear h
  go_enter Tryz.func26, Tryz.ntmps26
  go_wp2_with (first | (go_at_call 48; refine H.out.mono ?_; rintro e w2 ⟨b, rfl, hb, hx⟩; obtain ⟨c0, c10, c11, c12, c15, c16, c17, c18, c20, cl⟩ := zMo_cells hb; have HB := Lib.hid hb; have HX := Lib.hid hx; clear hb hx) | (go_at_call 55; refine (cloneL_nil _).mono ?_; rintro e w3 ⟨rfl, hw⟩; rw [hw]; clear hw))
  go_ret
  exact ⟨rfl, HX.out⟩
theorem Log_no (h : NoM v w) : Calls Tryz.prog 17 #[v] w fun e w' => e = .returned (.slice none 0 0) ∧ Ext w w' := by
  have H := Lib.hid (there_no h)
  clear h
  go_enter Tryz.func17, Tryz.ntmps17
  go_wp2_with (first | (go_at_call 48; refine H.out.mono ?_; rintro e w2 ⟨b, rfl, hb, hx⟩; obtain ⟨c0, c10, c11, c12, c15, c16, c17, c18, c20, cl⟩ := zMo_cells hb; have HB := Lib.hid hb; have HX := Lib.hid hx; clear hb hx) | (go_at_call 55; refine (cloneL_nil _).mono ?_; rintro e w3 ⟨rfl, hw⟩; rw [hw]; clear hw))
  go_ret
  exact ⟨rfl, HX.out⟩
theorem hCopy_nil (W : World) : Calls Tryz.prog 67 #[.pointer none] W fun e W' => e = .returned (.pointer none) ∧ W' = W := by
  go_enter Tryz.func67, Tryz.ntmps67
  go_wp2_with fail
  go_ret
  exact ⟨rfl, rfl⟩
theorem Heap_no (h : NoM v w) : Calls Tryz.prog 27 #[v] w fun e w' => e = .returned (.pointer none) ∧ Ext w w' := by
  have H := Lib.hid (there_no h)
  clear h
  go_enter Tryz.func27, Tryz.ntmps27
  go_wp2_with (first | (go_at_call 48; refine H.out.mono ?_; rintro e w2 ⟨b, rfl, hb, hx⟩; obtain ⟨c0, c10, c11, c12, c15, c16, c17, c18, c20, cl⟩ := zMo_cells hb; have HB := Lib.hid hb; have HX := Lib.hid hx; clear hb hx) | (go_at_call 67; refine (hCopy_nil _).mono ?_; rintro e w3 ⟨rfl, hw⟩; rw [hw]; clear hw))
  go_ret
  exact ⟨rfl, HX.out⟩
theorem Blocked_no (h : NoM v w) : Calls Tryz.prog 23 #[v] w fun e w' => e = .returned (.slice none 0 0) ∧ Ext w w' := by
  have H := Lib.hid (there_no h)
  clear h
  go_enter Tryz.func23, Tryz.ntmps23
  go_upto_region 3 with (go_at_call 48; refine H.out.mono ?_; rintro e w2 ⟨b, rfl, hb, hx⟩; obtain ⟨c0, c10, c11, c12, c15, c16, c17, c18, c20, cl⟩ := zMo_cells hb; have HB := Lib.hid hb; have HX := Lib.hid hx; clear hb hx)
  go_rounds 1
  go_ret
  exact ⟨rfl, HX.out⟩
theorem Tasks_no (h : NoM v w) : Calls Tryz.prog 14 #[v] w fun e w' => e = .returned (.slice none 0 0) ∧ Ext w w' := by
  have H := Lib.hid (there_no h)
  clear h
  go_enter Tryz.func14, Tryz.ntmps14
  go_upto_region 3 with (go_at_call 48; refine H.out.mono ?_; rintro e w2 ⟨b, rfl, hb, hx⟩; obtain ⟨c0, c10, c11, c12, c15, c16, c17, c18, c20, cl⟩ := zMo_cells hb; have HB := Lib.hid hb; have HX := Lib.hid hx; clear hb hx)
  go_rounds 1
  go_ret
  exact ⟨rfl, HX.out⟩
theorem Ended_no (h : NoM v w) : Calls Tryz.prog 12 #[v] w fun e w' => e = .returned (.bool false) ∧ Ext w w' := by
  have H := Lib.hid (isNone_no h)
  clear h
  go_enter Tryz.func12, Tryz.ntmps12
  go_wp2_with (go_at_call 51; refine H.out.mono ?_; rintro e w2 ⟨rfl, hw⟩; rw [hw]; clear hw)
  go_ret
  exact ⟨rfl, Ext.refl _⟩
theorem Copy_no (h : NoM v w) : Calls Tryz.prog 29 #[v] w fun e w' => e = .returned (.pointer none) ∧ Ext w w' := by
  have H := Lib.hid (isNone_no h)
  clear h
  go_enter Tryz.func29, Tryz.ntmps29
  go_wp2_with (go_at_call 51; refine H.out.mono ?_; rintro e w2 ⟨rfl, hw⟩; rw [hw]; clear hw)
  go_ret
  exact ⟨rfl, Ext.refl _⟩
theorem Same_no (h : NoM v w) (h' : NoM u w) : Calls Tryz.prog 30 #[v, u] w fun e w' => e = .returned (.bool true) ∧ w' = w := by
  have H := Lib.hid (isNone_no h)
  have H' := Lib.hid (isNone_no h')
  clear h h'
  go_enter Tryz.func30, Tryz.ntmps30
  go_upto_region 2 with (go_at_call 51; refine H.out.mono ?_; rintro e w2 ⟨rfl, hw⟩; rw [hw]; clear hw)
  go_wp2_with (first
    | (go_at_call 51; refine H.out.mono ?_; rintro e w2 ⟨rfl, hw⟩; rw [hw]; clear hw H)
    | (go_at_call 51; refine H'.out.mono ?_; rintro e w2 ⟨rfl, hw⟩; rw [hw]; clear hw))
  go_ret
  exact ⟨rfl, rfl⟩
end
end Go.Proofs.YtfljmdpigckpkaaGreatDoor

namespace Go.Proofs.YtfljmdpigckpkaaGreatDoor
open Go.RowKit Go.Shelf Go.Conc
attribute [local go_sem] Oper.semAt_some
theorem infoChan : ∃ i, Tryz.prog.info? 3 = some i ∧ i.bytes = 8 := by
  have h : (Tryz.prog.info? 3).map (·.bytes) = some 8 := by kernel_rfl
  obtain ⟨i, hi, hb⟩ := Option.map_eq_some_iff.1 h
  exact ⟨i, hi, hb⟩
/-- A channel with room for one, in which nothing lies. -/
def cho : Obj := .chan 1 #[] false 0 0 false
theorem mkCh (w : World) : (Instr.makeChan 212 (.int .i64 1)).run Tryz.prog w = .ok (.chan (some w.heap.size)) (w.alloc cho) := by
  obtain ⟨i, hi, hb⟩ := infoChan
  simpa [cho] using run_makeChan (P := Tryz.prog) (w := w) Tryz.underlying212 hi .i64 1 (by omega) (by rw [hb]; omega)
section
variable {v u : Value} {w : World}
set_option maxHeartbeats 1000000
set_option maxRecDepth 100000
theorem find_no {b : Nat} (h : w.heap[b]? = some zMo) : Calls Tryz.prog 116 #[.pointer (some ⟨b, 0, none⟩), .int .i64 1] w fun e w' => e = .returned (.pointer none) ∧ w' = w := by
  obtain ⟨c0, c10, c11, c12, c15, c16, c17, c18, c20, cl⟩ := zMo_cells h
  clear h
  go_enter Tryz.func116, Tryz.ntmps116
  go_wp2_with fail
  go_ret
  exact ⟨rfl, rfl⟩
theorem instr_no {b : Nat} (h : w.heap[b]? = some zMo) : Calls Tryz.prog 64 #[.pointer (some ⟨b, 0, none⟩), .int .i64 1] w fun e w' => e = .returned (.tuple #[zinsV, .bool false]) ∧ Ext w w' := by
  obtain ⟨W1, hW1⟩ : ∃ W1, W1 = w.alloc zins := ⟨_, rfl⟩
  have hx1 : Ext w W1 := by rw [hW1]; exact Ext.one _ _
  have hb1 : W1.heap[w.heap.size]? = some zins := by rw [hW1]; exact World.alloc_heap_new _ _
  have HF := Lib.hid (find_no ((hx1.kept (fun _ _ => true)).same _ _ h rfl))
  have HX1 := Lib.hid hx1
  have HB1 := Lib.hid hb1
  have HW := Lib.hid hW1
  clear hx1 hb1 hW1
  go_enter Tryz.func64, Tryz.ntmps64
  go_upto_region 1 with (fail)
  change Code.wp _ _ _ _ (w.alloc zins)
  rw [← HW.out]
  obtain ⟨d0, d1, d2, d3, d4, d5, d6, d7, dl, dz⟩ := inso_cells (show W1.heap[w.heap.size]? = some (inso _ _ _ _ _ _ _ _) from HB1.out)
  go_wp2_with (go_at_call 116; refine HF.out.mono ?_; rintro e w2 ⟨rfl, hw⟩; rw [hw]; clear hw)
  change bodyPost _ _ _ _ _ (put8 W1 w.heap.size)
  obtain ⟨q1, q2⟩ := inso_all (show W1.heap[w.heap.size]? = some (inso _ _ _ _ _ _ _ _) from HB1.out) (.int .i64 0) (.int .i64 0) (.int .i64 0) (.int .i64 0) (.int .i64 0) (.slice none 0 0) (.int .i64 0) (.int .i64 0)
  replace q1 : (put8 W1 w.heap.size).heap[w.heap.size]? = some (inso (.int .i64 0) (.int .i64 0) (.int .i64 0) (.int .i64 0) (.int .i64 0) (.slice none 0 0) (.int .i64 0) (.int .i64 0)) := q1
  replace q2 : Kept (ne' w.heap.size) W1 (put8 W1 w.heap.size) := q2
  have hx5 := ext_ne HX1.out q2 (Nat.le_refl _)
  clear d0 d1 d2 d3 d4 d5 d6 d7 dl dz
  generalize put8 W1 w.heap.size = W5 at *
  obtain ⟨d0, d1, d2, d3, d4, d5, d6, d7, dl, dz⟩ := inso_cells q1
  exact bodyPost_ret (v := .tuple #[zinsV, .bool false]) (by simp [results, Tryz.results64, go_sem, zinsV, d0, d1, d2, d3, d4, d5, d6, d7]) rfl ⟨rfl, hx5⟩
theorem Waits_no (h : NoM v w) : Calls Tryz.prog 24 #[v, .int .i64 1] w fun e w' => e = .returned (.int .i64 0) ∧ Ext w w' := by
  have H := Lib.hid (there_no h)
  clear h
  have HI := Lib.hid (fun (w : World) (b : Nat) (h : w.heap[b]? = some zMo) => instr_no h)
  unfold zinsV at HI
  go_enter Tryz.func24, Tryz.ntmps24
  go_wp2_with (first
    | (go_at_call 48; refine H.out.mono ?_; rintro e w2 ⟨b, rfl, hb, hx⟩; have HB := Lib.hid hb; have HX := Lib.hid hx; clear hb hx)
    | (go_at_call 64; refine (HI.out _ _ HB.out).mono ?_; rintro e w3 ⟨rfl, hx⟩; have HX3 := Lib.hid ((HX.out.trans hx).trans (Ext.one w3 zins)); clear hx))
  go_ret
  exact ⟨rfl, HX3.out⟩
theorem Site_no (h : NoM v w) : Calls Tryz.prog 28 #[v, .int .i64 1] w fun e w' => e = .returned (.int .i64 (-1)) ∧ Ext w w' := by
  have H := Lib.hid (there_no h)
  clear h
  have HI := Lib.hid (fun (w : World) (b : Nat) (h : w.heap[b]? = some zMo) => instr_no h)
  unfold zinsV at HI
  go_enter Tryz.func28, Tryz.ntmps28
  go_wp2_with (first
    | (go_at_call 48; refine H.out.mono ?_; rintro e w2 ⟨b, rfl, hb, hx⟩; have HB := Lib.hid hb; have HX := Lib.hid hx; clear hb hx)
    | (go_at_call 64; refine (HI.out _ _ HB.out).mono ?_; rintro e w3 ⟨rfl, hx⟩; have HX3 := Lib.hid ((HX.out.trans hx).trans (Ext.one w3 zins)); clear hx))
  go_ret
  exact ⟨rfl, HX3.out⟩
/-- What is to be stepped next of no tasks. -/
theorem next_nil (v : Value) (w : World) : Calls Tryz.prog 50 #[v, .slice none 0 0] w fun e w' => ∃ b, e = .returned (.chan (some b)) ∧ w'.heap[b]? = some cho ∧ Ext w w' := by
  have hmc := mkCh
  have HX := Lib.hid (Ext.one w cho)
  have HB := Lib.hid (show (w.alloc cho).heap[w.heap.size]? = some cho from World.alloc_heap_new _ _)
  go_enter Tryz.func50, Tryz.ntmps50
  go_upto_region 3 with (fail)
  go_rounds 1
  go_ret
  exact ⟨_, rfl, HB.out, HX.out⟩
theorem Can_no (h : NoM v w) : Calls Tryz.prog 11 #[v] w fun e w' => e = .returned (.bool false) ∧ Ext w w' := by
  have H := Lib.hid (there_no h)
  clear h
  refine calls_of_wpN Tryz.func11 rfl ?_
  simp only [Tryz.ntmps11, List.size_toArray, List.length_cons, List.length_nil, Nat.reduceAdd, Nat.reduceSub, Array.replicate_succ, Array.replicate_zero, List.push_toArray, List.append_toArray, List.nil_append, List.cons_append]
  generalize hQ : bodyPost _ _ _ = Q
  have HQ := Lib.hid hQ
  clear hQ
  refine wpN_first_k fun K hK => ?_
  go_wp2_with fail
  refine wpN_first_k fun K hK => ?_
  go_wp2_with (go_at_call 48; refine H.out.mono ?_; rintro e w2 ⟨b, rfl, hb, hx⟩; obtain ⟨c0, c10, c11, c12, c15, c16, c17, c18, c20, cl⟩ := zMo_cells hb; have HX := Lib.hid hx; clear hb hx)
  refine wpN_first_k fun K hK => ?_
  go_wp2_with fail
  refine wpN_first_k fun K hK => ?_
  go_wp2_with fail
  refine wpN_first_k fun K hK => ?_
  go_upto_region 6 with (fail)
  go_rounds 1
  refine wpN_first_k fun K hK => ?_
  go_upto_region 11 with (fail)
  go_rounds 1
  refine wpN_first_k fun K hK => ?_
  go_wp2_with (go_at_call 50; refine (next_nil _ _).mono ?_; rintro e w3 ⟨b3, rfl, hb3, hx3⟩; have HX3 := Lib.hid (HX.out.trans hx3); have HB3 := Lib.hid hb3; clear hb3 hx3)
  refine wpN_sel_none (c := b3) (z := .int .i64 0) (w1 := w3) (s := 0) (r := 0) rfl (by simp [go_sem, execOp, rcase, Act.eval]) HB3.out fun K hK => ?_
  go_wp2_with fail
  refine wpN_block ?_
  refine wpN_cond (t := false) rfl ?_
  simp only [Bool.false_eq_true, if_false]
  refine wpN_of ?_
  rw [← HQ.out]
  go_wp2_with fail
  go_ret
  exact ⟨rfl, HX3.out⟩
end
end Go.Proofs.YtfljmdpigckpkaaGreatDoor

namespace Go.Proofs.YtfljmdpigckpkaaGreatDoor
open Go.RowKit Go.Shelf Go.Conc
attribute [local go_sem] Oper.semAt_some
section
variable {W3 w w' : World} {L : Lay} {s : Sta}
set_option maxHeartbeats 4000000
set_option maxRecDepth 100000
theorem instr_wait (a : MA W3 L s w) (hs : s.state = 1) : Calls Tryz.prog 64 #[.pointer (some ⟨L.bm, 0, none⟩), .int .i64 1] w fun e w' => e = .returned (.tuple #[zinsV, .bool false]) ∧ Ext w w' := by
  obtain ⟨W1, hW1⟩ : ∃ W1, W1 = w.alloc zins := ⟨_, rfl⟩
  have hx1 : Ext w W1 := by rw [hW1]; exact Ext.one _ _
  have hb1 : W1.heap[w.heap.size]? = some zins := by rw [hW1]; exact World.alloc_heap_new _ _
  have HF := Lib.hid (find_m (a.ext hx1))
  obtain ⟨t0, t4, t10, t11, t12, t15, tl, tz⟩ := (a.ext hx1).tcells
  rw [hs] at t11
  have HX1 := Lib.hid hx1
  have HB1 := Lib.hid hb1
  have HW := Lib.hid hW1
  clear hx1 hb1 hW1 a hs
  go_enter Tryz.func64, Tryz.ntmps64
  go_upto_region 1 with (fail)
  change Code.wp _ _ _ _ (w.alloc zins)
  rw [← HW.out]
  obtain ⟨d0, d1, d2, d3, d4, d5, d6, d7, dl, dz⟩ := inso_cells (show W1.heap[w.heap.size]? = some (inso _ _ _ _ _ _ _ _) from HB1.out)
  go_wp2_with (go_at_call 116; refine HF.out.mono ?_; rintro e w2 ⟨rfl, hw⟩; rw [hw]; clear hw)
  change bodyPost _ _ _ _ _ (put8 W1 w.heap.size)
  obtain ⟨q1, q2⟩ := inso_all (show W1.heap[w.heap.size]? = some (inso _ _ _ _ _ _ _ _) from HB1.out) (.int .i64 0) (.int .i64 0) (.int .i64 0) (.int .i64 0) (.int .i64 0) (.slice none 0 0) (.int .i64 0) (.int .i64 0)
  replace q1 : (put8 W1 w.heap.size).heap[w.heap.size]? = some (inso (.int .i64 0) (.int .i64 0) (.int .i64 0) (.int .i64 0) (.int .i64 0) (.slice none 0 0) (.int .i64 0) (.int .i64 0)) := q1
  replace q2 : Kept (ne' w.heap.size) W1 (put8 W1 w.heap.size) := q2
  have hx5 := ext_ne HX1.out q2 (Nat.le_refl _)
  clear d0 d1 d2 d3 d4 d5 d6 d7 dl dz t0 t4 t10 t11 t12 t15 tl tz
  generalize put8 W1 w.heap.size = W5 at *
  obtain ⟨d0, d1, d2, d3, d4, d5, d6, d7, dl, dz⟩ := inso_cells q1
  exact bodyPost_ret (v := .tuple #[zinsV, .bool false]) (by simp [results, Tryz.results64, go_sem, zinsV, d0, d1, d2, d3, d4, d5, d6, d7]) rfl ⟨rfl, hx5⟩
theorem instr_run (a : MA W3 L s w) (hs : s.state = 2) (ht : s.th = .pointer (some ⟨L.bt, 0, none⟩)) {y : Ins}
    (hn : ∀ w', Ext w w' → Calls Tryz.prog 117 #[.pointer (some ⟨L.bt, 0, none⟩)] w' fun e w2 => ∃ A c, e = .returned (.tuple #[({ y with lA := A, l := [], lC := c } : Ins).v, .bool true]) ∧ Ext w' w2) :
    Calls Tryz.prog 64 #[.pointer (some ⟨L.bm, 0, none⟩), .int .i64 1] w fun e w' => ∃ A c, e = .returned (.tuple #[({ y with lA := A, l := [], lC := c } : Ins).v, .bool true]) ∧ Ext w w' := by
  obtain ⟨W1, hW1⟩ : ∃ W1, W1 = w.alloc zins := ⟨_, rfl⟩
  have hx1 : Ext w W1 := by rw [hW1]; exact Ext.one _ _
  have hb1 : W1.heap[w.heap.size]? = some zins := by rw [hW1]; exact World.alloc_heap_new _ _
  have HF := Lib.hid (find_m (a.ext hx1))
  have HN := Lib.hid (hn W1 hx1)
  obtain ⟨t0, t4, t10, t11, t12, t15, tl, tz⟩ := (a.ext hx1).tcells
  rw [hs] at t11
  rw [ht] at t15
  have HX1 := Lib.hid hx1
  have HB1 := Lib.hid hb1
  have HW := Lib.hid hW1
  clear hx1 hb1 hW1 a hs ht hn
  obtain ⟨o, a, b, c, n, lA, lC, l, si, li⟩ := y
  unfold Ins.v at HN ⊢
  dsimp only [List.length_nil] at HN ⊢
  go_enter Tryz.func64, Tryz.ntmps64
  go_upto_region 1 with (fail)
  change Code.wp _ _ _ _ (w.alloc zins)
  rw [← HW.out]
  go_wp2_with (first
    | (go_at_call 116; refine HF.out.mono ?_; rintro e w2 ⟨rfl, hw⟩; rw [hw]; clear hw)
    | (go_at_call 117; refine HN.out.mono ?_; rintro e w4 ⟨A4, cc4, rfl, hx4⟩; have HX4 := Lib.hid (HX1.out.trans hx4); have HB4 := Lib.hid ((hx4.kept (fun _ _ => true)).same _ _ HB1.out rfl); clear hx4; obtain ⟨d0, d1, d2, d3, d4, d5, d6, d7, dl, dz⟩ := inso_cells (show w4.heap[w.heap.size]? = some (inso _ _ _ _ _ _ _ _) from HB4.out)))
  obtain ⟨q1, q2⟩ := inso_all (show w4.heap[w.heap.size]? = some (inso _ _ _ _ _ _ _ _) from HB4.out) (.int .i64 o) (.int .i64 a) (.int .i64 b) (.int .i64 c) (.int .i64 n) (.slice A4 0 cc4) (.int .i64 si) (.int .i64 li)
  change bodyPost _ _ _ _ _ (ins8 w4 w.heap.size (Ins.mk o a b c n A4 cc4 [] si li))
  replace q1 : (ins8 w4 w.heap.size (Ins.mk o a b c n A4 cc4 [] si li)).heap[w.heap.size]? = some (inso (.int .i64 o) (.int .i64 a) (.int .i64 b) (.int .i64 c) (.int .i64 n) (.slice A4 0 cc4) (.int .i64 si) (.int .i64 li)) := q1
  replace q2 : Kept (ne' w.heap.size) w4 (ins8 w4 w.heap.size (Ins.mk o a b c n A4 cc4 [] si li)) := q2
  have hx5 := ext_ne HX4.out q2 (Nat.le_refl _)
  clear d0 d1 d2 d3 d4 d5 d6 d7 dl dz t0 t4 t10 t11 t12 t15 tl tz
  generalize ins8 w4 w.heap.size (Ins.mk o a b c n A4 cc4 [] si li) = W5 at *
  obtain ⟨d0, d1, d2, d3, d4, d5, d6, d7, dl, dz⟩ := inso_cells q1
  exact bodyPost_ret (v := .tuple #[.agg #[.int .i64 o, .int .i64 a, .int .i64 b, .int .i64 c, .int .i64 n, .slice A4 0 cc4, .int .i64 si, .int .i64 li], .bool true]) (by simp [results, Tryz.results64, go_sem, d0, d1, d2, d3, d4, d5, d6, d7]) rfl ⟨A4, cc4, rfl, hx5⟩
theorem Waits_wait (a : MA W3 L s w) (hs : s.state = 1) : Calls Tryz.prog 24 #[.pointer (some ⟨L.bm, 0, none⟩), .int .i64 1] w fun e w' => e = .returned (.int .i64 0) ∧ Ext w w' := by
  have HI := Lib.hid (instr_wait a hs)
  clear a hs
  unfold zinsV at HI
  go_enter Tryz.func24, Tryz.ntmps24
  go_wp2_with (first
    | (go_at_call 48; refine (there_m _ _).mono ?_; rintro e w2 ⟨rfl, hw⟩; rw [hw]; clear hw)
    | (go_at_call 64; refine HI.out.mono ?_; rintro e w3 ⟨rfl, hx⟩; have HX3 := Lib.hid (hx.trans (Ext.one w3 zins)); clear hx))
  go_ret
  exact ⟨rfl, HX3.out⟩
theorem Waits_run (a : MA W3 L s w) (hs : s.state = 2) (ht : s.th = .pointer (some ⟨L.bt, 0, none⟩)) {y : Ins} (hop : (y.op != 29) = true)
    (hn : ∀ w', Ext w w' → Calls Tryz.prog 117 #[.pointer (some ⟨L.bt, 0, none⟩)] w' fun e w2 => ∃ A c, e = .returned (.tuple #[({ y with lA := A, l := [], lC := c } : Ins).v, .bool true]) ∧ Ext w' w2) :
    Calls Tryz.prog 24 #[.pointer (some ⟨L.bm, 0, none⟩), .int .i64 1] w fun e w' => e = .returned (.int .i64 0) ∧ Ext w w' := by
  have HI := Lib.hid (instr_run a hs ht hn)
  clear a hs ht hn
  obtain ⟨o, a, b, c, n, lA, lC, l, si, li⟩ := y
  unfold Ins.v at HI
  dsimp only [List.length_nil] at HI hop
  go_enter Tryz.func24, Tryz.ntmps24
  go_upto_region 3 with (first
    | (go_at_call 48; refine (there_m _ _).mono ?_; rintro e w2 ⟨rfl, hw⟩; rw [hw]; clear hw)
    | (go_at_call 64; refine HI.out.mono ?_; rintro e w3 ⟨A3, cc3, rfl, hx⟩; have HX3 := Lib.hid (hx.trans (Ext.one w3 (inso (.int .i64 o) (.int .i64 a) (.int .i64 b) (.int .i64 c) (.int .i64 n) (.slice A3 0 cc3) (.int .i64 si) (.int .i64 li)))); clear hx))
  have hb := World.alloc_heap_new w3 (inso (.int .i64 o) (.int .i64 a) (.int .i64 b) (.int .i64 c) (.int .i64 n) (.slice A3 0 cc3) (.int .i64 si) (.int .i64 li))
  change Code.wp _ _ _ _ (w3.alloc (inso (.int .i64 o) (.int .i64 a) (.int .i64 b) (.int .i64 c) (.int .i64 n) (.slice A3 0 cc3) (.int .i64 si) (.int .i64 li)))
  generalize w3.alloc (inso (.int .i64 o) (.int .i64 a) (.int .i64 b) (.int .i64 c) (.int .i64 n) (.slice A3 0 cc3) (.int .i64 si) (.int .i64 li)) = W4 at *
  generalize w3.heap.size = b3 at *
  obtain ⟨d0, d1, d2, d3, d4, d5, d6, d7, dl, dz⟩ := inso_cells hb
  clear hb
  go_wp2_with fail
  go_ret
  exact ⟨rfl, HX3.out⟩
end
end Go.Proofs.YtfljmdpigckpkaaGreatDoor

namespace Go.Proofs.YtfljmdpigckpkaaGreatDoor
open Go.RowKit Go.Shelf Go.Conc
attribute [local go_sem] Oper.semAt_some
theorem keepChan {w : World} {b : Nat} (cap : Nat) (buf : Array Value) (cl : Bool) (s r : Nat) (tm : Bool) : Kept (ne' b) w (w.setChan b cap buf cl s r tm) := ⟨rfl, rfl, rfl, by simp [World.setChan], fun x o hb hp => by
  have hne : b ≠ x := by
    rintro rfl
    simp [ne'] at hp
  simp only [World.setChan]
  rw [Array.getElem?_setIfInBounds_ne hne]
  exact hb⟩
section
variable {W3 w w' : World} {L : Lay} {s : Sta}
set_option maxHeartbeats 4000000
set_option maxRecDepth 100000
theorem next_0 (v : Value) {g : Nat} (hg : w.cell? ⟨g, 0, none⟩ = some (.int .i64 0)) : Calls Tryz.prog 50 #[v, .slice (some ⟨g, 0, none⟩) 1 1] w fun e w' => ∃ b, e = .returned (.chan (some b)) ∧ w'.heap[b]? = some cho ∧ Ext w w' := by
  have hmc := mkCh
  have HX := Lib.hid (Ext.one w cho)
  have HB := Lib.hid (show (w.alloc cho).heap[w.heap.size]? = some cho from World.alloc_heap_new _ _)
  have hlt := World.block_lt_of_cell? w _ hg
  go_enter Tryz.func50, Tryz.ntmps50
  go_upto_region 3 with (fail)
  go_rounds 2
  go_ret
  exact ⟨_, rfl, HB.out, HX.out⟩
theorem next_1 {g bm : Nat} (hg : w.cell? ⟨g, 0, none⟩ = some (.int .i64 1)) (hw : ∀ w', Ext w w' → Calls Tryz.prog 24 #[.pointer (some ⟨bm, 0, none⟩), .int .i64 1] w' fun e w2 => e = .returned (.int .i64 0) ∧ Ext w' w2) : Calls Tryz.prog 50 #[.pointer (some ⟨bm, 0, none⟩), .slice (some ⟨g, 0, none⟩) 1 1] w fun e w' => ∃ b, e = .returned (.chan (some b)) ∧ w'.heap[b]? = some (.chan 1 #[.int .i64 1] false 1 0 false) ∧ Ext w w' ∧ w.heap.size ≤ b := by
  have hmc := mkCh
  have HX := Lib.hid (Ext.one w cho)
  have HB := Lib.hid (show (w.alloc cho).heap[w.heap.size]? = some cho from World.alloc_heap_new _ _)
  have hlt := World.block_lt_of_cell? w _ hg
  have HW := Lib.hid hw
  have HG := Lib.hid hg
  clear hw
  refine calls_of_wpN Tryz.func50 rfl ?_
  simp only [Tryz.ntmps50, List.size_toArray, List.length_cons, List.length_nil, Nat.reduceAdd, Nat.reduceSub, Array.replicate_succ, Array.replicate_zero, List.push_toArray, List.append_toArray, List.nil_append, List.cons_append]
  generalize hQ : bodyPost _ _ _ = Q
  have HQ := Lib.hid hQ
  clear hQ
  refine wpN_first_k fun K hK => ?_
  go_wp2_with fail
  refine wpN_first_k fun K hK => ?_
  go_wp2_with fail
  refine wpN_seq ?_
  refine wpN_first_k fun K hK => ?_
  go_wp2_with fail
  refine wpN_block ?_
  refine wpN_loop 2 ?_
  refine wpN_first_k fun K hK => ?_
  go_wp2_with fail
  refine wpN_first_k fun K hK => ?_
  go_wp2_with fail
  refine wpN_seq ?_
  refine wpN_block ?_
  refine wpN_first_k fun K hK => ?_
  go_wp2_with fail
  refine wpN_first_k fun K hK => ?_
  go_wp2_with (go_at_call 24; refine (HW.out _ HX.out).mono ?_; rintro e w5 ⟨rfl, hx5⟩; have HX5 := Lib.hid (HX.out.trans hx5); have HB5 := Lib.hid ((hx5.kept (fun _ _ => true)).same _ _ HB.out rfl); clear hx5)
  refine wpN_first_k fun K hK => ?_
  go_wp2_with fail
  refine wpN_sel_send (c := w.heap.size) (v := .int .i64 1) (z := .int .i64 0) (w1 := w5) (s := 0) (r := 0) rfl (by simp [go_sem, execOp, scase, Act.eval]) HB5.out fun K hK => ?_
  have hk6 : Kept (ne' w.heap.size) w5 (w5.setChan w.heap.size 1 #[.int .i64 1] false 1 0 false) := keepChan _ _ _ _ _ _
  have HX6 := Lib.hid (ext_ne HX5.out hk6 (Nat.le_refl _))
  have HB6 := Lib.hid (heap_setChan w5 w.heap.size 1 #[.int .i64 1] false 1 0 false (Array.getElem?_eq_some_iff.1 HB5.out).1)
  clear hk6
  change wpList _ _ _ _ _ (w5.setChan w.heap.size 1 #[.int .i64 1] false 1 0 false)
  generalize w5.setChan w.heap.size 1 #[.int .i64 1] false 1 0 false = w6 at *
  have hg6 := (HX6.out.kept (fun _ _ => true)).cell HG.out fun _ _ => rfl
  go_wp2_with fail
  refine wpN_of ?_
  go_wp2_with fail
  refine wpN_of ?_
  go_wp2_with fail
  refine wpN_of ?_
  go_wp2_with fail
  refine wpN_of ?_
  rw [← HQ.out]
  go_wp2_with fail
  go_ret
  exact ⟨_, rfl, HB6.out, HX6.out, Nat.le_refl _⟩
theorem step_0 (b : Nat) (w : World) : Calls Tryz.prog 40 #[.pointer (some ⟨b, 0, none⟩), .int .i64 0] w fun e w' => e = .returned (.int .i64 10) ∧ Ext w w' := by
  have HX1 := Lib.hid (Ext.one w (.cells #[.int .i64 0] 3 (0, 0)))
  have HB1 := Lib.hid (show (w.alloc (.cells #[.int .i64 0] 3 (0, 0))).cell? ⟨w.heap.size, 0, none⟩ = some (.int .i64 0) from by simp only [World.cell?, heap_alloc_new]; rfl)
  have HN := Lib.hid (next_0 (.pointer (some ⟨b, 0, none⟩)) HB1.out)
  unfold cho at HN
  clear HB1
  refine calls_of_wpN Tryz.func40 rfl ?_
  simp only [Tryz.ntmps40, List.size_toArray, List.length_cons, List.length_nil, Nat.reduceAdd, Nat.reduceSub, Array.replicate_succ, Array.replicate_zero, List.push_toArray, List.append_toArray, List.nil_append, List.cons_append]
  generalize hQ : bodyPost _ _ _ = Q
  have HQ := Lib.hid hQ
  clear hQ
  refine wpN_first_k fun K hK => ?_
  go_wp2_with fail
  refine wpN_first_k fun K hK => ?_
  go_wp2_with (go_at_call 50; refine HN.out.mono ?_; rintro e w5 ⟨b5, rfl, hb5, hx5⟩; have HX5 := Lib.hid (HX1.out.trans hx5); have HB5 := Lib.hid hb5; clear hb5 hx5)
  refine wpN_sel_none (c := b5) (z := .int .i64 0) (w1 := w5) (s := 0) (r := 0) rfl (by simp [go_sem, execOp, rcase, Act.eval]) HB5.out fun K hK => ?_
  go_wp2_with fail
  refine wpN_of ?_
  rw [← HQ.out]
  go_wp2_with fail
  go_ret
  exact ⟨rfl, HX5.out⟩
theorem step_1 {bm : Nat} {X : World → Prop} {v : Int} (hw : ∀ w', Ext w w' → Calls Tryz.prog 24 #[.pointer (some ⟨bm, 0, none⟩), .int .i64 1] w' fun e w2 => e = .returned (.int .i64 0) ∧ Ext w' w2)
    (hg : ∀ w', Ext w w' → Calls Tryz.prog 100 #[.pointer (some ⟨bm, 0, none⟩), .int .i64 1] w' fun e w2 => e = .returned (.int .i64 v) ∧ X w2) :
    Calls Tryz.prog 40 #[.pointer (some ⟨bm, 0, none⟩), .int .i64 1] w fun e w' => e = .returned (.int .i64 v) ∧ X w' := by
  have HX1 := Lib.hid (Ext.one w (.cells #[.int .i64 1] 3 (0, 0)))
  have HB1 := Lib.hid (show (w.alloc (.cells #[.int .i64 1] 3 (0, 0))).cell? ⟨w.heap.size, 0, none⟩ = some (.int .i64 1) from by simp only [World.cell?, heap_alloc_new]; rfl)
  have HN := Lib.hid (next_1 (bm := bm) HB1.out fun w' x => hw w' (HX1.out.trans x))
  have HG := Lib.hid hg
  clear HB1 hw hg
  refine calls_of_wpN Tryz.func40 rfl ?_
  simp only [Tryz.ntmps40, List.size_toArray, List.length_cons, List.length_nil, Nat.reduceAdd, Nat.reduceSub, Array.replicate_succ, Array.replicate_zero, List.push_toArray, List.append_toArray, List.nil_append, List.cons_append]
  generalize hQ : bodyPost _ _ _ = Q
  have HQ := Lib.hid hQ
  clear hQ
  refine wpN_first_k fun K hK => ?_
  go_wp2_with fail
  refine wpN_first_k fun K hK => ?_
  go_wp2_with (go_at_call 50; refine HN.out.mono ?_; rintro e w5 ⟨b5, rfl, hb5, hx5, hl5⟩; have HX5 := Lib.hid (HX1.out.trans hx5); have HB5 := Lib.hid hb5; have HL5 := Lib.hid (Nat.le_trans HX1.out.size hl5); clear hb5 hx5 hl5)
  refine wpN_sel_recv (c := b5) (v := .int .i64 1) (z := .int .i64 0) (w1 := w5) (s := 1) (r := 0) rfl (by simp [go_sem, execOp, rcase, Act.eval]) HB5.out fun K hK => ?_
  have HX6 := Lib.hid (ext_ne HX5.out (keepChan (w := w5) (b := b5) 1 #[] false 1 1 false) HL5.out)
  change wpList _ _ _ _ _ (w5.setChan b5 1 #[] false 1 1 false)
  generalize w5.setChan b5 1 #[] false 1 1 false = w6 at *
  go_wp2_with fail
  refine wpN_of ?_
  rw [← HQ.out]
  go_wp2_with (go_at_call 100; refine (HG.out _ HX6.out).mono ?_; rintro e w7 ⟨rfl, h7⟩; have H7 := Lib.hid h7; clear h7)
  go_ret
  exact ⟨rfl, H7.out⟩
end
end Go.Proofs.YtfljmdpigckpkaaGreatDoor

namespace Go.Proofs.YtfljmdpigckpkaaGreatDoor
open Go.RowKit Go.Shelf
attribute [local go_sem] Oper.semAt_some
def ito (t : Int) (f : Bool) (d : Int) : Obj := .cells #[.int .i64 t, .bool f, .int .i64 d] 102 (0, 0)
theorem ito_cells {w : World} {b : Nat} {t : Int} {f : Bool} {d : Int} (h : w.heap[b]? = some (ito t f d)) : w.cell? ⟨b, 0, none⟩ = some (.int .i64 t) ∧ w.cell? ⟨b, 1, none⟩ = some (.bool f) ∧ w.cell? ⟨b, 2, none⟩ = some (.int .i64 d) ∧ b < w.heap.size ∧ ∀ n, w.frozen? ⟨b, n, none⟩ = false := by
  refine ⟨?_, ?_, ?_, (Array.getElem?_eq_some_iff.1 h).1, fun n => frozen_of_row w b n _ _ h⟩
  all_goals simp [World.cell?, h, ito]
def it3 (w : World) (b : Nat) (t : Int) (f : Bool) (d : Int) : World := ((w.setCell ⟨b, 0, none⟩ (.int .i64 t)).setCell ⟨b, 1, none⟩ (.bool f)).setCell ⟨b, 2, none⟩ (.int .i64 d)
theorem it3_ok {w : World} {b : Nat} {t' : Int} {f' : Bool} {d' : Int} (h : w.heap[b]? = some (ito t' f' d')) (t : Int) (f : Bool) (d : Int) : (it3 w b t f d).heap[b]? = some (ito t f d) ∧ Kept (ne' b) w (it3 w b t f d) :=
  set_range (b := b) (t := 102) [.int .i64 t, .bool f, .int .i64 d] [] [.int .i64 t', .bool f', .int .i64 d'] w h rfl
section
variable {W3 w w' : World} {L : Lay} {s : Sta}
set_option maxHeartbeats 4000000
set_option maxRecDepth 100000
theorem ofLooper_run (a : MA W3 L s w) (hs : s.runs = 1) : Calls Tryz.prog 41 #[.pointer (some ⟨L.bm, 0, none⟩), .int .i64 0] w fun e w' => e = .returned (.int .i64 1) ∧ w' = w := by
  obtain ⟨lv, mv, m1, _⟩ := a.m
  obtain ⟨c0, c9, c10, c11, c12, c15, c16, c17, c18, c19, c20, cl, cz⟩ := mv_cells m1
  have cp := a.loop0
  obtain ⟨l1, l2⟩ := a.lts
  obtain ⟨p0, p1, pl, pz⟩ := LV.cells a.l0
  dsimp only at p0
  rw [hs] at p0
  clear a m1 hs
  go_enter Tryz.func41, Tryz.ntmps41
  go_wp2_with fail
  go_ret
  exact ⟨rfl, rfl⟩
theorem ofLooper_due (a : MA W3 L s w) {i : Nat} (hi : i < 2) {lb qb : Nat} (hc : w.cell? ⟨L.gL, i, none⟩ = some (.pointer (some ⟨lb, 0, none⟩))) (hb : w.heap[lb]? = some (LV.mk 0 qb).o) {ti : Int} {fr : Bool} {du : Int} {is : Bool}
    (hd : ∀ w', Ext w w' → Calls Tryz.prog 101 #[.pointer (some ⟨qb, 0, none⟩), .int .i64 0] w' fun e w2 => e = .returned (.tuple #[.agg #[.int .i64 ti, .bool fr, .int .i64 du], .bool is]) ∧ Ext w' w2) :
    Calls Tryz.prog 41 #[.pointer (some ⟨L.bm, 0, none⟩), .int .i64 i] w fun e w' => e = .returned (.int .i64 ti) ∧ Ext w w' := by
  obtain ⟨lv, mv, m1, _⟩ := a.m
  obtain ⟨c0, c9, c10, c11, c12, c15, c16, c17, c18, c19, c20, cl, cz⟩ := mv_cells m1
  obtain ⟨l1, l2⟩ := a.lts
  obtain ⟨p0, p1, pl, pz⟩ := LV.cells hb
  dsimp only at p0 p1
  have HD := Lib.hid hd
  have HB := Lib.hid hb
  have HM := Lib.hid m1
  have z0 : (i : Int) < 2 := by omega
  clear a m1 hd hb
  go_enter Tryz.func41, Tryz.ntmps41
  go_upto_region 6 with (fail)
  go_region_held3 (fun w' => w'.cell? ⟨lb, 1, none⟩ = some (.pointer (some ⟨qb, 0, none⟩)) ∧ w'.cell? ⟨L.bm, 18, none⟩ = some (.int .i64 0)) (first | go_keep | exact ⟨p1, c18⟩ | exact ⟨r1, r18⟩ | exact ⟨s1, s18⟩) (first
    | (go_at_call 101; refine (HD.out _ (by first | exact Ext.drew _ | exact (Ext.drew _).trans (Ext.one _ _))).mono ?_; rintro e w5 ⟨rfl, hx5⟩; have hx := Ext.trans (by first | exact Ext.drew w | exact (Ext.drew w).trans (Ext.one _ _)) hx5; obtain ⟨-, r1, -, -⟩ := LV.cells ((hx.kept (fun _ _ => true)).same _ _ HB.out rfl); obtain ⟨-, -, -, -, -, -, -, -, r18, -, -, -, -⟩ := mv_cells ((hx.kept (fun _ _ => true)).same _ _ HM.out rfl); dsimp only at r1; (first | (have hq : w5.heap[w.heap.size]? = some (ito 0 false 0) := (hx5.kept (fun _ _ => true)).same _ _ (heap_alloc_new w.drew (ito 0 false 0)) rfl; obtain ⟨q0, q1, q2, ql, qz⟩ := ito_cells hq; obtain ⟨u1, u2⟩ := it3_ok hq ti fr du; have s1 := u2.cell r1 (fun _ _ => by simp [ne']; omega); have s18 := u2.cell r18 (fun _ _ => by simp [ne']; omega); have HQ5 := Lib.hid (And.intro u1 (ext_ne hx u2 (Nat.le_refl _))); clear hq u1 u2) | skip); have HX := Lib.hid hx; have HX5 := Lib.hid hx5; clear hx hx5))
  · have hxf : Ext w (w5.alloc (ito ti fr du)) := HX.out.trans (Ext.one _ _)
    have hbf := heap_alloc_new w5 (ito ti fr du)
    change Exit.then _ _ _ _ (w5.alloc (ito ti fr du))
    have HXF := Lib.hid hxf
    rename_i hh
    clear hh hxf
    generalize w5.alloc (ito ti fr du) = w7 at *
    generalize w5.heap.size = b6 at *
    obtain ⟨d0, d1, d2, dl, dz⟩ := ito_cells hbf
    go_wp2_with fail
    go_ret
    exact ⟨rfl, HXF.out⟩
  · obtain ⟨h1, h2⟩ := HQ5.out
    change Exit.then _ _ _ _ (it3 w5 w.heap.size ti fr du)
    have HXF := Lib.hid h2
    rename_i hh
    clear hh h2 q0 q1 q2 ql qz s1 s18
    generalize it3 w5 w.heap.size ti fr du = w7 at *
    obtain ⟨d0, d1, d2, dl, dz⟩ := ito_cells h1
    go_wp2_with fail
    go_ret
    exact ⟨rfl, HXF.out⟩
end
end Go.Proofs.YtfljmdpigckpkaaGreatDoor

namespace Go.Proofs.YtfljmdpigckpkaaGreatDoor
open Go.RowKit Go.Shelf
attribute [local go_sem] Oper.semAt_some
section
variable {W3 w w' : World} {L : Lay} {s : Sta}
set_option maxHeartbeats 4000000
set_option maxRecDepth 100000
/-- The first looper's queue loses the first task, which alone is in it. -/
theorem drop_m (a : MA W3 L s w) {x : QQ.Ent} (he : s.e0 = [x]) (hx : x.task = 1) : Calls Tryz.prog 259 #[.pointer (some ⟨L.q0, 0, none⟩), .int .i64 1] w fun e w' => e = .returned (.bool true) ∧ MA W3 L { s with e0 := [] } w' := by
  obtain ⟨o0, o1, p0, p1, q1, q2, q3, q4⟩ := a.q
  have h := QQ.Drop_ok q1 1 (by decide)
  have hh : QQ.hasE s.e0 1 = true := by rw [he]; simp [QQ.hasE, hx]
  rw [hh] at h
  refine h.mono ?_
  rintro e w' ⟨rfl, own', l', r1, r2, r3, r4⟩
  have hd : QQ.drE s.e0 1 = [] := by rw [he]; simp [QQ.drE, hx]
  rw [hd] at r2
  obtain rfl := List.perm_nil.1 r2
  exact ⟨rfl, a.setQ q1 q2 q3 q4 r3 r1 r4 (by intro i j k hi; simp at hi)⟩
theorem begin_m (a : MA W3 L s w) (hM : s.M.length ≤ 100000) {x : QQ.Ent} (he : s.e0 = [x]) (hx : x.task = 1) : Calls Tryz.prog 159 #[.pointer (some ⟨L.bm, 0, none⟩), .int .i64 1] w fun e w' => e = .returned (.tuple #[]) ∧ MA W3 L { s with state := 2, runs := 1, e0 := [], M := s.M ++ [⟨1, 1, 0, 0, 0, 0, 0, false⟩] } w' := by
  obtain ⟨lv, mv, m1, _⟩ := a.m
  obtain ⟨c0, c9, c10, c11, c12, c15, c16, c17, c18, c19, c20, cl, cz⟩ := mv_cells m1
  obtain ⟨t0, t4, t10, t11, t12, t15, tl, tz⟩ := a.tcells
  have ct := a.task
  obtain ⟨l1, l2⟩ := a.lts
  have a1 : MA W3 L { s with state := 2 } (w.setCell ⟨L.b1, 11, none⟩ (.int .i64 2)) := a.setT (st := 2) (tr := s.trap) (th := s.th) (TV.set_state a.t 2)
  have HA1 := Lib.hid a1
  have HE := Lib.hid he
  have HX := Lib.hid hx
  have HM := Lib.hid hM
  clear a a1 m1 he hx hM
  go_enter Tryz.func159, Tryz.ntmps159
  go_upto_region 2 with (fail)
  clear c0 c9 c10 c11 c12 c15 c16 c17 c18 c19 c20 cl cz t0 t4 t10 t11 t12 t15 tl tz ct l1 l2
  change Code.wp _ _ _ _ (w.setCell ⟨L.b1, 11, none⟩ (.int .i64 2))
  generalize w.setCell _ _ = w1 at *
  obtain ⟨t0, t4, t10, t11, t12, t15, tl, tz⟩ := HA1.out.tcells
  obtain ⟨lv1, mv1, m1, _⟩ := HA1.out.m
  obtain ⟨c0, c9, c10, c11, c12, c15, c16, c17, c18, c19, c20, cl, cz⟩ := mv_cells m1
  obtain ⟨l1, l2⟩ := HA1.out.lts
  have cp := HA1.out.loop0
  obtain ⟨p0, p1, pl, pz⟩ := LV.cells HA1.out.l0
  dsimp only at p0 p1
  clear m1
  go_upto_region 3 with (fail)
  go_quiet (fail)
  clear c0 c9 c10 c11 c12 c15 c16 c17 c18 c19 c20 cl cz t0 t4 t10 t11 t12 t15 tl tz l1 l2 cp p0 p1 pl pz
  have HA2 := Lib.hid (HA1.out.ext (Ext.drewN w1 nq))
  generalize w1.drewN nq = w2 at *
  obtain ⟨p0, p1, pl, pz⟩ := LV.cells HA2.out.l0
  dsimp only at p0 p1
  have HD := Lib.hid (drop_m HA2.out HE.out HX.out)
  go_upto_region 5 with (go_at_call 259; refine HD.out.mono ?_; rintro e w3 ⟨rfl, a3⟩; have HA3 := Lib.hid a3; clear a3)
  clear p0 p1 pl pz
  obtain ⟨p0, p1, pl, pz⟩ := LV.cells HA3.out.l0
  dsimp only at p0 p1
  have HA4 := Lib.hid (HA3.out.setL 1)
  go_upto_region 6 with (fail)
  clear p0 p1 pl pz
  change Code.wp _ _ _ _ (w3.setCell ⟨L.l0, 0, none⟩ (.int .i64 1))
  generalize w3.setCell _ _ = w4 at *
  have HK := Lib.hid (mark_m HA4.out ⟨1, 1, 0, 0, 0, 0, 0, false⟩ HM.out)
  unfold Mk.v at HK
  go_upto_region 7 with (go_at_call 251; refine HK.out.mono ?_; rintro e w5 ⟨rfl, a5, -⟩; have HA5 := Lib.hid a5; clear a5)
  obtain ⟨t0, t4, t10, t11, t12, t15, tl, tz⟩ := HA5.out.tcells
  go_wp2_with fail
  go_end0
  exact ⟨rfl, HA5.out⟩
theorem goOn_begin (a : MA W3 L s w) (hs : s.state = 1) (hM : s.M.length ≤ 100000) {x : QQ.Ent} (he : s.e0 = [x]) (hx : x.task = 1) (h20 : s.steps ≠ 20000) (hst : 0 ≤ s.steps ∧ s.steps ≤ 20000) : Calls Tryz.prog 100 #[.pointer (some ⟨L.bm, 0, none⟩), .int .i64 1] w fun e w' => e = .returned (.int .i64 0) ∧ MA W3 L { s with state := 2, runs := 1, e0 := [], M := s.M ++ [⟨1, 1, 0, 0, 0, 0, 0, false⟩], steps := s.steps + 1 } w' := by
  obtain ⟨lv, mv, m1, _⟩ := a.m
  obtain ⟨c0, c9, c10, c11, c12, c15, c16, c17, c18, c19, c20, cl, cz⟩ := mv_cells m1
  obtain ⟨t0, t4, t10, t11, t12, t15, tl, tz⟩ := a.tcells
  rw [hs] at t11
  have ct := a.task
  obtain ⟨l1, l2⟩ := a.lts
  have HB := Lib.hid (begin_m a hM he hx)
  have h20' : (s.steps == 20000) = false := by simpa using h20
  have hwr : IntKind.i64.wrap (s.steps + 1) = s.steps + 1 := by rw [IntKind.wrap_i64]; omega
  clear a m1 hs hM he hx h20 hst
  go_enter Tryz.func100, Tryz.ntmps100
  go_upto_region 9 with (go_at_call 159; refine HB.out.mono ?_; rintro e w2 ⟨rfl, a2⟩; have HA2 := Lib.hid a2; clear a2)
  clear c0 c9 c10 c11 c12 c15 c16 c17 c18 c19 c20 cl cz t0 t4 t10 t11 t12 t15 tl tz ct l1 l2
  obtain ⟨lv2, mv2, m2, _⟩ := HA2.out.m
  obtain ⟨c0, c9, c10, c11, c12, c15, c16, c17, c18, c19, c20, cl, cz⟩ := mv_cells m2
  dsimp only at c19
  clear m2
  go_wp2_with fail
  go_ret
  exact ⟨rfl, HA2.out.setSteps _⟩
end
end Go.Proofs.YtfljmdpigckpkaaGreatDoor
