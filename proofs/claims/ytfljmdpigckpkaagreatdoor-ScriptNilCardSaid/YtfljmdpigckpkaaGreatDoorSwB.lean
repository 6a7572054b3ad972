/- Next and Prog of what is not there. -/
import Derived.Test.YtfljmdpigckpkaaGreatDoorSvZ
namespace Go.Proofs.YtfljmdpigckpkaaGreatDoor
open Go.RowKit Go.Shelf
attribute [local go_sem] Oper.semAt_some
def zinsV : Value := .agg #[.int .i64 0, .int .i64 0, .int .i64 0, .int .i64 0, .int .i64 0, .slice none 0 0, .int .i64 0, .int .i64 0]
def zprgV : Value := .agg #[.slice none 0 0, .slice none 0 0, .slice none 0 0, .slice none 0 0, .slice none 0 0, .slice none 0 0, .int .i64 0, .slice none 0 0]
def zprg : Obj := .cells #[.slice none 0 0, .slice none 0 0, .slice none 0 0, .slice none 0 0, .slice none 0 0, .slice none 0 0, .int .i64 0, .slice none 0 0] 35 (0, 0)
def put8 (w : World) (b : Nat) : World := (((((((w.setCell ⟨b, 0, none⟩ (.int .i64 0)).setCell ⟨b, 1, none⟩ (.int .i64 0)).setCell ⟨b, 2, none⟩ (.int .i64 0)).setCell ⟨b, 3, none⟩ (.int .i64 0)).setCell ⟨b, 4, none⟩ (.int .i64 0)).setCell ⟨b, 5, none⟩ (.slice none 0 0)).setCell ⟨b, 6, none⟩ (.int .i64 0)).setCell ⟨b, 7, none⟩ (.int .i64 0)
section
variable {W : World}
set_option maxHeartbeats 1000000 in
set_option maxRecDepth 100000 in
theorem cloneInts_nil (W : World) : Calls Tryz.prog 69 #[.slice none 0 0] W fun e W' => e = .returned (.slice none 0 0) ∧ W' = W := by
  go_enter Tryz.func69, Tryz.ntmps69
  go_wp2_with fail
  go_ret
  exact ⟨rfl, rfl⟩
set_option maxHeartbeats 1000000 in
set_option maxRecDepth 100000 in
theorem Prog_nil (W : World) : Calls Tryz.prog 87 #[.pointer none] W fun e W' => e = .returned zprgV ∧ Ext W W' := by
  go_enter Tryz.func87, Tryz.ntmps87
  go_wp2_with fail
  exact bodyPost_ret (v := zprgV) (by simp [results, Tryz.results87, go_sem, zprgV]) rfl ⟨rfl, Ext.one _ _⟩
set_option maxHeartbeats 1000000 in
set_option maxRecDepth 100000 in
theorem Next_nil (W : World) : Calls Tryz.prog 117 #[.pointer none] W fun e W' => e = .returned (.tuple #[zinsV, .bool false]) ∧ Ext W W' := by
  obtain ⟨W1, hW1⟩ : ∃ W1, W1 = W.alloc zins := ⟨_, rfl⟩
  have hx1 : Ext W W1 := by rw [hW1]; exact Ext.one _ _
  have hb1 : W1.heap[W.heap.size]? = some zins := by rw [hW1]; exact World.alloc_heap_new _ _
  have HR := Lib.hid (running_none W1)
  have HC := Lib.hid (fun w => cloneInts_nil w)
  have HX1 := Lib.hid hx1
  have HB1 := Lib.hid hb1
  have HW := Lib.hid hW1
  clear hx1 hb1 hW1
  go_enter Tryz.func117, Tryz.ntmps117
  go_upto_region 1 with (fail)
  change Code.wp _ _ _ _ (W.alloc zins)
  rw [← HW.out]
  go_upto_region 2 with (go_at_call 119; refine HR.out.mono ?_; rintro e w2 ⟨rfl, hx2⟩; have HX2 := Lib.hid hx2; clear hx2)
  obtain ⟨W3, hW3⟩ : ∃ W3, W3 = w2.alloc zins := ⟨_, rfl⟩
  change Code.wp _ _ _ _ (w2.alloc zins)
  rw [← hW3]
  have hx3 : Ext w2 W3 := by rw [hW3]; exact Ext.one _ _
  have hb3 : W3.heap[w2.heap.size]? = some zins := by rw [hW3]; exact World.alloc_heap_new _ _
  have hlt : W.heap.size < w2.heap.size := Nat.lt_of_lt_of_le (Array.getElem?_eq_some_iff.1 HB1.out).1 HX2.out.size
  have HX3 := Lib.hid hx3
  have HB3 := Lib.hid hb3
  have HX := Lib.hid (HX1.out.trans (HX2.out.trans hx3))
  have HA := Lib.hid ((hx3.kept (fun _ _ => true)).same _ _ ((HX2.out.kept (fun _ _ => true)).same _ _ HB1.out rfl) rfl)
  have HLT := Lib.hid hlt
  have HLE := Lib.hid (HX2.out.size)
  clear hx3 hb3 hW3 hlt
  generalize w2.heap.size = b3 at *
  obtain ⟨c0, c1, c2, c3, c4, c5, c6, c7, cl, cz⟩ := inso_cells (show W3.heap[b3]? = some (inso _ _ _ _ _ _ _ _) from HB3.out)
  go_upto_region 3 with (go_at_call 69; refine (HC.out _).mono ?_; rintro e w4 ⟨rfl, hw⟩; rw [hw]; clear hw)
  have hne : W.heap.size ≠ b3 := by have := HLT.out; omega
  have hb4 : (W3.setCell ⟨b3, 5, none⟩ (.slice none 0 0)).heap[b3]? = some zins := inso_set5 (show W3.heap[b3]? = some (inso _ _ _ _ _ _ _ _) from HB3.out) (.slice none 0 0)
  have hk4 : Kept (ne' b3) W3 (W3.setCell ⟨b3, 5, none⟩ (.slice none 0 0)) := Kept.setCell _ fun o ho => by simp [ne']
  have ha4 := hk4.same _ _ HA.out (by simp [ne', hne])
  have HX4 := Lib.hid (ext_ne HX.out hk4 (Nat.le_of_lt HLT.out))
  clear c0 c1 c2 c3 c4 c5 c6 c7 cl cz hk4
  generalize W3.setCell _ _ = W4 at *
  have HA4 := Lib.hid ha4
  obtain ⟨c0, c1, c2, c3, c4, c5, c6, c7, cl, cz⟩ := inso_cells (show W4.heap[b3]? = some (inso _ _ _ _ _ _ _ _) from hb4)
  obtain ⟨d0, d1, d2, d3, d4, d5, d6, d7, dl, dz⟩ := inso_cells (show W4.heap[W.heap.size]? = some (inso _ _ _ _ _ _ _ _) from ha4)
  clear hb4 ha4
  go_wp2_with fail
  change bodyPost _ _ _ _ _ (put8 W4 W.heap.size)
  obtain ⟨q1, q2⟩ := inso_all (show W4.heap[W.heap.size]? = some (inso _ _ _ _ _ _ _ _) from HA4.out) (.int .i64 0) (.int .i64 0) (.int .i64 0) (.int .i64 0) (.int .i64 0) (.slice none 0 0) (.int .i64 0) (.int .i64 0)
  replace q1 : (put8 W4 W.heap.size).heap[W.heap.size]? = some (inso (.int .i64 0) (.int .i64 0) (.int .i64 0) (.int .i64 0) (.int .i64 0) (.slice none 0 0) (.int .i64 0) (.int .i64 0)) := q1
  replace q2 : Kept (ne' W.heap.size) W4 (put8 W4 W.heap.size) := q2
  have hx5 := ext_ne HX4.out q2 (Nat.le_refl _)
  clear c0 c1 c2 c3 c4 c5 c6 c7 cl cz d0 d1 d2 d3 d4 d5 d6 d7 dl dz
  generalize put8 W4 W.heap.size = W5 at *
  obtain ⟨d0, d1, d2, d3, d4, d5, d6, d7, dl, dz⟩ := inso_cells q1
  exact bodyPost_ret (v := .tuple #[zinsV, .bool false]) (by simp [results, Tryz.results117, go_sem, zinsV, d0, d1, d2, d3, d4, d5, d6, d7]) rfl ⟨rfl, hx5⟩
end
end Go.Proofs.YtfljmdpigckpkaaGreatDoor
