/- Waits, Site and Can of a machine that is not there, and of a zero one. -/
import Derived.Test.YtfljmdpigckpkaaGreatDoorMnB
namespace Go.Proofs.YtfljmdpigckpkaaGreatDoor
open Go.RowKit Go.Shelf Go.Conc
attribute [local go_sem] Oper.semAt_some
theorem infoChan : ∃ i, Tryz.prog.info? 3 = some i ∧ i.bytes = 8 := by
  have h : (Tryz.prog.info? 3).map (·.bytes) = some 8 := by kernel_rfl
  obtain ⟨i, hi, hb⟩ := Option.map_eq_some_iff.1 h
  exact ⟨i, hi, hb⟩
/-- A channel with room for one, in which nothing lies. -/
def cho : Obj := .chan 1 #[] false 0 0 false
theorem mkCh (w : World) : (Instr.makeChan 212 (.int .i64 1)).run Tryz.prog w = .ok (.chan (some w.heap.size)) (w.alloc cho) := by
  obtain ⟨i, hi, hb⟩ := infoChan
  simpa [cho] using run_makeChan (P := Tryz.prog) (w := w) Tryz.underlying212 hi .i64 1 (by omega) (by rw [hb]; omega)
section
variable {v u : Value} {w : World}
set_option maxHeartbeats 1000000
set_option maxRecDepth 100000
theorem find_no {b : Nat} (h : w.heap[b]? = some zMo) : Calls Tryz.prog 116 #[.pointer (some ⟨b, 0, none⟩), .int .i64 1] w fun e w' => e = .returned (.pointer none) ∧ w' = w := by
  obtain ⟨c0, c10, c11, c12, c15, c16, c17, c18, c20, cl⟩ := zMo_cells h
  clear h
  go_enter Tryz.func116, Tryz.ntmps116
  go_wp2_with fail
  go_ret
  exact ⟨rfl, rfl⟩
theorem instr_no {b : Nat} (h : w.heap[b]? = some zMo) : Calls Tryz.prog 64 #[.pointer (some ⟨b, 0, none⟩), .int .i64 1] w fun e w' => e = .returned (.tuple #[zinsV, .bool false]) ∧ Ext w w' := by
  obtain ⟨W1, hW1⟩ : ∃ W1, W1 = w.alloc zins := ⟨_, rfl⟩
  have hx1 : Ext w W1 := by rw [hW1]; exact Ext.one _ _
  have hb1 : W1.heap[w.heap.size]? = some zins := by rw [hW1]; exact World.alloc_heap_new _ _
  have HF := Lib.hid (find_no ((hx1.kept (fun _ _ => true)).same _ _ h rfl))
  have HX1 := Lib.hid hx1
  have HB1 := Lib.hid hb1
  have HW := Lib.hid hW1
  clear hx1 hb1 hW1
  go_enter Tryz.func64, Tryz.ntmps64
  go_upto_region 1 with (fail)
  change Code.wp _ _ _ _ (w.alloc zins)
  rw [← HW.out]
  obtain ⟨d0, d1, d2, d3, d4, d5, d6, d7, dl, dz⟩ := inso_cells (show W1.heap[w.heap.size]? = some (inso _ _ _ _ _ _ _ _) from HB1.out)
  go_wp2_with (go_at_call 116; refine HF.out.mono ?_; rintro e w2 ⟨rfl, hw⟩; rw [hw]; clear hw)
  change bodyPost _ _ _ _ _ (put8 W1 w.heap.size)
  obtain ⟨q1, q2⟩ := inso_all (show W1.heap[w.heap.size]? = some (inso _ _ _ _ _ _ _ _) from HB1.out) (.int .i64 0) (.int .i64 0) (.int .i64 0) (.int .i64 0) (.int .i64 0) (.slice none 0 0) (.int .i64 0) (.int .i64 0)
  replace q1 : (put8 W1 w.heap.size).heap[w.heap.size]? = some (inso (.int .i64 0) (.int .i64 0) (.int .i64 0) (.int .i64 0) (.int .i64 0) (.slice none 0 0) (.int .i64 0) (.int .i64 0)) := q1
  replace q2 : Kept (ne' w.heap.size) W1 (put8 W1 w.heap.size) := q2
  have hx5 := ext_ne HX1.out q2 (Nat.le_refl _)
  clear d0 d1 d2 d3 d4 d5 d6 d7 dl dz
  generalize put8 W1 w.heap.size = W5 at *
  obtain ⟨d0, d1, d2, d3, d4, d5, d6, d7, dl, dz⟩ := inso_cells q1
  exact bodyPost_ret (v := .tuple #[zinsV, .bool false]) (by simp [results, Tryz.results64, go_sem, zinsV, d0, d1, d2, d3, d4, d5, d6, d7]) rfl ⟨rfl, hx5⟩
theorem Waits_no (h : NoM v w) : Calls Tryz.prog 24 #[v, .int .i64 1] w fun e w' => e = .returned (.int .i64 0) ∧ Ext w w' := by
  have H := Lib.hid (there_no h)
  clear h
  have HI := Lib.hid (fun (w : World) (b : Nat) (h : w.heap[b]? = some zMo) => instr_no h)
  unfold zinsV at HI
  go_enter Tryz.func24, Tryz.ntmps24
  go_wp2_with (first
    | (go_at_call 48; refine H.out.mono ?_; rintro e w2 ⟨b, rfl, hb, hx⟩; have HB := Lib.hid hb; have HX := Lib.hid hx; clear hb hx)
    | (go_at_call 64; refine (HI.out _ _ HB.out).mono ?_; rintro e w3 ⟨rfl, hx⟩; have HX3 := Lib.hid ((HX.out.trans hx).trans (Ext.one w3 zins)); clear hx))
  go_ret
  exact ⟨rfl, HX3.out⟩
theorem Site_no (h : NoM v w) : Calls Tryz.prog 28 #[v, .int .i64 1] w fun e w' => e = .returned (.int .i64 (-1)) ∧ Ext w w' := by
  have H := Lib.hid (there_no h)
  clear h
  have HI := Lib.hid (fun (w : World) (b : Nat) (h : w.heap[b]? = some zMo) => instr_no h)
  unfold zinsV at HI
  go_enter Tryz.func28, Tryz.ntmps28
  go_wp2_with (first
    | (go_at_call 48; refine H.out.mono ?_; rintro e w2 ⟨b, rfl, hb, hx⟩; have HB := Lib.hid hb; have HX := Lib.hid hx; clear hb hx)
    | (go_at_call 64; refine (HI.out _ _ HB.out).mono ?_; rintro e w3 ⟨rfl, hx⟩; have HX3 := Lib.hid ((HX.out.trans hx).trans (Ext.one w3 zins)); clear hx))
  go_ret
  exact ⟨rfl, HX3.out⟩
/-- What is to be stepped next of no tasks. -/
theorem next_nil (v : Value) (w : World) : Calls Tryz.prog 50 #[v, .slice none 0 0] w fun e w' => ∃ b, e = .returned (.chan (some b)) ∧ w'.heap[b]? = some cho ∧ Ext w w' := by
  have hmc := mkCh
  have HX := Lib.hid (Ext.one w cho)
  have HB := Lib.hid (show (w.alloc cho).heap[w.heap.size]? = some cho from World.alloc_heap_new _ _)
  go_enter Tryz.func50, Tryz.ntmps50
  go_upto_region 3 with (fail)
  go_rounds 1
  go_ret
  exact ⟨_, rfl, HB.out, HX.out⟩
theorem Can_no (h : NoM v w) : Calls Tryz.prog 11 #[v] w fun e w' => e = .returned (.bool false) ∧ Ext w w' := by
  have H := Lib.hid (there_no h)
  clear h
  refine calls_of_wpN Tryz.func11 rfl ?_
  simp only [Tryz.ntmps11, List.size_toArray, List.length_cons, List.length_nil, Nat.reduceAdd, Nat.reduceSub, Array.replicate_succ, Array.replicate_zero, List.push_toArray, List.append_toArray, List.nil_append, List.cons_append]
  generalize hQ : bodyPost _ _ _ = Q
  have HQ := Lib.hid hQ
  clear hQ
  refine wpN_first_k fun K hK => ?_
  go_wp2_with fail
  refine wpN_first_k fun K hK => ?_
  go_wp2_with (go_at_call 48; refine H.out.mono ?_; rintro e w2 ⟨b, rfl, hb, hx⟩; obtain ⟨c0, c10, c11, c12, c15, c16, c17, c18, c20, cl⟩ := zMo_cells hb; have HX := Lib.hid hx; clear hb hx)
  refine wpN_first_k fun K hK => ?_
  go_wp2_with fail
  refine wpN_first_k fun K hK => ?_
  go_wp2_with fail
  refine wpN_first_k fun K hK => ?_
  go_upto_region 6 with (fail)
  go_rounds 1
  refine wpN_first_k fun K hK => ?_
  go_upto_region 11 with (fail)
  go_rounds 1
  refine wpN_first_k fun K hK => ?_
  go_wp2_with (go_at_call 50; refine (next_nil _ _).mono ?_; rintro e w3 ⟨b3, rfl, hb3, hx3⟩; have HX3 := Lib.hid (HX.out.trans hx3); have HB3 := Lib.hid hb3; clear hb3 hx3)
  refine wpN_sel_none (c := b3) (z := .int .i64 0) (w1 := w3) (s := 0) (r := 0) rfl (by simp [go_sem, execOp, rcase, Act.eval]) HB3.out fun K hK => ?_
  go_wp2_with fail
  refine wpN_block ?_
  refine wpN_cond (t := false) rfl ?_
  simp only [Bool.false_eq_true, if_false]
  refine wpN_of ?_
  rw [← HQ.out]
  go_wp2_with fail
  go_ret
  exact ⟨rfl, HX3.out⟩
end
end Go.Proofs.YtfljmdpigckpkaaGreatDoor
