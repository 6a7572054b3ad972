/- The law's do: May, Set, On, nothing; every act. -/
import Derived.Test.YtecehjcombkkaaaDoorLwA
namespace Go.Proofs.YtecehjcombkkaaaDoor
open Go.RowKit Go.Shelf
attribute [local go_sem] Oper.semAt_some
section
variable {P : Prog9} {oP oR : Nat → Bool} {bh bw : Nat} {C C' : List Int} {E E' : List Bool} {W W1 W2 : World}
set_option maxHeartbeats 4000000 in
set_option maxRecDepth 100000 in
theorem do_may (h : Both P oP oR bh bw C E W) (c w : Int) (is' : Bool) :
    Calls Tryd.prog 11 (argsD bh bw ⟨2, c, w, is'⟩) W fun e W' => e = .returned (.bool true) ∧ Next2 P oP oR bh bw W W' := by
  unfold argsD
  obtain ⟨W1, hW1⟩ : ∃ W1, W1 = W.alloc (acto ⟨2, c, w, is'⟩) := ⟨_, rfl⟩
  have hE1 : Ext W W1 := by rw [hW1]; exact Ext.one _ _
  have hr1 : W1.heap[W.heap.size]? = some (acto ⟨2, c, w, is'⟩) := by rw [hW1]; exact World.alloc_heap_new _ _
  have h1 := h.ext (hE1.trans (Ext.drew W1))
  obtain ⟨x0, x1, x2, x3, xl⟩ := acto_cells hr1
  have hno : oP W.heap.size = false := Prog9.fresh h.p (Nat.le_refl _)
  have hnr : oR W.heap.size = false := h.r.fresh (Nat.le_refl _)
  have HMK := Lib.hid (P.may h1.p c w)
  have HRF := Lib.hid (fun (u : World) (hu : RL oR bw C E u) => refMay_ok hu c w)
  obtain ⟨r, hr⟩ : ∃ r, r = mayO C c w := ⟨_, rfl⟩
  rw [← hr] at HMK HRF
  have HE1 := Lib.hid hE1
  have HR1 := Lib.hid hr1
  have HW := Lib.hid hW1
  have HH1 := Lib.hid h1
  have HNO := Lib.hid hno
  have HNR := Lib.hid hnr
  have HH := Lib.hid h
  clear h h1 hE1 hr1 hW1 hno hnr hr
  dsimp only at x0 x1 x2 x3
  go_enter Tryd.func11, Tryd.ntmps11
  go_upto_region 1 with (fail)
  change Code.wp _ _ _ _ (W.alloc (acto ⟨2, c, w, is'⟩))
  rw [← HW.out]
  go_upto_region 5 with (fail)
  go_region_held3 (fun w' => w'.cell? ⟨W.heap.size, 1, none⟩ = some (.int .i64 c) ∧ w'.cell? ⟨W.heap.size, 2, none⟩ = some (.int .i64 w)) (first | go_keep | exact ⟨x1, x2⟩ | exact ⟨y1, y2⟩ | exact ⟨x1, x2⟩) (first
    | (go_at_call 16; refine HMK.out.mono ?_; rintro e w3 ⟨rfl, hx3⟩; have hb3 := (((Ext.drew W1).trans hx3).kept (fun _ _ => true)).same _ _ HR1.out rfl; obtain ⟨y0, y1, y2, y3, yl⟩ := acto_cells hb3; dsimp only at y1 y2 y3; have HRC := Lib.hid (HRF.out w3 (HH1.out.ext hx3).r); have HX3 := Lib.hid ((Ext.drew W1).trans hx3); clear hx3 hb3)
    | (go_at_call 27; refine HRC.out.mono ?_; rintro e w4 ⟨rfl, hw4⟩; rw [hw4]; clear hw4))
  all_goals
    go_wp2_with fail
    go_ret
    exact ⟨rfl, HH.out.same (HE1.out.trans HX3.out)⟩
set_option maxHeartbeats 4000000 in
set_option maxRecDepth 100000 in
theorem do_set (h : Both P oP oR bh bw C E W) (c w : Int) (is' : Bool) :
    Calls Tryd.prog 11 (argsD bh bw ⟨3, c, w, is'⟩) W fun e W' => e = .returned (.bool true) ∧ Next2 P oP oR bh bw W W' := by
  unfold argsD
  obtain ⟨W1, hW1⟩ : ∃ W1, W1 = W.alloc (acto ⟨3, c, w, is'⟩) := ⟨_, rfl⟩
  have hE1 : Ext W W1 := by rw [hW1]; exact Ext.one _ _
  have hr1 : W1.heap[W.heap.size]? = some (acto ⟨3, c, w, is'⟩) := by rw [hW1]; exact World.alloc_heap_new _ _
  have h1 := h.ext (hE1.trans (Ext.drew W1))
  obtain ⟨x0, x1, x2, x3, xl⟩ := acto_cells hr1
  have hno : oP W.heap.size = false := Prog9.fresh h.p (Nat.le_refl _)
  have hnr : oR W.heap.size = false := h.r.fresh (Nat.le_refl _)
  have HMK := Lib.hid (P.set h1.p c is')
  have HRF := Lib.hid (fun (u : World) (hu : RL oR bw C E u) => refSet_ok hu c is')
  obtain ⟨r, hr⟩ : ∃ r, r = setR E c is' := ⟨_, rfl⟩
  rw [← hr] at HMK HRF
  have HE1 := Lib.hid hE1
  have HR1 := Lib.hid hr1
  have HW := Lib.hid hW1
  have HH1 := Lib.hid h1
  have HNO := Lib.hid hno
  have HNR := Lib.hid hnr
  clear h h1 hE1 hr1 hW1 hno hnr hr
  dsimp only at x0 x1 x2 x3
  go_enter Tryd.func11, Tryd.ntmps11
  go_upto_region 1 with (fail)
  change Code.wp _ _ _ _ (W.alloc (acto ⟨3, c, w, is'⟩))
  rw [← HW.out]
  go_upto_region 7 with (fail)
  go_region_held3 (fun w' => w'.cell? ⟨W.heap.size, 1, none⟩ = some (.int .i64 c) ∧ w'.cell? ⟨W.heap.size, 3, none⟩ = some (.bool is')) (first | go_keep | exact ⟨x1, x3⟩ | exact ⟨y1, y3⟩ | exact ⟨z1, z3⟩) (first
    | (go_at_call 20; refine HMK.out.mono ?_; rintro e w3 ⟨rfl, oP', hp3, hk3, hn3⟩; have hb3 := (Kept.trans (Ext.kept (Ext.drew W1) _) hk3).same _ _ HR1.out (by simp [pQ, HNO.out]); obtain ⟨y0, y1, y2, y3, yl⟩ := acto_cells hb3; dsimp only at y1 y2 y3; have HB3 := Lib.hid hb3; have HRC := Lib.hid (HRF.out w3 (HH1.out.ref hk3)); have HP3 := Lib.hid hp3; have HK3 := Lib.hid hk3; have HN3 := Lib.hid hn3; clear hp3 hk3 hn3 hb3)
    | (go_at_call 28; refine HRC.out.mono ?_; rintro e w4 ⟨rfl, hr4, hk4⟩; have hb4 := hk4.same _ _ HB3.out (by simp [pQ, HNR.out]); obtain ⟨z0, z1, z2, z3, zl⟩ := acto_cells hb4; dsimp only at z1 z2 z3; have HR4 := Lib.hid hr4; have HK4 := Lib.hid hk4; clear hr4 hk4 hb4))
  all_goals
    go_wp2_with fail
    go_ret
    exact ⟨rfl, (both_step HH1.out HP3.out HK3.out HN3.out HR4.out HK4.out).pre (HE1.out.trans (Ext.drew W1))⟩
set_option maxHeartbeats 4000000 in
set_option maxRecDepth 100000 in
theorem do_on (h : Both P oP oR bh bw C E W) (c w : Int) (is' : Bool) :
    Calls Tryd.prog 11 (argsD bh bw ⟨4, c, w, is'⟩) W fun e W' => e = .returned (.bool true) ∧ Next2 P oP oR bh bw W W' := by
  unfold argsD
  obtain ⟨W1, hW1⟩ : ∃ W1, W1 = W.alloc (acto ⟨4, c, w, is'⟩) := ⟨_, rfl⟩
  have hE1 : Ext W W1 := by rw [hW1]; exact Ext.one _ _
  have hr1 : W1.heap[W.heap.size]? = some (acto ⟨4, c, w, is'⟩) := by rw [hW1]; exact World.alloc_heap_new _ _
  have h1 := h.ext (hE1.trans (Ext.drew W1))
  obtain ⟨x0, x1, x2, x3, xl⟩ := acto_cells hr1
  have hno : oP W.heap.size = false := Prog9.fresh h.p (Nat.le_refl _)
  have hnr : oR W.heap.size = false := h.r.fresh (Nat.le_refl _)
  have HMK := Lib.hid (P.on h1.p c)
  have HRF := Lib.hid (fun (u : World) (hu : RL oR bw C E u) => refOn_ok hu c)
  obtain ⟨r, hr⟩ : ∃ r, r = onO E c := ⟨_, rfl⟩
  rw [← hr] at HMK HRF
  have HE1 := Lib.hid hE1
  have HR1 := Lib.hid hr1
  have HW := Lib.hid hW1
  have HH1 := Lib.hid h1
  have HNO := Lib.hid hno
  have HNR := Lib.hid hnr
  have HH := Lib.hid h
  clear h h1 hE1 hr1 hW1 hno hnr hr
  dsimp only at x0 x1 x2 x3
  go_enter Tryd.func11, Tryd.ntmps11
  go_upto_region 1 with (fail)
  change Code.wp _ _ _ _ (W.alloc (acto ⟨4, c, w, is'⟩))
  rw [← HW.out]
  go_upto_region 9 with (fail)
  go_region_held3 (fun w' => w'.cell? ⟨W.heap.size, 1, none⟩ = some (.int .i64 c)) (first | go_keep | exact x1 | exact y1 | exact x1) (first
    | (go_at_call 19; refine HMK.out.mono ?_; rintro e w3 ⟨rfl, hx3⟩; have hb3 := (((Ext.drew W1).trans hx3).kept (fun _ _ => true)).same _ _ HR1.out rfl; obtain ⟨y0, y1, y2, y3, yl⟩ := acto_cells hb3; dsimp only at y1 y2 y3; have HRC := Lib.hid (HRF.out w3 (HH1.out.ext hx3).r); have HX3 := Lib.hid ((Ext.drew W1).trans hx3); clear hx3 hb3)
    | (go_at_call 25; refine HRC.out.mono ?_; rintro e w4 ⟨rfl, hw4⟩; rw [hw4]; clear hw4))
  all_goals
    go_wp2_with fail
    go_ret
    exact ⟨rfl, HH.out.same (HE1.out.trans HX3.out)⟩
set_option maxHeartbeats 1000000 in
set_option maxRecDepth 100000 in
theorem do_other (h : Both P oP oR bh bw C E W) (a : ActD) (h1 : a.k ≠ 1) (h2 : a.k ≠ 2) (h3 : a.k ≠ 3) (h4 : a.k ≠ 4) :
    Calls Tryd.prog 11 (argsD bh bw a) W fun e W' => e = .returned (.bool true) ∧ Next2 P oP oR bh bw W W' := by
  unfold argsD
  obtain ⟨k, c, w, is'⟩ := a
  dsimp only at h1 h2 h3 h4 ⊢
  have b1 : (k == 1) = false := by simpa using h1
  have b2 : (k == 2) = false := by simpa using h2
  have b3 : (k == 3) = false := by simpa using h3
  have b4 : (k == 4) = false := by simpa using h4
  obtain ⟨W1, hW1⟩ : ∃ W1, W1 = W.alloc (acto ⟨k, c, w, is'⟩) := ⟨_, rfl⟩
  have hE1 : Ext W W1 := by rw [hW1]; exact Ext.one _ _
  have hr1 : W1.heap[W.heap.size]? = some (acto ⟨k, c, w, is'⟩) := by rw [hW1]; exact World.alloc_heap_new _ _
  obtain ⟨x0, x1, x2, x3, xl⟩ := acto_cells hr1
  have HE1 := Lib.hid hE1
  have HW := Lib.hid hW1
  have HH := Lib.hid h
  clear h hE1 hr1 hW1 h1 h2 h3 h4
  dsimp only at x0 x1 x2 x3
  go_enter Tryd.func11, Tryd.ntmps11
  go_upto_region 1 with (fail)
  change Code.wp _ _ _ _ (W.alloc (acto ⟨k, c, w, is'⟩))
  rw [← HW.out]
  go_wp2_with fail
  go_ret
  exact ⟨rfl, HH.out.same HE1.out⟩
/-- An act, whatever it is. -/
theorem do_ok (h : Both P oP oR bh bw C E W) (a : ActD) :
    Calls Tryd.prog 11 (argsD bh bw a) W fun e W' => e = .returned (.bool true) ∧ Next2 P oP oR bh bw W W' := by
  by_cases h1 : a.k = 1
  · obtain ⟨k, c, w, is'⟩ := a; dsimp only at h1; subst h1; exact do_go h c w is'
  by_cases h2 : a.k = 2
  · obtain ⟨k, c, w, is'⟩ := a; dsimp only at h2; subst h2; exact do_may h c w is'
  by_cases h3 : a.k = 3
  · obtain ⟨k, c, w, is'⟩ := a; dsimp only at h3; subst h3; exact do_set h c w is'
  by_cases h4 : a.k = 4
  · obtain ⟨k, c, w, is'⟩ := a; dsimp only at h4; subst h4; exact do_on h c w is'
  exact do_other h a h1 h2 h3 h4
end
end Go.Proofs.YtecehjcombkkaaaDoor
