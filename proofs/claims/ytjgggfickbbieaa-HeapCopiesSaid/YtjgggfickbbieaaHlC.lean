/- The law's do: Set, Is and Len, nothing. -/
import Derived.Test.YtjgggfickbbieaaHlB
namespace Go.Proofs.Ytjgggfickbbieaa
open Go.RowKit Go.Shelf
attribute [local go_sem] Oper.semAt_some
section
variable {oP oR : Nat → Bool} {bh bw : Nat} {ps : List Nat} {L M : List Ob} {W : World}
set_option maxHeartbeats 4000000 in
set_option maxRecDepth 100000 in
theorem do_set (h : Both oP oR bh bw ps L M W) (a : ActD) (hk : a.k = 4) :
    Calls Try.prog 10 (argsD bh bw a) W fun e W' => e = .returned (.bool true) ∧ Next2 oP oR bh bw W W' := by
  unfold argsD
  obtain ⟨k, wh, oo, sz, si, bb, id, aa, n, A, m, c⟩ := a
  dsimp only at hk ⊢
  subst hk
  obtain ⟨a, ha⟩ : ∃ a : ActD, a = ⟨4, wh, oo, sz, si, bb, id, aa, n, A, m, c⟩ := ⟨_, rfl⟩
  obtain ⟨W1, hW1⟩ : ∃ W1, W1 = W.alloc (acto a) := ⟨_, rfl⟩
  have hE1 : Ext W W1 := by rw [hW1]; exact Ext.one _ _
  have hr1 : W1.heap[W.heap.size]? = some (acto a) := by rw [hW1]; exact World.alloc_heap_new _ _
  have h1 := h.ext (hE1.trans (Ext.drew W1))
  obtain ⟨x0, _, _, _, _, _, x6, x7, x8, _, xl⟩ := acto_cells hr1
  rw [ha] at x0 x6 x7 x8
  have hno : oP W.heap.size = false := h.p.fresh (Nat.le_refl _)
  have HH0 := Lib.hid (show oR W.heap.size = false from h.r.fresh (Nat.le_refl _))
  have HMK := Lib.hid (Set_all h1.p id aa n)
  have HRF := Lib.hid (fun (w : World) (hw : RH oR bw M w) => refSet_all hw id aa n)
  rw [← setE_eq h.key, ← setL_eq h.key] at HRF
  obtain ⟨r, hr⟩ : ∃ r, r = setE L id aa := ⟨_, rfl⟩
  rw [← hr] at HMK HRF
  have HE1 := Lib.hid hE1
  have HR1 := Lib.hid hr1
  have HW := Lib.hid hW1
  have HH1 := Lib.hid h1
  have HNO := Lib.hid hno
  have HA := Lib.hid ha
  clear h h1 hE1 hr1 hW1 hno hr ha
  dsimp only at x0 x6 x7 x8
  go_enter Try.func10, Try.ntmps10
  go_upto_region 1 with (fail)
  change Code.wp _ _ _ _ (W.alloc (acto ⟨4, wh, oo, sz, si, bb, id, aa, n, A, m, c⟩))
  rw [← HA.out, ← HW.out]
  go_upto_region 20 with (fail)
  go_region_held3 (fun w' => w'.cell? ⟨W.heap.size, 6, none⟩ = some (.int .i64 id) ∧ w'.cell? ⟨W.heap.size, 7, none⟩ = some (.int .i64 aa) ∧ w'.cell? ⟨W.heap.size, 8, none⟩ = some (.int .i64 n)) (first | go_keep | exact ⟨y6, y7, y8⟩ | exact ⟨z6, z7, z8⟩) (first
    | (go_at_call 21; refine HMK.out.mono ?_; rintro e w3 ⟨rfl, hs3⟩; have hk3 : Kept (pQ oP) W1 w3 := Kept.trans (Ext.kept (Ext.drew W1) _) (by obtain ⟨_, _, _, _, _, q, _⟩ := hs3; exact q); have hb3 := hk3.same _ _ HR1.out (by simp [pQ, HNO.out]); obtain ⟨_, _, _, _, _, _, y6, y7, y8, _, yl⟩ := acto_cells hb3; rw [HA.out] at y6 y7 y8; dsimp only at y6 y7 y8; have HB3 := Lib.hid hb3; have HRC := Lib.hid (HRF.out w3 (HH1.out.ref (by obtain ⟨_, _, _, _, _, q, _⟩ := hs3; exact q))); have HS3 := Lib.hid hs3; clear hs3 hk3 hb3)
    | (go_at_call 28; refine HRC.out.mono ?_; rintro e w4 ⟨rfl, hs4⟩; have hnr : oR W.heap.size = false := HH0.out; have hb4 : w4.heap[W.heap.size]? = _ := Kept.same (by obtain ⟨_, _, _, _, q, _⟩ := hs4; exact q) _ _ HB3.out (by simp [pQ, hnr]); obtain ⟨_, _, _, _, _, _, z6, z7, z8, _, zl⟩ := acto_cells hb4; rw [HA.out] at z6 z7 z8; dsimp only at z6 z7 z8; have HS4 := Lib.hid hs4; clear hs4 hb4))
  all_goals
    go_wp2_with fail
    go_ret
    exact ⟨rfl, (both_step HH1.out HS3.out HS4.out).pre (HE1.out.trans (Ext.drew W1))⟩
set_option maxHeartbeats 4000000 in
set_option maxRecDepth 100000 in
theorem do_is (h : Both oP oR bh bw ps L M W) (a : ActD) (hk : a.k = 5) :
    Calls Try.prog 10 (argsD bh bw a) W fun e W' => e = .returned (.bool true) ∧ Next2 oP oR bh bw W W' := by
  unfold argsD
  obtain ⟨k, wh, oo, sz, si, bb, id, aa, n, A, m, c⟩ := a
  dsimp only at hk ⊢
  subst hk
  obtain ⟨a, ha⟩ : ∃ a : ActD, a = ⟨5, wh, oo, sz, si, bb, id, aa, n, A, m, c⟩ := ⟨_, rfl⟩
  obtain ⟨W1, hW1⟩ : ∃ W1, W1 = W.alloc (acto a) := ⟨_, rfl⟩
  have hE1 : Ext W W1 := by rw [hW1]; exact Ext.one _ _
  have hr1 : W1.heap[W.heap.size]? = some (acto a) := by rw [hW1]; exact World.alloc_heap_new _ _
  have h1 := h.ext hE1
  obtain ⟨x0, x1, _, _, _, _, x6, _, _, _, xl⟩ := acto_cells hr1
  rw [ha] at x0 x1 x6
  obtain ⟨b, hb⟩ : ∃ b, b = (hasO L id && decide ((atO L id).kind = wh)) := ⟨_, rfl⟩
  obtain ⟨z, hz⟩ : ∃ z, z = lenO L id := ⟨_, rfl⟩
  have h1a := fun nn => Is_ok (h1.p.ext (Ext.drewN W1 nn)) id wh
  have h1b := fun nn => refIs_ok (h1.r.ext (Ext.drewN W1 nn)) id wh
  have h1c := fun nn => Len_ok (h1.p.ext (Ext.drewN W1 nn)) id
  have h1d := fun nn => refLen_ok (h1.r.ext (Ext.drewN W1 nn)) id
  rw [← hasO_eq h.key, ← (atO_parts h.key id).1] at h1b
  rw [← lenO_eq h.key] at h1d
  rw [← hb] at h1a h1b
  rw [← hz] at h1c h1d
  have HA1 := Lib.hid h1a
  have HA2 := Lib.hid h1b
  have HA3 := Lib.hid h1c
  have HA4 := Lib.hid h1d
  have HE1 := Lib.hid hE1
  have HW := Lib.hid hW1
  have HH := Lib.hid h
  have HA := Lib.hid ha
  clear h h1 hE1 hr1 hW1 hz hb ha h1a h1b h1c h1d
  dsimp only at x0 x1 x6
  go_enter Try.func10, Try.ntmps10
  go_upto_region 1 with (fail)
  change Code.wp _ _ _ _ (W.alloc (acto ⟨5, wh, oo, sz, si, bb, id, aa, n, A, m, c⟩))
  rw [← HA.out, ← HW.out]
  go_upto_region 22 with (fail)
  go_quiet (first
    | (go_at_call 22; exact Calls.quiet_of_same (HA1.out _))
    | (go_at_call 29; exact Calls.quiet_of_same (HA2.out _))
    | (go_at_call 23; exact Calls.quiet_of_same (HA3.out _))
    | (go_at_call 30; exact Calls.quiet_of_same (HA4.out _)))
  go_wp2_with fail
  go_ret
  exact ⟨rfl, HH.out.same (HE1.out.trans (Ext.drewN _ _))⟩
set_option maxHeartbeats 4000000 in
set_option maxRecDepth 100000 in
theorem do_other (h : Both oP oR bh bw ps L M W) (a : ActD) (hk : a.k ≠ 1 ∧ a.k ≠ 2 ∧ a.k ≠ 3 ∧ a.k ≠ 4 ∧ a.k ≠ 5 ∧ a.k ≠ 6) :
    Calls Try.prog 10 (argsD bh bw a) W fun e W' => e = .returned (.bool true) ∧ Next2 oP oR bh bw W W' := by
  unfold argsD
  obtain ⟨k, wh, oo, sz, si, bb, id, aa, n, A, m, c⟩ := a
  dsimp only at hk ⊢
  obtain ⟨k1, k2, k3, k4, k5, k6⟩ := hk
  have HH := Lib.hid h
  clear h
  have e1 : (k == 1) = false := by simpa using k1
  have e2 : (k == 2) = false := by simpa using k2
  have e3 : (k == 3) = false := by simpa using k3
  have e4 : (k == 4) = false := by simpa using k4
  have e5 : (k == 5) = false := by simpa using k5
  have e6 : (k == 6) = false := by simpa using k6
  go_enter Try.func10, Try.ntmps10
  go_wp2_with fail
  go_ret
  exact ⟨rfl, HH.out.same (Ext.one _ _)⟩
end
end Go.Proofs.Ytjgggfickbbieaa
