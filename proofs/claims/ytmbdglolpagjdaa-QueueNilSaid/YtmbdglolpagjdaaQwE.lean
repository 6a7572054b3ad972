/- Queue.Take. -/
import Derived.Test.YtmbdglolpagjdaaQwD
namespace Go.Proofs.Ytmbdglolpagjdaa
open Go.RowKit Go.Shelf
attribute [local go_sem] Oper.semAt_some
section
variable {own : Nat → Bool} {bq : Nat} {l : List Ent} {pu now : Int} {W : World}
theorem QV.wf (h : QV own bq l pu W) {x : Ent} (hx : x ∈ l) : (Lit.int .i64 x.task).wf = true := by
  obtain ⟨v, mv, _, _, _, h4⟩ := h.ex
  obtain ⟨i, hi, e⟩ := List.getElem_of_mem hx
  rw [← nth_lt hi] at e
  rcases h4 with ⟨_, h0⟩ | ⟨bm, D, _, _, _, hc⟩
  · rw [h0] at hx; cases hx
  · rw [← e]; exact wf_of (hc.rng i hi)
theorem duP_mem {x : Ent} (h : duP now l = some x) : x ∈ l := by
  unfold duP at h
  cases hs : (srt l).head? with
  | none => rw [hs] at h; cases h
  | some y =>
    rw [hs, Option.filter_some] at h
    split at h
    · cases h
      exact (srt_perm l).mem_iff.1 (List.mem_of_head? hs)
    · cases h
set_option maxHeartbeats 4000000 in
set_option maxRecDepth 100000 in
theorem Take_ok (h : QV own bq l pu W) (ht : Tri l) :
    Calls Try.prog 20 #[.pointer (some ⟨bq, 0, none⟩), .int .i64 now] W fun e W' => e = .returned (dueW (duP now l)) ∧ ∃ own' l', QV own' bq l' pu W' ∧ l'.Perm (tkE now l) ∧ Kept (pQ own) W W' ∧ ∀ b, own' b = true → own b = true ∨ W.heap.size ≤ b := by
  obtain ⟨W1, hW1⟩ : ∃ W1, W1 = W.alloc (itmo 0 false 0) := ⟨_, rfl⟩
  have hE1 : Ext W W1 := by rw [hW1]; exact Ext.one _ _
  have hr0 : W1.heap[W.heap.size]? = some (itmo 0 false 0) := by rw [hW1]; exact World.alloc_heap_new _ _
  have hbl := h.lt h.ob
  have hold : ∀ b, own b = true → b < W.heap.size := fun b hb => h.lt hb
  have hdu := Due_ok (now := now) ht h.hp h.len W1 (h.ext hE1).ev
  rw [due_eq, dueV_eq] at hdu
  have HH := Lib.hid h
  have HE1 := Lib.hid hE1
  have HR0 := Lib.hid hr0
  have HW := Lib.hid hW1
  have HOLD := Lib.hid hold
  obtain ⟨R, hR⟩ : ∃ R, R = duP now l := ⟨_, rfl⟩
  obtain ⟨F, hF⟩ : ∃ F, F = tkE now l := ⟨_, rfl⟩
  have HRR := Lib.hid hR
  unfold tkE at hF
  rw [← hR] at hdu ⊢
  rw [← hR] at hF
  have e0 : tkE now l = F := by unfold tkE; rw [← hR]; exact hF.symm
  rw [e0]
  clear h ht hE1 hr0 hW1 hR e0 hold
  go_enter Try.func20, Try.ntmps20
  go_wp2_with fail
  change Calls _ _ _ (W.alloc (itmo 0 false 0)) _
  rw [← HW.out]
  refine hdu.mono ?_
  rintro e w2 ⟨rfl, hx⟩
  have HX := Lib.hid hx
  clear hx hdu
  cases R with
  | none =>
    subst hF
    unfold dueW
    have hr2 := (HX.out.kept (fun _ _ => true)).same _ _ HR0.out rfl
    obtain ⟨⟨q0, q1, q2⟩, qf, hls⟩ := itmo_cells hr2
    obtain ⟨w3, hw3⟩ : ∃ w3, w3 = w2.alloc (itmo 0 false 0) := ⟨_, rfl⟩
    have hE3 : Ext w2 w3 := by rw [hw3]; exact Ext.one _ _
    have hr3 := (hE3.kept (fun _ _ => true)).same _ _ hr2 rfl
    have hr4 : w3.heap[w2.heap.size]? = some (itmo 0 false 0) := by rw [hw3]; exact World.alloc_heap_new _ _
    have hls3 : W.heap.size < w3.heap.size := (Array.getElem?_eq_some_iff.1 hr3).1
    obtain ⟨⟨q0', q1', q2'⟩, qf', _⟩ := itmo_cells hr3
    obtain ⟨⟨y0, y1, y2⟩, _, _⟩ := itmo_cells hr4
    have HR3 := Lib.hid hr3
    have HE3 := Lib.hid hE3
    have HW3 := Lib.hid hw3
    clear hr2 hr3 hr4 hE3 hw3
    go_upto_region 2 with (fail)
    change Code.wp _ _ _ _ (w2.alloc (itmo 0 false 0))
    rw [← HW3.out]
    go_wp2_with fail
    obtain ⟨r1, r2⟩ := itm_set (t' := 0) (f' := false) (d' := 0) HR3.out rfl
    have hkx := (HE1.out.trans HX.out).trans HE3.out
    have hk := Kept.trans hkx (r2 (pOld W.heap.size) (oldNot _ _ (Nat.le_refl _) _))
    generalize ((w3.setCell ⟨W.heap.size, 0, none⟩ (.int .i64 0)).setCell ⟨W.heap.size, 1, none⟩ (.bool false)).setCell ⟨W.heap.size, 2, none⟩ (.int .i64 0) = wz at *
    obtain ⟨⟨c0, c1, c2⟩, _⟩ := itmo_cells r1
    refine bodyPost_ret (v := dueW none) (by simp [results, Try.results20, go_sem, c0, c1, c2]; rfl) rfl ?_
    exact ⟨rfl, own, _, HH.out.ext hk, .refl _, (show Ext W wz from hk).kept _, fun b hb => .inl hb⟩
  | some x =>
    dsimp only at hF
    subst hF
    unfold dueW
    have hr2 := (HX.out.kept (fun _ _ => true)).same _ _ HR0.out rfl
    obtain ⟨⟨q0, q1, q2⟩, qf, hls⟩ := itmo_cells hr2
    obtain ⟨w3, hw3⟩ : ∃ w3, w3 = w2.alloc (itmo x.task x.front x.due) := ⟨_, rfl⟩
    have hE3 : Ext w2 w3 := by rw [hw3]; exact Ext.one _ _
    have hr3 := (hE3.kept (fun _ _ => true)).same _ _ hr2 rfl
    have hr4 : w3.heap[w2.heap.size]? = some (itmo x.task x.front x.due) := by rw [hw3]; exact World.alloc_heap_new _ _
    have hls3 : W.heap.size < w3.heap.size := (Array.getElem?_eq_some_iff.1 hr3).1
    obtain ⟨⟨y0, y1, y2⟩, _, _⟩ := itmo_cells hr4
    have hkx := (HE1.out.trans HX.out).trans hE3
    have hdr := Drop_ok (HH.out.ext hkx) x.task (HH.out.wf (duP_mem HRR.out.symm))
    have hb1 := HX.out.size
    have hb2 := HE1.out.size
    have HR3 := Lib.hid hr3
    have HR4 := Lib.hid hr4
    have HE3 := Lib.hid hE3
    have HW3 := Lib.hid hw3
    have HKX := Lib.hid hkx
    have HDR := Lib.hid hdr
    clear hr2 hr3 hr4 hE3 hw3 hkx hdr q0 q1 q2 qf
    go_upto_region 2 with (fail)
    change Code.wp _ _ _ _ (w2.alloc (itmo x.task x.front x.due))
    rw [← HW3.out]
    go_wp2_with fail
    refine HDR.out.mono ?_
    rintro e w4 ⟨rfl, own', l', hq4, hp4, hk4, ho4⟩
    have hno : ∀ b, W.heap.size ≤ b → pQ own b (some 32) = true := fun b hb => by
      unfold pQ
      cases hc : own b with
      | false => rfl
      | true => have := HOLD.out b hc; omega
    have hr5 := hk4.same _ _ HR3.out (hno _ (Nat.le_refl _))
    have hr6 := hk4.same _ _ HR4.out (hno _ (by omega))
    obtain ⟨⟨z0, z1, z2⟩, zf, zl⟩ := itmo_cells hr5
    obtain ⟨⟨v0, v1, v2⟩, _, _⟩ := itmo_cells hr6
    have HQ4 := Lib.hid hq4
    have HK4 := Lib.hid hk4
    have HP4 := Lib.hid hp4
    have HO4 := Lib.hid ho4
    have HR5 := Lib.hid hr5
    clear hq4 hk4 hp4 ho4 hr5 hr6 y0 y1 y2 HDR hno
    go_wp2_with fail
    obtain ⟨r1, r2⟩ := itm_set (t' := x.task) (f' := x.front) (d' := x.due) HR5.out rfl
    have hs3 := HKX.out.size
    have k4 := Kept.trans (HKX.out.kept (pQ own)) HK4.out
    have k5 : Kept (fun b t => pQ own b t && decide (b < W.heap.size)) W _ := (k4.mono fun b t _ hp => by simp at hp; exact hp.1).trans (r2 _ (by simp))
    have hq := HQ4.out.frame (r2 (fun b _ => b != W.heap.size) (by simp)) (fun b _ hb => by
      rcases HO4.out b hb with h | h
      · have := HOLD.out b h; simp; omega
      · simp; omega)
    have hk : Kept (pQ own) W _ := k5.mono fun b t hb hp => by simp [hp, hb]
    clear k4 k5 r2
    generalize ((w4.setCell ⟨W.heap.size, 0, none⟩ (.int .i64 x.task)).setCell ⟨W.heap.size, 1, none⟩ (.bool x.front)).setCell ⟨W.heap.size, 2, none⟩ (.int .i64 x.due) = wz at *
    obtain ⟨⟨c0, c1, c2⟩, _⟩ := itmo_cells r1
    refine bodyPost_ret (v := dueW (some x)) (by simp [results, Try.results20, go_sem, c0, c1, c2]; rfl) rfl ?_
    refine ⟨rfl, own', l', hq, HP4.out, hk, fun b hb => (HO4.out b hb).imp id fun h => by omega⟩
end
end Go.Proofs.Ytmbdglolpagjdaa
