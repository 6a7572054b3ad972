/- A queue that is not there. -/
import Derived.Test.YtmbdglolpagjdaaQyB
import Derived.Test.YtmbdglolpagjdaaQwH
namespace Go.Proofs.Ytmbdglolpagjdaa
open Go.RowKit Go.Shelf
attribute [local go_sem] Oper.semAt_some
theorem srt_nil0 : srt ([] : List Ent) = [] := by simp [srt]
theorem heap_nil0 : Heap eLt (nth []) ([] : List Ent).length := fun k _ hk => absurd hk (by simp)
section
variable (W : World)
theorem EV.nil0 : EV (.pointer none) [] W := .inl ⟨rfl, rfl⟩
theorem nilDue (now : Int) : Calls Try.prog 23 #[.pointer none, .int .i64 now] W fun e W' => e = .returned (.tuple #[.agg #[.int .i64 0, .bool false, .int .i64 0], .bool false]) ∧ Ext W W' := by
  have h := Due_ok (now := now) Pl.nil.tri heap_nil0 (by simp) W (EV.nil0 W)
  rw [srt_nil0] at h
  exact h
theorem nilNext : Calls Try.prog 22 #[.pointer none] W fun e W' => e = .returned (.tuple #[.int .i64 0, .bool false]) ∧ Ext W W' := by
  have h := Next_ok Pl.nil.tri heap_nil0 (by simp) W (EV.nil0 W)
  rw [srt_nil0] at h
  exact h
theorem nilList : Calls Try.prog 19 #[.pointer none, .int .i64 (-1)] W fun e W' => ∃ A c, e = .returned (.tuple #[.slice A 0 c, .bool true]) ∧ Ext W W' := by
  have h := list_ok (most := -1) Pl.nil.tri heap_nil0 (by simp) W (EV.nil0 W)
  rw [srt_nil0] at h
  refine h.mono ?_
  rintro e W' ⟨P, A, c, hP, rfl, hx, _⟩
  rw [if_neg (by omega)] at hP
  subst hP
  exact ⟨A, c, rfl, hx⟩
theorem nilLen : Calls Try.prog 21 #[.pointer none] W fun e W' => e = .returned (.int .i64 0) ∧ W' = W := Len_ok (EV.nil0 W)
set_option maxRecDepth 100000 in
theorem nilHas (t : Int) : Calls Try.prog 35 #[.pointer none, .int .i64 t] W fun e W' => e = .returned (.bool false) ∧ W' = W := by
  go_enter Try.func35, Try.ntmps35
  go_wp2_with fail
  go_ret
  exact ⟨rfl, rfl⟩
set_option maxRecDepth 100000 in
theorem nilDrop (t : Int) : Calls Try.prog 18 #[.pointer none, .int .i64 t] W fun e W' => e = .returned (.bool false) ∧ W' = W := by
  have HH := Lib.hid (nilHas W t)
  go_enter Try.func18, Try.ntmps18
  go_wp2_with (go_at_call 35; refine HH.out.mono ?_; rintro e w2 ⟨rfl, rfl⟩)
  go_ret
  exact ⟨rfl, rfl⟩
set_option maxRecDepth 100000 in
theorem nilPut (t d : Int) (f : Bool) : Calls Try.prog 17 #[.pointer none, .agg #[.int .i64 t, .bool f, .int .i64 d]] W fun e W' => e = .returned (.int .i64 1) ∧ Ext W W' := by
  go_enter Try.func17, Try.ntmps17
  go_wp2_with fail
  go_ret
  exact ⟨rfl, Ext.one _ _⟩
set_option maxRecDepth 100000 in
theorem nilCopy : Calls Try.prog 12 #[.pointer none] W fun e W' => e = .returned (.pointer none) ∧ W' = W := by
  go_enter Try.func12, Try.ntmps12
  go_wp2_with fail
  go_ret
  exact ⟨rfl, rfl⟩
set_option maxHeartbeats 1000000 in
set_option maxRecDepth 100000 in
theorem nilTake (now : Int) : Calls Try.prog 20 #[.pointer none, .int .i64 now] W fun e W' => e = .returned (dueW none) ∧ Ext W W' := by
  obtain ⟨W1, hW1⟩ : ∃ W1, W1 = W.alloc (itmo 0 false 0) := ⟨_, rfl⟩
  have hE1 : Ext W W1 := by rw [hW1]; exact Ext.one _ _
  have hr0 : W1.heap[W.heap.size]? = some (itmo 0 false 0) := by rw [hW1]; exact World.alloc_heap_new _ _
  have hdu := nilDue W1 now
  have HE1 := Lib.hid hE1
  have HR0 := Lib.hid hr0
  have HW := Lib.hid hW1
  clear hE1 hr0 hW1
  go_enter Try.func20, Try.ntmps20
  go_wp2_with fail
  change Calls _ _ _ (W.alloc (itmo 0 false 0)) _
  rw [← HW.out]
  refine hdu.mono ?_
  rintro e w2 ⟨rfl, hx⟩
  have HX := Lib.hid hx
  clear hx hdu
  have hr2 := (HX.out.kept (fun _ _ => true)).same _ _ HR0.out rfl
  obtain ⟨⟨q0, q1, q2⟩, qf, hls⟩ := itmo_cells hr2
  obtain ⟨w3, hw3⟩ : ∃ w3, w3 = w2.alloc (itmo 0 false 0) := ⟨_, rfl⟩
  have hE3 : Ext w2 w3 := by rw [hw3]; exact Ext.one _ _
  have hr3 := (hE3.kept (fun _ _ => true)).same _ _ hr2 rfl
  have hr4 : w3.heap[w2.heap.size]? = some (itmo 0 false 0) := by rw [hw3]; exact World.alloc_heap_new _ _
  have hls3 : W.heap.size < w3.heap.size := (Array.getElem?_eq_some_iff.1 hr3).1
  obtain ⟨⟨q0', q1', q2'⟩, qf', _⟩ := itmo_cells hr3
  obtain ⟨⟨y0, y1, y2⟩, _, _⟩ := itmo_cells hr4
  have HR3 := Lib.hid hr3
  have HE3 := Lib.hid hE3
  have HW3 := Lib.hid hw3
  clear hr2 hr3 hr4 hE3 hw3
  go_upto_region 2 with (fail)
  change Code.wp _ _ _ _ (w2.alloc (itmo 0 false 0))
  rw [← HW3.out]
  go_wp2_with fail
  obtain ⟨r1, r2⟩ := itm_set (t' := 0) (f' := false) (d' := 0) HR3.out rfl
  have hkx := (HE1.out.trans HX.out).trans HE3.out
  have hk := Kept.trans hkx (r2 (pOld W.heap.size) (oldNot _ _ (Nat.le_refl _) _))
  generalize ((w3.setCell ⟨W.heap.size, 0, none⟩ (.int .i64 0)).setCell ⟨W.heap.size, 1, none⟩ (.bool false)).setCell ⟨W.heap.size, 2, none⟩ (.int .i64 0) = wz at *
  obtain ⟨⟨c0, c1, c2⟩, _⟩ := itmo_cells r1
  refine bodyPost_ret (v := dueW none) (by simp [results, Try.results20, go_sem, c0, c1, c2]; rfl) rfl ?_
  exact ⟨rfl, hk⟩
end
/-- A queue that was made since W. -/
def Zq (W : World) (bq : Nat) (l : List Ent) (pu : Int) (w : World) : Prop := ∃ own, QV own bq l pu w ∧ (∀ b, own b = true → W.heap.size ≤ b) ∧ Ext W w
section
variable {W w w' : World} {bq : Nat} {l : List Ent} {pu : Int}
theorem Zq.ext (h : Zq W bq l pu w) (k : Ext w w') : Zq W bq l pu w' := by
  obtain ⟨own, h1, h2, h3⟩ := h
  exact ⟨own, h1.ext k, h2, h3.trans k⟩
theorem Zq.x (h : Zq W bq l pu w) : Ext W w := by
  obtain ⟨own, h1, h2, h3⟩ := h
  exact h3
theorem zPut (h : Zq W bq l pu w) (x : Ent) (hx : x.nth = pu) (ht : (Lit.int .i64 x.task).wf = true) (hll : l.length < 900000) (hpu : 0 ≤ pu ∧ pu ≤ 1000000) :
    Calls Try.prog 17 #[.pointer (some ⟨bq, 0, none⟩), .agg #[.int .i64 x.task, .bool x.front, .int .i64 x.due]] w fun e w' => e = .returned (.int .i64 (putR l x.task x.due)) ∧ ∃ l', Zq W bq l' (if putR l x.task x.due = 0 then pu + 1 else pu) w' ∧ l'.Perm (putL l x) := by
  obtain ⟨own, h1, h2, h3⟩ := h
  refine (Put_any h1 x hx ht hll hpu).mono ?_
  rintro e w' ⟨rfl, own', l', h4, h5, h6, h7⟩
  have hs := h3.size
  refine ⟨rfl, l', ⟨own', h4, fun b hb => ?_, Kept.trans h3 (h6.mono fun b t _ hp => ?_)⟩, h5⟩
  · rcases h7 b hb with h | h
    · exact h2 b h
    · omega
  · simp [pOld] at hp
    unfold pQ
    cases hc : own b with
    | false => rfl
    | true => have := h2 b hc; omega
theorem zPutA (h : Zq W bq [] 0 w) : Calls Try.prog 17 #[.pointer (some ⟨bq, 0, none⟩), .agg #[.int .i64 (-1), .bool false, .int .i64 0]] w fun e w' => e = .returned (.int .i64 2) ∧ Zq W bq [] 0 w' := by
  refine (zPut h ⟨-1, false, 0, 0⟩ rfl (by decide) (by simp) (by omega)).mono ?_
  rintro e w' ⟨rfl, l', h1, h2⟩
  have hp : putL [] (⟨-1, false, 0, 0⟩ : Ent) = [] := by decide
  rw [hp] at h2
  cases h2.eq_nil
  exact ⟨rfl, h1⟩
theorem zPutB (h : Zq W bq [] 0 w) : Calls Try.prog 17 #[.pointer (some ⟨bq, 0, none⟩), .agg #[.int .i64 0, .bool false, .int .i64 (-1)]] w fun e w' => e = .returned (.int .i64 2) ∧ Zq W bq [] 0 w' := by
  refine (zPut h ⟨0, false, -1, 0⟩ rfl (by decide) (by simp) (by omega)).mono ?_
  rintro e w' ⟨rfl, l', h1, h2⟩
  have hp : putL [] (⟨0, false, -1, 0⟩ : Ent) = [] := by decide
  rw [hp] at h2
  cases h2.eq_nil
  exact ⟨rfl, h1⟩
theorem zPutC (h : Zq W bq [] 0 w) : Calls Try.prog 17 #[.pointer (some ⟨bq, 0, none⟩), .agg #[.int .i64 3, .bool false, .int .i64 0]] w fun e w' => e = .returned (.int .i64 0) ∧ Zq W bq [⟨3, false, 0, 0⟩] 1 w' := by
  refine (zPut h ⟨3, false, 0, 0⟩ rfl (by decide) (by simp) (by omega)).mono ?_
  rintro e w' ⟨rfl, l', h1, h2⟩
  have hp : putL [] (⟨3, false, 0, 0⟩ : Ent) = [⟨3, false, 0, 0⟩] := by decide
  rw [hp] at h2
  cases List.perm_singleton.1 h2
  exact ⟨rfl, h1⟩
theorem zPutD (h : Zq W bq [⟨3, false, 0, 0⟩] 1 w) : Calls Try.prog 17 #[.pointer (some ⟨bq, 0, none⟩), .agg #[.int .i64 3, .bool true, .int .i64 0]] w fun e w' => e = .returned (.int .i64 7) ∧ Zq W bq [⟨3, false, 0, 0⟩] 1 w' := by
  refine (zPut h ⟨3, true, 0, 1⟩ rfl (by decide) (by simp) (by omega)).mono ?_
  rintro e w' ⟨rfl, l', h1, h2⟩
  have hp : putL [(⟨3, false, 0, 0⟩ : Ent)] (⟨3, true, 0, 1⟩ : Ent) = [⟨3, false, 0, 0⟩] := by decide
  rw [hp] at h2
  cases List.perm_singleton.1 h2
  exact ⟨rfl, h1⟩
theorem zLen (h : Zq W bq [⟨3, false, 0, 0⟩] 1 w) : Calls Try.prog 21 #[.pointer (some ⟨bq, 0, none⟩)] w fun e w' => e = .returned (.int .i64 1) ∧ w' = w := by
  obtain ⟨own, h1, h2, h3⟩ := h
  exact Len_ok h1.ev
theorem zSame {bn : Nat} {own : Nat → Bool} (h : Zq W bq [] 0 w) (hn : QV own bn [] 0 w) : Calls Try.prog 14 #[.pointer (some ⟨bq, 0, none⟩), .pointer (some ⟨bn, 0, none⟩)] w fun e w' => e = .returned (.bool true) ∧ Ext w w' := by
  obtain ⟨own0, h1, h2, h3⟩ := h
  have := Same_ok h1 hn Pl.nil.tri Pl.nil.tri
  rwa [show sameE (srt []) (srt []) = true by simp [sameE]] at this
end
end Go.Proofs.Ytmbdglolpagjdaa
