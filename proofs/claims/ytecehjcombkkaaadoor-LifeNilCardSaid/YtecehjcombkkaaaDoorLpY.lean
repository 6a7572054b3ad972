/- Lives that are not there, and zero ones; LifeNil's walk. -/
import Derived.Test.YtecehjcombkkaaaDoorLpZ
namespace Go.Proofs.YtecehjcombkkaaaDoor
open Go.RowKit Go.Shelf Go.Maps
attribute [local go_sem] Oper.semAt_some
@[go_sem] theorem eqp_ns (b : Nat) (w : World) : (binOp .eql 25 (.pointer none) (.pointer (some ⟨b, 0, none⟩))).run Tryd.prog w = .ok (.bool false) w := by kernel_rfl
@[go_sem] theorem eqp_sn (b : Nat) (w : World) : (binOp .eql 25 (.pointer (some ⟨b, 0, none⟩)) (.pointer none)).run Tryd.prog w = .ok (.bool false) w := by kernel_rfl
@[go_sem] theorem eqp_nn (w : World) : (binOp .eql 25 (.pointer none) (.pointer none)).run Tryd.prog w = .ok (.bool true) w := by kernel_rfl
set_option maxRecDepth 100000 in
theorem nilComps (W : World) : Calls Tryd.prog 21 #[.pointer none] W fun e W' => e = .returned (.int .i64 0) ∧ W' = W := by
  go_enter Tryd.func21, Tryd.ntmps21
  go_wp2_with fail
  go_ret
  exact ⟨rfl, rfl⟩
set_option maxRecDepth 100000 in
theorem nilEvents (W : World) : Calls Tryd.prog 22 #[.pointer none] W fun e W' => e = .returned (.int .i64 0) ∧ W' = W := by
  go_enter Tryd.func22, Tryd.ntmps22
  go_wp2_with fail
  go_ret
  exact ⟨rfl, rfl⟩
set_option maxRecDepth 100000 in
theorem nilHas (W : World) : Calls Tryd.prog 33 #[.pointer none, .int .i64 0] W fun e W' => e = .returned (.bool false) ∧ W' = W := by
  have H := Lib.hid (nilComps W)
  go_enter Tryd.func33, Tryd.ntmps33
  go_wp2_with (go_at_call 21; refine H.out.mono ?_; rintro e w2 ⟨rfl, hw⟩; rw [hw]; clear hw)
  go_ret
  exact ⟨rfl, rfl⟩
set_option maxRecDepth 100000 in
theorem nilHasE (W : World) : Calls Tryd.prog 34 #[.pointer none, .int .i64 0] W fun e W' => e = .returned (.bool false) ∧ W' = W := by
  have H := Lib.hid (nilEvents W)
  go_enter Tryd.func34, Tryd.ntmps34
  go_wp2_with (go_at_call 22; refine H.out.mono ?_; rintro e w2 ⟨rfl, hw⟩; rw [hw]; clear hw)
  go_ret
  exact ⟨rfl, rfl⟩
set_option maxRecDepth 100000 in
theorem nilWrong (W : World) : Calls Tryd.prog 32 #[.pointer none, .int .i64 0, .int .i64 0] W fun e W' => e = .returned (.int .i64 1) ∧ W' = W := by
  go_enter Tryd.func32, Tryd.ntmps32
  go_wp2_with fail
  go_ret
  exact ⟨rfl, rfl⟩
set_option maxRecDepth 100000 in
theorem nilMay (W : World) : Calls Tryd.prog 16 #[.pointer none, .int .i64 0, .int .i64 0] W fun e W' => e = .returned (.bool false) ∧ W' = W := by
  have H := Lib.hid (nilWrong W)
  go_enter Tryd.func16, Tryd.ntmps16
  go_wp2_with (go_at_call 32; refine H.out.mono ?_; rintro e w2 ⟨rfl, hw⟩; rw [hw]; clear hw)
  go_ret
  exact ⟨rfl, rfl⟩
set_option maxRecDepth 100000 in
theorem nilGo (W : World) : Calls Tryd.prog 17 #[.pointer none, .int .i64 0, .int .i64 0] W fun e W' => e = .returned (.int .i64 1) ∧ W' = W := by
  have H := Lib.hid (nilWrong W)
  go_enter Tryd.func17, Tryd.ntmps17
  go_wp2_with (go_at_call 32; refine H.out.mono ?_; rintro e w2 ⟨rfl, hw⟩; rw [hw]; clear hw)
  go_ret
  exact ⟨rfl, rfl⟩
set_option maxRecDepth 100000 in
theorem nilState (W : World) : Calls Tryd.prog 18 #[.pointer none, .int .i64 0] W fun e W' => e = .returned (.int .i64 (-1)) ∧ W' = W := by
  have H := Lib.hid (nilHas W)
  go_enter Tryd.func18, Tryd.ntmps18
  go_wp2_with (go_at_call 33; refine H.out.mono ?_; rintro e w2 ⟨rfl, hw⟩; rw [hw]; clear hw)
  go_ret
  exact ⟨rfl, rfl⟩
set_option maxRecDepth 100000 in
theorem nilOn (W : World) : Calls Tryd.prog 19 #[.pointer none, .int .i64 0] W fun e W' => e = .returned (.bool false) ∧ W' = W := by
  have H := Lib.hid (nilHasE W)
  go_enter Tryd.func19, Tryd.ntmps19
  go_wp2_with (go_at_call 34; refine H.out.mono ?_; rintro e w2 ⟨rfl, hw⟩; rw [hw]; clear hw)
  go_ret
  exact ⟨rfl, rfl⟩
set_option maxRecDepth 100000 in
theorem nilSet (W : World) : Calls Tryd.prog 20 #[.pointer none, .int .i64 0, .bool true] W fun e W' => e = .returned (.bool false) ∧ W' = W := by
  have H := Lib.hid (nilHasE W)
  go_enter Tryd.func20, Tryd.ntmps20
  go_wp2_with (go_at_call 34; refine H.out.mono ?_; rintro e w2 ⟨rfl, hw⟩; rw [hw]; clear hw)
  go_ret
  exact ⟨rfl, rfl⟩
set_option maxRecDepth 100000 in
theorem nilCopy (W : World) : Calls Tryd.prog 12 #[.pointer none] W fun e W' => e = .returned (.pointer none) ∧ W' = W := by
  go_enter Tryd.func12, Tryd.ntmps12
  go_wp2_with fail
  go_ret
  exact ⟨rfl, rfl⟩
set_option maxRecDepth 100000 in
theorem nilSame (W : World) : Calls Tryd.prog 14 #[.pointer none, .pointer none] W fun e W' => e = .returned (.bool true) ∧ W' = W := by
  go_enter Tryd.func14, Tryd.ntmps14
  go_wp2_with fail
  go_ret
  exact ⟨rfl, rfl⟩
set_option maxRecDepth 100000 in
theorem nilSome (W : World) (b : Nat) : Calls Tryd.prog 14 #[.pointer none, .pointer (some ⟨b, 0, none⟩)] W fun e W' => e = .returned (.bool false) ∧ W' = W := by
  go_enter Tryd.func14, Tryd.ntmps14
  go_wp2_with fail
  go_ret
  exact ⟨rfl, rfl⟩
set_option maxRecDepth 100000 in
theorem someNil (W : World) (b : Nat) : Calls Tryd.prog 14 #[.pointer (some ⟨b, 0, none⟩), .pointer none] W fun e W' => e = .returned (.bool false) ∧ W' = W := by
  go_enter Tryd.func14, Tryd.ntmps14
  go_wp2_with fail
  go_ret
  exact ⟨rfl, rfl⟩
/-- Zero lives. -/
def zo : Obj := .cells #[.int .i64 0, .map none, .slice none 0 0] 46 (0, 0)
theorem zo_cells {W : World} {b : Nat} (h : W.heap[b]? = some zo) : W.cell? ⟨b, 0, none⟩ = some (.int .i64 0) ∧ W.cell? ⟨b, 1, none⟩ = some (.map none) ∧ W.cell? ⟨b, 2, none⟩ = some (.slice none 0 0) ∧ b < W.heap.size := by
  refine ⟨?_, ?_, ?_, (Array.getElem?_eq_some_iff.1 h).1⟩
  all_goals simp [World.cell?, h, zo]
set_option maxHeartbeats 1000000 in
set_option maxRecDepth 100000 in
theorem zeroGo {W : World} {b : Nat} (h : W.heap[b]? = some zo) : Calls Tryd.prog 17 #[.pointer (some ⟨b, 0, none⟩), .int .i64 0, .int .i64 0] W fun e W' => e = .returned (.int .i64 2) ∧ W' = W := by
  obtain ⟨x0, x1, x2, hl⟩ := zo_cells h
  have hc : Calls Tryd.prog 21 #[.pointer (some ⟨b, 0, none⟩)] W fun e W' => e = .returned (.int .i64 0) ∧ W' = W := by
    go_enter Tryd.func21, Tryd.ntmps21
    go_wp2_with fail
    go_ret
    exact ⟨rfl, rfl⟩
  have hh : Calls Tryd.prog 33 #[.pointer (some ⟨b, 0, none⟩), .int .i64 0] W fun e W' => e = .returned (.bool false) ∧ W' = W := by
    have H := Lib.hid hc
    clear hc
    go_enter Tryd.func33, Tryd.ntmps33
    go_wp2_with (go_at_call 21; refine H.out.mono ?_; rintro e w2 ⟨rfl, hw⟩; rw [hw]; clear hw)
    go_ret
    exact ⟨rfl, rfl⟩
  have hw : Calls Tryd.prog 32 #[.pointer (some ⟨b, 0, none⟩), .int .i64 0, .int .i64 0] W fun e W' => e = .returned (.int .i64 2) ∧ W' = W := by
    have H := Lib.hid hh
    clear hh hc
    go_enter Tryd.func32, Tryd.ntmps32
    go_wp2_with (go_at_call 33; refine H.out.mono ?_; rintro e w2 ⟨rfl, hw⟩; rw [hw]; clear hw)
    go_ret
    exact ⟨rfl, rfl⟩
  have H := Lib.hid hw
  clear hw hh hc
  go_enter Tryd.func17, Tryd.ntmps17
  go_wp2_with (go_at_call 32; refine H.out.mono ?_; rintro e w2 ⟨rfl, hw⟩; rw [hw]; clear hw)
  go_ret
  exact ⟨rfl, rfl⟩
theorem mequal_nil {W : World} {b2 : Nat} {D2 : DM} (h2 : OM W b2 D2) (c2 : MC [] D2) :
    Calls Tryd.prog 30 #[.map none, .map (some b2)] W fun e w' => e = .returned (.bool true) ∧ Ext W w' := by
  have hcon := AnyEq.maps_Equal_nil1 laysE (plainElem Tryd.prog 3) eqN (some b2) D2 W (.inr ⟨b2, _, rfl, h2⟩)
  rw [none_true rfl c2.size] at hcon
  exact hcon.mono fun e w' k => ⟨k.1, Kept.grown k.2 fun j o e _ => by cases e⟩
attribute [local irreducible] wpQuiet
section
variable {own : Nat → Bool} {b bo : Nat} {C : List Int} {E : List Bool} {W : World}
set_option maxHeartbeats 4000000 in
set_option maxRecDepth 100000 in
theorem zeroSame (h : W.heap[b]? = some zo) (h' : PL own bo C E W) : Calls Tryd.prog 14 #[.pointer (some ⟨b, 0, none⟩), .pointer (some ⟨bo, 0, none⟩)] W fun e W' => e = .returned (.bool (sameP [] [] C E)) ∧ Ext W W' := by
  obtain ⟨x0, x1, x2, hl⟩ := zo_cells h
  obtain ⟨bm, D, B, d, _, y0, y1, y2, hl', _, hm, hc, hr, _⟩ := h'.parts
  have hn := h'.len
  by_cases h1 : C = []
  · subst h1
    have hme := fun (p : ExtBy W) => mequal_nil ((p.x.kept (fun _ _ => true)).map hm rfl) hc
    have heb := fun (p : ExtBy W) => (equalB_ok (l := []) (A1 := none) (c1 := 0) (World.ownsRow_nil p.w 0 4 1) ((p.x.kept (fun _ _ => true)).row hr fun _ _ => rfl) (by simp; omega)).mono fun e w' (k : _ ∧ ∃ n, w' = p.w.drewN n) => (⟨k.1, by obtain ⟨n, hn⟩ := k.2; rw [hn]; exact Ext.drewN _ _⟩ : e = _ ∧ Ext p.w w')
    have a0 := fun (p : ExtBy W) => (p.x.kept (fun _ _ => true)).cell x0 fun _ _ => rfl
    have a1 := fun (p : ExtBy W) => (p.x.kept (fun _ _ => true)).cell x1 fun _ _ => rfl
    have a2 := fun (p : ExtBy W) => (p.x.kept (fun _ _ => true)).cell x2 fun _ _ => rfl
    have b0 := fun (p : ExtBy W) => (p.x.kept (fun _ _ => true)).cell y0 fun _ _ => rfl
    have b1 := fun (p : ExtBy W) => (p.x.kept (fun _ _ => true)).cell y1 fun _ _ => rfl
    have b2 := fun (p : ExtBy W) => (p.x.kept (fun _ _ => true)).cell y2 fun _ _ => rfl
    have c0 := fun (p : ExtBy W) => Nat.lt_of_lt_of_le hl p.x.size
    have c1 := fun (p : ExtBy W) => Nat.lt_of_lt_of_le hl' p.x.size
    have hs : sameP [] [] [] E = decide ([] = E) := by unfold sameP; simp
    rw [hs]
    generalize decide ([] = E) = r at heb ⊢
    have HME := Lib.hid hme
    have HEB := Lib.hid heb
    simp only [List.length_nil, Int.natCast_zero] at b0
    clear hme heb hs h h' hm hc hr
    go_enter Tryd.func14, Tryd.ntmps14
    go_upto_region 3 with (fail)
    clear x0 x1 x2 y0 y1 y2 hl hl'
    refine region_quiet_ext (by kernel_rfl) (by kernel_rfl) ?_
    repeat (quiet_step (first
      | (go_at_call 30; exact ExtBy.call (HME.out _))
      | (go_at_call 31; exact ExtBy.call (HEB.out _))))
    refine wpQuiet_nil ?_
    rintro w' ⟨p, rfl⟩
    go_wp2_with fail
    go_ret
    exact ⟨rfl, p.x⟩
  · have hs : sameP [] [] C E = false := by
      unfold sameP
      have : ¬ [] = C := fun e => h1 e.symm
      simp [this]
    rw [hs]
    have hp : 0 < C.length := List.length_pos_iff.2 h1
    have z0 : ((0 : Int) == (C.length : Int)) = false := by simp; omega
    have HX := Lib.hid (fun n => Ext.drewN W n)
    clear hs h h' hm hc hr h1 hp
    go_enter Tryd.func14, Tryd.ntmps14
    go_upto_region 3 with (fail)
    go_quiet (fail)
    go_wp2_with fail
    go_ret
    exact ⟨rfl, HX.out _⟩
end
set_option maxHeartbeats 8000000 in
set_option maxRecDepth 100000 in
theorem nil_walk (W : World) (hT : Tab W) : Calls Tryd.prog 6 #[] W fun e W' => e = .returned (.bool true) ∧ Ext W W' := by
  go_enter Tryd.func6, Tryd.ntmps6
  go_upto_region 3 with (fail)
  obtain ⟨W1, hW1⟩ : ∃ W1, W1 = W.alloc zo := ⟨_, rfl⟩
  change Code.wp _ _ _ _ (W.alloc zo)
  rw [← hW1]
  have hE1 : Ext W W1 := by rw [hW1]; exact Ext.one _ _
  have hz : W1.heap[W.heap.size]? = some zo := by rw [hW1]; exact World.alloc_heap_new _ _
  have HE1 := Lib.hid hE1
  have HZ := Lib.hid hz
  have HT1 := Lib.hid (hT.keep (hE1.kept (fun _ _ => true)) fun _ => rfl)
  clear hE1 hz hW1 hT
  go_upto_region 5 with (first
    | (go_at_call 16; refine (nilMay _).mono ?_; rintro e w9 ⟨rfl, hw⟩; rw [hw]; clear hw)
    | (go_at_call 17; refine (nilGo _).mono ?_; rintro e w9 ⟨rfl, hw⟩; rw [hw]; clear hw)
    | (go_at_call 18; refine (nilState _).mono ?_; rintro e w9 ⟨rfl, hw⟩; rw [hw]; clear hw)
    | (go_at_call 19; refine (nilOn _).mono ?_; rintro e w9 ⟨rfl, hw⟩; rw [hw]; clear hw)
    | (go_at_call 20; refine (nilSet _).mono ?_; rintro e w9 ⟨rfl, hw⟩; rw [hw]; clear hw)
    | (go_at_call 21; refine (nilComps _).mono ?_; rintro e w9 ⟨rfl, hw⟩; rw [hw]; clear hw)
    | (go_at_call 22; refine (nilEvents _).mono ?_; rintro e w9 ⟨rfl, hw⟩; rw [hw]; clear hw)
    | (go_at_call 12; refine (nilCopy _).mono ?_; rintro e w9 ⟨rfl, hw⟩; rw [hw]; clear hw)
    | (go_at_call 14; with_reducible refine (nilSame _).mono ?_; rintro e w9 ⟨rfl, hw⟩; rw [hw]; clear hw)
    | (go_at_call 14; with_reducible refine (nilSome _ _).mono ?_; rintro e w9 ⟨rfl, hw⟩; rw [hw]; clear hw)
    | (go_at_call 14; with_reducible refine (someNil _ _).mono ?_; rintro e w9 ⟨rfl, hw⟩; rw [hw]; clear hw))
  go_wp2_with (first
    | (go_at_call 7; refine (known_ok prog9 w14 (HT1.out.keep (Ext.kept HX14.out (fun _ _ => true)) fun _ => rfl)).mono ?_; rintro e w15 ⟨rfl, x15⟩; have HX15 := Lib.hid (Ext.trans HX14.out x15); clear x15)
    | (go_at_call 17; have hs := Go_ok HP13.out 0 (-1); rw [show goE (List.replicate (Int.toNat 1) (-1)) 0 (-1) = 2 by decide] at hs; with_reducible refine hs.mono ?_; rintro e w14 ⟨rfl, o14, _, k14, _⟩; have HX14 := Lib.hid (Ext.trans HX12.out (keptSince HX13.out HG13.out k14)); clear hs k14)
    | (go_at_call 8; refine (New_ok 1 [] none 0 w12 (.inl ⟨rfl, rfl, rfl⟩) (HT1.out.keep (Ext.kept HX12.out (fun _ _ => true)) fun _ => rfl) (by omega) (by simp)).mono ?_; rintro e w13 ⟨b13, o13, rfl, p13, x13, g13⟩; have HP13 := Lib.hid p13; have HX13 := Lib.hid x13; have HG13 := Lib.hid g13; clear p13 x13 g13)
    | (go_at_call 17; have hs := Go_ok HP11.out 0 4; rw [show goE (List.replicate (Int.toNat 1) (-1)) 0 4 = 2 by decide] at hs; with_reducible refine hs.mono ?_; rintro e w12 ⟨rfl, o12, _, k12, _⟩; have HX12 := Lib.hid (Ext.trans HX10.out (keptSince HX11.out HG11.out k12)); clear hs k12)
    | (go_at_call 8; refine (New_ok 1 [] none 0 w10 (.inl ⟨rfl, rfl, rfl⟩) (HT1.out.keep (Ext.kept HX10.out (fun _ _ => true)) fun _ => rfl) (by omega) (by simp)).mono ?_; rintro e w11 ⟨b11, o11, rfl, p11, x11, g11⟩; have HP11 := Lib.hid p11; have HX11 := Lib.hid x11; have HG11 := Lib.hid g11; clear p11 x11 g11)
    | (go_at_call 17; with_reducible refine (zeroGo ((Ext.kept HX9.out (fun _ _ => true)).same _ _ HZ.out rfl)).mono ?_; rintro e w10 ⟨rfl, hw10⟩; have HX10 := Lib.hid (show Ext W1 w10 by rw [hw10]; exact HX9.out); clear hw10)
    | (go_at_call 14; have hs := zeroSame ((Ext.kept HX8.out (fun _ _ => true)).same _ _ HZ.out rfl) HP8.out; rw [show sameP [] [] (List.replicate (Int.toNat 0) (-1)) [false] = false by decide] at hs; with_reducible refine hs.mono ?_; rintro e w9 ⟨rfl, x9⟩; have HX9 := Lib.hid (Ext.trans HX8.out x9); clear hs x9)
    | (go_at_call 8; have hsr : Src (w7.alloc (.cells #[.bool false] 4)) (.slice (some ⟨w7.heap.size, 0, none⟩) 1 1) 1 [.bool false] := src_one (World.alloc_heap_new _ _); refine (New_ok 0 [false] (some ⟨w7.heap.size, 0, none⟩) 1 (w7.alloc (.cells #[.bool false] 4)) hsr (HT1.out.keep (Ext.kept (Ext.trans HX7.out (Ext.one _ _)) (fun _ _ => true)) fun _ => rfl) (by omega) (by simp)).mono ?_; rintro e w8 ⟨b8, o8, rfl, p8, x8, g8⟩; have HP8 := Lib.hid p8; have HX8 := Lib.hid (Ext.trans (Ext.trans HX7.out (Ext.one _ _)) x8); clear p8 x8 g8 hsr)
    | (go_at_call 14; have hs := zeroSame ((Ext.kept HX6.out (fun _ _ => true)).same _ _ HZ.out rfl) HP6.out; rw [show sameP [] [] (List.replicate (Int.toNat 1) (-1)) [] = false by decide] at hs; with_reducible refine hs.mono ?_; rintro e w7 ⟨rfl, x7⟩; have HX7 := Lib.hid (Ext.trans HX6.out x7); clear hs x7)
    | (go_at_call 8; refine (New_ok 1 [] none 0 w5 (.inl ⟨rfl, rfl, rfl⟩) (HT1.out.keep (Ext.kept HX5.out (fun _ _ => true)) fun _ => rfl) (by omega) (by simp)).mono ?_; rintro e w6 ⟨b6, o6, rfl, p6, x6, g6⟩; have HP6 := Lib.hid p6; have HX6 := Lib.hid (Ext.trans HX5.out x6); clear p6 x6 g6)
    | (go_at_call 14; have hs := zeroSame ((Ext.kept HX4.out (fun _ _ => true)).same _ _ HZ.out rfl) HP4.out; rw [show sameP [] [] (List.replicate (Int.toNat (-5)) (-1)) [] = true by decide] at hs; with_reducible refine hs.mono ?_; rintro e w5 ⟨rfl, x5⟩; have HX5 := Lib.hid (Ext.trans HX4.out x5); clear hs x5)
    | (go_at_call 8; refine (New_ok (-5) [] none 0 w3 (.inl ⟨rfl, rfl, rfl⟩) (HT1.out.keep (Ext.kept HX3.out (fun _ _ => true)) fun _ => rfl) (by omega) (by simp)).mono ?_; rintro e w4 ⟨b4, o4, rfl, p4, x4, g4⟩; have HP4 := Lib.hid p4; have HX4 := Lib.hid (Ext.trans HX3.out x4); clear p4 x4 g4)
    | (go_at_call 14; have hs := zeroSame ((Ext.kept HX2.out (fun _ _ => true)).same _ _ HZ.out rfl) HP2.out; rw [show sameP [] [] (List.replicate (Int.toNat 0) (-1)) [] = true by decide] at hs; with_reducible refine hs.mono ?_; rintro e w3 ⟨rfl, x3⟩; have HX3 := Lib.hid (Ext.trans HX2.out x3); clear hs x3)
    | (go_at_call 8; refine (New_ok 0 [] none 0 W1 (.inl ⟨rfl, rfl, rfl⟩) (HT1.out.keep (Ext.kept (Ext.refl W1) (fun _ _ => true)) fun _ => rfl) (by omega) (by simp)).mono ?_; rintro e w2 ⟨b2, o2, rfl, p2, x2, g2⟩; have HP2 := Lib.hid p2; have HX2 := Lib.hid (Ext.trans (Ext.refl W1) x2); clear p2 x2 g2))

  go_ret
  exact ⟨rfl, HE1.out.trans HX15.out⟩
end Go.Proofs.YtecehjcombkkaaaDoor
