/- Queue.Same. -/
import Derived.Test.YtmbdglolpagjdaaQwF
import Derived.Test.YtmbdglolpagjdaaQwG
namespace Go.Proofs.Ytmbdglolpagjdaa
open Go.RowKit Go.Shelf
attribute [local go_sem] Oper.semAt_some
@[go_sem] theorem eqnil_q (b : Nat) (w : World) : (binOp .eql 24 (.pointer none) (.pointer (some ⟨b, 0, none⟩))).run Try.prog w = .ok (.bool false) w := by kernel_rfl
section
variable {own own2 : Nat → Bool} {bq bo : Nat} {l m : List Ent} {pu pv : Int} {W : World}
set_option maxHeartbeats 2000000 in
set_option maxRecDepth 100000 in
theorem Same_ok (h : QV own bq l pu W) (h2 : QV own2 bo m pv W) (ht : Tri l) (ht2 : Tri m) :
    Calls Try.prog 14 #[.pointer (some ⟨bq, 0, none⟩), .pointer (some ⟨bo, 0, none⟩)] W fun e W' => e = .returned (.bool (sameE (srt l) (srt m))) ∧ Ext W W' := by
  have H1 := Lib.hid (show ∀ w, Ext W w → _ from fun w hw => All_ok w (h.ev.ext hw) h.len)
  have H2 := Lib.hid (show ∀ w, Ext W w → _ from fun w hw => All_ok w (h2.ev.ext hw) h2.len)
  have HA := Lib.hid (And.intro ht (And.intro h.hp h.len))
  have HB := Lib.hid (And.intro ht2 (And.intro h2.hp h2.len))
  have hl : (srt l).length ≤ 1000000 := by rw [(srt_perm l).length_eq]; have := h.len; omega
  have HL := Lib.hid hl
  clear h h2 ht ht2 hl
  go_enter Try.func14, Try.ntmps14
  go_wp2_with (first
    | (go_at_call 33; refine (H1.out _ (Ext.refl _)).mono ?_; rintro e w2 ⟨bl, A, c, rfl, hx2, _, hb2, ho2⟩; have HX2 := Lib.hid hx2; have HB2 := Lib.hid hb2; have HO2 := Lib.hid ho2; clear hx2 hb2 ho2)
    | (go_at_call 32; refine (collect_ok HA.out.1 HA.out.2.1 HA.out.2.2 _ HB2.out (own_zero HO2.out)).mono ?_; rintro e w3 ⟨A3, c3, rfl, hx3, ho3⟩; have HX3 := Lib.hid (HX2.out.trans hx3); have HO3 := Lib.hid ho3; clear hx3 ho3)
    | (go_at_call 33; refine (H2.out _ HX3.out).mono ?_; rintro e w4 ⟨bm, A4, c4, rfl, hx4, _, hb4, ho4⟩; have HX4 := Lib.hid hx4; have HB4 := Lib.hid hb4; have HO4 := Lib.hid ho4; clear hx4 hb4 ho4)
    | (go_at_call 32; refine (collect_ok HB.out.1 HB.out.2.1 HB.out.2.2 _ HB4.out (own_zero HO4.out)).mono ?_; rintro e w5 ⟨A5, c5, rfl, hx5, ho5⟩; have HX5 := Lib.hid (HX4.out.trans hx5); have HO5 := Lib.hid ho5; clear hx5 ho5)
    | (go_at_call 31; refine (equal_ok ((HX5.out.kept (fun _ _ => true)).row HO3.out fun _ _ => rfl) HO5.out HL.out).mono ?_; rintro e w6 ⟨rfl, hx6⟩; have HX6 := Lib.hid hx6; clear hx6))
  go_ret
  exact ⟨rfl, (HX3.out.trans HX5.out).trans HX6.out⟩
set_option maxRecDepth 100000 in
theorem Same_nil (W : World) : Calls Try.prog 14 #[.pointer none, .pointer none] W fun e W' => e = .returned (.bool true) ∧ W' = W := by
  go_enter Try.func14, Try.ntmps14
  go_wp2_with fail
  go_ret
  exact ⟨rfl, rfl⟩
set_option maxRecDepth 100000 in
theorem Same_some (b : Nat) (W : World) : Calls Try.prog 14 #[.pointer none, .pointer (some ⟨b, 0, none⟩)] W fun e W' => e = .returned (.bool false) ∧ W' = W := by
  go_enter Try.func14, Try.ntmps14
  go_wp2_with fail
  go_ret
  exact ⟨rfl, rfl⟩
set_option maxRecDepth 100000 in
theorem nil_Same (b : Nat) (W : World) : Calls Try.prog 14 #[.pointer (some ⟨b, 0, none⟩), .pointer none] W fun e W' => e = .returned (.bool false) ∧ W' = W := by
  go_enter Try.func14, Try.ntmps14
  go_wp2_with fail
  go_ret
  exact ⟨rfl, rfl⟩
end
end Go.Proofs.Ytmbdglolpagjdaa
