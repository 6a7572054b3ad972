/- QueueNil's walk. -/
import Derived.Test.YtmbdglolpagjdaaQyG
namespace Go.Proofs.Ytmbdglolpagjdaa
open Go.RowKit Go.Shelf
attribute [local go_sem] Oper.semAt_some
set_option maxHeartbeats 4000000 in
set_option maxRecDepth 100000 in
theorem nil_walk (W : World) : Calls Try.prog 7 #[] W fun e W' => e = .returned (.bool true) ∧ Ext W W' := by
  go_enter Try.func7, Try.ntmps7
  go_upto_region 9 with (first
    | (go_at_call 19; refine (nilList _).mono ?_; rintro e w8 ⟨A8, c8, rfl, hx8⟩; have HX8 := Lib.hid (HN2.out.trans hx8); clear hx8)
    | (go_at_call 14; have hs := HN2; refine (nil_Same _ _).mono ?_; rintro e w9 ⟨rfl, rfl⟩; clear hs)
    | (go_at_call 9; have hs := HS2; refine (New_ok _).mono ?_; rintro e w7 ⟨rfl, hx7, _⟩; have HN2 := Lib.hid (HN1.out.trans hx7); clear hx7 hs)
    | (go_at_call 14; have hs := HN1; refine (Same_some _ _).mono ?_; rintro e w9 ⟨rfl, rfl⟩; have HS2 := Lib.hid True.intro; clear hs)
    | (go_at_call 9; refine (New_ok _).mono ?_; rintro e w6 ⟨rfl, hx6, _⟩; have HN1 := Lib.hid (HX5.out.trans hx6); clear hx6)
    | (go_at_call 14; refine (Same_nil _).mono ?_; rintro e w9 ⟨rfl, rfl⟩)
    | (go_at_call 12; refine (nilCopy _).mono ?_; rintro e w9 ⟨rfl, rfl⟩)
    | (go_at_call 21; refine (nilLen _).mono ?_; rintro e w9 ⟨rfl, rfl⟩)
    | (go_at_call 17; refine (nilPut _ _ _ _).mono ?_; rintro e w5 ⟨rfl, hx5⟩; have HX5 := Lib.hid (HX4.out.trans hx5); clear hx5)
    | (go_at_call 18; refine (nilDrop _ _).mono ?_; rintro e w9 ⟨rfl, rfl⟩)
    | (go_at_call 22; refine (nilNext _).mono ?_; rintro e w4 ⟨rfl, hx4⟩; have HX4 := Lib.hid ((HX3.out.trans (Ext.one _ _)).trans hx4); clear hx4)
    | (go_at_call 20; refine (nilTake _ _).mono ?_; unfold dueW; rintro e w3 ⟨rfl, hx3⟩; have HX3 := Lib.hid ((HX2.out.trans (Ext.one _ _)).trans hx3); clear hx3)
    | (go_at_call 23; refine (nilDue _ _).mono ?_; rintro e w2 ⟨rfl, hx2⟩; have HX2 := Lib.hid hx2; clear hx2))
  obtain ⟨wz, hwz⟩ : ∃ wz, wz = w8.alloc (.cells #[.slice none 0 0, .map none, .int .i64 0] 59 (0, 0)) := ⟨_, rfl⟩
  have hz : Zq W w8.heap.size [] 0 wz := by
    rw [hwz]
    refine ⟨_, QV.new w8 (World.alloc_heap_new _ _), fun b hb => ?_, HX8.out.trans (Ext.one _ _)⟩
    have := HX8.out.size
    simp [newQ] at hb; omega
  have HZ := Lib.hid hz
  change Code.wp _ _ _ _ (w8.alloc (.cells #[.slice none 0 0, .map none, .int .i64 0] 59 (0, 0)))
  rw [← hwz]
  clear hz hwz HX8 HN1 HN2 HS2 HX5 HX4 HX3 HX2
  generalize w8.heap.size = bq at *
  go_wp2_with (first
    | (go_at_call 8; refine (known_ok _).mono ?_; rintro e w16 ⟨rfl, hx16⟩; have HK := Lib.hid (HZD.out.ext hx16).x; clear hx16)
    | (go_at_call 21; refine (zLen HZD.out).mono ?_; rintro e w9 ⟨rfl, rfl⟩)
    | (go_at_call 17; refine (zPutD HZC.out).mono ?_; rintro e w15 ⟨rfl, hz15⟩; have HZD := Lib.hid hz15; clear hz15)
    | (go_at_call 17; refine (zPutC HZB.out).mono ?_; rintro e w14 ⟨rfl, hz14⟩; have HZC := Lib.hid hz14; clear hz14)
    | (go_at_call 17; refine (zPutB HZA.out).mono ?_; rintro e w13 ⟨rfl, hz13⟩; have HZB := Lib.hid hz13; clear hz13)
    | (go_at_call 17; refine (zPutA HZS.out).mono ?_; rintro e w12 ⟨rfl, hz12⟩; have HZA := Lib.hid hz12; clear hz12)
    | (go_at_call 14; refine (zSame HZN.out.1 HZN.out.2).mono ?_; rintro e w11 ⟨rfl, hx11⟩; have HZS := Lib.hid (HZN.out.1.ext hx11); clear hx11)
    | (go_at_call 9; refine (New_ok _).mono ?_; rintro e w10 ⟨rfl, hx10, hq10⟩; have HZN := Lib.hid (And.intro (HZ.out.ext hx10) hq10); clear hx10 hq10))
  go_ret
  exact ⟨rfl, HK.out⟩
end Go.Proofs.Ytmbdglolpagjdaa
