/- What is answered of a machine that is not there, and of a zero one: the closed sentence. Written by genMdE.py. -/
import Derived.Test.YtfljmdpigckpkaaGreatDoorB35
import Derived.Test.YtfljmdpigckpkaaGreatDoorB27
namespace Go.Proofs.YtfljmdpigckpkaaGreatDoor
open Go.RowKit Go.Shelf
attribute [local go_sem] Oper.semAt_some
def oNl (bz : Nat) : Obj := .cells #[.pointer none, .pointer (some ⟨bz, 0, none⟩)] 37 (0, 0)
def oNs : Obj := .cells #[.slice none 0 0] 26 (0, 0)
set_option maxHeartbeats 8000000 in
set_option maxRecDepth 100000 in
theorem MachineNil_ok {W : World} (hT : Tab W) : Calls Tryz.prog 4 #[] W fun e W' => e = .returned (.bool true) ∧ Ext W W' := by
  obtain ⟨W1, hW1⟩ : ∃ W1, W1 = (W.alloc zMo).alloc (oNl W.heap.size) := ⟨_, rfl⟩
  have hx1 : Ext W W1 := by rw [hW1]; exact Ext.two _ _ _
  have hb1 : W1.heap[W.heap.size]? = some zMo := by rw [hW1]; exact alloc_old (World.alloc_heap_new _ _)
  have hb2 : W1.heap[W.heap.size + 1]? = some (oNl W.heap.size) := by rw [hW1]; exact alloc_new' (by simp)
  have HZ := Lib.hid (fun w (k : Ext W1 w) => (k.kept (fun _ _ => true)).same _ _ hb1 rfl)
  have HLL := Lib.hid (fun w (k : Ext W1 w) => (k.kept (fun _ _ => true)).same _ _ hb2 rfl)
  have HT := Lib.hid (fun w (k : Ext W1 w) => (hT.ext hx1).ext k)
  have HX1 := Lib.hid hx1
  have HW := Lib.hid hW1
  clear hx1 hb1 hb2 hW1 hT
  go_enter Tryz.func4, Tryz.ntmps4
  go_upto_region 5 with (fail)
  change Code.wp _ _ _ _ ((W.alloc zMo).alloc (oNl W.heap.size))
  rw [← HW.out]
  generalize hbl : W.heap.size + 1 = bl at *
  generalize hbz : W.heap.size = bz at *
  clear HW hbl hbz
  go_loopg [4, 5] 2 (fun k v4 v5 wr => ∃ i : Nat, i + k = 2 ∧ v4 = .int .i64 i ∧ Ext W1 wr)
  case atStart => exact ⟨0, rfl, rfl, Ext.refl _⟩
  case round =>
    obtain ⟨i, hik, rfl, hx⟩ := hrel
    have HXX := Lib.hid hx
    have hbl := HLL.out wr hx
    have l0 : wr.cell? ⟨bl, 0, none⟩ = some (.pointer none) := by simp [World.cell?, hbl, oNl]
    have l1 : wr.cell? ⟨bl, 1, none⟩ = some (.pointer (some ⟨bz, 0, none⟩)) := by simp [World.cell?, hbl, oNl]
    have ll := (Array.getElem?_eq_some_iff.1 hbl).1
    clear hbl
    obtain rfl | rfl | rfl : i = 0 ∨ i = 1 ∨ i = 2 := by omega
    · obtain rfl : gk = 2 := by omega
      have HNO := Lib.hid (fun w (k : Ext wr w) => show NoM (.pointer none) w from .inl rfl)
      have HY0 := Lib.hid (Ext.refl wr)
      clear hx hik
      go_wp2_with (first
        | (go_at_call 8; refine (Run_no (HNO.out _ HY0.out)).mono ?_; rintro e y1 ⟨rfl, hy⟩; have HY1 := Lib.hid (HY0.out.trans hy); clear hy l0 l1 ll)
        | (go_at_call 18; refine (Work_no (HNO.out _ HY1.out)).mono ?_; rintro e y2 ⟨rfl, hy⟩; have HY2 := Lib.hid (HY1.out.trans hy); clear hy)
        | (go_at_call 19; refine (Tick_no (HNO.out _ HY2.out)).mono ?_; rintro e y3 ⟨rfl, hy⟩; have HY3 := Lib.hid (HY2.out.trans hy); clear hy)
        | (go_at_call 20; refine (Inject_no (HNO.out _ HY3.out)).mono ?_; rintro e y4 ⟨rfl, hy⟩; have HY4 := Lib.hid (HY3.out.trans hy); clear hy)
        | (go_at_call 21; refine (Life_no (HNO.out _ HY4.out)).mono ?_; rintro e y5 ⟨rfl, hy⟩; have HY5 := Lib.hid (HY4.out.trans hy); clear hy)
        | (go_at_call 10; refine (Full_no (HNO.out _ HY5.out)).mono ?_; rintro e y6 ⟨rfl, hy⟩; have HY6 := Lib.hid (HY5.out.trans hy); clear hy)
        | (go_at_call 11; refine (Can_no (HNO.out _ HY6.out)).mono ?_; rintro e y7 ⟨rfl, hy⟩; have HY7 := Lib.hid (HY6.out.trans hy); clear hy)
        | (go_at_call 12; refine (Ended_no (HNO.out _ HY7.out)).mono ?_; rintro e y8 ⟨rfl, hy⟩; have HY8 := Lib.hid (HY7.out.trans hy); clear hy)
        | (go_at_call 23; refine (Blocked_no (HNO.out _ HY8.out)).mono ?_; rintro e y9 ⟨rfl, hy⟩; have HY9 := Lib.hid (HY8.out.trans hy); clear hy)
        | (go_at_call 24; refine (Waits_no (HNO.out _ HY9.out)).mono ?_; rintro e y10 ⟨rfl, hy⟩; have HY10 := Lib.hid (HY9.out.trans hy); clear hy)
        | (go_at_call 25; refine (Now_no (HNO.out _ HY10.out)).mono ?_; rintro e y11 ⟨rfl, hy⟩; have HY11 := Lib.hid (HY10.out.trans hy); clear hy)
        | (go_at_call 14; refine (Tasks_no (HNO.out _ HY11.out)).mono ?_; rintro e y12 ⟨rfl, hy⟩; have HY12 := Lib.hid (HY11.out.trans hy); clear hy)
        | (go_at_call 26; refine (Globals_no (HNO.out _ HY12.out)).mono ?_; rintro e y13 ⟨rfl, hy⟩; have HY13 := Lib.hid (HY12.out.trans hy); clear hy)
        | (go_at_call 17; refine (Log_no (HNO.out _ HY13.out)).mono ?_; rintro e y14 ⟨rfl, hy⟩; have HY14 := Lib.hid (HY13.out.trans hy); clear hy)
        | (go_at_call 27; refine (Heap_no (HNO.out _ HY14.out)).mono ?_; rintro e y15 ⟨rfl, hy⟩; have HY15 := Lib.hid (HY14.out.trans hy); clear hy)
        | (go_at_call 16; refine (Marks_no (HNO.out _ HY15.out)).mono ?_; rintro e y16 ⟨rfl, hy⟩; have HY16 := Lib.hid (HY15.out.trans hy); clear hy)
        | (go_at_call 28; refine (Site_no (HNO.out _ HY16.out)).mono ?_; rintro e y17 ⟨rfl, hy⟩; have HY17 := Lib.hid (HY16.out.trans hy); clear hy)
        | (go_at_call 29; refine (Copy_no (HNO.out _ HY17.out)).mono ?_; rintro e y18 ⟨rfl, hy⟩; have HY18 := Lib.hid (HY17.out.trans hy); clear hy)
        | (go_at_call 30; refine (Same_no (HNO.out _ HY18.out) (show NoM (.pointer none) _ from .inl rfl)).mono ?_; rintro e y ⟨rfl, hw⟩; rw [hw]; clear hw; have HQ := Lib.hid (Same_no (show NoM (.pointer none) _ from .inl rfl) (HNO.out _ HY18.out)); have HYZ := HY18; clear HNO)
        | (go_at_call 30; refine HQ.out.mono ?_; rintro e y ⟨rfl, hw⟩; rw [hw]; clear hw))
      go_roundg 1
      case measure => omega
      case rel => exact ⟨1, rfl, rfl, HXX.out.trans HYZ.out⟩
    · obtain rfl : gk = 1 := by omega
      have HNO := Lib.hid (fun w (k : Ext wr w) => show NoM (.pointer (some ⟨bz, 0, none⟩)) w from .inr ⟨bz, rfl, HZ.out w (HXX.out.trans k)⟩)
      have HY0 := Lib.hid (Ext.refl wr)
      clear hx hik
      go_wp2_with (first
        | (go_at_call 8; refine (Run_no (HNO.out _ HY0.out)).mono ?_; rintro e y1 ⟨rfl, hy⟩; have HY1 := Lib.hid (HY0.out.trans hy); clear hy l0 l1 ll)
        | (go_at_call 18; refine (Work_no (HNO.out _ HY1.out)).mono ?_; rintro e y2 ⟨rfl, hy⟩; have HY2 := Lib.hid (HY1.out.trans hy); clear hy)
        | (go_at_call 19; refine (Tick_no (HNO.out _ HY2.out)).mono ?_; rintro e y3 ⟨rfl, hy⟩; have HY3 := Lib.hid (HY2.out.trans hy); clear hy)
        | (go_at_call 20; refine (Inject_no (HNO.out _ HY3.out)).mono ?_; rintro e y4 ⟨rfl, hy⟩; have HY4 := Lib.hid (HY3.out.trans hy); clear hy)
        | (go_at_call 21; refine (Life_no (HNO.out _ HY4.out)).mono ?_; rintro e y5 ⟨rfl, hy⟩; have HY5 := Lib.hid (HY4.out.trans hy); clear hy)
        | (go_at_call 10; refine (Full_no (HNO.out _ HY5.out)).mono ?_; rintro e y6 ⟨rfl, hy⟩; have HY6 := Lib.hid (HY5.out.trans hy); clear hy)
        | (go_at_call 11; refine (Can_no (HNO.out _ HY6.out)).mono ?_; rintro e y7 ⟨rfl, hy⟩; have HY7 := Lib.hid (HY6.out.trans hy); clear hy)
        | (go_at_call 12; refine (Ended_no (HNO.out _ HY7.out)).mono ?_; rintro e y8 ⟨rfl, hy⟩; have HY8 := Lib.hid (HY7.out.trans hy); clear hy)
        | (go_at_call 23; refine (Blocked_no (HNO.out _ HY8.out)).mono ?_; rintro e y9 ⟨rfl, hy⟩; have HY9 := Lib.hid (HY8.out.trans hy); clear hy)
        | (go_at_call 24; refine (Waits_no (HNO.out _ HY9.out)).mono ?_; rintro e y10 ⟨rfl, hy⟩; have HY10 := Lib.hid (HY9.out.trans hy); clear hy)
        | (go_at_call 25; refine (Now_no (HNO.out _ HY10.out)).mono ?_; rintro e y11 ⟨rfl, hy⟩; have HY11 := Lib.hid (HY10.out.trans hy); clear hy)
        | (go_at_call 14; refine (Tasks_no (HNO.out _ HY11.out)).mono ?_; rintro e y12 ⟨rfl, hy⟩; have HY12 := Lib.hid (HY11.out.trans hy); clear hy)
        | (go_at_call 26; refine (Globals_no (HNO.out _ HY12.out)).mono ?_; rintro e y13 ⟨rfl, hy⟩; have HY13 := Lib.hid (HY12.out.trans hy); clear hy)
        | (go_at_call 17; refine (Log_no (HNO.out _ HY13.out)).mono ?_; rintro e y14 ⟨rfl, hy⟩; have HY14 := Lib.hid (HY13.out.trans hy); clear hy)
        | (go_at_call 27; refine (Heap_no (HNO.out _ HY14.out)).mono ?_; rintro e y15 ⟨rfl, hy⟩; have HY15 := Lib.hid (HY14.out.trans hy); clear hy)
        | (go_at_call 16; refine (Marks_no (HNO.out _ HY15.out)).mono ?_; rintro e y16 ⟨rfl, hy⟩; have HY16 := Lib.hid (HY15.out.trans hy); clear hy)
        | (go_at_call 28; refine (Site_no (HNO.out _ HY16.out)).mono ?_; rintro e y17 ⟨rfl, hy⟩; have HY17 := Lib.hid (HY16.out.trans hy); clear hy)
        | (go_at_call 29; refine (Copy_no (HNO.out _ HY17.out)).mono ?_; rintro e y18 ⟨rfl, hy⟩; have HY18 := Lib.hid (HY17.out.trans hy); clear hy)
        | (go_at_call 30; refine (Same_no (HNO.out _ HY18.out) (show NoM (.pointer none) _ from .inl rfl)).mono ?_; rintro e y ⟨rfl, hw⟩; rw [hw]; clear hw; have HQ := Lib.hid (Same_no (show NoM (.pointer none) _ from .inl rfl) (HNO.out _ HY18.out)); have HYZ := HY18; clear HNO)
        | (go_at_call 30; refine HQ.out.mono ?_; rintro e y ⟨rfl, hw⟩; rw [hw]; clear hw))
      go_roundg 0
      case measure => omega
      case rel => exact ⟨2, rfl, rfl, HXX.out.trans HYZ.out⟩
    · clear hik l0 l1 ll
      obtain ⟨V1, hV1⟩ : ∃ V1, V1 = wr.alloc oNs := ⟨_, rfl⟩
      have hy1 : Ext wr V1 := by rw [hV1]; exact Ext.one _ _
      have hc1 : V1.heap[wr.heap.size]? = some oNs := by rw [hV1]; exact World.alloc_heap_new _ _
      have HS := Lib.hid (smallJ V1 (ga := wr.heap.size) (cA := 1) (by simp [World.cell?, hc1, oNs]))
      have HY1 := Lib.hid (hx.trans hy1)
      have HV := Lib.hid hV1
      clear hx hy1 hc1 hV1 HZ HLL
      go_upto_region 13 with (first
        | (go_at_call 6; (change Calls _ _ #[Value.slice (some ⟨wr.heap.size, 0, none⟩) 1 1] (wr.alloc oNs) _); rw [← HV.out]; refine HS.out.mono ?_; rintro e w2 ⟨P, rfl, hs, hx2⟩; have HNW := Lib.hid (New_m (HT.out _ (HY1.out.trans hx2)) hs.i hs.g hs.l hs.gl hs.ev hs.lo hs.ma hs.cm (by obtain ⟨F, h, _⟩ := hs.fn; rw [h]; exact Nat.one_pos) (by obtain ⟨F, h, h1, _⟩ := hs.fn; simp only [h]; exact h1) (by obtain ⟨F, h, _, h1, _⟩ := hs.fn; simp only [h]; exact h1)); have HX2 := Lib.hid (HY1.out.trans hx2); clear hs hx2)
        | (go_at_call 31; refine HNW.out.mono ?_; rintro e w4 ⟨W3, L, rfl, hx4, hsz, hma, -⟩; have HMA := Lib.hid hma; have HX4 := Lib.hid (HX2.out.trans hx4); clear hx4 hsz hma))
      have HQ1 := Lib.hid (Same_mn HMA.out (show NoM (.pointer none) w4 from .inl rfl))
      have HQ2 := Lib.hid (Same_nm HMA.out (show NoM (.pointer none) w4 from .inl rfl))
      have HKN := Lib.hid (known_ok (HT.out _ HX4.out))
      go_wp2_with (first
        | (go_at_call 30; refine HQ1.out.mono ?_; rintro e y ⟨rfl, hw⟩; rw [hw]; clear hw HQ1)
        | (go_at_call 30; refine HQ2.out.mono ?_; rintro e y ⟨rfl, hw⟩; rw [hw]; clear hw HQ2)
        | (go_at_call 22; refine HKN.out.mono ?_; rintro e w9 ⟨rfl, hx9⟩; have HX9 := Lib.hid hx9; clear hx9))
      go_ret
      exact ⟨rfl, HX1.out.trans (HX4.out.trans HX9.out)⟩
end Go.Proofs.YtfljmdpigckpkaaGreatDoor
