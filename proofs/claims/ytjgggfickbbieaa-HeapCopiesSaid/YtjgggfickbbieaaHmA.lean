/- A new heap; the law's known. -/
import Derived.Test.YtjgggfickbbieaaHlE
namespace Go.Proofs.Ytjgggfickbbieaa
open Go.RowKit Go.Shelf
attribute [local go_sem] Oper.semAt_some
theorem keptSince {own : Nat → Bool} {W w w' : World} (hx : Ext W w) (hge : ∀ b, own b = true → W.heap.size ≤ b) (h : Kept (pQ own) w w') : Ext W w' :=
  Kept.trans hx (h.mono fun b t _ hp => by
    simp [pOld] at hp
    unfold pQ
    cases hc : own b with
    | false => rfl
    | true => have := hge b hc; omega)
theorem ownSince {own own' : Nat → Bool} {W w : World} (hx : Ext W w) (hge : ∀ b, own b = true → W.heap.size ≤ b) (h : ∀ b, own' b = true → own b = true ∨ w.heap.size ≤ b) : ∀ b, own' b = true → W.heap.size ≤ b := fun b hb => by
  have := hx.size
  rcases h b hb with k | k
  · exact hge b k
  · omega
def oneB (b : Nat) : Nat → Bool := fun k => k == b
/-- A zero heap. -/
theorem PH.zero {W : World} {bh : Nat} (h : W.heap[bh]? = some (.cells #[.slice none 0 0, .map none] 62 (0, 0))) : PH (oneB bh) bh [] [] W :=
  ⟨⟨_, _, h, World.ownsRow_nil _ _ _ _, fun g hg => by simp [Value.ownBlock] at hg, .inl ⟨rfl, rfl⟩⟩, rfl, by simp, by simp, by simp, by simp, by simp, by simp [oneB], fun b hb => by simp [oneB] at hb; subst hb; exact (Array.getElem?_eq_some_iff.1 h).1, by simp, by simp⟩
theorem RH.zero {W : World} {bw : Nat} (h : W.heap[bw]? = some (.cells #[.slice none 0 0] 30 (0, 0))) : RH (oneB bw) bw [] W :=
  ⟨⟨_, h, World.ownsRow_nil _ _ _ _, fun g hg => by simp [Value.ownBlock] at hg⟩, by simp, by simp, by simp, by simp [oneB], fun b hb => by simp [oneB] at hb; subst hb; exact (Array.getElem?_eq_some_iff.1 h).1, by simp, by simp⟩
set_option maxHeartbeats 1000000 in
set_option maxRecDepth 100000 in
theorem New_ok (W : World) : Calls Try.prog 9 #[] W fun e W' => e = .returned (.pointer (some ⟨W.heap.size, 0, none⟩)) ∧ Ext W W' ∧ PH (oneB W.heap.size) W.heap.size [] [] W' := by
  go_enter Try.func9, Try.ntmps9
  go_wp2_with fail
  go_ret
  exact ⟨rfl, Ext.one _ _, PH.zero (World.alloc_heap_new _ _)⟩
theorem known_keys {L : List Ob} (h : L.map Ob.key = [newK [] 3 1 0 7 [0]]) : setE L 1 0 = 0 ∧ getO (setL L 1 0 9) 1 0 = (9, 0) ∧ getO (setL L 1 0 9) 1 1 = (0, 13) ∧ getO (setL L 1 0 9) 2 0 = (0, 13) ∧ hasO (setL L 1 0 9) 0 = false := by
  obtain ⟨x, rfl⟩ : ∃ x, L = [x] := List.length_eq_one_iff.1 (by have := congrArg List.length h; simpa using this)
  obtain ⟨k, o, v, vals, si, b, n⟩ := x
  simp [Ob.key, newK] at h
  obtain ⟨rfl, rfl, rfl, rfl, rfl, rfl⟩ := h
  have e0 : setE [⟨3, 1, v, [0], 0, 7, (cntO [] 7 : Int)⟩] 1 0 = 0 := by simp [setE, lenO, hasO, atO, nt]
  have e1 : setL [⟨3, 1, v, [0], 0, 7, (cntO [] 7 : Int)⟩] 1 0 9 = [⟨3, 1, v, [9], 0, 7, (cntO [] 7 : Int)⟩] := by
    unfold setL; rw [if_pos e0]; simp [setO, nt]
  rw [e1]
  exact ⟨e0, by simp [getO, lenO, hasO, atO, nt], by simp [getO, lenO, hasO, atO, nt], by simp [getO, lenO, hasO], by simp [hasO]⟩
set_option maxHeartbeats 2000000 in
set_option maxRecDepth 100000 in
theorem known_ok (W : World) : Calls Try.prog 8 #[] W fun e W' => e = .returned (.bool true) ∧ Ext W W' := by
  have HNEW := Lib.hid (New_ok W)
  go_enter Try.func8, Try.ntmps8
  go_upto_region 2 with (go_at_call 9; refine HNEW.out.mono ?_; rintro e w1 ⟨rfl, hx1, hq1⟩; have hmk := Make_all hq1 3 1 1 0 7 (by decide); simp only [mkR, mkK, show mkBad 3 1 = false by decide, Bool.false_eq_true, if_false, List.length_nil, List.map_nil, List.nil_append] at hmk; have HMK := Lib.hid hmk; have HX1 := Lib.hid hx1; clear hx1 hq1 hmk)
  go_upto_region 3 with (go_at_call 16; refine HMK.out.mono ?_; rintro e w2 ⟨rfl, own2, ps2, L2, hp2, hk2, hq2, ho2⟩; obtain ⟨e1, e2, e3, e4, e5⟩ := known_keys hk2; have hst := Set_ok hp2 1 0 9; rw [e1] at hst; have HST := Lib.hid hst; have HX2 := Lib.hid (keptSince HX1.out (fun b hb => by simp [oneB] at hb; omega) hq2); have HO2 := Lib.hid (ownSince HX1.out (fun b hb => by simp [oneB] at hb; omega) ho2); have E2 := Lib.hid e2; have E3 := Lib.hid e3; have E4 := Lib.hid e4; have E5 := Lib.hid e5; clear hp2 hk2 hq2 ho2 e1 e2 e3 e4 e5 hst)
  go_upto_region 5 with (go_at_call 21; refine HST.out.mono ?_; rintro e w3 ⟨rfl, hp3, hk3⟩; have hg1 := Get_ok hp3 1 0; have hg2 := Get_ok hp3 1 1; have hg3 := Get_ok hp3 2 0; have hi4 := Is_ok hp3 0 3; rw [E2.out] at hg1; rw [E3.out] at hg2; rw [E4.out] at hg3; rw [E5.out] at hi4; have HG1 := Lib.hid hg1; have HG2 := Lib.hid hg2; have HG3 := Lib.hid hg3; have HI4 := Lib.hid hi4; have HX3 := Lib.hid (keptSince HX2.out HO2.out hk3); clear hp3 hk3 hg1 hg2 hg3 hi4)
  go_upto_region 6 with (go_at_call 20; refine HG1.out.mono ?_; rintro e w4 ⟨rfl, rfl⟩)
  go_upto_region 7 with (go_at_call 20; refine HG2.out.mono ?_; rintro e w5 ⟨rfl, rfl⟩)
  go_upto_region 8 with (go_at_call 20; refine HG3.out.mono ?_; rintro e w6 ⟨rfl, rfl⟩)
  go_wp2_with (go_at_call 22; refine HI4.out.mono ?_; rintro e w7 ⟨rfl, rfl⟩)
  go_ret
  exact ⟨rfl, HX3.out⟩
end Go.Proofs.Ytjgggfickbbieaa
