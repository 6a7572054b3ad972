/- HeapMany's walk. -/
import Derived.Test.YtjgggfickbbieaaHmA
namespace Go.Proofs.Ytjgggfickbbieaa
open Go.RowKit Go.Shelf
attribute [local go_sem] Oper.semAt_some
def mk2 (L : List Ob) (b : Int) : Ob := ⟨1, 0, .slice none 0 0, [0, 0], 0, b, (cntO L b : Int)⟩
theorem many_step {L L' : List Ob} {b : Int} (h : L'.map Ob.key = L.map Ob.key ++ [newK L 1 0 0 b [0, 0]]) :
    L'.length = L.length + 1 ∧ (nt L' L.length).by' = b ∧ (nt L' L.length).nth = (cntO L b : Int) ∧ ∀ t, cntO L' t = cntO L t + if b = t then 1 else 0 := by
  have h2 : L'.map Ob.key = (L ++ [mk2 L b]).map Ob.key := by rw [h]; simp [Ob.key, newK, mk2]
  have hl := key_len h2
  have hp := key_parts h2 L.length
  have hn : nt (L ++ [mk2 L b]) L.length = mk2 L b := by
    rw [nt_snoc L _ L.length (by simp)]; simp
  rw [hn] at hp
  obtain ⟨_, _, _, p4, p5, _⟩ := hp
  have hby : L'.map Ob.by' = (L ++ [mk2 L b]).map Ob.by' := by
    have := congrArg (List.map fun k : Key => k.2.2.2.1) h2
    simpa [List.map_map, Function.comp_def, Ob.key] using this
  exact ⟨by simpa using hl, p4, p5, fun t => by rw [cntO_map hby, cntO_snoc]; rfl⟩
theorem cntO_keys {L M : List Ob} (h : L.map Ob.key = M.map Ob.key) (t : Int) : cntO L t = cntO M t := by
  have hby : L.map Ob.by' = M.map Ob.by' := by
    have := congrArg (List.map fun k : Key => k.2.2.2.1) h
    simpa [List.map_map, Function.comp_def, Ob.key] using this
  exact cntO_map hby t
set_option maxHeartbeats 8000000 in
set_option maxRecDepth 100000 in
theorem many_walk (many : Nat) (ev : Int) (W : World) (hm : many ≤ 1030) (he : 2 ≤ ev) :
    Calls Try.prog 5 #[.int .i64 many, .int .i64 ev] W fun e W' => e = .returned (.bool true) ∧ Ext W W' := by
  have HNEW := Lib.hid (New_ok W)
  have h0 : ¬ (many : Int) < 0 := by omega
  have h1 : ¬ (many : Int) > 1030 := by omega
  have h2 : ¬ ev < 2 := by omega
  have hev : ev ≠ 0 := by omega
  go_enter Try.func5, Try.ntmps5
  go_upto_region 4 with (go_at_call 9; refine HNEW.out.mono ?_; rintro e w1 ⟨rfl, hx1, hq1⟩; have HX1 := Lib.hid hx1; have HQ1 := Lib.hid hq1; clear hx1 hq1)
  clear HNEW
  go_wp2_with fail
  go_loopg [6, 7] many (fun k v6 v7 wr => ∃ (i : Nat) (own : Nat → Bool) (ps : List Nat) (L : List Ob), i + k = many ∧ v6 = .int .i64 (cntO L 2) ∧ v7 = .int .i64 i ∧ PH own W.heap.size ps L wr ∧ L.length = min i 1024 ∧ cntO L 1 + cntO L 2 = L.length ∧ (∀ b, own b = true → W.heap.size ≤ b) ∧ Ext W wr)
  case atStart => exact ⟨0, _, _, [], by omega, rfl, rfl, HQ1.out, by simp, by simp [cntO], fun b hb => by simp [oneB] at hb; omega, HX1.out⟩
  case round =>
    clear HX1 HQ1
    obtain ⟨i, own, ps, L, hik, rfl, rfl, hp, hl, hct, hge, hx⟩ := hrel
    have HP := Lib.hid hp
    have HGE := Lib.hid hge
    have HX := Lib.hid hx
    have HL := Lib.hid hl
    have HCT := Lib.hid hct
    have HIK := Lib.hid hik
    by_cases hi : i < many
    · have hil : (i : Int) < (many : Int) := by omega
      have hmk := fun b hwf => Make_all hp 1 0 2 0 b hwf
      simp only [mkR, mkK, show mkBad 1 2 = false by decide, Bool.false_eq_true, if_false] at hmk
      by_cases hf : i < 1024
      · have hl' : L.length = i := by omega
        have hfl : ¬ (1024 : Int) ≤ (i : Int) := by omega
        simp only [hl', show i ≠ 1024 by omega, if_false] at hmk
        have HMK := Lib.hid hmk
        have HLI := Lib.hid hl'
        have hq1 : cntO L 2 ≤ i := by omega
        have hq2 : (cntO L 1 : Int) = (i : Int) - (cntO L 2 : Int) := by omega
        have HQ2 := Lib.hid hq2
        obtain ⟨q, hq⟩ : ∃ q, q = cntO L 2 := ⟨_, rfl⟩
        have HQ := Lib.hid hq
        rw [← hq] at hq1
        rw [← HQ.out]
        clear hp hge hx hl hct hmk hl' hq2 hq
        obtain ⟨rm, hrm⟩ : ∃ rm, (i : Int).tmod ev = rm := ⟨_, rfl⟩
        by_cases hr : rm = 0
        · subst hr
          go_upto_region 12 with (go_at_call 16; refine (HMK.out 2 (by decide)).mono ?_; rintro e w3 ⟨rfl, own3, ps3, L3, hp3, hk3, hq3, ho3⟩)
          obtain ⟨m1, m2, m3, m4⟩ := many_step hk3
          rw [HLI.out] at m1 m2 m3
          have HX3 := Lib.hid (keptSince HX.out HGE.out hq3)
          have HGE3 := Lib.hid (ownSince HX.out HGE.out ho3)
          have HP3 := Lib.hid hp3
          have M1 := Lib.hid m1
          have M4 := Lib.hid m4
          have hob := Object_yes hp3 (show i < L3.length by omega)
          rw [← HQ.out] at m3
          have HOB := Lib.hid hob
          have M2 := Lib.hid m2
          have M3 := Lib.hid m3
          clear hp3 hk3 hq3 ho3 hob m1 m4 m2 m3
          generalize nt L3 i = x at *
          go_upto_region 16 with (go_at_call 17; refine HOB.out.mono ?_; rintro e w4 ⟨A4, c4, rfl, hx4, ho4⟩; have HX4 := Lib.hid hx4; clear hx4 ho4)
          obtain ⟨w5, hw5⟩ : ∃ w5, w5 = w4.alloc (obo { x with v := .slice A4 x.vals.length c4 } x.nth) := ⟨_, rfl⟩
          change Code.wp _ _ _ _ (w4.alloc (obo { x with v := .slice A4 x.vals.length c4 } x.nth))
          rw [← hw5]
          have HX5 := Lib.hid (show Ext w4 w5 by rw [hw5]; exact Ext.one _ _)
          have hb5 : w5.heap[w4.heap.size]? = some (obo { x with v := .slice A4 x.vals.length c4 } x.nth) := by rw [hw5]; exact World.alloc_heap_new _ _
          obtain ⟨⟨_, _, _, _, z4, z5⟩, zf, zl⟩ := obo_cells hb5
          dsimp only at z4 z5
          rw [M2.out] at z4
          rw [M3.out] at z5
          clear hw5 hb5
          go_wp2_with fail
          go_roundg (gk - 1)
          case measure => have := HIK.out; omega
          case rel => exact ⟨i + 1, own3, ps3, L3, by have := HIK.out; omega, by rw [M4.out, ← HQ.out]; simp, by go_num, HP3.out.ext (HX4.out.trans HX5.out), by rw [M1.out]; omega, by rw [M4.out, M4.out, M1.out]; have := HCT.out; have := HLI.out; simp; omega, HGE3.out, (HX3.out.trans HX4.out).trans HX5.out⟩
        · have hr1 : (rm == 0) = false := by simpa using hr
          clear hr
          go_upto_region 12 with (go_at_call 16; refine (HMK.out 1 (by decide)).mono ?_; rintro e w3 ⟨rfl, own3, ps3, L3, hp3, hk3, hq3, ho3⟩)
          obtain ⟨m1, m2, m3, m4⟩ := many_step hk3
          rw [HLI.out] at m1 m2 m3
          have HX3 := Lib.hid (keptSince HX.out HGE.out hq3)
          have HGE3 := Lib.hid (ownSince HX.out HGE.out ho3)
          have HP3 := Lib.hid hp3
          have M1 := Lib.hid m1
          have M4 := Lib.hid m4
          have hob := Object_yes hp3 (show i < L3.length by omega)
          rw [HQ2.out, ← HQ.out] at m3
          have HOB := Lib.hid hob
          have M2 := Lib.hid m2
          have M3 := Lib.hid m3
          clear hp3 hk3 hq3 ho3 hob m1 m4 m2 m3
          generalize nt L3 i = x at *
          go_upto_region 16 with (go_at_call 17; refine HOB.out.mono ?_; rintro e w4 ⟨A4, c4, rfl, hx4, ho4⟩; have HX4 := Lib.hid hx4; clear hx4 ho4)
          obtain ⟨w5, hw5⟩ : ∃ w5, w5 = w4.alloc (obo { x with v := .slice A4 x.vals.length c4 } x.nth) := ⟨_, rfl⟩
          change Code.wp _ _ _ _ (w4.alloc (obo { x with v := .slice A4 x.vals.length c4 } x.nth))
          rw [← hw5]
          have HX5 := Lib.hid (show Ext w4 w5 by rw [hw5]; exact Ext.one _ _)
          have hb5 : w5.heap[w4.heap.size]? = some (obo { x with v := .slice A4 x.vals.length c4 } x.nth) := by rw [hw5]; exact World.alloc_heap_new _ _
          obtain ⟨⟨_, _, _, _, z4, z5⟩, zf, zl⟩ := obo_cells hb5
          dsimp only at z4 z5
          rw [M2.out] at z4
          rw [M3.out] at z5
          clear hw5 hb5
          go_wp2_with fail
          go_roundg (gk - 1)
          case measure => have := HIK.out; omega
          case rel => exact ⟨i + 1, own3, ps3, L3, by have := HIK.out; omega, by rw [M4.out, ← HQ.out]; simp, by go_num, HP3.out.ext (HX4.out.trans HX5.out), by rw [M1.out]; omega, by rw [M4.out, M4.out, M1.out]; have := HCT.out; have := HLI.out; simp; omega, HGE3.out, (HX3.out.trans HX4.out).trans HX5.out⟩
      · have hl' : L.length = 1024 := by omega
        have hfl : (1024 : Int) ≤ (i : Int) := by omega
        simp only [hl', if_true] at hmk
        have HMK := Lib.hid hmk
        clear hp hge hx hl hct hmk hl'
        obtain ⟨rm, hrm⟩ : ∃ rm, (i : Int).tmod ev = rm := ⟨_, rfl⟩
        by_cases hr : rm = 0
        · subst hr
          go_wp2_with (go_at_call 16; refine (HMK.out 2 (by decide)).mono ?_; rintro e w3 ⟨rfl, own3, ps3, L3, hp3, hk3, hq3, ho3⟩; have HX3 := Lib.hid (keptSince HX.out HGE.out hq3); have HGE3 := Lib.hid (ownSince HX.out HGE.out ho3); have HP3 := Lib.hid hp3; have HK3 := Lib.hid hk3; clear hp3 hk3 hq3 ho3)
          go_roundg (gk - 1)
          case measure => have := HIK.out; omega
          case rel => exact ⟨i + 1, own3, ps3, L3, by have := HIK.out; omega, by rw [cntO_keys HK3.out], by go_num, HP3.out, by rw [key_len HK3.out, HL.out]; omega, by rw [cntO_keys HK3.out, cntO_keys HK3.out, key_len HK3.out]; exact HCT.out, HGE3.out, HX3.out⟩
        · have hr1 : (rm == 0) = false := by simpa using hr
          clear hr
          go_wp2_with (go_at_call 16; refine (HMK.out 1 (by decide)).mono ?_; rintro e w3 ⟨rfl, own3, ps3, L3, hp3, hk3, hq3, ho3⟩; have HX3 := Lib.hid (keptSince HX.out HGE.out hq3); have HGE3 := Lib.hid (ownSince HX.out HGE.out ho3); have HP3 := Lib.hid hp3; have HK3 := Lib.hid hk3; clear hp3 hk3 hq3 ho3)
          go_roundg (gk - 1)
          case measure => have := HIK.out; omega
          case rel => exact ⟨i + 1, own3, ps3, L3, by have := HIK.out; omega, by rw [cntO_keys HK3.out], by go_num, HP3.out, by rw [key_len HK3.out, HL.out]; omega, by rw [cntO_keys HK3.out, cntO_keys HK3.out, key_len HK3.out]; exact HCT.out, HGE3.out, HX3.out⟩
    · have hil : ¬ (i : Int) < (many : Int) := by omega
      have hco := Count_ok hp
      have hkn := known_ok wr
      rw [show L.length = min many 1024 by omega] at hco
      have HCO := Lib.hid hco
      have HKN := Lib.hid hkn
      clear hp hge hx hl hct hco hkn
      go_wp2_with (first
        | (go_at_call 18; refine HCO.out.mono ?_; rintro e w4 ⟨rfl, rfl⟩)
        | (go_at_call 8; refine HKN.out.mono ?_; rintro e w5 ⟨rfl, hx5⟩; have HX5 := Lib.hid hx5; clear hx5))
      all_goals
        go_ret
        exact ⟨rfl, HX.out.trans HX5.out⟩
end Go.Proofs.Ytjgggfickbbieaa
