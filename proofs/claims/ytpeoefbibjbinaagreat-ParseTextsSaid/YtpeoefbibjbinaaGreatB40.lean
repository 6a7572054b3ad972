/- The document's trees in memory: May; The reference's SameDiags; detentlaw01.TokenScans: its walk; ParseTexts: its walk; ParseTexts: its walk; What came in as a slice of bytes holds a text. -/
import Derived.Test.YtpeoefbibjbinaaGreatB39
import Derived.Deep.RegionHeld3
import Derived.Test.YtpeoefbibjbinaaGreatB28
import Derived.Test.YtpeoefbibjbinaaGreatB35
import Derived.Test.YtpeoefbibjbinaaGreatB27
import Derived.Test.YtpeoefbibjbinaaGreatB03
import Derived.ProofKit
import Derived.OpenShut
namespace Go.Proofs.YtpeoefbibjbinaaGreat
open Go.RowKit
set_option linter.unusedSimpArgs false

set_option maxRecDepth 100000 in
set_option maxHeartbeats 2000000 in
theorem may2_ok (R : List Tw) (hn : R.length ≤ 100000000) (hx : ∀ t ∈ R, t.text.length ≤ 1000000000 ∧ t.kids.length ≤ 100000000) (va : Value) (w : World) (hR : RdT w va R) :
    Calls Tryz.prog 11 #[.agg #[va]] w fun e w' => e = .returned (.bool (mayR isNm R)) ∧ Below w.heap.size w w' := by
  obtain ⟨A, ca, hva, ha⟩ := id hR
  subst hva
  have hG := goes2_ok R hn hx R.length 0 0 (.slice A R.length ca)
  cases h0 : R[0]? with
  | none =>
    have hl : R.length = 0 := by
      have := List.getElem?_eq_none_iff.1 h0
      omega
    have hm : mayR isNm R = false := by unfold mayR; rw [h0]
    rw [hm]
    obtain rfl : R = [] := List.eq_nil_of_length_eq_zero hl
    clear h0 hm hG ha hR hx hl hn
    obtain ⟨W, hW⟩ : ∃ W : World, W = w.alloc (.cells #[.slice A 0 ca] 26) := ⟨_, rfl⟩
    have hbe : Below w.heap.size w W := by rw [hW]; exact (Below.refl _ w).alloc (Nat.le_refl _) _
    have k0 : W.heap[w.heap.size]? = some (.cells #[.slice A 0 ca] 26 (0, 0)) := by
      rw [hW]
      exact heap_alloc_new w _
    have q0 := cell_of_one k0
    have HBE := Lib.hid hbe
    clear hbe k0
    simp only [List.length_nil]
    go_enter Tryz.func11, Tryz.ntmps11
    go_upto_region 1 with (fail)
    change Code.wp _ _ _ _ (w.alloc (.cells #[.slice A 0 ca] 26))
    rw [← hW]
    clear hW
    go_quiet (fail)
    go_wp2_with fail
    go_ret
    exact ⟨rfl, bdrew HBE.out _⟩
  | some t =>
    have hm : mayR isNm R = (t.kind == 1 && (goesR isNm R R.length 0 0 == R.length)) := by unfold mayR; rw [h0]
    rw [hm]
    obtain ⟨g, kv, rfl, hg, hint, hc⟩ := ha 0 t h0
    have hpos : 0 < R.length := (List.getElem?_eq_some_iff.1 h0).1
    obtain ⟨W, hW⟩ : ∃ W : World, W = w.alloc (.cells #[.slice (some ⟨g, 0, none⟩) R.length ca] 26) := ⟨_, rfl⟩
    have hbe : Below w.heap.size w W := by rw [hW]; exact (Below.refl _ w).alloc (Nat.le_refl _) _
    have k0 : W.heap[w.heap.size]? = some (.cells #[.slice (some ⟨g, 0, none⟩) R.length ca] 26 (0, 0)) := by
      rw [hW]
      exact heap_alloc_new w _
    have q0 := cell_of_one k0
    have f0 := (hbe.cell (p := ⟨g, 0 * 6 + 0, none⟩) hg).trans (hc 0 _ rfl)
    rw [show 0 * 6 + 0 = 0 from rfl] at f0
    have hcall := hG W.drew ((hR.below hbe).below (bdrew (Below.refl _ _) 1)) (by omega) (by omega) (by omega)
    have hgs : g < W.heap.size := Nat.lt_of_lt_of_le hg hbe.size
    have hws : w.heap.size < W.heap.size := lt_of_block k0
    have HC := Lib.hid hcall
    have HBE := Lib.hid hbe
    clear hm hG ha hR hx hint hc hcall hbe k0 h0
    by_cases h1 : t.kind = 1
    · rw [h1] at f0 ⊢
      clear h1
      go_enter Tryz.func11, Tryz.ntmps11
      go_upto_region 1 with (fail)
      change Code.wp _ _ _ _ (w.alloc (.cells #[.slice (some ⟨g, 0, none⟩) R.length ca] 26))
      rw [← hW]
      clear hW
      generalize w.heap.size = b at q0 hws ⊢
      go_region_held3 (fun w' => w'.cell? ⟨b, 0, none⟩ = some (.slice (some ⟨g, 0, none⟩) R.length ca) ∧ w'.cell? ⟨g, 0, none⟩ = some (.int .i64 1)) (first | go_keep | exact ⟨d1, d2⟩) (first | (go_at_call 19; refine HC.out.mono ?_; rintro e w3 ⟨rfl, hb3⟩; have d1 := (hb3.cell (p := ⟨b, 0, none⟩) hws).trans q0; have d2 := (hb3.cell (p := ⟨g, 0, none⟩) hgs).trans f0))
      go_wp2_with fail
      go_ret
      refine ⟨ret_bool ?_, (bdrew HBE.out 1).trans (hb3.mono HBE.out.size)⟩
      rw [Bool.eq_iff_iff]
      simp
      omega
    · have hb1 : (t.kind == 1) = false := by simpa using h1
      rw [hb1]
      clear h1
      go_enter Tryz.func11, Tryz.ntmps11
      go_upto_region 1 with (fail)
      change Code.wp _ _ _ _ (w.alloc (.cells #[.slice (some ⟨g, 0, none⟩) R.length ca] 26))
      rw [← hW]
      clear hW
      go_quiet (fail)
      go_wp2_with fail
      go_ret
      exact ⟨rfl, bdrew HBE.out _⟩
end Go.Proofs.YtpeoefbibjbinaaGreat

namespace Go.Proofs.YtpeoefbibjbinaaGreat
open Go.RowKit

theorem Dgs.below {w w' : World} {A : Option Addr} {T : List Dg} (h : Dgs w A T) (hb : Below w.heap.size w w') : Dgs w' A T := by
  intro i t hi
  obtain ⟨g, rfl, c0, c1, c2⟩ := h i t hi
  have hg : g < w.heap.size := World.block_lt_of_cell? w _ c0
  exact ⟨g, rfl, (hb.cell (by exact hg)).trans c0, (hb.cell (by exact hg)).trans c1, (hb.cell (by exact hg)).trans c2⟩

set_option maxRecDepth 100000 in
set_option maxHeartbeats 1000000 in
/-- SameDiags at two rows of the same faults. -/
theorem sameDiags_ok (D : List Dg) (A B : Option Addr) (c d : Nat) (w : World) (hA : Dgs w A D) (hB : Dgs w B D) (hn : D.length ≤ 1000000) :
    Calls Tryz.prog 8 #[.slice A D.length c, .slice B D.length d] w fun e w' => e = .returned (.bool true) ∧ ∃ n, w' = w.drewN n := by
  have HA := Lib.hid hA
  have HB := Lib.hid hB
  clear hA hB
  go_enter Tryz.func8, Tryz.ntmps8
  go_wp2_with fail
  go_loopg [5] D.length (fun k v5 wr => ∃ i nq : Nat, i + k = D.length ∧ v5 = .int .i64 i ∧ wr = w.drewN nq)
  case atStart => exact ⟨0, 0, by omega, rfl, rfl⟩
  case round =>
    obtain ⟨i, m0, hik, rfl, rfl⟩ := hrel
    have HIK := Lib.hid hik
    have hi : i ≤ D.length := by omega
    clear hik
    by_cases hlt : i < D.length
    · obtain ⟨g, rfl, p0, p1, p2⟩ := HA.out i D[i] (List.getElem?_eq_getElem hlt)
      obtain ⟨g', rfl, q0, q1, q2⟩ := HB.out i D[i] (List.getElem?_eq_getElem hlt)
      generalize D[i] = t at p0 p1 p2 q0 q1 q2
      go_upto_region 6 with (fail)
      go_quiet (fail)
      rw [World.drewN_drewN]
      generalize m0 + nq = m1
      clear p0 p1 p2 q0 q1 q2
      go_wp2_with fail
      go_roundg (gk - 1)
      case measure => have := HIK.out; omega
      case rel => exact ⟨i + 1, m1, by have := HIK.out; omega, by go_num, rfl⟩
    · go_wp2_with fail
      go_ret
      exact ⟨rfl, _, rfl⟩

end Go.Proofs.YtpeoefbibjbinaaGreat

namespace Go.Proofs.YtpeoefbibjbinaaGreat
open Go.RowKit
set_option linter.unusedSimpArgs false

theorem nds_size : ∀ F : Fo, F.len ≤ F.size
  | .nil => Nat.le_refl _
  | .cons d k r => by
    have := nds_size r
    simp only [Fo.len, Fo.nds, List.length_cons, Fo.size] at this ⊢
    omega
theorem flat_kids : ∀ (F : Fo) (b : Nat), ∀ t ∈ F.flat b, t.kids.length ≤ F.size
  | .nil, _, t, h => by cases h
  | .cons d k r, b, t, h => by
    simp only [Fo.flat, List.mem_cons, List.mem_append] at h
    simp only [Fo.size]
    rcases h with rfl | h | h
    · have h1 := k.starts_len (b + 1)
      have h2 := nds_size k
      simp only [Nd.tw]
      omega
    · have := flat_kids k _ t h
      omega
    · have := flat_kids r _ t h
      omega
theorem flat_texts (nm : List UInt8 → Bool) (n : Nat) (hnm : ∀ s, nm s = true → s.length ≤ n) (hn : 4 ≤ n) : ∀ (F : Fo) (b : Nat), F.fit nm = true → ∀ t ∈ F.flat b, t.text.length ≤ n
  | .nil, _, _, t, h => by cases h
  | .cons d k r, b, hf, t, h => by
    simp only [Fo.flat, List.mem_cons, List.mem_append] at h
    simp only [Fo.fit, Bool.and_eq_true] at hf
    rcases h with rfl | h | h
    · have h1 := hf.1.1
      simp only [ndOk, Bool.and_eq_true] at h1
      have h2 := h1.1.1.2
      show d.text.length ≤ n
      unfold textOk at h2
      split at h2
      · simp only [isTy, Bool.or_eq_true, beq_iff_eq] at h2
        rcases h2 with ((((e | e) | e) | e) | e) | e
        · rw [e]; simp; omega
        · rw [e]; simp; omega
        · rw [e]; simp; omega
        · rw [e]; simp; omega
        · rw [e]; simp; omega
        · exact hnm _ e
      · split at h2
        · simp only [isSg, Bool.or_eq_true, beq_iff_eq] at h2
          rcases h2 with (((e | e) | e) | e) | e <;> (rw [e]; simp; omega)
        · split at h2
          · exact hnm _ h2
          · have : d.text = [] := by simpa using h2
            rw [this]; simp
    · exact flat_texts nm n hnm hn k _ hf.1.2 t h
    · exact flat_texts nm n hnm hn r _ hf.2 t h
/-- All that the walk wants of what both parsers answer. -/
theorem parse_may (l : List UInt8) (hl : l.length ≤ 60000) : ∃ R D, (∀ v w, Holds w v l → Calls Tryz.prog 6 #[v] w (RetV w R D)) ∧ (∀ v w, Holds w v l → Calls Tryz.prog 7 #[v] w (RetV w R D)) ∧
    D.length ≤ 1000000 ∧ R.length ≤ 100000000 ∧ (∀ t ∈ R, t.text.length ≤ 1000000000 ∧ t.kids.length ≤ 100000000) ∧ (D = [] → mayR isNm R = true) := by
  obtain ⟨R, D, h1, h2, h3, h4, h5⟩ := parse_both l hl
  by_cases hD : D = []
  · obtain ⟨kf, hd, hP, rfl, hs⟩ := h3 hD
    have hm := may_text l hd hP
    have hfit : (one ⟨1, [], 0, 1, 1⟩ kf).fit isNm = true := by
      simp only [one, Fo.fit, Bool.and_true, hm.2.1, hm.2.2.1]
    have hsz : (one ⟨1, [], 0, 1, 1⟩ kf).size = 1 + kf.size := by simp [one, Fo.size]
    refine ⟨_, D, h1, h2, by omega, by rw [Fo.flat_len, hsz]; omega, fun t ht => ⟨?_, ?_⟩, fun _ => (mayR_iff isNm _).2 ⟨_, kf, rfl, hm⟩⟩
    · have := flat_texts isNm 32 (fun s hs => by simp only [isNm, Bool.and_eq_true, decide_eq_true_eq] at hs; exact hs.1.1) (by omega) _ _ hfit t ht
      omega
    · have := flat_kids _ _ t ht
      omega
  · have hR := h4 hD
    subst hR
    refine ⟨[], D, h1, h2, by omega, by simp, ?_, fun h => absurd h hD⟩
    intro t ht
    exact absurd ht (by simp)
end Go.Proofs.YtpeoefbibjbinaaGreat

namespace Go.Proofs.YtpeoefbibjbinaaGreat
open Go.RowKit
set_option linter.unusedSimpArgs false

theorem RdT.form {w : World} {v : Value} {R : List Tw} (h : RdT w v R) : ∃ A cap, v = .slice A R.length cap := by
  obtain ⟨A, cap, e, _⟩ := h
  exact ⟨A, cap, e⟩
set_option maxRecDepth 100000 in
set_option maxHeartbeats 4000000 in
theorem texts_walk (l : List UInt8) (v : Value) (w : World) (hv : Holds w v l) (hn : l.length ≤ 3000) :
    Calls Tryz.prog 3 #[v] w fun e w' => e = .returned (.bool true) ∧ Below w.heap.size w w' := by
  have HV := Lib.hid hv
  obtain ⟨A0, c0, rfl, _, _⟩ := hv
  have h3 : decide (3000 < (l.length : Int)) = false := by simp; omega
  have h3' : decide (3000 < l.length) = false := by simp; omega
  obtain ⟨R, D, hp, hr, hD, hR, hx, hm⟩ := parse_may l (by omega)
  have HP := Lib.hid hp
  have HRF := Lib.hid hr
  have HX := Lib.hid hx
  have HM := Lib.hid hm
  clear hp hr hx hm
  go_enter Tryz.func3, Tryz.ntmps3
  go_wp2_with (at_builtin; refine wpList_appB _ rfl _ _ rfl w.heap.size _ _ [] l rfl rfl (World.ownsRow_nil _ _ _ _) HV.out (by simp) (by omega) (Nat.le_refl _) ?_)
  intro v1 w1 hown1 hgrow1
  have hb1 : Below w.heap.size w w1 := (Below.refl _ _).grown hgrow1 (Nat.le_refl _) (fun k hk => by simp [Value.ownBlock] at hk)
  have HO1 := Lib.hid (own_holds hown1)
  have HB1 := Lib.hid hb1
  have HV1 := Lib.hid (HV.out.below hb1)
  clear hown1 hgrow1 hb1 HV
  obtain ⟨A1, c1, rfl, hcc, _⟩ := HO1.out
  go_wp2_with fail
  refine (HP.out _ w1 HO1.out).mono ?_
  rintro e w2 ⟨va, B1, d1, rfl, hrd1, hdg1, hb2⟩
  obtain ⟨TA, tc, rfl⟩ := hrd1.form
  have hbt1 := hb2.alloc hb2.size (.cells #[.slice TA R.length tc] 26)
  have ht1 : (w2.alloc (.cells #[.slice TA R.length tc] 26)).heap[w2.heap.size]? = some (.cells #[.slice TA R.length tc] 26 (0, 0)) := heap_alloc_new w2 _
  have hba := (Below.refl w2.heap.size w2).alloc (Nat.le_refl _) (.cells #[.slice TA R.length tc] 26)
  have HV2 := Lib.hid (HV1.out.below hbt1)
  have HO2 := Lib.hid (HO1.out.below hbt1)
  have HB2 := Lib.hid (HB1.out.trans (hbt1.mono HB1.out.size))
  have HT1 := Lib.hid ht1
  have HRD1 := Lib.hid (hrd1.below hba)
  have HDG1 := Lib.hid (hdg1.below hba)
  have hs2 : (w2.alloc (.cells #[.slice TA R.length tc] 26)).heap.size = w2.heap.size + 1 := by simp
  clear hbt1 ht1 hba hb2 hrd1 hdg1 HV1 HO1 HB1 HP
  go_upto_region 5 with (fail)
  change Code.wp _ _ _ _ (w2.alloc (.cells #[.slice TA R.length tc] 26))
  generalize w2.alloc (.cells #[.slice TA R.length tc] 26) = W2 at *
  generalize w2.heap.size = t1 at *
  go_wp2_with fail
  refine (HRF.out _ W2 HV2.out).mono ?_
  rintro e w3 ⟨vb, B2, d2, rfl, hrd2, hdg2, hb3⟩
  obtain ⟨TB, td, rfl⟩ := hrd2.form
  have hbt2 := hb3.alloc hb3.size (.cells #[.slice TB R.length td] 26)
  have ht2 : (w3.alloc (.cells #[.slice TB R.length td] 26)).heap[w3.heap.size]? = some (.cells #[.slice TB R.length td] 26 (0, 0)) := heap_alloc_new w3 _
  have hba := (Below.refl w3.heap.size w3).alloc (Nat.le_refl _) (.cells #[.slice TB R.length td] 26)
  have HV3 := Lib.hid (HV2.out.below hbt2)
  have HO3 := Lib.hid (HO2.out.below hbt2)
  have HB3 := Lib.hid (HB2.out.trans (hbt2.mono HB2.out.size))
  have HT13 := Lib.hid ((hbt2.block _ (lt_of_block HT1.out)).trans HT1.out)
  have HT2 := Lib.hid ht2
  have HRD13 := Lib.hid (HRD1.out.below hbt2)
  have HDG13 := Lib.hid (HDG1.out.below hbt2)
  have HRD2 := Lib.hid (hrd2.below hba)
  have HDG2 := Lib.hid (hdg2.below hba)
  have hs3 : (w3.alloc (.cells #[.slice TB R.length td] 26)).heap.size = w3.heap.size + 1 := by simp
  clear hbt2 ht2 hba hb3 hrd2 hdg2 HV2 HO2 HB2 HT1 HRD1 HDG1 HRF
  go_upto_region 6 with (fail)
  change Code.wp _ _ _ _ (w3.alloc (.cells #[.slice TB R.length td] 26))
  generalize w3.alloc (.cells #[.slice TB R.length td] 26) = W3 at *
  generalize w3.heap.size = t2 at *
  have holdc : ∀ (A : Option Addr) (c : Nat), Holds W3 (.slice A l.length c) l → (convert 22 9 (.slice A l.length c)).run Tryz.prog W3 = .ok (.string ⟨l.toArray⟩) W3 := by
    intro A c h
    obtain ⟨A', c', e, _, hA⟩ := h
    injection e with e1 _ e3
    subst e1 e3
    by_cases h0 : 0 < l.length
    · obtain ⟨b, off, rfl, hb⟩ := hA h0
      exact conv_bs hb c
    · have hl : l = [] := List.eq_nil_of_length_eq_zero (by omega)
      subst hl
      cases A with
      | none => exact run_convert_bytes_nil (P := Tryz.prog) W3 22 5 Tryz.underlying22 Tryz.underlying5 0 c 9 Tryz.underlying9
      | some a =>
        exact run_convert_bytes_back (P := Tryz.prog) W3 22 9 5 a c [] Tryz.underlying22 Tryz.underlying5 Tryz.underlying9 (fun j hj => by simp at hj)
  have hcv1 := holdc A1 c1 HO3.out
  have hcv0 := holdc A0 c0 HV3.out
  have q1 := cell_of_one HT13.out
  have q2 := cell_of_one HT2.out
  have l1 := lt_of_block HT13.out
  have l2 := lt_of_block HT2.out
  have HSD := Lib.hid (sameDiags_ok D B1 B2 d1 d2 W3 HDG13.out HDG2.out hD)
  have HSM := Lib.hid (fun m => same2_ok R (.slice TA R.length tc) (.slice TB R.length td) (W3.drewN m) (HRD13.out.below (bdrew (Below.refl _ _) m)) (HRD2.out.below (bdrew (Below.refl _ _) m)) hR (fun t ht => (HX.out t ht).2))
  have HPL := Lib.hid (fun w (hb : Below W3.heap.size W3 w) => placed_ok R (.slice TA R.length tc) (.slice TB R.length td) w (HRD13.out.below hb) (HRD2.out.below hb) hR)
  clear holdc HO3 HV3
  go_upto_region 8 with (first
    | (go_at_call 8; refine HSD.out.mono ?_; rintro e w4 ⟨rfl, m1, rfl⟩)
    | (go_at_call 9; refine (HSM.out _).mono ?_; rintro e w5 ⟨rfl, hb5⟩; have hb5' : Below W3.heap.size W3 w5 := (bdrew (Below.refl _ _) m1).trans hb5; have q15 := (hb5'.cell (p := ⟨t1, 0, none⟩) l1).trans q1; have q25 := (hb5'.cell (p := ⟨t2, 0, none⟩) l2).trans q2)
    | (go_at_call 10; refine (HPL.out w5 hb5').mono ?_; rintro e w6 ⟨rfl, hb6⟩; have hb6' : Below W3.heap.size W3 w6 := hb5'.trans (hb6.mono hb5'.size); have q16 := (hb6'.cell (p := ⟨t1, 0, none⟩) l1).trans q1))
  have hmy := may2_ok R hR HX.out (.slice TA R.length tc) w6 (HRD13.out.below hb6')
  have HB6 := Lib.hid (HB3.out.trans (hb6'.mono HB3.out.size))
  clear hcv1 hcv0 q1 q2 q15 q25 hb5 hb5' hb6 hb6' HSD HSM HPL HRD13 HDG13 HRD2 HDG2 HT13 HT2 HX
  by_cases hD0 : D = []
  · rw [HM.out hD0] at hmy
    subst hD0
    have HMY := Lib.hid hmy
    clear hmy HM
    simp only [List.length_nil]
    go_wp2_with (first
      | (go_at_call 11; refine HMY.out.mono ?_; rintro e w7 ⟨rfl, hb7⟩)
      | (go_at_call 5; refine (known3_ok _).mono ?_; rintro e w8 ⟨rfl, hb8⟩))
    go_ret
    exact ⟨rfl, HB6.out.trans ((hb7.trans (hb8.mono hb7.size)).mono HB6.out.size)⟩
  · have hpos : 0 < D.length := List.length_pos_iff.2 hD0
    have hposb : decide ((0 : Int) < (D.length : Int)) = true := by simp; omega
    have hposn : decide (0 < D.length) = true := by simp; omega
    clear hmy HM hD0
    go_wp2_with (go_at_call 5; refine (known3_ok _).mono ?_; rintro e w8 ⟨rfl, hb8⟩)
    go_ret
    exact ⟨rfl, HB6.out.trans (hb8.mono HB6.out.size)⟩
end Go.Proofs.YtpeoefbibjbinaaGreat

namespace Go.Proofs.YtpeoefbibjbinaaGreat
open Go.ChangeShapes Go.WideShapes Go.ChangeAt Go.RowKit

/-- A slice of integers that came in: nil, or a row of 'cap' cells. -/
def IsRow (k : IntKind) (w : World) (a : Option Addr) (len cap : Nat) (zs : List Int) : Prop :=
  (a = none ∧ len = 0 ∧ cap = 0 ∧ zs = []) ∨
  ∃ x, a = some x ∧ len ≤ cap ∧ cap ≤ maxLen ∧ zs.length = cap ∧ (∀ i, i < zs.length → w.cell? (x.add i) = some (.int k (zs.getD i 0))) ∧ ∀ n ∈ zs, (Lit.int k n).wf = true

theorem row_holds {w : World} {a : Option Addr} {len cap : Nat} {zs : List Int} (h : IsRow .u8 w a len cap zs) : ∃ l : List UInt8, Holds w (.slice a len cap) l ∧ l.length = len := by
  rcases h with ⟨rfl, rfl, rfl, rfl⟩ | ⟨x, rfl, hl, hm, hz, hc, hw⟩
  · exact ⟨[], ⟨none, 0, rfl, Nat.le_refl _, fun h => by simp at h⟩, rfl⟩
  · have hlen : ((zs.take len).map fun z => UInt8.ofNat z.toNat).length = len := by simp; omega
    refine ⟨(zs.take len).map fun z => UInt8.ofNat z.toNat, ⟨some x, cap, by rw [hlen], by rw [hlen]; exact hl, fun h0 => ?_⟩, hlen⟩
    rw [hlen] at h0
    obtain ⟨b, off, spot⟩ := x
    have hs : spot = none := by
      have h1 := hc 0 (by omega)
      unfold World.cell? at h1
      cases spot with
      | none => rfl
      | some y =>
        exfalso
        split at h1
        · simp [Addr.add] at h1
        · simp at h1
    subst hs
    refine ⟨b, off, rfl, fun k hk => ?_⟩
    rw [hlen] at hk
    have h1 := hc k (by omega)
    have hadd : (⟨b, off, none⟩ : Addr).add k = ⟨b, off + k, none⟩ := by unfold Addr.add; split <;> simp_all
    rw [hadd] at h1
    rw [h1]
    have hkz : k < zs.length := by omega
    have hwf := hw _ (List.getElem_mem hkz)
    have hbd : 0 ≤ zs[k] ∧ zs[k] ≤ 255 := by simpa [Lit.wf, IntKind.min, IntKind.max, IntKind.signed, IntKind.bits] using hwf
    have e1 : zs.getD k 0 = zs[k] := by simp [List.getD, List.getElem?_eq_getElem hkz]
    have e2 : chr ((zs.take len).map fun z => UInt8.ofNat z.toNat) k = zs[k] := by
      unfold chr
      rw [List.getElem?_map, List.getElem?_take, if_pos hk, List.getElem?_eq_getElem hkz]
      simp only [Option.map_some, Option.getD_some, UInt8.toNat_ofNat']
      omega
    rw [e1, e2]
end Go.Proofs.YtpeoefbibjbinaaGreat
