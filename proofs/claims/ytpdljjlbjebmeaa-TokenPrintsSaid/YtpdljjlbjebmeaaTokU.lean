/- The reference's SameDiags; detentlaw01.TokenScans: its walk. -/
import Derived.Test.YtpdljjlbjebmeaaTokO
import Derived.Test.YtpdljjlbjebmeaaTokT
namespace Go.Proofs.Ytpdljjlbjebmeaa
open Go.RowKit

theorem Dgs.below {w w' : World} {A : Option Addr} {T : List Dg} (h : Dgs w A T) (hb : Below w.heap.size w w') : Dgs w' A T := by
  intro i t hi
  obtain ⟨g, rfl, c0, c1, c2⟩ := h i t hi
  have hg : g < w.heap.size := World.block_lt_of_cell? w _ c0
  exact ⟨g, rfl, (hb.cell (by exact hg)).trans c0, (hb.cell (by exact hg)).trans c1, (hb.cell (by exact hg)).trans c2⟩

set_option maxRecDepth 100000 in
set_option maxHeartbeats 1000000 in
/-- SameDiags at two rows of the same faults. -/
theorem sameDiags_ok (D : List Dg) (A B : Option Addr) (c d : Nat) (w : World) (hA : Dgs w A D) (hB : Dgs w B D) (hn : D.length ≤ 1000000) :
    Calls Try.prog 11 #[.slice A D.length c, .slice B D.length d] w fun e w' => e = .returned (.bool true) ∧ ∃ n, w' = w.drewN n := by
  have HA := Lib.hid hA
  have HB := Lib.hid hB
  clear hA hB
  go_enter Try.func11, Try.ntmps11
  go_wp2_with fail
  go_loopg [5] D.length (fun k v5 wr => ∃ i nq : Nat, i + k = D.length ∧ v5 = .int .i64 i ∧ wr = w.drewN nq)
  case atStart => exact ⟨0, 0, by omega, rfl, rfl⟩
  case round =>
    obtain ⟨i, m0, hik, rfl, rfl⟩ := hrel
    have HIK := Lib.hid hik
    have hi : i ≤ D.length := by omega
    clear hik
    by_cases hlt : i < D.length
    · obtain ⟨g, rfl, p0, p1, p2⟩ := HA.out i D[i] (List.getElem?_eq_getElem hlt)
      obtain ⟨g', rfl, q0, q1, q2⟩ := HB.out i D[i] (List.getElem?_eq_getElem hlt)
      generalize D[i] = t at p0 p1 p2 q0 q1 q2
      go_upto_region 6 with (fail)
      go_quiet (fail)
      rw [World.drewN_drewN]
      generalize m0 + nq = m1
      clear p0 p1 p2 q0 q1 q2
      go_wp2_with fail
      go_roundg (gk - 1)
      case measure => have := HIK.out; omega
      case rel => exact ⟨i + 1, m1, by have := HIK.out; omega, by go_num, rfl⟩
    · go_wp2_with fail
      go_ret
      exact ⟨rfl, _, rfl⟩

set_option maxRecDepth 100000 in
set_option maxHeartbeats 1000000 in
theorem scans_walk (l : List UInt8) (v : Value) (w : World) (hv : Holds w v l) (hn : l.length ≤ 5000) :
    Calls Try.prog 3 #[v] w fun e w' => e = .returned (.bool true) ∧ Below w.heap.size w w' := by
  have HV := Lib.hid hv
  obtain ⟨A0, c0, rfl, _, _⟩ := hv
  have h5 : decide (5000 < (l.length : Int)) = false := by simp; omega
  have h5' : decide (5000 < l.length) = false := by simp; omega
  have hlen1 := len_toks l.length l (nxt l 0) (by omega)
  have hlen2 := len_dgs l.length l (nxt l 0) (by omega)
  go_enter Try.func3, Try.ntmps3
  go_wp2_with (at_builtin; refine wpList_appB _ rfl _ _ rfl w.heap.size _ _ [] l rfl rfl (World.ownsRow_nil _ _ _ _) HV.out (by simp) (by omega) (Nat.le_refl _) ?_)
  intro v1 w1 hown1 hgrow1
  have hb1 : Below w.heap.size w w1 := (Below.refl _ _).grown hgrow1 (Nat.le_refl _) (fun k hk => by simp [Value.ownBlock] at hk)
  have HO1 := Lib.hid (own_holds hown1)
  have HB1 := Lib.hid hb1
  have HV1 := Lib.hid (HV.out.below hb1)
  clear hown1 hgrow1 hb1 HV
  obtain ⟨A1, c1, rfl, hcc, _⟩ := HO1.out
  have HS1 := Lib.hid (scan_ok l _ w1 HO1.out (by omega))
  go_wp2_with fail
  refine HS1.out.mono ?_
  rintro e w2 ⟨v4, v5, rfl, hb2, ho4, ho5⟩
  obtain ⟨A4, c4, rfl, ht⟩ := own_toks ho4
  obtain ⟨A5, c5, rfl, hd⟩ := own_dgs ho5
  have HB2 := Lib.hid hb2
  have HT := Lib.hid ht
  have HD := Lib.hid hd
  have HV2 := Lib.hid (HV1.out.below hb2)
  have HO2 := Lib.hid (HO1.out.below hb2)
  clear hb2 ho4 ho5 ht hd HS1 HO1 HV1
  have HS2 := Lib.hid (refScan_ok l _ w2 HV2.out (by omega))
  go_wp2_with fail
  refine HS2.out.mono ?_
  rintro e w3 ⟨v6, v7, rfl, hb3, ho6, ho7⟩
  obtain ⟨A6, c6, rfl, ht2⟩ := own_toks ho6
  obtain ⟨A7, c7, rfl, hd2⟩ := own_dgs ho7
  have HB3 := Lib.hid hb3
  have HT1 := Lib.hid (HT.out.below hb3)
  have HD1 := Lib.hid (HD.out.below hb3)
  have HT2 := Lib.hid ht2
  have HD2 := Lib.hid hd2
  have HV3 := Lib.hid (HV2.out.below hb3)
  have HO3 := Lib.hid (HO2.out.below hb3)
  clear hb3 ho6 ho7 ht2 hd2 HT HD HV2 HO2 HS2
  have holdc : ∀ (A : Option Addr) (c : Nat), Holds w3 (.slice A l.length c) l → (convert 22 9 (.slice A l.length c)).run Try.prog w3 = .ok (.string ⟨l.toArray⟩) w3 := by
    intro A c h
    obtain ⟨A', c', e, _, hA⟩ := h
    injection e with e1 _ e3
    subst e1 e3
    by_cases h0 : 0 < l.length
    · obtain ⟨b, off, rfl, hb⟩ := hA h0
      exact conv_bs hb c
    · have hl : l = [] := List.eq_nil_of_length_eq_zero (by omega)
      subst hl
      cases A with
      | none => exact run_convert_bytes_nil (P := Try.prog) w3 22 5 Try.underlying22 Try.underlying5 0 c 9 Try.underlying9
      | some a =>
        exact run_convert_bytes_back (P := Try.prog) w3 22 9 5 a c [] Try.underlying22 Try.underlying5 Try.underlying9 (fun j hj => by simp at hj)
  have hcv1 := holdc A1 c1 HO3.out
  have hcv0 := holdc A0 c0 HV3.out
  have HSD := Lib.hid (sameDiags_ok _ _ _ c5 c7 w3 HD1.out HD2.out (by omega))
  clear holdc HO3 HV3
  go_wp2_with fail
  refine HSD.out.mono ?_
  rintro e w4 ⟨rfl, m1, rfl⟩
  go_wp2_with fail
  clear hcv1 hcv0 HSD
  go_loopg [8] (toks l (nxt l 0)).length (fun k v8 wr => ∃ i nq : Nat, i + k = (toks l (nxt l 0)).length ∧ v8 = .int .i64 i ∧ wr = w3.drewN nq)
  case atStart => exact ⟨0, m1, by omega, rfl, rfl⟩
  case round =>
    obtain ⟨i, m0, hik, rfl, rfl⟩ := hrel
    have HIK := Lib.hid hik
    have hi : i ≤ (toks l (nxt l 0)).length := by omega
    clear hik
    by_cases hlt : i < (toks l (nxt l 0)).length
    · obtain ⟨g, rfl, p0, p1, p2, p3, p4⟩ := HT1.out i _ (List.getElem?_eq_getElem hlt)
      obtain ⟨g', rfl, q0, q1, q2, q3, q4⟩ := HT2.out i _ (List.getElem?_eq_getElem hlt)
      generalize (toks l (nxt l 0))[i] = t at p0 p1 p2 p3 p4 q0 q1 q2 q3 q4
      go_upto_region 11 with (fail)
      go_quiet (fail)
      rw [World.drewN_drewN]
      generalize m0 + nq = m2
      clear p0 p1 p2 p3 p4 q0 q1 q2 q3 q4
      go_wp2_with fail
      go_roundg (gk - 1)
      case measure => have := HIK.out; omega
      case rel => exact ⟨i + 1, m2, by have := HIK.out; omega, by go_num, rfl⟩
    · go_wp2_with (go_at_call 8; refine (known_ok _).mono ?_; rintro e w5 ⟨rfl, hb5⟩)
      go_ret
      have z1 := HB1.out.size
      have z2 := HB2.out.size
      have z3 := HB3.out.size
      exact ⟨rfl, HB1.out.trans ((HB2.out.mono z1).trans ((HB3.out.mono (by omega)).trans ((⟨rfl, rfl, rfl, Nat.le_refl _, fun _ _ => rfl⟩ : Below w.heap.size w3 (w3.drewN m0)).trans (hb5.mono (by show _ ≤ w3.heap.size; omega)))))⟩
end Go.Proofs.Ytpdljjlbjebmeaa
