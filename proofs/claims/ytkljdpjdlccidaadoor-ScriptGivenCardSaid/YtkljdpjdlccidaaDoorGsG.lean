/- slices.symMergeCmpFunc at entries, where one stretch has one member. Written by genGsG.py. -/
import Derived.Test.YtkljdpjdlccidaaDoorGsF
namespace Go.Proofs.YtkljdpjdlccidaaDoor
open Go.RowKit Go.Shelf
attribute [local go_sem] Oper.semAt_some
theorem atApp (A D : List En) (x : En) {n : Nat} (h : n = A.length) : (A ++ x :: D)[n]? = some x := by subst h; simp
section
attribute [local irreducible] wpQuiet
set_option maxRecDepth 100000 in
set_option maxHeartbeats 4000000 in
theorem symX_ok {g off c N : Nat} {P Y R : List En} {x : En} {w : World} {ia im ib : Int} (h : RowG g off (P ++ [x] ++ Y ++ R) w) (hN : (P ++ [x] ++ Y ++ R).length = N) (hl : N ≤ 1000) (hY : SoS ltE Y) (ha : ia = P.length) (hm : im = P.length + 1) (hb : ib = P.length + 1 + Y.length) : Calls Tryd.prog 59 #[.slice (some ⟨g, off, none⟩) N c, .int .i64 ia, .int .i64 im, .int .i64 ib, .func (.func 18) #[] #[]] w fun e w' => e = .returned (.tuple #[]) ∧ RowG g off (P ++ mgS ltE [x] Y ++ R) w' ∧ Kept (nG g) w w' := by
  have H0 := Lib.hid h
  simp only [List.length_append, List.length_cons, List.length_nil] at hN
  obtain ⟨p, hp⟩ : ∃ p, p = P.length := ⟨_, rfl⟩
  obtain ⟨m, hm'⟩ : ∃ m, m = p + 1 := ⟨_, rfl⟩
  obtain ⟨b, hb'⟩ : ∃ b, b = p + 1 + Y.length := ⟨_, rfl⟩
  obtain rfl : ia = (p : Int) := by rw [ha, hp]
  obtain rfl : im = (m : Int) := by rw [hm, hm', hp]; simp
  obtain rfl : ib = (b : Int) := by rw [hb, hb', hp]; simp
  have hbN : b ≤ N := by omega
  have hpN : p < N := by omega
  have hmN : m ≤ N := by omega
  have zma : (m : Int) - (p : Int) = 1 := by omega
  have HP := Lib.hid hp
  have HM := Lib.hid hm'
  have HB := Lib.hid hb'
  have HYS := Lib.hid hY
  obtain ⟨F, hF⟩ : ∃ F, F = P ++ mgS ltE [x] Y ++ R := ⟨_, rfl⟩
  rw [← hF]
  have HF := Lib.hid hF
  clear h hN ha hb hm hp hb' hm' hF hY
  go_enter Tryd.func59, Tryd.ntmps59
  go_upto_region 3 with (fail)
  clear zma
  go_loopg [10, 11, 12] Y.length (fun k v10 v11 v12 wr => ∃ i j u v : Nat, v ≤ u + k ∧ u ≤ v ∧ v ≤ Y.length ∧ i = m + u ∧ j = m + v ∧ v10 = .int .i64 i ∧ v11 = .int .i64 j ∧ (u = 0 ∨ ∃ y, Y[u - 1]? = some y ∧ ltE y x = true) ∧ (v ≥ Y.length ∨ ∃ y, Y[v]? = some y ∧ ltE y x = false) ∧ RowG g off (P ++ [x] ++ Y ++ R) wr ∧ Kept (nG g) w wr)
  case atStart => exact ⟨m, b, 0, Y.length, by omega, by omega, Nat.le_refl _, rfl, by have := HM.out; have := HB.out; omega, rfl, rfl, .inl rfl, .inl (Nat.le_refl _), H0.out, Kept.refl _ _⟩
  case round =>
    obtain ⟨i, j, u, v, hk, huv, hvY, hi, hj, rfl, rfl, hu, hv, hr, hkp⟩ := hrel
    have HR := Lib.hid hr
    have HK := Lib.hid hkp
    have HU := Lib.hid hu
    have HV := Lib.hid hv
    have HQ := Lib.hid (And.intro hk (And.intro huv (And.intro hvY (And.intro hi hj))))
    clear hr hkp hu hv
    by_cases hlt : i < j
    · have z : (i : Int) < (j : Int) := by omega
      have hiN : i ≤ 1000 := by have := HB.out; have := HM.out; omega
      have hjN : j ≤ 1000 := by have := HB.out; have := HM.out; omega
      obtain ⟨h, hh⟩ : ∃ h, h = (i + j) / 2 := ⟨_, rfl⟩
      obtain ⟨t, ht⟩ : ∃ t, t = h - m := ⟨_, rfl⟩
      have ht1 : u ≤ t ∧ t < v ∧ h = m + t := by omega
      have HT := Lib.hid ht1
      obtain ⟨y, hy⟩ : ∃ y, Y[t]? = some y := ⟨_, List.getElem?_eq_getElem (by omega)⟩
      have hhN : (h : Int) < (N : Int) := by have := HB.out; have := HM.out; omega
      have zp : (p : Int) < (N : Int) := by omega
      have zh : ((i : Int) + (j : Int)) / 2 = (h : Int) := by omega
      have tx : (P ++ [x] ++ Y ++ R)[p]? = some x := by
        rw [show P ++ [x] ++ Y ++ R = P ++ x :: (Y ++ R) by simp]
        exact atApp P _ x HP.out
      have ty : (P ++ [x] ++ Y ++ R)[h]? = some y := by
        rw [List.getElem?_append_left (by have := HP.out; have := HM.out; simp; omega), List.getElem?_append_right (by have := HP.out; have := HM.out; simp; omega), show h - (P ++ [x]).length = t by have := HP.out; have := HM.out; simp; omega]
        exact hy
      have HY := Lib.hid hy
      clear hi hj hk huv hvY hlt hh ht ht1 hy
      go_upto_region 5 with (fail)
      try rw [zh]
      clear zh
      have HC := Lib.hid (fun (pp : ExtBy wr) => cmpE_ok y x pp.w)
      unfold En.v at HC
      have HCE := Lib.hid (cmpE_lt y x)
      have P0 := fun (pp : ExtBy wr) => (HR.out.ext pp.x).at ty
      have P1 := fun (pp : ExtBy wr) => (HR.out.ext pp.x).at tx
      have p0 := fun pp => (P0 pp).1
      have p1 := fun pp => (P0 pp).2.1
      have p2 := fun pp => (P0 pp).2.2
      have r0 := fun pp => (P1 pp).1
      have r1 := fun pp => (P1 pp).2.1
      have r2 := fun pp => (P1 pp).2.2
      have gl := fun (pp : ExtBy wr) => (HR.out.ext pp.x).lt
      clear P0 P1
      generalize cmpE y x = cv at *
      refine region_quiet_ext (by kernel_rfl) (by kernel_rfl) ?_
      repeat (quiet_step (first | (go_at_call 18; exact ExtBy.call (HC.out _))))
      refine wpQuiet_nil ?_
      rintro w' ⟨pp, rfl⟩
      have HR5 := Lib.hid (HR.out.ext pp.x)
      have HK5 := Lib.hid (HK.out.trans (ext_nG g pp.x))
      clear HC p0 p1 p2 r0 r1 r2 gl HR HK
      generalize pp.w = w5 at *
      clear pp
      have hl1 : cv < 0 → ltE y x = true := fun h => by rw [← HCE.out]; exact h
      have hl0 : ¬ cv < 0 → ltE y x = false := fun h => by
        cases q : ltE y x with
        | false => rfl
        | true => rw [← HCE.out] at q; exact absurd q h
      have HL1 := Lib.hid hl1
      have HL0 := Lib.hid hl0
      clear hl1 hl0 HCE
      by_cases hcv : cv < 0
      · have HLT := Lib.hid (HL1.out hcv)
        go_wp2_with fail
        go_roundg (v - (t + 1))
        case measure => have := HQ.out; have := HT.out; omega
        case rel => exact ⟨h + 1, j, t + 1, v, by have := HQ.out; have := HT.out; omega, by have := HQ.out; have := HT.out; omega, by have := HQ.out; omega, by have := HT.out; omega, by have := HQ.out; omega, by go_num, rfl, .inr ⟨y, HY.out, HLT.out⟩, HV.out, HR5.out, HK5.out⟩
      · have HLT := Lib.hid (HL0.out hcv)
        go_wp2_with fail
        go_roundg (t - u)
        case measure => have := HQ.out; have := HT.out; omega
        case rel => exact ⟨i, h, u, t, by have := HQ.out; have := HT.out; omega, by have := HQ.out; have := HT.out; omega, by have := HQ.out; have := HT.out; omega, by have := HQ.out; omega, by have := HT.out; omega, rfl, rfl, HU.out, .inr ⟨y, HY.out, HLT.out⟩, HR5.out, HK5.out⟩
    · obtain rfl : u = v := by omega
      have HM1 := Lib.hid (show mgS ltE [x] Y = Y.take u ++ x :: Y.drop u from one_left swoE HYS.out x u HU.out HV.out)
      obtain ⟨i1, hi1⟩ : ∃ i1, i1 = p + u := ⟨_, rfl⟩
      have hii : i = i1 + 1 := by have := HM.out; omega
      have hjj : j = i1 + 1 := by have := HM.out; omega
      subst hii
      clear HQ
      subst hjj
      have HI1 := Lib.hid hi1
      have huY := hvY
      have hiN : i1 + 1 ≤ N := by have := HB.out; omega
      have hj : ¬ ((i1 : Int) + 1) < (i1 : Int) + 1 := by omega
      clear hi hk huv hvY hlt hi1 HU HV
      go_upto_region 9 with (fail)
      go_loopg [13] u (fun kk v13 wr => ∃ k t : Nat, t + kk = u ∧ k = p + t ∧ v13 = .int .i64 k ∧ RowG g off (P ++ Y.take t ++ x :: (Y.drop t ++ R)) wr ∧ Kept (nG g) w wr)
      case atStart => exact ⟨p, 0, by omega, rfl, rfl, by have h := HR.out; simpa using h, HK.out⟩
      case round =>
        clear HR HK
        obtain ⟨k, t, htk, hkt, rfl, hr, hkp⟩ := hrel
        have HR := Lib.hid hr
        have HK := Lib.hid hkp
        have HQ := Lib.hid (And.intro htk hkt)
        clear hr hkp
        have zi1 : (i1 : Int) + 1 - 1 = (i1 : Int) := by omega
        by_cases hlt : t < u
        · obtain ⟨y, hy⟩ : ∃ y, Y[t]? = some y := ⟨_, List.getElem?_eq_getElem (by omega)⟩
          have eD : Y.drop t = y :: Y.drop (t + 1) := by
            obtain ⟨hl2, he2⟩ := List.getElem?_eq_some_iff.1 hy
            rw [List.drop_eq_getElem_cons hl2, he2]
          have eT : Y.take (t + 1) = Y.take t ++ [y] := by rw [List.take_add_one, hy]; rfl
          have lA : (P ++ Y.take t).length = k := by
            have := HP.out
            rw [List.length_append, List.length_take]
            omega
          have hr2 : RowG g off ((P ++ Y.take t) ++ x :: y :: (Y.drop (t + 1) ++ R)) wr := by
            have h := HR.out
            rw [eD] at h
            simpa using h
          obtain ⟨t0, t1⟩ := at_two (P ++ Y.take t) (Y.drop (t + 1) ++ R) y x
          rw [lA] at t0 t1
          have hkN : k + 1 < N := by have := HI1.out; omega
          have zn1 : (k : Int) + 1 < (N : Int) := by omega
          have z00 : (0 : Int) ≤ (k : Int) + 1 := by omega
          have zt : ((k : Int) + 1).toNat = k + 1 := by omega
          have zn0 : (k : Int) < (N : Int) := by omega
          have zk : (k : Int) < (i1 : Int) := by have := HI1.out; omega
          obtain ⟨p0, p1, p2⟩ := hr2.at t0
          obtain ⟨r0, r1, r2⟩ := hr2.at t1
          have gl := hr2.lt
          have hz := hr2.soft
          have hij : k < k + 1 := Nat.lt_succ_self _
          have HSW := Lib.hid (hr2.swap t0 t1)
          have HE := Lib.hid (show ((((P ++ Y.take t) ++ x :: y :: (Y.drop (t + 1) ++ R)).set k y).set (k + 1) x) = P ++ Y.take (t + 1) ++ x :: (Y.drop (t + 1) ++ R) by
            rw [← lA, set_two', eT]
            simp)
          clear eT eD lA hr2 t0 t1 htk hkt hy
          go_upto_region 11 with (fail)
          go_region
          clear p0 p1 p2 r0 r1 r2 gl hz
          obtain ⟨w9, hw9⟩ : ∃ w9, w9 = World.drew (putG (putG wr g (off + k * 3) y) g (off + (k + 1) * 3) x) := ⟨_, rfl⟩
          have HRN := Lib.hid (show RowG g off (P ++ Y.take (t + 1) ++ x :: (Y.drop (t + 1) ++ R)) w9 by rw [← HE.out, hw9]; exact HSW.out.1.ext (Ext.drew _))
          have HKN := Lib.hid (show Kept (nG g) w w9 by rw [hw9]; exact (HK.out.trans HSW.out.2).trans (ext_nG g (Ext.drew _)))
          unfold putG at hw9
          rw [← hw9]
          clear hw9 HSW HE HR HK
          go_wp2_with fail
          go_roundg (u - (t + 1))
          case measure => have := HQ.out; omega
          case rel => exact ⟨k + 1, t + 1, by have := HQ.out; omega, by have := HQ.out; omega, by go_num, HRN.out, HKN.out⟩
        · obtain rfl : t = u := by omega
          obtain rfl : k = i1 := by have := HI1.out; omega
          have z : ¬ (k : Int) < (k : Int) := by omega
          have HE := Lib.hid (show RowG g off F wr by
            have h := HR.out
            rw [HF.out, HM1.out]
            simpa using h)
          clear htk hkt hlt HQ
          go_wp2_with fail
          refine bodyPost_ret (results_none rfl _ _ _) rfl ?_
          exact ⟨rfl, HE.out, HK.out⟩
set_option maxRecDepth 100000 in
set_option maxHeartbeats 4000000 in
theorem symY_ok {g off c N : Nat} {P X R : List En} {y : En} {w : World} {ia im ib : Int} (h : RowG g off (P ++ X ++ [y] ++ R) w) (hN : (P ++ X ++ [y] ++ R).length = N) (hl : N ≤ 1000) (hX : SoS ltE X) (h2 : 2 ≤ X.length) (ha : ia = P.length) (hm : im = P.length + X.length) (hb : ib = P.length + X.length + 1) : Calls Tryd.prog 59 #[.slice (some ⟨g, off, none⟩) N c, .int .i64 ia, .int .i64 im, .int .i64 ib, .func (.func 18) #[] #[]] w fun e w' => e = .returned (.tuple #[]) ∧ RowG g off (P ++ mgS ltE X [y] ++ R) w' ∧ Kept (nG g) w w' := by
  have H0 := Lib.hid h
  simp only [List.length_append, List.length_cons, List.length_nil] at hN
  obtain ⟨p, hp⟩ : ∃ p, p = P.length := ⟨_, rfl⟩
  obtain ⟨m, hm'⟩ : ∃ m, m = p + X.length := ⟨_, rfl⟩
  obtain ⟨b, hb'⟩ : ∃ b, b = m + 1 := ⟨_, rfl⟩
  obtain ⟨n, hn'⟩ : ∃ n, n = X.length := ⟨_, rfl⟩
  obtain rfl : ia = (p : Int) := by rw [ha, hp]
  obtain rfl : im = (m : Int) := by rw [hm, hm', hp]; simp
  obtain rfl : ib = (b : Int) := by rw [hb, hb', hm', hp]; simp
  have hmN : m < N := by omega
  have hbN : b ≤ N := by omega
  have hpN : p ≤ N := by omega
  have zma : (m : Int) - (p : Int) = (n : Int) := by omega
  have zn1 : ((n : Int) == 1) = false := by simp; omega
  have zbm : (b : Int) - (m : Int) = 1 := by omega
  have HP := Lib.hid hp
  have HM := Lib.hid hm'
  have HXS := Lib.hid hX
  obtain ⟨F, hF⟩ : ∃ F, F = P ++ mgS ltE X [y] ++ R := ⟨_, rfl⟩
  rw [← hF]
  have HF := Lib.hid hF
  clear h hN ha hb hm hp hb' hm' hF hX h2 hn'
  go_enter Tryd.func59, Tryd.ntmps59
  go_upto_region 15 with (fail)
  clear zma zn1 zbm
  go_loopg [14, 15, 16] X.length (fun k v14 v15 v16 wr => ∃ i j u v : Nat, v ≤ u + k ∧ u ≤ v ∧ v ≤ X.length ∧ i = p + u ∧ j = p + v ∧ v14 = .int .i64 i ∧ v15 = .int .i64 j ∧ (u = 0 ∨ ∃ x, X[u - 1]? = some x ∧ ltE y x = false) ∧ (v ≥ X.length ∨ ∃ x, X[v]? = some x ∧ ltE y x = true) ∧ RowG g off (P ++ X ++ [y] ++ R) wr ∧ Kept (nG g) w wr)
  case atStart => exact ⟨p, m, 0, X.length, by omega, by omega, Nat.le_refl _, rfl, HM.out, rfl, rfl, .inl rfl, .inl (Nat.le_refl _), H0.out, Kept.refl _ _⟩
  case round =>
    obtain ⟨i, j, u, v, hk, huv, hvX, hi, hj, rfl, rfl, hu, hv, hr, hkp⟩ := hrel
    have HR := Lib.hid hr
    have HK := Lib.hid hkp
    have HU := Lib.hid hu
    have HV := Lib.hid hv
    have HQ := Lib.hid (And.intro hk (And.intro huv (And.intro hvX (And.intro hi hj))))
    clear hr hkp hu hv
    by_cases hlt : i < j
    · have z : (i : Int) < (j : Int) := by omega
      have hiN : i ≤ 1000 := by have := HM.out; omega
      have hjN : j ≤ 1000 := by have := HM.out; omega
      obtain ⟨h, hh⟩ : ∃ h, h = (i + j) / 2 := ⟨_, rfl⟩
      obtain ⟨t, ht⟩ : ∃ t, t = h - p := ⟨_, rfl⟩
      have ht1 : u ≤ t ∧ t < v ∧ h = p + t := by omega
      have HT := Lib.hid ht1
      obtain ⟨x, hx⟩ : ∃ x, X[t]? = some x := ⟨_, List.getElem?_eq_getElem (by omega)⟩
      have hhN : (h : Int) < (N : Int) := by have := HM.out; omega
      have zp : (m : Int) < (N : Int) := by omega
      have zh : ((i : Int) + (j : Int)) / 2 = (h : Int) := by omega
      have ty : (P ++ X ++ [y] ++ R)[m]? = some y := by
        rw [show P ++ X ++ [y] ++ R = (P ++ X) ++ y :: R by simp]
        exact atApp (P ++ X) _ y (by have := HP.out; have := HM.out; simp; omega)
      have tx : (P ++ X ++ [y] ++ R)[h]? = some x := by
        rw [List.append_assoc, List.append_assoc, List.getElem?_append_right (by have := HP.out; omega), List.getElem?_append_left (by have := HP.out; omega), show h - P.length = t by have := HP.out; omega]
        exact hx
      have HX := Lib.hid hx
      clear hi hj hk huv hvX hlt hh ht ht1 hx
      go_upto_region 17 with (fail)
      try rw [zh]
      clear zh
      have HC := Lib.hid (fun (pp : ExtBy wr) => cmpE_ok y x pp.w)
      unfold En.v at HC
      have HCE := Lib.hid (cmpE_lt y x)
      have P0 := fun (pp : ExtBy wr) => (HR.out.ext pp.x).at ty
      have P1 := fun (pp : ExtBy wr) => (HR.out.ext pp.x).at tx
      have p0 := fun pp => (P0 pp).1
      have p1 := fun pp => (P0 pp).2.1
      have p2 := fun pp => (P0 pp).2.2
      have r0 := fun pp => (P1 pp).1
      have r1 := fun pp => (P1 pp).2.1
      have r2 := fun pp => (P1 pp).2.2
      have gl := fun (pp : ExtBy wr) => (HR.out.ext pp.x).lt
      clear P0 P1
      generalize cmpE y x = cv at *
      refine region_quiet_ext (by kernel_rfl) (by kernel_rfl) ?_
      repeat (quiet_step (first | (go_at_call 18; exact ExtBy.call (HC.out _))))
      refine wpQuiet_nil ?_
      rintro w' ⟨pp, rfl⟩
      have HR5 := Lib.hid (HR.out.ext pp.x)
      have HK5 := Lib.hid (HK.out.trans (ext_nG g pp.x))
      clear HC p0 p1 p2 r0 r1 r2 gl HR HK
      generalize pp.w = w5 at *
      clear pp
      obtain ⟨bb, hbb⟩ : ∃ bb, bb = decide (cv < 0) := ⟨_, rfl⟩
      rw [← hbb]
      have HL1 := Lib.hid (fun (h : bb = true) => show ltE y x = true by rw [← HCE.out]; rw [h] at hbb; exact of_decide_eq_true hbb.symm)
      have HL0 := Lib.hid (fun (h : bb = false) => show ltE y x = false by
        cases q : ltE y x with
        | false => rfl
        | true => rw [← HCE.out] at q; rw [h] at hbb; exact absurd q (of_decide_eq_false hbb.symm))
      clear hbb HCE
      cases bb
      case true =>
        have HLT := Lib.hid (HL1.out rfl)
        go_wp2_with fail
        go_roundg (t - u)
        case measure => have := HQ.out; have := HT.out; omega
        case rel => exact ⟨i, h, u, t, by have := HQ.out; have := HT.out; omega, by have := HQ.out; have := HT.out; omega, by have := HQ.out; have := HT.out; omega, by have := HQ.out; omega, by have := HT.out; omega, rfl, rfl, HU.out, .inr ⟨x, HX.out, HLT.out⟩, HR5.out, HK5.out⟩
      case false =>
        have HLT := Lib.hid (HL0.out rfl)
        go_wp2_with fail
        go_roundg (v - (t + 1))
        case measure => have := HQ.out; have := HT.out; omega
        case rel => exact ⟨h + 1, j, t + 1, v, by have := HQ.out; have := HT.out; omega, by have := HQ.out; have := HT.out; omega, by have := HQ.out; omega, by have := HT.out; omega, by have := HQ.out; omega, by go_num, rfl, .inr ⟨x, HX.out, HLT.out⟩, HV.out, HR5.out, HK5.out⟩
    · obtain rfl : u = v := by omega
      have HM1 := Lib.hid (show mgS ltE X [y] = X.take u ++ y :: X.drop u from one_right swoE HXS.out y u HU.out HV.out)
      have hji : j = i := by omega
      subst hji
      have HI1 := Lib.hid hj
      have huX := hvX
      have hiN : j ≤ N := by have := HM.out; omega
      have hj0 : ¬ (j : Int) < (j : Int) := by omega
      clear hi hj hk huv hvX hlt HU HV HQ
      go_upto_region 21 with (fail)
      go_loopg [17] (X.length - u) (fun kk v17 wr => ∃ k t : Nat, t = u + kk ∧ t ≤ X.length ∧ k = p + t ∧ v17 = .int .i64 k ∧ RowG g off (P ++ X.take t ++ y :: (X.drop t ++ R)) wr ∧ Kept (nG g) w wr)
      case atStart => exact ⟨m, X.length, by have := huX; omega, Nat.le_refl _, HM.out, rfl, by have h := HR.out; simpa using h, HK.out⟩
      case round =>
        clear HR HK
        obtain ⟨k, t, htu, htX, hkt, rfl, hr, hkp⟩ := hrel
        have HR := Lib.hid hr
        have HK := Lib.hid hkp
        have HQ := Lib.hid (And.intro htu (And.intro htX hkt))
        clear hr hkp
        by_cases hlt : u < t
        · obtain ⟨t1, rfl⟩ : ∃ t1, t = t1 + 1 := ⟨t - 1, by omega⟩
          obtain ⟨k1, hk1⟩ : ∃ k1, k1 = p + t1 := ⟨_, rfl⟩
          have hkk : k = k1 + 1 := by omega
          subst hkk
          obtain ⟨x, hx⟩ : ∃ x, X[t1]? = some x := ⟨_, List.getElem?_eq_getElem (by omega)⟩
          have eD : X.drop t1 = x :: X.drop (t1 + 1) := by
            obtain ⟨hl2, he2⟩ := List.getElem?_eq_some_iff.1 hx
            rw [List.drop_eq_getElem_cons hl2, he2]
          have eT : X.take (t1 + 1) = X.take t1 ++ [x] := by rw [List.take_add_one, hx]; rfl
          have lA : (P ++ X.take t1).length = k1 := by
            have := HP.out
            rw [List.length_append, List.length_take]
            omega
          have hr2 : RowG g off ((P ++ X.take t1) ++ x :: y :: (X.drop (t1 + 1) ++ R)) wr := by
            have h := HR.out
            rw [eT] at h
            simpa using h
          obtain ⟨e0, e1⟩ := at_two (P ++ X.take t1) (X.drop (t1 + 1) ++ R) y x
          rw [lA] at e0 e1
          have hkN : k1 + 1 < N := by have := HM.out; omega
          have zn1 : (k1 : Int) + 1 < (N : Int) := by omega
          have z00 : (0 : Int) ≤ (k1 : Int) + 1 := by omega
          have zt : ((k1 : Int) + 1).toNat = k1 + 1 := by omega
          have zn0 : (k1 : Int) < (N : Int) := by omega
          have zk : (j : Int) < (k1 : Int) + 1 := by have := HI1.out; omega
          have zw : IntKind.i64.wrap (k1 : Int) = (k1 : Int) := wrapN (by omega) (by omega)
          obtain ⟨p0, p1, p2⟩ := hr2.at e0
          obtain ⟨r0, r1, r2⟩ := hr2.at e1
          have gl := hr2.lt
          have hz := hr2.soft
          have hij : k1 < k1 + 1 := Nat.lt_succ_self _
          have HSW := Lib.hid (hr2.swap e1 e0)
          have HE := Lib.hid (show ((((P ++ X.take t1) ++ x :: y :: (X.drop (t1 + 1) ++ R)).set (k1 + 1) x).set k1 y) = P ++ X.take t1 ++ y :: (X.drop t1 ++ R) by
            rw [← lA, set_two, eD]
            simp)
          have HK1 := Lib.hid hk1
          clear eT eD lA hr2 e0 e1 htu htX hkt hx hk1 hlt
          go_upto_region 23 with (fail)
          go_region
          clear p0 p1 p2 r0 r1 r2 gl hz
          obtain ⟨w9, hw9⟩ : ∃ w9, w9 = World.drew (putG (putG wr g (off + (k1 + 1) * 3) x) g (off + k1 * 3) y) := ⟨_, rfl⟩
          have HRN := Lib.hid (show RowG g off (P ++ X.take t1 ++ y :: (X.drop t1 ++ R)) w9 by rw [← HE.out, hw9]; exact HSW.out.1.ext (Ext.drew _))
          have HKN := Lib.hid (show Kept (nG g) w w9 by rw [hw9]; exact (HK.out.trans HSW.out.2).trans (ext_nG g (Ext.drew _)))
          unfold putG at hw9
          rw [← hw9]
          clear hw9 HSW HE HR HK
          go_wp2_with fail
          go_roundg (gk - 1)
          case measure => have := HQ.out; have := HK1.out; have := HI1.out; omega
          case rel => exact ⟨k1, t1, by have := HQ.out; have := HK1.out; have := HI1.out; omega, by have := HQ.out; omega, HK1.out, by go_num, HRN.out, HKN.out⟩
        · have htu' : t = u := by omega
          subst htu'
          have hkj : k = j := by have := HI1.out; omega
          subst hkj
          have HE := Lib.hid (show RowG g off F wr by
            have h := HR.out
            rw [HF.out, HM1.out]
            simpa using h)
          clear htu htX hkt hlt HQ
          go_wp2_with fail
          refine bodyPost_ret (results_none rfl _ _ _) rfl ?_
          exact ⟨rfl, HE.out, HK.out⟩
end
end Go.Proofs.YtkljdpjdlccidaaDoor
