/- slices.insertionSortCmpFunc at entries. -/
import Derived.Test.YtkljdpjdlccidaaDoorGsE
import Derived.Test.YtkljdpjdlccidaaDoorGsD
import Derived.Test.YtkljdpjdlccidaaDoorGsP
namespace Go.Proofs.YtkljdpjdlccidaaDoor
open Go.RowKit Go.Shelf
attribute [local go_sem] Oper.semAt_some
theorem at_mid {P D : List En} {x : En} : (P ++ x :: D)[P.length]? = some x := by simp
/-- Two that stand side by side, changed for one another. -/
theorem set_two (A D : List En) (x y : En) : ((A ++ y :: x :: D).set (A.length + 1) y).set A.length x = A ++ x :: y :: D := by
  rw [List.set_append_right _ _ (by omega), show A.length + 1 - A.length = 1 by omega, List.set_append_right _ _ (Nat.le_refl _), Nat.sub_self]
  rfl
theorem set_two' (A D : List En) (x y : En) : ((A ++ y :: x :: D).set A.length x).set (A.length + 1) y = A ++ x :: y :: D := by
  rw [List.set_append_right _ _ (Nat.le_refl _), Nat.sub_self, List.set_append_right _ _ (by omega), show A.length + 1 - A.length = 1 by omega]
  rfl
theorem at_two (A D : List En) (x y : En) : (A ++ y :: x :: D)[A.length]? = some y ∧ (A ++ y :: x :: D)[A.length + 1]? = some x := by
  constructor
  · simp
  · rw [List.getElem?_append_right (by omega), show A.length + 1 - A.length = 1 by omega]
    rfl
theorem wrapN {n : Int} (h0 : -1000000 ≤ n) (h1 : n ≤ 1000000) : IntKind.i64.wrap n = n := by
  rw [IntKind.wrap_i64]
  omega
section
attribute [local irreducible] wpQuiet
set_option maxRecDepth 100000 in
set_option maxHeartbeats 4000000 in
theorem insert_ok {g off c N : Nat} {P X R : List En} {w : World} {ia ib : Int} (h : RowG g off (P ++ X ++ R) w) (hN : (P ++ X ++ R).length = N) (hl : N ≤ 1000) (ha : ia = P.length) (hb : ib = P.length + X.length) : Calls Tryd.prog 58 #[.slice (some ⟨g, off, none⟩) N c, .int .i64 ia, .int .i64 ib, .func (.func 18) #[] #[]] w fun e w' => e = .returned (.tuple #[]) ∧ RowG g off (P ++ soS ltE X ++ R) w' ∧ Kept (nG g) w w' := by
  have H0 := Lib.hid h
  simp only [List.length_append] at hN
  obtain ⟨p, hp⟩ : ∃ p, p = P.length := ⟨_, rfl⟩
  obtain ⟨b, hb'⟩ : ∃ b, b = p + X.length := ⟨_, rfl⟩
  obtain rfl : ia = (p : Int) := by rw [ha, hp]
  obtain rfl : ib = (b : Int) := by rw [hb, hb', hp]; simp
  have hbN : b ≤ N := by omega
  have hpN : p ≤ N := by omega
  have HP := Lib.hid hp
  have HB := Lib.hid hb'
  have HN := Lib.hid hN
  obtain ⟨F, hF⟩ : ∃ F, F = P ++ soS ltE X ++ R := ⟨_, rfl⟩
  rw [← hF]
  have HF := Lib.hid hF
  clear h hN ha hb hp hb' hF
  go_enter Tryd.func58, Tryd.ntmps58
  go_upto_region 1 with (fail)
  go_loopg [8, 9] X.length (fun k v8 v9 wr => ∃ i q : Nat, 1 ≤ q ∧ q + k = X.length + 1 ∧ i = p + q ∧ v8 = .int .i64 i ∧ RowG g off (P ++ soS ltE (X.take q) ++ X.drop q ++ R) wr ∧ Kept (nG g) w wr)
  case atStart =>
    refine ⟨p + 1, 1, Nat.le_refl _, by omega, rfl, by go_num, ?_, Kept.refl _ _⟩
    have e : soS ltE (X.take 1) = X.take 1 := by
      cases X with
      | nil => rfl
      | cons x X => simp [soS, nil_mgS]
    rw [e, List.append_assoc P, List.take_append_drop]
    exact H0.out
  case round =>
    obtain ⟨i, q, hq1, hqk, hi, rfl, hr, hk⟩ := hrel
    have HR := Lib.hid hr
    have HK := Lib.hid hk
    have HQ := Lib.hid (And.intro hq1 (And.intro hqk hi))
    clear hr hk
    by_cases hlt : i < b
    · have hql : q < X.length := by have := HB.out; omega
      obtain ⟨x0, hx0⟩ : ∃ x, X[q]? = some x := ⟨_, List.getElem?_eq_getElem hql⟩
      obtain ⟨S, hS⟩ : ∃ S, S = soS ltE (X.take q) := ⟨_, rfl⟩
      obtain ⟨D, hD⟩ : ∃ D, D = X.drop (q + 1) := ⟨_, rfl⟩
      have lS : S.length = q := by rw [hS, soS_length, List.length_take]; omega
      have HSO := Lib.hid (show SoS ltE S by rw [hS]; exact soS_soS swoE _)
      have HNX := Lib.hid (show soS ltE (X.take (q + 1)) = mgS ltE S [x0] by rw [List.take_add_one, hx0]; show soS ltE (X.take q ++ [x0]) = _; rw [soS_snoc, hS])
      have hr0 : RowG g off (P ++ S.take q ++ x0 :: (S.drop q ++ D) ++ R) wr := by
        have h := HR.out
        obtain ⟨hl2, he2⟩ := List.getElem?_eq_some_iff.1 hx0
        rw [← hS, List.drop_eq_getElem_cons hl2, he2, ← hD] at h
        rw [List.take_of_length_le (by omega), List.drop_of_length_le (by omega)]
        simpa using h
      have HR0 := Lib.hid hr0
      have HSL := Lib.hid lS
      have HD := Lib.hid hD
      have z : (i : Int) < (b : Int) := by omega
      have hib : i < 1001 := by omega
      have hlen : ∀ t, t ≤ q → P.length + (S.take t).length = p + t := fun t ht => by
        have := HP.out
        rw [List.length_take]
        omega
      have HLEN := Lib.hid hlen
      have HII := Lib.hid hi
      clear hr0 lS hS hD hx0 hlt hlen HR hi hqk hq1
      go_upto_region 4 with (fail)
      go_loopg [9] q (fun kk v9 wx => ∃ (j t : Nat), t = kk ∧ t ≤ q ∧ j = p + t ∧ v9 = .int .i64 j ∧ (∀ s ∈ S.drop t, ltE x0 s = true) ∧ RowG g off (P ++ S.take t ++ x0 :: (S.drop t ++ D) ++ R) wx ∧ Kept (nG g) w wx)
      case atStart => exact ⟨i, q, rfl, Nat.le_refl _, HQ.out.2.2, rfl, fun s hs => by rw [List.drop_of_length_le (by have := HSL.out; omega)] at hs; simp at hs, HR0.out, HK.out⟩
      case round =>
        clear HR0 HK
        obtain ⟨j, t, rfl, htq, hj, rfl, hall, hr, hk⟩ := hrel
        have HR := Lib.hid hr
        have HK := Lib.hid hk
        have HAL := Lib.hid hall
        clear hr hk hall
        cases t with
        | zero =>
          obtain rfl : j = p := hj
          have HE := Lib.hid (show mgS ltE S [x0] = S.take 0 ++ x0 :: S.drop 0 from ins_end swoE HSO.out x0 0 HAL.out (.inl rfl))
          have zj : decide ((j : Int) < (j : Int)) = false := by simp
          go_upto_region 4 with (fail)
          refine region_quiet_ext (by kernel_rfl) (by kernel_rfl) ?_
          repeat (quiet_step (fail))
          refine wpQuiet_nil ?_
          rintro w' ⟨pp, rfl⟩
          have HR2 := Lib.hid (HR.out.ext pp.x)
          have HK2 := Lib.hid (HK.out.trans (ext_nG g pp.x))
          generalize pp.w = w5 at *
          clear HR HK
          go_wp2_with fail
          go_roundg (X.length - q)
          case measure => have := HQ.out; omega
          case rel => exact ⟨i + 1, q + 1, by have := HQ.out; omega, by have := HQ.out; omega, by have := HQ.out; omega, by go_num, by
            have h := HR2.out
            rw [HNX.out, HE.out, ← HD.out]
            simpa using h, HK2.out⟩
        | succ t =>
          obtain ⟨y, hy⟩ : ∃ y, S[t]? = some y := ⟨_, List.getElem?_eq_getElem (by have := HSL.out; omega)⟩
          obtain ⟨j1, hj1⟩ : ∃ j1, j1 = p + t := ⟨_, rfl⟩
          obtain ⟨⟩ : True := trivial
          have hjj : j = j1 + 1 := by omega
          subst hjj
          have HJ := Lib.hid (And.intro hj hj1)
          clear hj
          have eT : S.take (t + 1) = S.take t ++ [y] := by rw [List.take_add_one, hy]; rfl
          have eD : S.drop t = y :: S.drop (t + 1) := by
            obtain ⟨hl2, he2⟩ := List.getElem?_eq_some_iff.1 hy
            rw [List.drop_eq_getElem_cons hl2, he2]
          have lA : (P ++ S.take t).length = j1 := by
            have h1 := HLEN.out t (by omega)
            rw [List.length_append]
            omega
          have hr2 : RowG g off ((P ++ S.take t) ++ y :: x0 :: (S.drop (t + 1) ++ D ++ R)) wr := by
            have h := HR.out
            rw [eT] at h
            simpa using h
          obtain ⟨t0, t1⟩ := at_two (P ++ S.take t) (S.drop (t + 1) ++ D ++ R) x0 y
          rw [lA] at t0 t1
          have HC := Lib.hid (fun (pp : ExtBy wr) => cmpE_ok x0 y pp.w)
          unfold En.v at HC
          have HCE := Lib.hid (cmpE_lt x0 y)
          have HY := Lib.hid hy
          have hjN : j1 + 1 < N := by
            have h1 := HB.out
            have h2 := HQ.out
            omega
          have zj : (p : Int) < (j1 : Int) + 1 := by omega
          clear hj1
          have zn1 : (j1 : Int) + 1 < (N : Int) := by omega
          have z00 : (0 : Int) ≤ (j1 : Int) + 1 := by omega
          have zt : ((j1 : Int) + 1).toNat = j1 + 1 := by omega
          have zw : IntKind.i64.wrap (j1 : Int) = (j1 : Int) := wrapN (by omega) (by omega)
          have zn0 : (j1 : Int) < (N : Int) := by omega
          have P0 := fun (pp : ExtBy wr) => (hr2.ext pp.x).at t0
          have P1 := fun (pp : ExtBy wr) => (hr2.ext pp.x).at t1
          have p0 := fun pp => (P0 pp).1
          have p1 := fun pp => (P0 pp).2.1
          have p2 := fun pp => (P0 pp).2.2
          have r0 := fun pp => (P1 pp).1
          have r1 := fun pp => (P1 pp).2.1
          have r2 := fun pp => (P1 pp).2.2
          have gl := fun (pp : ExtBy wr) => (hr2.ext pp.x).lt
          have HR2 := Lib.hid hr2
          have HT := Lib.hid (And.intro t0 t1)
          clear P0 P1 t0 t1 hr2
          generalize cmpE x0 y = cv at *
          go_upto_region 4 with (fail)
          refine region_quiet_ext (by kernel_rfl) (by kernel_rfl) ?_
          repeat (quiet_step (first | (go_at_call 18; exact ExtBy.call (HC.out _))))
          refine wpQuiet_nil ?_
          rintro w' ⟨pp, rfl⟩
          have HR5 := Lib.hid (HR2.out.ext pp.x)
          have HK5 := Lib.hid (HK.out.trans (ext_nG g pp.x))
          clear HC p0 p1 p2 r0 r1 r2 gl HR HR2 HK
          generalize pp.w = w5 at *
          clear pp
          by_cases hcv : cv < 0
          · have hlt : ltE x0 y = true := by rw [← HCE.out]; exact hcv
            have HAL2 := Lib.hid (show ∀ s ∈ S.drop t, ltE x0 s = true by
              rw [eD]
              intro s hs
              rcases List.mem_cons.1 hs with rfl | hs
              · exact hlt
              · exact HAL.out s hs)
            obtain ⟨p0, p1, p2⟩ := HR5.out.at HT.out.1
            obtain ⟨r0, r1, r2⟩ := HR5.out.at HT.out.2
            have gl := HR5.out.lt
            have hz := HR5.out.soft
            have hij : j1 < j1 + 1 := Nat.lt_succ_self _
            have HSW := Lib.hid (HR5.out.swap HT.out.2 HT.out.1)
            have HE := Lib.hid (show ((((P ++ S.take t) ++ y :: x0 :: (S.drop (t + 1) ++ D ++ R)).set (j1 + 1) y).set j1 x0) = P ++ S.take t ++ x0 :: (S.drop t ++ D) ++ R by
              rw [← lA, set_two, eD]
              simp)
            clear hlt eT eD lA
            go_upto_region 6 with (fail)
            go_region
            clear p0 p1 p2 r0 r1 r2 gl hz
            obtain ⟨w9, hw9⟩ : ∃ w9, w9 = World.drew (putG (putG w5 g (off + (j1 + 1) * 3) y) g (off + j1 * 3) x0) := ⟨_, rfl⟩
            have HRN := Lib.hid (show RowG g off (P ++ S.take t ++ x0 :: (S.drop t ++ D) ++ R) w9 by rw [← HE.out, hw9]; exact HSW.out.1.ext (Ext.drew _))
            have HKN := Lib.hid (show Kept (nG g) w w9 by rw [hw9]; exact (HK5.out.trans HSW.out.2).trans (ext_nG g (Ext.drew _)))
            unfold putG at hw9
            rw [← hw9]
            clear hw9 HSW HE HR5 HK5 HT
            go_wp2_with fail
            go_roundg t
            case measure => omega
            case rel => exact ⟨j1, t, rfl, by omega, HJ.out.2, by go_num, HAL2.out, HRN.out, HKN.out⟩
          · have hlt : ltE x0 y = false := by
              cases h : ltE x0 y with
              | false => rfl
              | true => rw [← HCE.out] at h; exact absurd h hcv
            have HE := Lib.hid (show mgS ltE S [x0] = S.take (t + 1) ++ x0 :: S.drop (t + 1) from ins_end swoE HSO.out x0 (t + 1) HAL.out (.inr ⟨y, HY.out, hlt⟩))
            have HRN := Lib.hid (show RowG g off (P ++ soS ltE (X.take (q + 1)) ++ X.drop (q + 1) ++ R) w5 by
              have h := HR5.out
              rw [HNX.out, HE.out, ← HD.out, eT]
              simpa using h)
            clear hlt eT eD lA HE HT HR5
            go_wp2_with fail
            go_roundg (X.length - q)
            case measure => have := HQ.out; omega
            case rel => exact ⟨i + 1, q + 1, by have := HQ.out; omega, by have := HQ.out; omega, by have := HQ.out; omega, by go_num, HRN.out, HK5.out⟩
    · have hqx : X.length ≤ q := by have := HB.out; have := HQ.out; omega
      have z : ¬ (i : Int) < (b : Int) := by omega
      have HE := Lib.hid (show RowG g off (P ++ soS ltE X ++ R) wr by
        have h := HR.out
        rw [List.take_of_length_le hqx, List.drop_of_length_le hqx, List.append_nil] at h
        exact h)
      go_wp2_with fail
      go_end0
      exact ⟨rfl, by rw [HF.out]; exact HE.out, HK.out⟩
end
end Go.Proofs.YtkljdpjdlccidaaDoor
