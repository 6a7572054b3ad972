/- slices.rotateCmpFunc at entries. -/
import Derived.Test.YtkljdpjdlccidaaDoorGsC
namespace Go.Proofs.YtkljdpjdlccidaaDoor
open Go.RowKit Go.Shelf
attribute [local go_sem] Oper.semAt_some
theorem swapL_ok {g off c N : Nat} {P A M B R : List En} {w : World} {ia ib ic : Int} (h : RowG g off (P ++ A ++ M ++ B ++ R) w) (hN : (P ++ A ++ M ++ B ++ R).length = N) (hl : N ≤ 1000) (hAB : A.length = B.length) (ha : ia = P.length) (hb : ib = P.length + A.length + M.length) (hc : ic = A.length) (fv : Value) : Calls Tryd.prog 100 #[.slice (some ⟨g, off, none⟩) N c, .int .i64 ia, .int .i64 ib, .int .i64 ic, fv] w fun e w' => e = .returned (.tuple #[]) ∧ RowG g off (P ++ B ++ M ++ A ++ R) w' ∧ Kept (nG g) w w' := by
  subst hN ha hc
  obtain rfl : ib = ((P.length + A.length + M.length : Nat) : Int) := by rw [hb]; simp
  have := swap_ok (c := c) h P.length (P.length + A.length + M.length) A.length fv (by omega) (by simp; omega) hl
  rw [swR_swap P A M B R hAB] at this
  exact this
set_option maxRecDepth 100000 in
set_option maxHeartbeats 2000000 in
theorem rotate_ok {g off c N : Nat} {P X Y R : List En} {w : World} {ia im ib : Int} (h : RowG g off (P ++ X ++ Y ++ R) w) (hN : (P ++ X ++ Y ++ R).length = N) (hl : N ≤ 1000) (hX : 0 < X.length) (hY : 0 < Y.length) (ha : ia = P.length) (hm : im = P.length + X.length) (hb : ib = P.length + X.length + Y.length) (fv : Value) : Calls Tryd.prog 82 #[.slice (some ⟨g, off, none⟩) N c, .int .i64 ia, .int .i64 im, .int .i64 ib, fv] w fun e w' => e = .returned (.tuple #[]) ∧ RowG g off (P ++ Y ++ X ++ R) w' ∧ Kept (nG g) w w' := by
  have H0 := Lib.hid h
  have HN := Lib.hid hN
  simp only [List.length_append] at hN
  obtain ⟨x, hx⟩ : ∃ x, x = X.length := ⟨_, rfl⟩
  obtain ⟨y, hy⟩ : ∃ y, y = Y.length := ⟨_, rfl⟩
  obtain ⟨p, hp⟩ : ∃ p, p = P.length := ⟨_, rfl⟩
  obtain ⟨m, hm'⟩ : ∃ m, m = p + x := ⟨_, rfl⟩
  obtain rfl : ia = (p : Int) := by rw [ha, hp]
  obtain rfl : im = (m : Int) := by rw [hm, hm', hp, hx]; simp
  obtain rfl : ib = ((m + y : Nat) : Int) := by rw [hb, hm', hp, hx, hy]; simp
  have HX := Lib.hid hx
  have HY := Lib.hid hy
  have HP := Lib.hid hp
  have hm1 : m + y ≤ N := by omega
  have hx1 : 0 < x := by omega
  have hy1 : 0 < y := by omega
  have zx : (m : Int) - (p : Int) = (x : Int) := by omega
  have zy : ((m + y : Nat) : Int) - (m : Int) = (y : Int) := by omega
  rw [show ((m + y : Nat) : Int) = (m : Int) + (y : Int) by simp] at zy ⊢
  have HM := Lib.hid hm'
  clear h hN hX hY ha hm hb hx hy hp hm'
  go_enter Tryd.func82, Tryd.ntmps82
  go_upto_region 2 with (fail)
  clear zx zy
  go_loopg [10, 11] (x + y) (fun k v10 v11 wr => ∃ (i j : Nat) (P' X' Y' R' : List En), i + j ≤ k ∧ v10 = .int .i64 i ∧ v11 = .int .i64 j ∧ 0 < i ∧ 0 < j ∧ X'.length = i ∧ Y'.length = j ∧ P'.length + i = m ∧ m + j ≤ N ∧ P' ++ Y' ++ X' ++ R' = P ++ Y ++ X ++ R ∧ RowG g off (P' ++ X' ++ Y' ++ R') wr ∧ Kept (nG g) w wr)
  case atStart => exact ⟨x, y, P, X, Y, R, Nat.le_refl _, by first | rfl | go_num, by first | rfl | go_num, hx1, hy1, HX.out.symm, HY.out.symm, by rw [← HP.out]; exact HM.out.symm, hm1, rfl, H0.out, Kept.refl _ _⟩
  case round =>
    obtain ⟨i, j, P', X', Y', R', hk, rfl, rfl, hi, hj, lX, lY, lP, hmj, ht, hr, hkp⟩ := hrel
    have hlen : (P' ++ X' ++ Y' ++ R').length = N := by
      have h1 := congrArg List.length ht
      have h2 := HN.out
      simp only [List.length_append] at h1 h2 ⊢
      omega
    have HK := Lib.hid hkp
    have HT := Lib.hid ht
    have HKK := Lib.hid hk
    clear hkp ht hk
    rcases Nat.lt_trichotomy i j with hij | hij | hij
    · have z1 : ((i : Int) != (j : Int)) = true := by simp; omega
      have z2 : ¬ (j : Int) < (i : Int) := by omega
      have e1 : Y' = Y'.take (j - i) ++ Y'.drop (j - i) := (List.take_append_drop _ _).symm
      obtain ⟨M, hM⟩ : ∃ M, M = Y'.take (j - i) := ⟨_, rfl⟩
      obtain ⟨B, hB⟩ : ∃ B, B = Y'.drop (j - i) := ⟨_, rfl⟩
      rw [← hM, ← hB] at e1
      have lM : M.length = j - i := by rw [hM, List.length_take]; omega
      have lB : B.length = i := by rw [hB, List.length_drop]; omega
      subst e1
      clear hM hB lY
      have hr' : RowG g off (P' ++ X' ++ M ++ B ++ R') wr := by simpa using hr
      have HC := Lib.hid (fun (q1 q2 q3 : Int) (e1 : q1 = P'.length) (e2 : q2 = P'.length + X'.length + M.length) (e3 : q3 = X'.length) => swapL_ok (c := c) hr' (by simpa using hlen) hl (lX.trans lB.symm) e1 e2 e3 fv)
      have HL := Lib.hid (And.intro lX (And.intro lM (And.intro lB lP)))
      clear hr hr' hlen lX lM lB lP
      go_wp2_with (go_at_call 100; refine (HC.out _ _ _ (by have := HL.out; omega) (by have := HL.out; omega) (by have := HL.out; omega)).mono ?_; rintro e w2 ⟨rfl, hr2, hk2⟩; have HR2 := Lib.hid hr2; have HK2 := Lib.hid (HK.out.trans hk2); clear hr2 hk2)
      go_roundg (gk - i)
      case measure => have := HKK.out; omega
      case rel => exact ⟨i, j - i, P', B, M, X' ++ R', by have := HKK.out; omega, rfl, by congr 1; omega, hi, by omega, HL.out.2.2.1, HL.out.2.1, HL.out.2.2.2, by omega, by rw [← HT.out]; simp, by simpa using HR2.out, HK2.out⟩
    · subst hij
      have z1 : ((i : Int) != (i : Int)) = false := by simp
      have hr' : RowG g off (P' ++ X' ++ [] ++ Y' ++ R') wr := by simpa using hr
      have HC := Lib.hid (fun (q1 q2 q3 : Int) (e1 : q1 = P'.length) (e2 : q2 = P'.length + X'.length + ([] : List En).length) (e3 : q3 = X'.length) => swapL_ok (c := c) hr' (by simpa using hlen) hl (lX.trans lY.symm) e1 e2 e3 fv)
      have him : i ≤ m := by omega
      have HL := Lib.hid (And.intro lX (And.intro lY lP))
      clear hr hr' hlen lX lY lP
      go_wp2_with (go_at_call 100; refine (HC.out _ _ _ (by have := HL.out; omega) (by have := HL.out; simp only [List.length_nil]; omega) (by have := HL.out; omega)).mono ?_; rintro e w2 ⟨rfl, hr2, hk2⟩; have HR2 := Lib.hid hr2; have HK2 := Lib.hid (HK.out.trans hk2); clear hr2 hk2)
      go_end0
      exact ⟨rfl, by have h := HR2.out; rw [List.append_nil] at h; rw [← HT.out]; exact h, HK2.out⟩
    · have z1 : ((i : Int) != (j : Int)) = true := by simp; omega
      have z2 : (j : Int) < (i : Int) := by omega
      have e1 : X' = X'.take j ++ X'.drop j := (List.take_append_drop _ _).symm
      obtain ⟨A, hA⟩ : ∃ A, A = X'.take j := ⟨_, rfl⟩
      obtain ⟨M, hM⟩ : ∃ M, M = X'.drop j := ⟨_, rfl⟩
      rw [← hM, ← hA] at e1
      have lA : A.length = j := by rw [hA, List.length_take]; omega
      have lM : M.length = i - j := by rw [hM, List.length_drop]; omega
      subst e1
      clear hM hA lX
      have hr' : RowG g off (P' ++ A ++ M ++ Y' ++ R') wr := by simpa using hr
      have HC := Lib.hid (fun (q1 q2 q3 : Int) (e1 : q1 = P'.length) (e2 : q2 = P'.length + A.length + M.length) (e3 : q3 = A.length) => swapL_ok (c := c) hr' (by simpa using hlen) hl (lA.trans lY.symm) e1 e2 e3 fv)
      have him : i ≤ m := by omega
      have HL := Lib.hid (And.intro lA (And.intro lM (And.intro lY lP)))
      clear hr hr' hlen lA lM lY lP
      go_wp2_with (go_at_call 100; refine (HC.out _ _ _ (by have := HL.out; omega) (by have := HL.out; omega) (by have := HL.out; omega)).mono ?_; rintro e w2 ⟨rfl, hr2, hk2⟩; have HR2 := Lib.hid hr2; have HK2 := Lib.hid (HK.out.trans hk2); clear hr2 hk2)
      go_roundg (gk - j)
      case measure => have := HKK.out; omega
      case rel => exact ⟨i - j, j, P' ++ Y', M, A, R', by have := HKK.out; omega, by congr 1; omega, rfl, by omega, hj, HL.out.2.1, HL.out.1, by have := HL.out; rw [List.length_append]; omega, by omega, by rw [← HT.out]; simp, by simpa using HR2.out, HK2.out⟩
end Go.Proofs.YtkljdpjdlccidaaDoor
