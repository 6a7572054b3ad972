/- slices.symMergeCmpFunc at entries. Written by genGsH.py. -/
import Derived.Test.YtkljdpjdlccidaaDoorGsG
import Derived.Deep.DeepCutAuto
import Derived.Deep.CutRange
namespace Go.Proofs.YtkljdpjdlccidaaDoor
open Go.RowKit Go.Shelf
attribute [local go_sem] Oper.semAt_some
/-- What symMerge does, to stretches of so many members. -/
def SymC (n : Nat) : Prop := ∀ {g off c N : Nat} {P X Y R : List En} {w : World} {ia im ib : Int}, X.length + Y.length = n → 1 ≤ X.length → 1 ≤ Y.length → RowG g off (P ++ X ++ Y ++ R) w → (P ++ X ++ Y ++ R).length = N → N ≤ 1000 → SoS ltE X → SoS ltE Y → ia = P.length → im = P.length + X.length → ib = P.length + X.length + Y.length →
  Calls Tryd.prog 59 #[.slice (some ⟨g, off, none⟩) N c, .int .i64 ia, .int .i64 im, .int .i64 ib, .func (.func 18) #[] #[]] w fun e w' => e = .returned (.tuple #[]) ∧ RowG g off (P ++ mgS ltE X Y ++ R) w' ∧ Kept (nG g) w w'
section
attribute [local irreducible] wpQuiet
set_option maxRecDepth 100000 in
set_option maxHeartbeats 8000000 in
theorem symG_ok {n0 : Nat} (ih : ∀ k, k < n0 → SymC k) {g off c N : Nat} {P X Y R : List En} {w : World} {ia im ib : Int} (hn : X.length + Y.length = n0) (hX2 : 2 ≤ X.length) (hY2 : 2 ≤ Y.length) (h : RowG g off (P ++ X ++ Y ++ R) w) (hN : (P ++ X ++ Y ++ R).length = N) (hl : N ≤ 1000) (hX : SoS ltE X) (hY : SoS ltE Y) (ha : ia = P.length) (hm : im = P.length + X.length) (hb : ib = P.length + X.length + Y.length) :
    Calls Tryd.prog 59 #[.slice (some ⟨g, off, none⟩) N c, .int .i64 ia, .int .i64 im, .int .i64 ib, .func (.func 18) #[] #[]] w fun e w' => e = .returned (.tuple #[]) ∧ RowG g off (P ++ mgS ltE X Y ++ R) w' ∧ Kept (nG g) w w' := by
  have H0 := Lib.hid h
  have HN := Lib.hid hN
  simp only [List.length_append] at hN
  obtain ⟨p, hp⟩ : ∃ p, p = P.length := ⟨_, rfl⟩
  obtain ⟨x, hx⟩ : ∃ x, x = X.length := ⟨_, rfl⟩
  obtain ⟨y, hy⟩ : ∃ y, y = Y.length := ⟨_, rfl⟩
  obtain ⟨m, hm'⟩ : ∃ m, m = p + x := ⟨_, rfl⟩
  obtain ⟨b, hb'⟩ : ∃ b, b = m + y := ⟨_, rfl⟩
  obtain ⟨mid, hmid⟩ : ∃ mid, mid = (p + b) / 2 := ⟨_, rfl⟩
  obtain ⟨n, hnn⟩ : ∃ n, n = mid + m := ⟨_, rfl⟩
  obtain ⟨pv, hpv⟩ : ∃ pv, pv + 1 = n := ⟨n - 1, by omega⟩
  obtain rfl : ia = (p : Int) := by rw [ha, hp]
  obtain rfl : im = (m : Int) := by rw [hm, hm', hp, hx]; simp
  obtain rfl : ib = (b : Int) := by rw [hb, hb', hm', hp, hx, hy]; simp
  have hbN : b ≤ N := by omega
  have zma : (m : Int) - (p : Int) = (x : Int) := by omega
  have zx1 : ((x : Int) == 1) = false := by simp; omega
  have zbm : (b : Int) - (m : Int) = (y : Int) := by omega
  have zy1 : ((y : Int) == 1) = false := by simp; omega
  have zmid : ((p : Int) + (b : Int)) / 2 = (mid : Int) := by omega
  have zn : (mid : Int) + (m : Int) = (n : Int) := by omega
  have zpv : (n : Int) - 1 = (pv : Int) := by omega
  have hpN : p ≤ 1000 := by omega
  have hmN : m ≤ 1000 := by omega
  have hbN' : b ≤ 1000 := by omega
  have hmidN : mid ≤ 1000 := by omega
  have hnN : n ≤ 2000 := by omega
  have HXS := Lib.hid hX
  have HYS := Lib.hid hY
  have HIH := Lib.hid ih
  have HL := Lib.hid (And.intro hp (And.intro hx (And.intro hy (And.intro hm' (And.intro hb' (And.intro hmid (And.intro hnn (And.intro hpv (And.intro hn (And.intro hX2 (And.intro hY2 hN)))))))))))
  obtain ⟨F, hF⟩ : ∃ F, F = P ++ mgS ltE X Y ++ R := ⟨_, rfl⟩
  rw [← hF]
  have HF := Lib.hid hF
  obtain ⟨s0, r0, hs0⟩ : ∃ s0 r0 : Nat, (mid < m ∧ s0 + b = n ∧ r0 = mid) ∨ (m ≤ mid ∧ s0 = p ∧ r0 = m) := by
    by_cases q : mid < m
    · exact ⟨n - b, mid, .inl ⟨q, by omega, rfl⟩⟩
    · exact ⟨p, m, .inr ⟨by omega, rfl, rfl⟩⟩
  have HS := Lib.hid hs0
  have hsr : p ≤ s0 ∧ s0 ≤ r0 ∧ r0 ≤ m ∧ ∀ c, s0 ≤ c → c < r0 → m ≤ pv - c ∧ pv - c < b ∧ c ≤ pv := by
    rcases hs0 with ⟨q1, q2, q3⟩ | ⟨q1, q2, q3⟩
    · exact ⟨by omega, by omega, by omega, fun c h1 h2 => by omega⟩
    · exact ⟨by omega, by omega, by omega, fun c h1 h2 => by omega⟩
  have HSR := Lib.hid hsr
  clear h hN ha hb hm hp hx hy hm' hb' hmid hnn hpv hF hX hY ih hn hX2 hY2 hsr
  go_enter Tryd.func59, Tryd.ntmps59
  go_upto_region 27 with (fail)
  clear zma zx1 zbm zy1 zmid zn
  rcases hs0 with ⟨q1, q2, q3⟩ | ⟨q1, q2, q3⟩
  case' inl =>
    have zq : (mid : Int) < (m : Int) := by omega
    have zs0 : (n : Int) - (b : Int) = (s0 : Int) := by omega
    have HZ0 := Lib.hid (show Value.int .i64 (s0 : Int) = Value.int .i64 (s0 : Int) from rfl)
    have HZ1 := Lib.hid (show Value.int .i64 (mid : Int) = Value.int .i64 (r0 : Int) by rw [q3])
    clear q1 q2 q3
    go_upto_region 33 with (fail)
    clear zq zs0
  case' inr =>
    have zq : ¬ (mid : Int) < (m : Int) := by omega
    have HZ0 := Lib.hid (show Value.int .i64 (p : Int) = Value.int .i64 (s0 : Int) by rw [q2])
    have HZ1 := Lib.hid (show Value.int .i64 (m : Int) = Value.int .i64 (r0 : Int) by rw [q3])
    clear q1 q2 q3
    go_upto_region 33 with (fail)
    clear zq
  all_goals
    clear zpv
    go_loopg [20, 21, 23] r0 (fun k v20 v21 v23 wr => ∃ s r : Nat, s0 ≤ s ∧ s ≤ r ∧ r ≤ r0 ∧ r ≤ s + k ∧ v20 = .int .i64 s ∧ v21 = .int .i64 r ∧ (s = s0 ∨ ∃ x y, X[s - 1 - p]? = some x ∧ Y[n - s - m]? = some y ∧ ltE y x = false) ∧ (r = r0 ∨ ∃ x y, X[r - p]? = some x ∧ Y[n - 1 - r - m]? = some y ∧ ltE y x = true) ∧ RowG g off (P ++ X ++ Y ++ R) wr ∧ Kept (nG g) w wr)
    case atStart => exact ⟨s0, r0, Nat.le_refl _, HSR.out.2.1, Nat.le_refl _, by omega, (by first | exact HZ0.out | rfl), (by first | exact HZ1.out | rfl), .inl rfl, .inl rfl, H0.out, Kept.refl _ _⟩
    case round =>
      clear HZ0 HZ1
      obtain ⟨s, r, hs, hsr, hr0, hk, rfl, rfl, hu, hv, hr, hkp⟩ := hrel
      have HR := Lib.hid hr
      have HK := Lib.hid hkp
      have HU := Lib.hid hu
      have HV := Lib.hid hv
      have HQ := Lib.hid (And.intro hs (And.intro hsr (And.intro hr0 hk)))
      clear hr hkp hu hv
      by_cases hlt : s < r
      · as_aux_lemma =>
          have z : (s : Int) < (r : Int) := by omega
          have hsN : s ≤ 1000 := by have := HSR.out; omega
          have hrN : r ≤ 1000 := by have := HSR.out; omega
          obtain ⟨c', hc⟩ : ∃ c, c = (s + r) / 2 := ⟨_, rfl⟩
          have hc1 : s ≤ c' ∧ c' < r := by omega
          obtain ⟨i1, i2, i3⟩ := HSR.out.2.2.2 c' (by omega) (by omega)
          obtain ⟨e1, he1⟩ : ∃ e, e = pv - c' := ⟨_, rfl⟩
          obtain ⟨t, ht⟩ : ∃ t, t = c' - p := ⟨_, rfl⟩
          obtain ⟨q, hq⟩ : ∃ q, q = e1 - m := ⟨_, rfl⟩
          have hL := HL.out
          have hS := HSR.out
          have htX : t < X.length ∧ c' = p + t := by omega
          have hqY : q < Y.length ∧ e1 = m + q := by omega
          obtain ⟨xc, hxc⟩ : ∃ x, X[t]? = some x := ⟨_, List.getElem?_eq_getElem htX.1⟩
          obtain ⟨yc, hyc⟩ : ∃ y, Y[q]? = some y := ⟨_, List.getElem?_eq_getElem hqY.1⟩
          have HT := Lib.hid (And.intro hc1 (And.intro he1 (And.intro ht (And.intro hq (And.intro htX (And.intro hqY i3))))))
          have zc : ((s : Int) + (r : Int)) / 2 = (c' : Int) := by omega
          have ze : (pv : Int) - (c' : Int) = (e1 : Int) := by omega
          have zeN : (e1 : Int) < (N : Int) := by omega
          have zcN : (c' : Int) < (N : Int) := by omega
          have zw : IntKind.i64.wrap (e1 : Int) = (e1 : Int) := wrapN (by omega) (by omega)
          have tx : (P ++ X ++ Y ++ R)[c']? = some xc := by
            rw [List.append_assoc, List.append_assoc, List.getElem?_append_right (by omega), List.getElem?_append_left (by omega), show c' - P.length = t by omega]
            exact hxc
          have ty : (P ++ X ++ Y ++ R)[e1]? = some yc := by
            rw [List.getElem?_append_left (by simp only [List.length_append]; omega), List.getElem?_append_right (by simp only [List.length_append]; omega), show e1 - (P ++ X).length = q by simp only [List.length_append]; omega]
            exact hyc
          have HXC := Lib.hid hxc
          have HYC := Lib.hid hyc
          clear hs hsr hr0 hk hlt hc hc1 he1 ht hq htX hqY hxc hyc i1 i2 i3 hL hS
          go_upto_region 35 with (fail)
          try rw [zc]
          clear zc
          have HC := Lib.hid (fun (pp : ExtBy wr) => cmpE_ok yc xc pp.w)
          unfold En.v at HC
          have HCE := Lib.hid (cmpE_lt yc xc)
          have P0 := fun (pp : ExtBy wr) => (HR.out.ext pp.x).at ty
          have P1 := fun (pp : ExtBy wr) => (HR.out.ext pp.x).at tx
          have p0 := fun pp => (P0 pp).1
          have p1 := fun pp => (P0 pp).2.1
          have p2 := fun pp => (P0 pp).2.2
          have r0 := fun pp => (P1 pp).1
          have r1 := fun pp => (P1 pp).2.1
          have r2 := fun pp => (P1 pp).2.2
          have gl := fun (pp : ExtBy wr) => (HR.out.ext pp.x).lt
          clear P0 P1
          generalize cmpE yc xc = cv at *
          refine region_quiet_ext (by kernel_rfl) (by kernel_rfl) ?_
          repeat (quiet_step (first | (go_at_call 18; exact ExtBy.call (HC.out _))))
          refine wpQuiet_nil ?_
          rintro w' ⟨pp, rfl⟩
          have HR5 := Lib.hid (HR.out.ext pp.x)
          have HK5 := Lib.hid (HK.out.trans (ext_nG g pp.x))
          clear HC p0 p1 p2 r0 r1 r2 gl HR HK
          generalize pp.w = w5 at *
          clear pp
          obtain ⟨bb, hbb⟩ : ∃ bb, bb = decide (cv < 0) := ⟨_, rfl⟩
          rw [← hbb]
          have HL1 := Lib.hid (fun (h : bb = true) => show ltE yc xc = true by rw [← HCE.out]; rw [h] at hbb; exact of_decide_eq_true hbb.symm)
          have HL0 := Lib.hid (fun (h : bb = false) => show ltE yc xc = false by
            cases q : ltE yc xc with
            | false => rfl
            | true => rw [← HCE.out] at q; rw [h] at hbb; exact absurd q (of_decide_eq_false hbb.symm))
          clear hbb HCE
          cases bb
          case true =>
            have HLT := Lib.hid (HL1.out rfl)
            go_wp2_with fail
            go_roundg (c' - s)
            case measure => have := HQ.out; have := HT.out; omega
            case rel => exact ⟨s, c', HQ.out.1, by have := HT.out; omega, by have := HQ.out; have := HT.out; omega, by omega, rfl, rfl, HU.out, .inr ⟨xc, yc, by rw [← HT.out.2.2.1]; exact HXC.out, by rw [show n - 1 - c' - m = q by have := HT.out; have := HL.out; omega]; exact HYC.out, HLT.out⟩, HR5.out, HK5.out⟩
          case false =>
            have HLT := Lib.hid (HL0.out rfl)
            go_wp2_with fail
            go_roundg (r - (c' + 1))
            case measure => have := HQ.out; have := HT.out; omega
            case rel => exact ⟨c' + 1, r, by have := HQ.out; have := HT.out; omega, by have := HT.out; omega, HQ.out.2.2.1, by omega, by go_num, rfl, .inr ⟨xc, yc, by rw [show c' + 1 - 1 - p = t by have := HT.out; omega]; exact HXC.out, by rw [show n - (c' + 1) - m = q by have := HT.out; have := HL.out; omega]; exact HYC.out, HLT.out⟩, HV.out, HR5.out, HK5.out⟩
      · as_aux_lemma =>
          have hsr' : r = s := by omega
          subst hsr'
          obtain ⟨e, he⟩ : ∃ e, r + e = n := ⟨n - r, by have := HL.out; have := HSR.out; omega⟩
          have ze : (n : Int) - (r : Int) = (e : Int) := by omega
          have hL := HL.out
          have hS := HSR.out
          have hSS := HS.out
          have hR : p ≤ r ∧ r ≤ m ∧ m ≤ e ∧ e ≤ b ∧ r ≤ mid ∧ mid ≤ e ∧ e - m = mid - r ∧ e - mid = m - r := by
            rcases hSS with ⟨q1, q2, q3⟩ | ⟨q1, q2, q3⟩ <;> omega
          have HM1 := Lib.hid (show mgS ltE X Y = mgS ltE (X.take (r - p)) (Y.take (e - m)) ++ mgS ltE (X.drop (r - p)) (Y.drop (e - m)) from sym_split swoE HXS.out HYS.out (r - p) (e - m)
            (by
              rcases HU.out with q | ⟨x1, y1, q1, q2, q3⟩
              · rcases hSS with ⟨q1, q2, q3⟩ | ⟨q1, q2, q3⟩
                · right; left; omega
                · left; omega
              · right; right
                refine ⟨x1, y1, ?_, ?_, q3⟩
                · rw [show r - p - 1 = r - 1 - p by omega]; exact q1
                · rw [show e - m = n - r - m by omega]; exact q2)
            (by
              rcases HV.out with q | ⟨x1, y1, q1, q2, q3⟩
              · rcases hSS with ⟨q1, q2, q3⟩ | ⟨q1, q2, q3⟩
                · right; left; omega
                · left; omega
              · right; right
                refine ⟨x1, y1, q1, ?_, q3⟩
                rw [show e - m - 1 = n - 1 - r - m by omega]; exact q2))
          have HXS1 := Lib.hid (HXS.out.take (r - p))
          have HXS2 := Lib.hid (HXS.out.drop (r - p))
          have HYS1 := Lib.hid (HYS.out.take (e - m))
          have HYS2 := Lib.hid (HYS.out.drop (e - m))
          have hx1 : (X.take (r - p)).length = r - p := by rw [List.length_take]; omega
          have hx2 : (X.drop (r - p)).length = m - r := by rw [List.length_drop]; omega
          have hy1 : (Y.take (e - m)).length = e - m := by rw [List.length_take]; omega
          have hy2 : (Y.drop (e - m)).length = b - e := by rw [List.length_drop]; omega
          have eX := (List.take_append_drop (r - p) X)
          have eY := (List.take_append_drop (e - m) Y)
          have HRW := HR.out
          have hlen := HN.out
          rw [← eX, ← eY] at HRW hlen
          obtain ⟨L1, hL1⟩ : ∃ L, L = X.take (r - p) := ⟨_, rfl⟩
          obtain ⟨L2, hL2⟩ : ∃ L, L = X.drop (r - p) := ⟨_, rfl⟩
          obtain ⟨R1, hR1⟩ : ∃ L, L = Y.take (e - m) := ⟨_, rfl⟩
          obtain ⟨R2, hR2⟩ : ∃ L, L = Y.drop (e - m) := ⟨_, rfl⟩
          rw [← hL1, ← hL2, ← hR1, ← hR2] at HM1 HRW hlen
          rw [← hL1] at HXS1 hx1
          rw [← hL2] at HXS2 hx2
          rw [← hR1] at HYS1 hy1
          rw [← hR2] at HYS2 hy2
          have hlen2 : P.length + L1.length + L2.length + R1.length + R2.length + R.length = N := by
            simp only [List.length_append] at hlen; omega
          have HR0 := Lib.hid (show RowG g off (P ++ L1 ++ L2 ++ R1 ++ (R2 ++ R)) wr by simpa using HRW)
          have HLN := Lib.hid (And.intro hx1 (And.intro hx2 (And.intro hy1 (And.intro hy2 (And.intro hlen2 (And.intro hR (And.intro he hL)))))))
          have hrN : r ≤ 1000 := by omega
          have heN : e ≤ 1000 := by omega
          clear hs hsr hr0 hk hlt he hL hS hSS hR hx1 hx2 hy1 hy2 eX eY HRW hlen hL1 hL2 hR1 hR2 hlen2 HU HV HR HQ HS HSR H0 HN HXS HYS
          go_upto_region 39 with fail
          clear ze
          go_upto_region 39 with fail
          go_cut [185] (fun v185 wx => v185 = .bool (decide (r < m) && decide (m < e)) ∧ wr = wx)
          case first =>
            as_aux_lemma =>
              by_cases q1 : r < m
              · have z1 : (r : Int) < (m : Int) := by omega
                go_wp2_with fail
                go_meet
                case rel => exact ⟨by simp [q1], rfl⟩
              · have z1 : ¬ (r : Int) < (m : Int) := by omega
                have z2 : decide ((r : Int) < (m : Int)) = false := by simp; omega
                go_wp2_with fail
                go_meet
                case rel => exact ⟨by simp [q1], rfl⟩
          case rest =>
          obtain ⟨rfl, rfl⟩ := hcut
          obtain ⟨bq, hbq⟩ : ∃ bq, bq = (decide (r < m) && decide (m < e)) := ⟨_, rfl⟩
          rw [← hbq]
          go_upto_if 185 with fail
          go_cut [] (fun wx => RowG g off (P ++ L1 ++ R1 ++ (L2 ++ R2 ++ R)) wx ∧ Kept (nG g) w wx)
          case first =>
            as_aux_lemma =>
              cases bq with
              | false =>
                have HE := Lib.hid (show P ++ L1 ++ L2 ++ R1 ++ (R2 ++ R) = P ++ L1 ++ R1 ++ (L2 ++ R2 ++ R) by
                  have hl := HLN.out
                  rcases Bool.and_eq_false_iff.1 hbq.symm with q | q
                  · have q := of_decide_eq_false q
                    rw [List.length_eq_zero_iff.1 (show L2.length = 0 by omega)]; simp
                  · have q := of_decide_eq_false q
                    rw [List.length_eq_zero_iff.1 (show R1.length = 0 by omega)]; simp)
                clear hbq
                go_wp2_with fail
                go_meet
                case rel => exact ⟨by rw [← HE.out]; exact HR0.out, HK.out⟩
              | true =>
                have q := Bool.and_eq_true_iff.1 hbq.symm
                have q1 := of_decide_eq_true q.1
                have q2 := of_decide_eq_true q.2
                have hl1 := HLN.out
                have HC := Lib.hid (rotate_ok (c := c) (P := P ++ L1) (X := L2) (Y := R1) (R := R2 ++ R) (ia := (r : Int)) (im := (m : Int)) (ib := (e : Int)) HR0.out (by simp only [List.length_append]; omega) hl (by omega) (by omega) (by simp only [List.length_append]; omega) (by simp only [List.length_append]; omega) (by simp only [List.length_append]; omega) (.func (.func 18) #[] #[]))
                clear hbq q q1 q2 hl1
                go_wp2_with (go_at_call 82; refine HC.out.mono ?_; rintro e9 w2 ⟨rfl, hr2, hk2⟩; have HR2 := Lib.hid hr2; have HK2 := Lib.hid (HK.out.trans hk2); clear hr2 hk2)
                go_meet
                case rel => exact ⟨by have h := HR2.out; simpa using h, HK2.out⟩
          case rest =>
          have HR0' := Lib.hid hcut.1
          have HK' := Lib.hid hcut.2
          clear hcut HR0 HK hbq
          generalize wc = wr at *
          go_upto_region 41 with fail
          go_cut [199] (fun v199 wx => v199 = .bool (decide (p < r) && decide (r < mid)) ∧ wr = wx)
          case first =>
            as_aux_lemma =>
              by_cases q1 : p < r
              · have z1 : (p : Int) < (r : Int) := by omega
                go_wp2_with fail
                go_meet
                case rel => exact ⟨by simp [q1], rfl⟩
              · have z1 : ¬ (p : Int) < (r : Int) := by omega
                have z2 : decide ((p : Int) < (r : Int)) = false := by simp; omega
                go_wp2_with fail
                go_meet
                case rel => exact ⟨by simp [q1], rfl⟩
          case rest =>
          obtain ⟨rfl, rfl⟩ := hcut
          obtain ⟨bq, hbq⟩ : ∃ bq, bq = (decide (p < r) && decide (r < mid)) := ⟨_, rfl⟩
          rw [← hbq]
          go_upto_if 199 with fail
          go_cut [] (fun wx => RowG g off (P ++ mgS ltE L1 R1 ++ (L2 ++ R2 ++ R)) wx ∧ Kept (nG g) w wx)
          case first =>
            as_aux_lemma =>
              cases bq with
              | false =>
                have HE := Lib.hid (show P ++ L1 ++ R1 ++ (L2 ++ R2 ++ R) = P ++ mgS ltE L1 R1 ++ (L2 ++ R2 ++ R) by
                  have hl := HLN.out
                  rcases Bool.and_eq_false_iff.1 hbq.symm with q | q
                  · have q := of_decide_eq_false q
                    rw [List.length_eq_zero_iff.1 (show L1.length = 0 by omega), nil_mgS]; simp
                  · have q := of_decide_eq_false q
                    rw [List.length_eq_zero_iff.1 (show R1.length = 0 by omega), mgS_nil]; simp)
                clear hbq
                go_wp2_with fail
                go_meet
                case rel => exact ⟨by rw [← HE.out]; exact HR0'.out, HK'.out⟩
              | true =>
                have q := Bool.and_eq_true_iff.1 hbq.symm
                have q1 := of_decide_eq_true q.1
                have q2 := of_decide_eq_true q.2
                have hl1 := HLN.out
                have HC := Lib.hid (HIH.out (L1.length + R1.length) (by omega) (c := c) (P := P) (X := L1) (Y := R1) (R := L2 ++ R2 ++ R) (ia := (p : Int)) (im := (r : Int)) (ib := (mid : Int)) rfl (by omega) (by omega) HR0'.out (by simp only [List.length_append]; omega) hl HXS1.out HYS1.out (by omega) (by omega) (by omega))
                clear hbq q q1 q2 hl1
                go_wp2_with (go_at_call 59; refine HC.out.mono ?_; rintro e9 w2 ⟨rfl, hr2, hk2⟩; have HR2 := Lib.hid hr2; have HK2 := Lib.hid (HK'.out.trans hk2); clear hr2 hk2)
                go_meet
                case rel => exact ⟨HR2.out, HK2.out⟩
          case rest =>
          have HR1' := Lib.hid hcut.1
          have HK1' := Lib.hid hcut.2
          clear hcut HR0' HK' hbq
          generalize wc = wr at *
          go_upto_region 43 with fail
          go_cut [213] (fun v213 wx => v213 = .bool (decide (mid < e) && decide (e < b)) ∧ wr = wx)
          case first =>
            as_aux_lemma =>
              by_cases q1 : mid < e
              · have z1 : (mid : Int) < (e : Int) := by omega
                go_wp2_with fail
                go_meet
                case rel => exact ⟨by simp [q1], rfl⟩
              · have z1 : ¬ (mid : Int) < (e : Int) := by omega
                have z2 : decide ((mid : Int) < (e : Int)) = false := by simp; omega
                go_wp2_with fail
                go_meet
                case rel => exact ⟨by simp [q1], rfl⟩
          case rest =>
          obtain ⟨rfl, rfl⟩ := hcut
          obtain ⟨bq, hbq⟩ : ∃ bq, bq = (decide (mid < e) && decide (e < b)) := ⟨_, rfl⟩
          rw [← hbq]
          have HLM : Hid ((mgS ltE L1 R1).length = L1.length + R1.length) := Lib.hid (mgS_length _ _)
          cases bq with
          | false =>
            as_aux_lemma =>
              have HE := Lib.hid (show P ++ mgS ltE L1 R1 ++ (L2 ++ R2 ++ R) = F by
                have hl := HLN.out
                rw [HF.out, HM1.out]
                rcases Bool.and_eq_false_iff.1 hbq.symm with q | q
                · have q := of_decide_eq_false q
                  rw [List.length_eq_zero_iff.1 (show L2.length = 0 by omega), nil_mgS]; simp
                · have q := of_decide_eq_false q
                  rw [List.length_eq_zero_iff.1 (show R2.length = 0 by omega), mgS_nil]; simp)
              clear hbq
              go_wp2_with fail
              go_end0
              exact ⟨rfl, by rw [← HE.out]; exact HR1'.out, HK1'.out⟩
          | true =>
            as_aux_lemma =>
              have q := Bool.and_eq_true_iff.1 hbq.symm
              have q1 := of_decide_eq_true q.1
              have q2 := of_decide_eq_true q.2
              have hl1 := HLN.out
              have hlm := HLM.out
              have HC := Lib.hid (HIH.out (L2.length + R2.length) (by omega) (c := c) (P := P ++ mgS ltE L1 R1) (X := L2) (Y := R2) (R := R) (ia := (mid : Int)) (im := (e : Int)) (ib := (b : Int)) rfl (by omega) (by omega) (by have h := HR1'.out; simpa using h) (by simp only [List.length_append]; omega) hl HXS2.out HYS2.out (by simp only [List.length_append]; omega) (by simp only [List.length_append]; omega) (by simp only [List.length_append]; omega))
              clear hbq q q1 q2 hl1 hlm
              go_wp2_with (go_at_call 59; refine HC.out.mono ?_; rintro e9 w2 ⟨rfl, hr2, hk2⟩; have HR2 := Lib.hid hr2; have HK2 := Lib.hid (HK1'.out.trans hk2); clear hr2 hk2)
              go_end0
              exact ⟨rfl, by rw [HF.out, HM1.out]; have h := HR2.out; simpa using h, HK2.out⟩
end
end Go.Proofs.YtkljdpjdlccidaaDoor
