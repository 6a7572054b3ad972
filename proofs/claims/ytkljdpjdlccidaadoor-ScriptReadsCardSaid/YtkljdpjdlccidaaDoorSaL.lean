/- What the document reads of a word that is a number. -/
import Derived.Test.YtkljdpjdlccidaaDoorSaJ
namespace Go.Proofs.YtkljdpjdlccidaaDoor
open Go.RowKit Go.Shelf
attribute [local go_sem] Oper.semAt_some
theorem str_at (l : List UInt8) (k : Nat) (h : k < ByteArray.size ⟨l.toArray⟩) : (((⟨l.toArray⟩ : ByteArray)[k]'h).toNat : Int) = chr l k := by
  unfold chr
  have hk : k < l.length := by simpa [ByteArray.size] using h
  rw [List.getElem?_eq_getElem hk]
  rfl
attribute [local go_sem] str_at
theorem wrapU (n : Int) : IntKind.u64.wrap n = n % 18446744073709551616 := rfl
theorem accStep (a x : Nat) : IntKind.u64.wrap (IntKind.u64.wrap (10 * (a : Int)) + ((x : Int) - 48) % 256) = (((10 * a + (x + 208) % 256) % 18446744073709551616 : Nat) : Int) := by
  rw [wrapU, wrapU]
  omega
theorem sgNeg (a : Nat) (h : a < 18446744073709551616) : wrap64 (IntKind.u64.wrap (-(a : Int))) = sg64 ((18446744073709551616 - a) % 18446744073709551616) := by
  rw [wrapU]
  unfold wrap64 sg64
  split <;> omega
theorem sgPos (a : Nat) (h : a < 18446744073709551616) : wrap64 (a : Int) = sg64 a := by
  unfold wrap64 sg64
  split <;> omega
theorem ne45 {c : UInt8} (h : ¬ c = 45) : ((c.toNat : Int) != 45) = true := by
  have : ¬ (c.toNat : Int) = 45 := fun e => h (by
    apply UInt8.toNat_inj.1
    have : c.toNat = 45 := by omega
    rw [this]; rfl)
  simpa using this
theorem eq45 {c : UInt8} (h : ¬ c = 45) : ((c.toNat : Int) == 45) = false := by
  have := ne45 h
  simpa [bne] using this
set_option maxRecDepth 100000 in
set_option maxHeartbeats 2000000 in
theorem value_ok (s : List UInt8) (hl : s.length ≤ 10000) (w : World) : Calls Tryd.prog 46 #[.string ⟨s.toArray⟩] w fun e w' => e = .returned (.int .i64 (valR s)) ∧ Ext w w' := by
  have hsz := str_size s
  go_enter Tryd.func46, Tryd.ntmps46
  go_upto_region 3 with (fail)
  go_loopg [3, 4] s.length (fun k v3 v4 wr => ∃ i : Nat, i + k = s.length ∧ v3 = .int .u64 (accR 0 (s.take i) : Nat) ∧ v4 = .int .i64 i ∧ Ext w wr)
  case atStart => exact ⟨0, by omega, rfl, rfl, Ext.refl _⟩
  case round =>
    obtain ⟨i, hik, rfl, rfl, hx⟩ := hrel
    by_cases hlt : i < s.length
    · obtain ⟨c, hc⟩ : ∃ c, s[i]? = some c := ⟨s[i], List.getElem?_eq_getElem hlt⟩
      have HT := Lib.hid (show s.take (i + 1) = s.take i ++ [c] by rw [List.take_add_one, hc]; rfl)
      have HC := Lib.hid hc
      have HIK := Lib.hid hik
      have HX := Lib.hid hx
      have z : (i : Int) < (s.length : Int) := by omega
      have HA := Lib.hid (show accR 0 (s.take (i + 1)) = if c = 45 then accR 0 (s.take i) else (10 * accR 0 (s.take i) + (c.toNat + 208) % 256) % 18446744073709551616 by
        rw [HT.out, accR_append]
        simp only [accR])
      obtain ⟨x, hx0⟩ : ∃ x : Nat, x = c.toNat := ⟨_, rfl⟩
      have hg : chr s i = x := by unfold chr; rw [hc, hx0]; rfl
      have hx256 : x < 256 := by rw [hx0]; exact c.toNat_lt
      have HXC := Lib.hid hx0
      clear hx0
      have HB := Lib.hid (accR_lt (s.take i) 0 (by decide))
      generalize accR 0 (s.take i) = a at *
      by_cases h45 : c = 45
      · have z45 : ((x : Int) != 45) = false := by rw [HXC.out, h45]; rfl
        go_wp2_with fail
        go_roundg (gk - 1)
        case measure => have := HIK.out; omega
        case rel => exact ⟨i + 1, by have := HIK.out; omega, by rw [HA.out, if_pos h45], by go_num, HX.out⟩
      · have z45 : ((x : Int) != 45) = true := by rw [HXC.out]; exact ne45 h45
        go_wp2_with fail
        go_roundg (gk - 1)
        case measure => have := HIK.out; omega
        case rel =>
          refine ⟨i + 1, by have := HIK.out; omega, ?_, by go_num, HX.out⟩
          rw [HA.out, if_neg h45, ← HXC.out, accStep a x]
    · have hi : i = s.length := by omega
      subst hi
      have HX := Lib.hid hx
      clear hx hik
      rw [List.take_length]
      have HB := Lib.hid (accR_lt s 0 (by decide))
      by_cases h0 : 0 < s.length
      · have hz : (0 : Int) < (s.length : Int) := by omega
        obtain ⟨c, hc⟩ : ∃ c, s[0]? = some c := ⟨s[0], List.getElem?_eq_getElem h0⟩
        have hh : s.head? = some c := by rw [List.head?_eq_getElem?]; exact hc
        have hg : chr s 0 = (c.toNat : Int) := by unfold chr; rw [hc]; rfl
        have HV := Lib.hid (show valR s = sg64 (if c = 45 then (18446744073709551616 - accR 0 s) % 18446744073709551616 else accR 0 s) by unfold valR; rw [hh]; simp)
        clear hh hc
        generalize accR 0 s = a at *
        by_cases h45 : c = 45
        · have z45 : ((c.toNat : Int) == 45) = true := by rw [h45]; rfl
          go_wp2_with fail
          go_ret
          refine ⟨?_, HX.out⟩
          rw [HV.out, if_pos h45, ← sgNeg a HB.out]
          rfl
        · have z45 : ((c.toNat : Int) == 45) = false := eq45 h45
          go_wp2_with fail
          go_ret
          refine ⟨?_, HX.out⟩
          rw [HV.out, if_neg h45, ← sgPos a HB.out]
          rfl
      · obtain rfl : s = [] := List.eq_nil_of_length_eq_zero (by omega)
        go_wp2_with fail
        go_ret
        refine ⟨?_, HX.out⟩
        have hv : valR [] = 0 := by decide
        have ha : wrap64 ((accR 0 [] : Nat) : Int) = 0 := by kernel_rfl
        rw [hv, ha]
        rfl
end Go.Proofs.YtkljdpjdlccidaaDoor
