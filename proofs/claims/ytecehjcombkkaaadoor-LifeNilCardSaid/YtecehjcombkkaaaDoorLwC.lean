/- The law's same. -/
import Derived.Test.YtecehjcombkkaaaDoorLwB
namespace Go.Proofs.YtecehjcombkkaaaDoor
open Go.RowKit Go.Shelf
attribute [local go_sem] Oper.semAt_some
section
variable {P : Prog9} {oP oR : Nat → Bool} {bh bw : Nat} {C : List Int} {E : List Bool} {W : World}
set_option maxHeartbeats 4000000 in
set_option maxRecDepth 100000 in
theorem same_ok (h : Both P oP oR bh bw C E W) : Calls Tryd.prog 10 #[.pointer (some ⟨bh, 0, none⟩), .pointer (some ⟨bw, 0, none⟩)] W fun e W' => e = .returned (.bool true) ∧ Ext W W' := by
  obtain ⟨A, c, B, d, _, x0, x1, hl, _⟩ := h.r.parts
  obtain ⟨n0, n1⟩ := h.r.len
  have HCO := Lib.hid (fun (n : Nat) => P.comps (h.ext (Ext.drewN W n)).p)
  have HEV := Lib.hid (fun (n : Nat) => P.events (h.ext (Ext.drewN W n)).p)
  have HH := Lib.hid h
  have t1 : ((C.length : Int) != (C.length : Int)) = false := by simp
  have t2 : ((E.length : Int) != (E.length : Int)) = false := by simp
  clear h
  go_enter Tryd.func10, Tryd.ntmps10
  go_upto_region 1 with (fail)
  go_quiet (first
    | (go_at_call 21; exact Calls.quiet_of_same (HCO.out _))
    | (go_at_call 22; exact Calls.quiet_of_same (HEV.out _)))
  go_wp2_with fail
  clear x0 x1 hl HCO HEV t1 t2
  go_loopg [5] (C.length + 2) (fun k v5 wr => ∃ (i : Nat), i + k = C.length + 2 ∧ v5 = .int .i64 ((i : Int) - 1) ∧ Ext W wr)
  case atStart => exact ⟨0, by omega, rfl, Ext.drewN _ _⟩
  case round =>
    obtain ⟨i, hik, rfl, hx⟩ := hrel
    have HX := Lib.hid hx
    obtain ⟨A, c, B, d, _, x0, x1, hl, _⟩ := (HH.out.ext hx).r.parts
    by_cases hi : i < C.length + 2
    · have z0 : (i : Int) - 1 ≤ (C.length : Int) := by omega
      have hst := P.state (HH.out.ext hx).p ((i : Int) - 1)
      have HST := Lib.hid hst
      have HRS := Lib.hid (fun (w : World) (q : Ext wr w) => refState_ok (HH.out.ext (hx.trans q)).r ((i : Int) - 1))
      clear hx hst
      have t3 : (stO C ((i : Int) - 1) != stO C ((i : Int) - 1)) = false := by simp
      go_wp2_with (first
        | (go_at_call 24; refine (HRS.out _ HX3.out).mono ?_; rintro e w4 ⟨rfl, hw⟩; rw [hw]; clear hw)
        | (go_at_call 18; refine HST.out.mono ?_; rintro e w3 ⟨rfl, hx3⟩; have HX3 := Lib.hid hx3; clear hx3))
      go_roundg (gk - 1)
      case measure => omega
      case rel => exact ⟨i + 1, by omega, by go_num, HX.out.trans HX3.out⟩
    · have z0 : ¬ (i : Int) - 1 ≤ (C.length : Int) := by omega
      clear hx
      go_wp2_with fail
      clear x0 x1 hl z0
      go_loopg [6] (E.length + 2) (fun k v6 wr => ∃ (i : Nat), i + k = E.length + 2 ∧ v6 = .int .i64 ((i : Int) - 1) ∧ Ext W wr)
      case atStart => exact ⟨0, by omega, rfl, HX.out⟩
      case round =>
        clear HX
        obtain ⟨i, hik, rfl, hx⟩ := hrel
        have HX := Lib.hid hx
        obtain ⟨A, c, B, d, _, x0, x1, hl, _⟩ := (HH.out.ext hx).r.parts
        by_cases hi : i < E.length + 2
        · have z0 : (i : Int) - 1 ≤ (E.length : Int) := by omega
          have hst := P.on (HH.out.ext hx).p ((i : Int) - 1)
          have hrs := fun (w : World) (q : Ext wr w) => refOn_ok (HH.out.ext (hx.trans q)).r ((i : Int) - 1)
          obtain ⟨b, hb⟩ : ∃ b, b = onO E ((i : Int) - 1) := ⟨_, rfl⟩
          rw [← hb] at hst hrs
          have HST := Lib.hid hst
          have HRS := Lib.hid hrs
          clear hx hst hrs hb
          cases b
          · go_wp2_with (first
              | (go_at_call 25; refine (HRS.out _ HX3.out).mono ?_; rintro e w4 ⟨rfl, hw⟩; rw [hw]; clear hw)
              | (go_at_call 19; refine HST.out.mono ?_; rintro e w3 ⟨rfl, hx3⟩; have HX3 := Lib.hid hx3; clear hx3))
            go_roundg (gk - 1)
            case measure => omega
            case rel => exact ⟨i + 1, by omega, by go_num, HX.out.trans HX3.out⟩
          · go_wp2_with (first
              | (go_at_call 25; refine (HRS.out _ HX3.out).mono ?_; rintro e w4 ⟨rfl, hw⟩; rw [hw]; clear hw)
              | (go_at_call 19; refine HST.out.mono ?_; rintro e w3 ⟨rfl, hx3⟩; have HX3 := Lib.hid hx3; clear hx3))
            go_roundg (gk - 1)
            case measure => omega
            case rel => exact ⟨i + 1, by omega, by go_num, HX.out.trans HX3.out⟩
        · have z0 : ¬ (i : Int) - 1 ≤ (E.length : Int) := by omega
          clear hx
          go_wp2_with fail
          go_ret
          exact ⟨rfl, HX.out⟩
end
end Go.Proofs.YtecehjcombkkaaaDoor
