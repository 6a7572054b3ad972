/- slices.Equal at the seat, of switches and of numbers. -/
import Derived.Test.YtecehjcombkkaaaDoorRwA
namespace Go.Proofs.YtecehjcombkkaaaDoor
open Go.RowKit Go.Shelf
attribute [local go_sem] Oper.semAt_some
section
variable {W : World}
set_option maxHeartbeats 2000000 in
set_option maxRecDepth 100000 in
theorem equalB_ok {l m : List Bool} {A1 A2 : Option Addr} {c1 c2 B1 B2 : Nat} (hx : W.ownsRow B1 4 1 (.slice A1 l.length c1) l.length (rowV bV l)) (hy : W.ownsRow B2 4 1 (.slice A2 m.length c2) m.length (rowV bV m)) (hn : l.length ≤ 1000 ∧ m.length ≤ 1000) :
    Calls Tryd.prog 31 #[.slice A1 l.length c1, .slice A2 m.length c2] W fun e W' => e = .returned (.bool (decide (l = m))) ∧ ∃ n, W' = W.drewN n := by
  obtain ⟨b, hb⟩ : ∃ b, b = decide (l = m) := ⟨_, rfl⟩
  rw [← hb]
  obtain ⟨n0, n1⟩ := hn
  have HX := Lib.hid hx
  have HY := Lib.hid hy
  have HB := Lib.hid hb
  clear hx hy hb
  by_cases e : l.length = m.length
  case neg =>
    have hbf : b = false := by
      rw [HB.out]
      exact decide_eq_false fun h => e (by rw [h])
    have e' : ((l.length : Int) != (m.length : Int)) = true := by simp; omega
    subst hbf
    clear e
    go_enter Tryd.func31, Tryd.ntmps31
    go_wp2_with fail
    go_ret
    exact ⟨rfl, 0, rfl⟩
  have e' : ((l.length : Int) != (m.length : Int)) = false := by simp; omega
  have HE := Lib.hid e
  clear e
  go_enter Tryd.func31, Tryd.ntmps31
  go_wp2_with fail
  go_loopg [13] l.length (fun k v13 wr => ∃ i : Nat, i + k = l.length ∧ v13 = .int .i64 i ∧ (∃ n, wr = W.drewN n) ∧ ∀ j (q : j < l.length) (q' : j < m.length), j < i → l[j] = m[j])
  case atStart => exact ⟨0, by omega, rfl, ⟨0, rfl⟩, fun j _ _ h => by omega⟩
  case round =>
    obtain ⟨i, hik, rfl, ⟨nn, rfl⟩, hall⟩ := hrel
    have HIK := Lib.hid hik
    have HALL := Lib.hid hall
    clear hall
    have hext := Ext.drewN W nn
    by_cases hlt : i < l.length
    · have hlt2 : i < m.length := by rw [← HE.out]; exact hlt
      obtain ⟨g, cc, ea, d0, _⟩ := own1_cell ((hext.kept (fun _ _ => true)).row HX.out fun _ _ => rfl) hlt
      cases ea
      obtain ⟨g2, cc2, eb, d1, _⟩ := own1_cell ((hext.kept (fun _ _ => true)).row HY.out fun _ _ => rfl) hlt2
      cases eb
      unfold bV at d0 d1
      have hil : (i : Int) < (l.length : Int) := by omega
      have him : (i : Int) < (m.length : Int) := by omega
      clear hext hik
      have hdr : ∀ n, ∃ n', (W.drewN nn).drewN n = W.drewN n' := fun n => ⟨nn + n, by simp [World.drewN, Nat.add_assoc]⟩
      generalize W.drewN nn = wx at *
      by_cases hq : l[i] = m[i]
      · rw [← hq] at d1
        have HQ := Lib.hid hq
        clear hq
        generalize l[i] = p at d0 d1
        cases p
        · go_upto_region 6 with (fail)
          go_quiet (fail)
          go_wp2_with fail
          go_roundg (gk - 1)
          case measure => have := HIK.out; omega
          case rel => exact ⟨i + 1, by have := HIK.out; omega, by go_num, hdr _, fun j q q' hj => by
            by_cases e : j = i
            · subst e; exact HQ.out
            · exact HALL.out j q q' (by omega)⟩
        · go_upto_region 6 with (fail)
          go_quiet (fail)
          go_wp2_with fail
          go_roundg (gk - 1)
          case measure => have := HIK.out; omega
          case rel => exact ⟨i + 1, by have := HIK.out; omega, by go_num, hdr _, fun j q q' hj => by
            by_cases e : j = i
            · subst e; exact HQ.out
            · exact HALL.out j q q' (by omega)⟩
      · have hbf : b = false := by rw [HB.out]; exact decide_eq_false fun e => hq (by subst e; rfl)
        subst hbf
        have hne : m[i] = !l[i] := by
          generalize l[i] = p at hq
          generalize m[i] = q at hq
          cases p <;> cases q <;> simp_all
        rw [hne] at d1
        clear hq hne
        generalize l[i] = p at d0 d1
        cases p
        all_goals simp only [Bool.not_true, Bool.not_false] at d1
        · go_upto_region 6 with (fail)
          go_quiet (fail)
          go_wp2_with fail
          go_ret
          exact ⟨rfl, hdr _⟩
        · go_upto_region 6 with (fail)
          go_quiet (fail)
          go_wp2_with fail
          go_ret
          exact ⟨rfl, hdr _⟩
    · have hil : ¬ (i : Int) < (l.length : Int) := by omega
      have hlm : l = m := List.ext_getElem HE.out fun j q q' => HALL.out j q q' (by have := HIK.out; omega)
      have hbf : b = true := by rw [HB.out]; exact decide_eq_true hlm
      subst hbf
      clear hik hext hlm
      go_wp2_with fail
      go_ret
      exact ⟨rfl, nn, rfl⟩
end
end Go.Proofs.YtecehjcombkkaaaDoor
