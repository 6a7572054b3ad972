/- The document's lives: Same. -/
import Derived.Test.YtecehjcombkkaaaDoorLrD
namespace Go.Proofs.YtecehjcombkkaaaDoor
open Go.RowKit Go.Shelf
attribute [local go_sem] Oper.semAt_some
def sameP (C : List Int) (E : List Bool) (C' : List Int) (E' : List Bool) : Bool := decide (C = C' ∧ E = E')
theorem sameP_self (C : List Int) (E : List Bool) : sameP C E C E = true := decide_eq_true ⟨rfl, rfl⟩
theorem sameP_comm (C : List Int) (E : List Bool) (C' : List Int) (E' : List Bool) : sameP C E C' E' = sameP C' E' C E := by
  unfold sameP; rw [decide_eq_decide]; constructor <;> rintro ⟨rfl, rfl⟩ <;> exact ⟨rfl, rfl⟩
/-- A member of either list. -/
theorem RL.at_c {own : Nat → Bool} {bw : Nat} {C : List Int} {E : List Bool} {W : World} (h : RL own bw C E W) {i : Nat} (hi : i < C.length) : ∃ g c, W.cell? ⟨bw, 0, none⟩ = some (.slice (some ⟨g, 0, none⟩) C.length c) ∧ W.cell? ⟨g, i, none⟩ = some (.int .i64 C[i]) ∧ bw < W.heap.size ∧ g < W.heap.size := by
  obtain ⟨A, c, B, d, _, x0, _, hl, hr, _⟩ := h.parts
  obtain ⟨g, c2, e, y0, hg⟩ := own1_cell hr hi
  cases e
  exact ⟨g, c, x0, y0, hl, hg⟩
theorem RL.at_e {own : Nat → Bool} {bw : Nat} {C : List Int} {E : List Bool} {W : World} (h : RL own bw C E W) {i : Nat} (hi : i < E.length) : ∃ g c, W.cell? ⟨bw, 1, none⟩ = some (.slice (some ⟨g, 0, none⟩) E.length c) ∧ W.cell? ⟨g, i, none⟩ = some (.bool E[i]) ∧ bw < W.heap.size ∧ g < W.heap.size := by
  obtain ⟨A, c, B, d, _, _, x0, hl, _, hr, _⟩ := h.parts
  obtain ⟨g, c2, e, y0, hg⟩ := own1_cell hr hi
  cases e
  exact ⟨g, d, x0, y0, hl, hg⟩
section
variable {own own' : Nat → Bool} {bw bo : Nat} {C C' : List Int} {E E' : List Bool} {W : World}
set_option maxHeartbeats 4000000 in
set_option maxRecDepth 100000 in
theorem refSame_ok (h : RL own bw C E W) (h' : RL own' bo C' E' W) : Calls Tryd.prog 15 #[.pointer (some ⟨bw, 0, none⟩), .pointer (some ⟨bo, 0, none⟩)] W fun e W' => e = .returned (.bool (sameP C E C' E')) ∧ Ext W W' := by
  obtain ⟨b, hb⟩ : ∃ b, b = sameP C E C' E' := ⟨_, rfl⟩
  rw [← hb]
  obtain ⟨A, c, B, d, _, x0, x1, hl, _⟩ := h.parts
  obtain ⟨A', c', B', d', _, y0, y1, hl', _⟩ := h'.parts
  have n0 := h.len
  have n1 := h'.len
  by_cases hc : C.length = C'.length
  · by_cases he : E.length = E'.length
    · have t1 : ((C.length : Int) != (C'.length : Int)) = false := by simp [hc]
      have t2 : ((E.length : Int) != (E'.length : Int)) = false := by simp [he]
      have HH := Lib.hid h
      have HH' := Lib.hid h'
      have HB := Lib.hid hb
      have HC := Lib.hid hc
      have HE := Lib.hid he
      clear h h' hb hc he
      go_enter Tryd.func15, Tryd.ntmps15
      go_upto_region 1 with (fail)
      go_quiet (fail)
      go_wp2_with fail
      clear x0 x1 y0 y1 hl hl'
      go_loopg [5] C.length (fun k v5 wr => ∃ (i : Nat), i + k = C.length ∧ v5 = .int .i64 i ∧ Ext W wr ∧ ∀ j (q : j < C.length) (q' : j < C'.length), j < i → C[j] = C'[j])
      case atStart => exact ⟨0, by omega, rfl, Ext.drewN _ _, fun j _ _ h => by omega⟩
      case round =>
        obtain ⟨i, hik, rfl, hx, hall⟩ := hrel
        have HX := Lib.hid hx
        have HALL := Lib.hid hall
        obtain ⟨A, c, B, d, _, x0, x1, hl, _⟩ := (HH.out.ext hx).parts
        obtain ⟨A', c', B', d', _, y0, y1, hl', _⟩ := (HH'.out.ext hx).parts
        by_cases hi : i < C.length
        · have hi' : i < C'.length := by rw [← HC.out]; exact hi
          obtain ⟨g, c2, u0, u1, _, _⟩ := (HH.out.ext hx).at_c hi
          obtain ⟨g', c2', v0, v1, _, _⟩ := (HH'.out.ext hx).at_c hi'
          have z0 : (i : Int) < (C.length : Int) := by omega
          have z1 : (i : Int) < (C'.length : Int) := by omega
          clear x0 y0 x1 y1 hx hall
          by_cases hq : C[i] = C'[i]
          · have hqq : (C[i] != C'[i]) = false := by simp [hq]
            have HQ := Lib.hid hq
            clear hq
            go_upto_region 6 with (fail)
            go_quiet (fail)
            go_wp2_with fail
            go_roundg (gk - 1)
            case measure => omega
            case rel => exact ⟨i + 1, by omega, by go_num, HX.out.trans (Ext.drewN _ _), fun j q q' hj => by
              by_cases e : j = i
              · subst e; exact HQ.out
              · exact HALL.out j q q' (by omega)⟩
          · have hqq : (C[i] != C'[i]) = true := by simpa using hq
            have hbf : b = false := by rw [HB.out]; exact decide_eq_false fun ⟨e, _⟩ => hq (by subst e; rfl)
            subst hbf
            clear hq
            go_upto_region 6 with (fail)
            go_quiet (fail)
            go_wp2_with fail
            go_ret
            exact ⟨rfl, HX.out.trans (Ext.drewN _ _)⟩
        · have z0 : ¬ (i : Int) < (C.length : Int) := by omega
          have hCC : C = C' := List.ext_getElem HC.out fun j q q' => HALL.out j q q' (by omega)
          have HCC := Lib.hid hCC
          clear hall hCC
          go_wp2_with fail
          clear x0 x1 y0 y1 hl hl'
          go_loopg [6] E.length (fun k v6 wr => ∃ (i : Nat), i + k = E.length ∧ v6 = .int .i64 i ∧ Ext W wr ∧ ∀ j (q : j < E.length) (q' : j < E'.length), j < i → E[j] = E'[j])
          case atStart => exact ⟨0, by omega, rfl, HX.out, fun j _ _ h => by omega⟩
          case round =>
            clear HX
            obtain ⟨i, hik, rfl, hx, hall⟩ := hrel
            have HX := Lib.hid hx
            have HALL := Lib.hid hall
            obtain ⟨A, c, B, d, _, x0, x1, hl, _⟩ := (HH.out.ext hx).parts
            obtain ⟨A', c', B', d', _, y0, y1, hl', _⟩ := (HH'.out.ext hx).parts
            by_cases hi : i < E.length
            · have hi' : i < E'.length := by rw [← HE.out]; exact hi
              obtain ⟨g, c2, u0, u1, _, _⟩ := (HH.out.ext hx).at_e hi
              obtain ⟨g', c2', v0, v1, _, _⟩ := (HH'.out.ext hx).at_e hi'
              have z0 : (i : Int) < (E.length : Int) := by omega
              have z1 : (i : Int) < (E'.length : Int) := by omega
              clear x0 y0 x1 y1 hx hall
              by_cases hq : E[i] = E'[i]
              · rw [← hq] at v1
                have HQ := Lib.hid hq
                clear hq
                generalize E[i] = p at u1 v1
                cases p
                · go_upto_region 11 with (fail)
                  go_quiet (fail)
                  go_wp2_with fail
                  go_roundg (gk - 1)
                  case measure => omega
                  case rel => exact ⟨i + 1, by omega, by go_num, HX.out.trans (Ext.drewN _ _), fun j q q' hj => by
                    by_cases e : j = i
                    · subst e; exact HQ.out
                    · exact HALL.out j q q' (by omega)⟩
                · go_upto_region 11 with (fail)
                  go_quiet (fail)
                  go_wp2_with fail
                  go_roundg (gk - 1)
                  case measure => omega
                  case rel => exact ⟨i + 1, by omega, by go_num, HX.out.trans (Ext.drewN _ _), fun j q q' hj => by
                    by_cases e : j = i
                    · subst e; exact HQ.out
                    · exact HALL.out j q q' (by omega)⟩
              · have hbf : b = false := by rw [HB.out]; exact decide_eq_false fun ⟨_, e⟩ => hq (by subst e; rfl)
                subst hbf
                have hne : E'[i] = !E[i] := by
                  generalize E[i] = p at hq
                  generalize E'[i] = q at hq
                  cases p <;> cases q <;> simp_all
                rw [hne] at v1
                clear hq hne
                generalize E[i] = p at u1 v1
                cases p
                all_goals simp only [Bool.not_true, Bool.not_false] at v1
                · go_upto_region 11 with (fail)
                  go_quiet (fail)
                  go_wp2_with fail
                  go_ret
                  exact ⟨rfl, HX.out.trans (Ext.drewN _ _)⟩
                · go_upto_region 11 with (fail)
                  go_quiet (fail)
                  go_wp2_with fail
                  go_ret
                  exact ⟨rfl, HX.out.trans (Ext.drewN _ _)⟩
            · have z0 : ¬ (i : Int) < (E.length : Int) := by omega
              have hEE : E = E' := List.ext_getElem HE.out fun j q q' => HALL.out j q q' (by omega)
              have hbf : b = true := by rw [HB.out]; exact decide_eq_true ⟨HCC.out, hEE⟩
              subst hbf
              clear hall hEE
              go_wp2_with fail
              go_ret
              exact ⟨rfl, HX.out⟩
    · have t1 : ((C.length : Int) != (C'.length : Int)) = false := by simp [hc]
      have t2 : ((E.length : Int) != (E'.length : Int)) = true := by simp; omega
      have hbf : b = false := by rw [hb]; exact decide_eq_false fun ⟨_, e⟩ => he (by rw [e])
      subst hbf
      clear h h' hb hc he
      go_enter Tryd.func15, Tryd.ntmps15
      go_upto_region 1 with (fail)
      go_quiet (fail)
      go_wp2_with fail
      go_ret
      exact ⟨rfl, Ext.drewN _ _⟩
  · have t1 : ((C.length : Int) != (C'.length : Int)) = true := by simp; omega
    have hbf : b = false := by rw [hb]; exact decide_eq_false fun ⟨e, _⟩ => hc (by rw [e])
    subst hbf
    clear h h' hb hc
    go_enter Tryd.func15, Tryd.ntmps15
    go_upto_region 1 with (fail)
    go_quiet (fail)
    go_wp2_with fail
    go_ret
    exact ⟨rfl, Ext.drewN _ _⟩
end
end Go.Proofs.YtecehjcombkkaaaDoor
