/- The reference's IsName. -/
import Derived.Test.YtpdljjlbjebmeaaTokQ
namespace Go.Proofs.Ytpdljjlbjebmeaa
open Go.RowKit
attribute [local go_sem] str_at

/-- Which byte may stand at a place of a name. -/
def nameC (l : List UInt8) (j : Nat) : Bool := isL (chr l j) || (decide (0 < j) && isD (chr l j))
theorem whole_name (l : List UInt8) (hne : l ≠ []) (h : ∀ j, j < l.length → nameC l j = true) : whole l 1 = true := by
  have h0 : 0 < l.length := by cases l <;> simp_all
  have hL : isL (chr l 0) = true := by have := h 0 h0; simpa [nameC] using this
  have hk : kindI (chr l 0) = 1 := by simp [kindI, hL]
  have hp : pre2 (l.drop 0) = false := by
    rw [Bool.eq_false_iff]
    intro hp
    have := (chr_pre2 _ hp).1
    rw [List.drop_zero] at this
    rw [this] at hL
    exact absurd hL (by decide)
  have hr : run 1 (l.drop 1) = (l.drop 1).length := run_of_all 1 _ (fun x hx => by
    obtain ⟨j, hj, e⟩ := mem_chr _ x hx
    rw [← e, chr_drop]
    rw [List.length_drop] at hj
    have := h (1 + j) (by omega)
    unfold nameC at this
    rw [Bool.or_eq_true, Bool.and_eq_true] at this
    unfold goes
    rw [if_pos rfl, Bool.or_eq_true]
    rcases this with h1 | h1
    · exact .inl h1
    · exact .inr h1.2)
  rw [List.length_drop] at hr
  have he : l.isEmpty = false := by cases l <;> simp_all
  unfold whole endT ends
  rw [hk, hp, he, hr]
  simp
  omega
theorem name_whole (l : List UInt8) (h : whole l 1 = true) : ∀ j, j < l.length → nameC l j = true := by
  unfold whole at h
  simp only [Bool.and_eq_true, beq_iff_eq, decide_eq_true_eq] at h
  obtain ⟨⟨_, hk⟩, he⟩ := h
  have hL : isL (chr l 0) = true := by
    unfold kindI at hk
    split at hk
    · assumption
    · split at hk
      · omega
      · split at hk <;> omega
  unfold endT at he
  rw [if_neg (fun hp => by
    have := (chr_pre2 _ hp).1
    rw [List.drop_zero] at this
    rw [this] at hL
    exact absurd hL (by decide))] at he
  unfold ends at he
  rw [Nat.zero_add] at he
  intro j hj
  rcases j with _ | j
  · simp [nameC, hL]
  · have hr : run 1 (l.drop 1) = (l.drop 1).length := by rw [List.length_drop]; omega
    have := run_all 1 (l.drop 1) hr j (by rw [List.length_drop]; omega)
    rw [chr_drop, Nat.add_comm] at this
    unfold goes at this
    rw [if_pos rfl, Bool.or_eq_true] at this
    unfold nameC
    rw [Bool.or_eq_true, Bool.and_eq_true]
    rcases this with h1 | h1
    · exact .inl h1
    · exact .inr ⟨by simp, h1⟩
theorem whole_not (l : List UInt8) (j : Nat) (hj : j < l.length) (h : nameC l j = false) : whole l 1 = false := by
  rw [Bool.eq_false_iff]
  intro hw
  have := name_whole l hw j hj
  rw [h] at this
  cases this

set_option maxRecDepth 100000 in
set_option maxHeartbeats 1000000 in
theorem refIsName_ok (l : List UInt8) (w : World) (hn : l.length ≤ 1000000000) :
    Calls Try.prog 19 #[.string ⟨l.toArray⟩] w fun e w' => e = .returned (.bool (decide (l.length ≤ 32) && whole l 1 && !isW l)) ∧ Below w.heap.size w w' := by
  go_enter Try.func19, Try.ntmps19
  go_wp2_with fail
  go_loop [3] (fun i => ∃ k : Nat, k ≤ l.length ∧ i = .int .i64 k ∧ Hid (∀ j, j < k → nameC l j = true)) (fun i => l.length - (intOf i).toNat)
  case atStart => exact ⟨0, by omega, rfl, Lib.hid (fun j hj => by omega)⟩
  case round =>
    obtain ⟨k, hk, rfl, HK⟩ := hrel
    by_cases hlt : k < l.length
    · have hcl := letter_ok (chr l k)
      have hcd := digit_ok (chr l k)
      cases hL : isL (chr l k)
      · by_cases hk0 : k = 0
        · subst hk0
          rw [hL] at hcl
          have HCL := Lib.hid hcl
          have HW := Lib.hid (whole_not l 0 hlt (by simp [nameC, hL]))
          clear hcl hcd hL
          go_wp2_with (go_at_call 30; refine (HCL.out _).mono ?_; rintro e w' ⟨rfl, rfl⟩)
          go_ret
          exact ⟨ret_bool (by rw [HW.out]; simp), Below.refl _ _⟩
        · have hkb : ((k : Int) == 0) = false := by rw [beq_eq_false_iff_ne]; omega
          have hkb' : (k == 0) = false := by rw [beq_eq_false_iff_ne]; omega
          have hpos : 0 < k := by omega
          clear hk0
          cases hD : isD (chr l k)
          · rw [hL] at hcl
            rw [hD] at hcd
            have HCL := Lib.hid hcl
            have HCD := Lib.hid hcd
            have HW := Lib.hid (whole_not l k hlt (by simp [nameC, hL, hD]))
            clear hcl hcd hL hD
            go_wp2_with (first
              | (go_at_call 30; refine (HCL.out _).mono ?_; rintro e w' ⟨rfl, rfl⟩)
              | (go_at_call 31; refine (HCD.out _).mono ?_; rintro e w' ⟨rfl, rfl⟩))
            go_ret
            exact ⟨ret_bool (by rw [HW.out]; simp), Below.refl _ _⟩
          · rw [hL] at hcl
            rw [hD] at hcd
            have HCL := Lib.hid hcl
            have HCD := Lib.hid hcd
            have HN := Lib.hid (show nameC l k = true by simp [nameC, hD, hpos])
            clear hcl hcd hL hD
            go_wp2_with (first
              | (go_at_call 30; refine (HCL.out _).mono ?_; rintro e w' ⟨rfl, rfl⟩)
              | (go_at_call 31; refine (HCD.out _).mono ?_; rintro e w' ⟨rfl, rfl⟩))
            go_round
            case rel => exact ⟨k + 1, by omega, by go_num, Lib.hid (fun j hj => by
              rcases Nat.lt_or_ge j k with h | h
              · exact HK.out j h
              · have : j = k := by omega
                rw [this]; exact HN.out)⟩
            case measure => simp [intOf]; omega
      · rw [hL] at hcl
        have HCL := Lib.hid hcl
        have HN := Lib.hid (show nameC l k = true by simp [nameC, hL])
        clear hcl hcd hL
        go_wp2_with (go_at_call 30; refine (HCL.out _).mono ?_; rintro e w' ⟨rfl, rfl⟩)
        go_round
        case rel => exact ⟨k + 1, by omega, by go_num, Lib.hid (fun j hj => by
          rcases Nat.lt_or_ge j k with h | h
          · exact HK.out j h
          · have : j = k := by omega
            rw [this]; exact HN.out)⟩
        case measure => simp [intOf]; omega
    · obtain rfl : k = l.length := by omega
      by_cases hl : l = []
      · have HW : Hid (whole l 1 = false) := Lib.hid (by rw [hl]; rfl)
        have hle : l.isEmpty = true := by simp [hl]
        clear hl
        go_wp2_with fail
        go_ret
        exact ⟨ret_bool (by rw [HW.out]; simp), Below.refl _ _⟩
      · have HW := Lib.hid (whole_name l hl HK.out)
        have hle : l.isEmpty = false := by cases l <;> simp_all
        clear hl
        by_cases h32 : l.length ≤ 32
        · go_wp2_with (go_at_call 18; refine (refIsWord_ok _ _).mono ?_; rintro e w' ⟨rfl, hb⟩)
          go_ret
          exact ⟨ret_bool (by rw [HW.out]; simp [h32]), hb⟩
        · have hd : decide (l.length ≤ 32) = false := by simpa using h32
          go_wp2_with fail
          go_ret
          exact ⟨ret_bool (by simp), Below.refl _ _⟩
end Go.Proofs.Ytpdljjlbjebmeaa
