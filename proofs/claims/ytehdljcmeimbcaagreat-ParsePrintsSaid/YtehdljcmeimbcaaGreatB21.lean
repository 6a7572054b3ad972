/- The reference's Number and mark: their walks; The reference's IsName; The document's trees in memory: Term, Statement, Declaration, Variable, Type, Op, text, number, letters, is; The document's trees in memory: kids. -/
import Derived.Test.YtehdljcmeimbcaaGreatB20
import Derived.WalkLawsBesides
import Derived.Deep.CutRange
import Derived.Test.YtehdljcmeimbcaaGreatB01
import Derived.Deep.LoopGhost
import Derived.BigQuiet
namespace Go.Proofs.YtehdljcmeimbcaaGreat
open Go.RowKit
attribute [local go_sem] str_at

set_option maxRecDepth 100000 in
set_option maxHeartbeats 1000000 in
theorem refNumber_ok (l : List UInt8) (w : World) (hn : l.length ≤ 1000000000) :
    Calls Tryz.prog 32 #[.string ⟨l.toArray⟩] w fun e w' => e = .returned (.tuple #[.int .i64 (numT l).1, .bool (numT l).2]) ∧ w = w' := by
  have HN := Lib.hid (rnT_eq l)
  go_enter Tryz.func32, Tryz.ntmps32
  go_wp2_with fail
  go_loop [4, 5] (fun n i => ∃ (m : Int) (j : Nat), 0 ≤ m ∧ m ≤ 1099511627776 ∧ j ≤ l.length ∧ n = .int .i64 m ∧ i = .int .i64 j ∧ Hid (rnA l m j = rnA l 0 0)) (fun _ i => l.length - (intOf i).toNat)
  case atStart => exact ⟨0, 0, by omega, by omega, by omega, rfl, rfl, Lib.hid rfl⟩
  case round =>
    obtain ⟨m, j, hm0, hm1, hj, rfl, rfl, HJ⟩ := hrel
    have h0 := chr_ge l j
    have h1 := chr_le l j
    by_cases hlj : j < l.length
    · cases hd : isD (chr l j)
      · have HD := Lib.hid hd
        have hcon := digit_ok (chr l j)
        rw [hd] at hcon
        have HC := Lib.hid hcon
        clear hd hcon
        go_wp2_with (go_at_call 30; refine (HC.out _).mono ?_; rintro e w' ⟨rfl, rfl⟩)
        go_ret2
        have hx : rnT l = (0, false) := by unfold rnT; rw [← HJ.out, rnA_not l m j hlj HD.out]
        exact ⟨by rw [← HN.out, hx]; rfl, rfl⟩
      · have HD := Lib.hid hd
        have hcon := digit_ok (chr l j)
        rw [hd] at hcon
        have HC := Lib.hid hcon
        have hd1 : 48 ≤ chr l j := by simp [isD] at hd; omega
        have hd2 : chr l j ≤ 57 := by simp [isD] at hd; omega
        clear hd hcon
        go_wp2_with (go_at_call 30; refine (HC.out _).mono ?_; rintro e w' ⟨rfl, rfl⟩)
        go_round
        case rel =>
          have e : (if 1099511627776 < 10 * m + (chr l j - 48) then (1099511627776 : Int) else 10 * m + (chr l j - 48)) = min (10 * m + (chr l j - 48)) 1099511627776 := by split <;> omega
          rw [e]
          exact ⟨_, j + 1, by omega, by omega, by omega, rfl, by go_num, Lib.hid ((rnA_more l m j hlj HD.out).symm.trans HJ.out)⟩
        case measure => simp [intOf]; omega
    · have hx : rnA l 0 0 = some m := by rw [← HJ.out, rnA_end l m j (by omega)]
      by_cases hl : l = []
      · have hy : rnT l = (0, false) := by unfold rnT; rw [hx]; simp [hl]
        have HY := Lib.hid hy
        have hle : l.isEmpty = true := by simp [hl]
        have hlb : (l == []) = true := by simp [hl]
        clear hx hy hl
        go_wp2_with fail
        go_ret2
        exact ⟨by rw [← HN.out, HY.out]; rfl, rfl⟩
      · have hle : l.isEmpty = false := by cases l <;> simp_all
        have hlb : (l == []) = false := by simp [hl]
        by_cases hb : 2147483647 < m
        · have hy : rnT l = (0, false) := by unfold rnT; rw [hx]; simp [hb]
          have HY := Lib.hid hy
          clear hx hy hl
          go_wp2_with fail
          go_ret2
          exact ⟨by rw [← HN.out, HY.out]; rfl, rfl⟩
        · have hy : rnT l = (m, true) := by unfold rnT; rw [hx]; simp [hb, hl]
          have HY := Lib.hid hy
          clear hx hy hl
          go_wp2_with fail
          go_ret2
          exact ⟨by rw [← HN.out, HY.out]; rfl, rfl⟩

/-- How many bytes the mark at a place has. -/
def mk (l : List UInt8) (p : Nat) : Int := if pre2 (l.drop p) = true then 2 else if isM (chr l p) = true then 1 else 0
theorem pre2_at (l : List UInt8) (p : Nat) : pre2 (l.drop p) = (decide (p + 1 < l.length) && (chr l p == 61) && (chr l (p + 1) == 61)) := by
  by_cases h : p + 1 < l.length
  · obtain ⟨x, hx, hc⟩ := drop_chr l p (by omega)
    obtain ⟨y, hy, hd⟩ := drop_chr l (p + 1) h
    rw [hx, hy, hc, hd]
    unfold pre2
    rw [Bool.eq_iff_iff]
    simp [h]
    constructor
    · rintro ⟨rfl, rfl⟩; exact ⟨rfl, rfl⟩
    · rintro ⟨h1, h2⟩
      refine ⟨UInt8.toNat_inj.1 ?_, UInt8.toNat_inj.1 ?_⟩
      · show x.toNat = 61; omega
      · show y.toNat = 61; omega
  · rw [Bool.eq_iff_iff]
    simp only [h, decide_false, Bool.false_and, Bool.false_eq_true, iff_false]
    intro hp
    have := pre2_len _ hp
    rw [List.length_drop] at this
    omega

theorem isM_take (l : List UInt8) (p k : Nat) (h : k < 13) (hn : (marksL.take k).contains (UInt8.ofNat (chr l p).toNat) = false) (hne : ¬ chr l p = chr marksL k) : (marksL.take (k + 1)).contains (UInt8.ofNat (chr l p).toNat) = false := by
  have hl : k < marksL.length := h
  rw [List.take_succ_eq_append_getElem hl]
  rw [Bool.eq_false_iff] at hn ⊢
  intro hc
  rw [List.contains_iff_mem, List.mem_append] at hc
  rcases hc with hc | hc
  · exact hn (by rw [List.contains_iff_mem]; exact hc)
  · simp at hc
    apply hne
    have h0 := chr_ge l p
    have h1 := chr_le l p
    have e : chr marksL k = (marksL[k].toNat : Int) := by unfold chr; rw [List.getElem?_eq_getElem hl]; rfl
    rw [e, ← hc]
    simp
    omega
theorem isM_hit (l : List UInt8) (p k : Nat) (h : k < 13) (he : chr l p = chr marksL k) : isM (chr l p) = true := by
  have hl : k < marksL.length := h
  have e : chr marksL k = (marksL[k].toNat : Int) := by unfold chr; rw [List.getElem?_eq_getElem hl]; rfl
  unfold isM
  rw [List.contains_iff_mem, he, e]
  have : UInt8.ofNat ((marksL[k].toNat : Int)).toNat = marksL[k] := by simp
  rw [this]
  exact List.getElem_mem hl

set_option maxRecDepth 100000 in
set_option maxHeartbeats 1000000 in
theorem mark_ok (l : List UInt8) (b off cap p : Nat) (w : World) (hb : Bs w b off l) (hn : l.length ≤ 1000000000) (hp : p < l.length) :
    Calls Tryz.prog 33 #[.slice (some ⟨b, off, none⟩) l.length cap, .int .i64 p] w fun e w' => e = .returned (.int .i64 (mk l p)) ∧ ∃ n, w' = w.drewN n := by
  have hcell := hb p hp
  have HPRE := Lib.hid (pre2_at l p)
  have HB := Lib.hid hb
  clear hb
  have h0 := chr_ge l p
  have h1 := chr_le l p
  generalize hq : pre2 (l.drop p) = q at HPRE
  have HQ := Lib.hid hq
  clear hq
  go_enter Tryz.func33, Tryz.ntmps33
  go_upto_region 1 with (fail)
  go_cut [26] from 7 to 40 (fun s26 wx => s26 = .bool q ∧ w = wx)
  case first =>
    by_cases h2 : p + 1 < l.length
    · have hcell2 : w.cell? ⟨b, off + (p + 1), none⟩ = some (.int .u8 (chr l (p + 1))) := HB.out (p + 1) h2
      cases h61 : (chr l p == 61)
      · have hqf : q = false := by rw [HPRE.out, h61]; simp
        subst hqf
        clear HPRE
        go_wp2_with fail
        go_meet
        exact ⟨rfl, rfl⟩
      · have hqe : q = (chr l (p + 1) == 61) := by rw [HPRE.out, h61]; simp [h2]
        have HQE := Lib.hid hqe
        clear hqe HPRE
        go_wp2_with fail
        go_meet
        exact ⟨by rw [HQE.out], rfl⟩
    · have hqf : q = false := by rw [HPRE.out]; simp [h2]
      have hlf : decide (p + 1 < l.length) = false := by simpa using h2
      have hlf' : decide ((p : Int) + 1 < (l.length : Int)) = false := by simp; omega
      subst hqf
      clear HPRE
      go_wp2_with fail
      go_meet
      exact ⟨rfl, rfl⟩
  case rest =>
    obtain ⟨rfl, rfl⟩ := hcut
    clear HPRE
    cases q
    · go_wp2_with fail
      go_loopg [6] 13 (fun k v6 wr => ∃ i nq : Nat, i + k = 13 ∧ v6 = .int .i64 i ∧ wr = w.drewN nq ∧ Hid ((marksL.take i).contains (UInt8.ofNat (chr l p).toNat) = false))
      case atStart => exact ⟨0, 0, rfl, rfl, rfl, Lib.hid rfl⟩
      case round =>
        obtain ⟨i, m0, hik, rfl, rfl, HI⟩ := hrel
        have HIK := Lib.hid hik
        have hi : i ≤ 13 := by omega
        clear hik
        by_cases hlt : i < 13
        · go_upto_region 7 with (fail)
          go_quiet (fail)
          rw [World.drewN_drewN]
          generalize m0 + nq = m1
          generalize hc : chr [123, 125, 40, 41, 91, 93, 59, 46, 61, 43, 45, 42, 60] i = c
          have HC : Hid (chr marksL i = c) := Lib.hid hc
          clear hc hcell
          cases he : (chr l p == c)
          · have HNE : Hid (¬ chr l p = c) := Lib.hid (beq_eq_false_iff_ne.1 he)
            go_wp2_with fail
            go_roundg (gk - 1)
            case measure => have := HIK.out; omega
            case rel => exact ⟨i + 1, m1, by have := HIK.out; omega, by go_num, rfl, Lib.hid (isM_take l p i hlt HI.out (by rw [HC.out]; exact HNE.out))⟩
          · have HEQ : Hid (chr l p = c) := Lib.hid (beq_iff_eq.1 he)
            go_wp2_with fail
            go_ret
            exact ⟨ret_int (by simp [mk, HQ.out, isM_hit l p i hlt (HEQ.out.trans HC.out.symm)]), _, rfl⟩
        · obtain rfl : i = 13 := by omega
          go_wp2_with fail
          go_ret
          exact ⟨ret_int (by have h := HI.out; have hm : isM (chr l p) = false := h; simp [mk, HQ.out, hm]), _, rfl⟩
    · go_wp2_with fail
      go_ret
      exact ⟨ret_int (by simp [mk, HQ.out]), 0, rfl⟩
end Go.Proofs.YtehdljcmeimbcaaGreat

namespace Go.Proofs.YtehdljcmeimbcaaGreat
open Go.RowKit
attribute [local go_sem] str_at

/-- Which byte may stand at a place of a name. -/
def nameC (l : List UInt8) (j : Nat) : Bool := isL (chr l j) || (decide (0 < j) && isD (chr l j))
theorem whole_name (l : List UInt8) (hne : l ≠ []) (h : ∀ j, j < l.length → nameC l j = true) : whole l 1 = true := by
  have h0 : 0 < l.length := by cases l <;> simp_all
  have hL : isL (chr l 0) = true := by have := h 0 h0; simpa [nameC] using this
  have hk : kindI (chr l 0) = 1 := by simp [kindI, hL]
  have hp : pre2 (l.drop 0) = false := by
    rw [Bool.eq_false_iff]
    intro hp
    have := (chr_pre2 _ hp).1
    rw [List.drop_zero] at this
    rw [this] at hL
    exact absurd hL (by decide)
  have hr : run 1 (l.drop 1) = (l.drop 1).length := run_of_all 1 _ (fun x hx => by
    obtain ⟨j, hj, e⟩ := mem_chr _ x hx
    rw [← e, chr_drop]
    rw [List.length_drop] at hj
    have := h (1 + j) (by omega)
    unfold nameC at this
    rw [Bool.or_eq_true, Bool.and_eq_true] at this
    unfold goes
    rw [if_pos rfl, Bool.or_eq_true]
    rcases this with h1 | h1
    · exact .inl h1
    · exact .inr h1.2)
  rw [List.length_drop] at hr
  have he : l.isEmpty = false := by cases l <;> simp_all
  unfold whole endT ends
  rw [hk, hp, he, hr]
  simp
  omega
theorem name_whole (l : List UInt8) (h : whole l 1 = true) : ∀ j, j < l.length → nameC l j = true := by
  unfold whole at h
  simp only [Bool.and_eq_true, beq_iff_eq, decide_eq_true_eq] at h
  obtain ⟨⟨_, hk⟩, he⟩ := h
  have hL : isL (chr l 0) = true := by
    unfold kindI at hk
    split at hk
    · assumption
    · split at hk
      · omega
      · split at hk <;> omega
  unfold endT at he
  rw [if_neg (fun hp => by
    have := (chr_pre2 _ hp).1
    rw [List.drop_zero] at this
    rw [this] at hL
    exact absurd hL (by decide))] at he
  unfold ends at he
  rw [Nat.zero_add] at he
  intro j hj
  rcases j with _ | j
  · simp [nameC, hL]
  · have hr : run 1 (l.drop 1) = (l.drop 1).length := by rw [List.length_drop]; omega
    have := run_all 1 (l.drop 1) hr j (by rw [List.length_drop]; omega)
    rw [chr_drop, Nat.add_comm] at this
    unfold goes at this
    rw [if_pos rfl, Bool.or_eq_true] at this
    unfold nameC
    rw [Bool.or_eq_true, Bool.and_eq_true]
    rcases this with h1 | h1
    · exact .inl h1
    · exact .inr ⟨by simp, h1⟩
theorem whole_not (l : List UInt8) (j : Nat) (hj : j < l.length) (h : nameC l j = false) : whole l 1 = false := by
  rw [Bool.eq_false_iff]
  intro hw
  have := name_whole l hw j hj
  rw [h] at this
  cases this

set_option maxRecDepth 100000 in
set_option maxHeartbeats 1000000 in
theorem refIsName_ok (l : List UInt8) (w : World) (hn : l.length ≤ 1000000000) :
    Calls Tryz.prog 66 #[.string ⟨l.toArray⟩] w fun e w' => e = .returned (.bool (decide (l.length ≤ 32) && whole l 1 && !isW l)) ∧ Below w.heap.size w w' := by
  go_enter Tryz.func66, Tryz.ntmps66
  go_wp2_with fail
  go_loop [3] (fun i => ∃ k : Nat, k ≤ l.length ∧ i = .int .i64 k ∧ Hid (∀ j, j < k → nameC l j = true)) (fun i => l.length - (intOf i).toNat)
  case atStart => exact ⟨0, by omega, rfl, Lib.hid (fun j hj => by omega)⟩
  case round =>
    obtain ⟨k, hk, rfl, HK⟩ := hrel
    by_cases hlt : k < l.length
    · have hcl := letter_ok (chr l k)
      have hcd := digit_ok (chr l k)
      cases hL : isL (chr l k)
      · by_cases hk0 : k = 0
        · subst hk0
          rw [hL] at hcl
          have HCL := Lib.hid hcl
          have HW := Lib.hid (whole_not l 0 hlt (by simp [nameC, hL]))
          clear hcl hcd hL
          go_wp2_with (go_at_call 29; refine (HCL.out _).mono ?_; rintro e w' ⟨rfl, rfl⟩)
          go_ret
          exact ⟨ret_bool (by rw [HW.out]; simp), Below.refl _ _⟩
        · have hkb : ((k : Int) == 0) = false := by rw [beq_eq_false_iff_ne]; omega
          have hkb' : (k == 0) = false := by rw [beq_eq_false_iff_ne]; omega
          have hpos : 0 < k := by omega
          clear hk0
          cases hD : isD (chr l k)
          · rw [hL] at hcl
            rw [hD] at hcd
            have HCL := Lib.hid hcl
            have HCD := Lib.hid hcd
            have HW := Lib.hid (whole_not l k hlt (by simp [nameC, hL, hD]))
            clear hcl hcd hL hD
            go_wp2_with (first
              | (go_at_call 29; refine (HCL.out _).mono ?_; rintro e w' ⟨rfl, rfl⟩)
              | (go_at_call 30; refine (HCD.out _).mono ?_; rintro e w' ⟨rfl, rfl⟩))
            go_ret
            exact ⟨ret_bool (by rw [HW.out]; simp), Below.refl _ _⟩
          · rw [hL] at hcl
            rw [hD] at hcd
            have HCL := Lib.hid hcl
            have HCD := Lib.hid hcd
            have HN := Lib.hid (show nameC l k = true by simp [nameC, hD, hpos])
            clear hcl hcd hL hD
            go_wp2_with (first
              | (go_at_call 29; refine (HCL.out _).mono ?_; rintro e w' ⟨rfl, rfl⟩)
              | (go_at_call 30; refine (HCD.out _).mono ?_; rintro e w' ⟨rfl, rfl⟩))
            go_round
            case rel => exact ⟨k + 1, by omega, by go_num, Lib.hid (fun j hj => by
              rcases Nat.lt_or_ge j k with h | h
              · exact HK.out j h
              · have : j = k := by omega
                rw [this]; exact HN.out)⟩
            case measure => simp [intOf]; omega
      · rw [hL] at hcl
        have HCL := Lib.hid hcl
        have HN := Lib.hid (show nameC l k = true by simp [nameC, hL])
        clear hcl hcd hL
        go_wp2_with (go_at_call 29; refine (HCL.out _).mono ?_; rintro e w' ⟨rfl, rfl⟩)
        go_round
        case rel => exact ⟨k + 1, by omega, by go_num, Lib.hid (fun j hj => by
          rcases Nat.lt_or_ge j k with h | h
          · exact HK.out j h
          · have : j = k := by omega
            rw [this]; exact HN.out)⟩
        case measure => simp [intOf]; omega
    · obtain rfl : k = l.length := by omega
      by_cases hl : l = []
      · have HW : Hid (whole l 1 = false) := Lib.hid (by rw [hl]; rfl)
        have hle : l.isEmpty = true := by simp [hl]
        clear hl
        go_wp2_with fail
        go_ret
        exact ⟨ret_bool (by rw [HW.out]; simp), Below.refl _ _⟩
      · have HW := Lib.hid (whole_name l hl HK.out)
        have hle : l.isEmpty = false := by cases l <;> simp_all
        clear hl
        by_cases h32 : l.length ≤ 32
        · go_wp2_with (go_at_call 31; refine (refIsWord_ok _ _).mono ?_; rintro e w' ⟨rfl, hb⟩)
          go_ret
          exact ⟨ret_bool (by rw [HW.out]; simp [h32]), hb⟩
        · have hd : decide (l.length ≤ 32) = false := by simpa using h32
          go_wp2_with fail
          go_ret
          exact ⟨ret_bool (by simp), Below.refl _ _⟩
end Go.Proofs.YtehdljcmeimbcaaGreat

namespace Go.Proofs.YtehdljcmeimbcaaGreat
open Go.RowKit

/-- Is a text a name? -/
def isNm (s : List UInt8) : Bool := decide (s.length ≤ 32) && whole s 1 && !isW s

set_option maxRecDepth 100000 in
set_option maxHeartbeats 1000000 in
theorem term2_ok (k : Int) (w : World) :
    Calls Tryz.prog 41 #[.int .i64 k] w fun e w' => e = .returned (.bool (isTm k)) ∧ w = w' := by
  go_enter Tryz.func41, Tryz.ntmps41
  go_wp2
  all_goals go_ret
  all_goals exact ⟨ret_bool (by rw [Bool.eq_iff_iff]; simp [isTm]; omega), rfl⟩
set_option maxRecDepth 100000 in
set_option maxHeartbeats 1000000 in
theorem statement2_ok (k : Int) (w : World) :
    Calls Tryz.prog 43 #[.int .i64 k] w fun e w' => e = .returned (.bool (isSt k)) ∧ w = w' := by
  go_enter Tryz.func43, Tryz.ntmps43
  go_wp2
  all_goals go_ret
  all_goals exact ⟨ret_bool (by rw [Bool.eq_iff_iff]; simp [isSt]; omega), rfl⟩
set_option maxRecDepth 100000 in
set_option maxHeartbeats 1000000 in
theorem declaration2_ok (k : Int) (w : World) :
    Calls Tryz.prog 84 #[.int .i64 k] w fun e w' => e = .returned (.bool (isDc k)) ∧ w = w' := by
  go_enter Tryz.func84, Tryz.ntmps84
  go_wp2
  all_goals go_ret
  all_goals (refine ⟨ret_bool ?_, rfl⟩; simp only [beq_iff_eq, beq_eq_false_iff_ne, ne_eq] at *; rw [Bool.eq_iff_iff]; simp [isDc]; try omega)
set_option maxRecDepth 100000 in
set_option maxHeartbeats 1000000 in
theorem variable2_ok (k : Int) (w : World) :
    Calls Tryz.prog 83 #[.int .i64 k] w fun e w' => e = .returned (.bool (isVr k)) ∧ w = w' := by
  go_enter Tryz.func83, Tryz.ntmps83
  go_wp2
  all_goals go_ret
  all_goals (refine ⟨ret_bool ?_, rfl⟩; (try simp only [beq_iff_eq, beq_eq_false_iff_ne, ne_eq] at *); rw [Bool.eq_iff_iff]; simp [isVr]; try omega)
set_option maxRecDepth 100000 in
set_option maxHeartbeats 1000000 in
theorem number2_ok (k n : Int) (w : World) :
    Calls Tryz.prog 37 #[.int .i64 k, .int .i64 n] w fun e w' => e = .returned (.bool (numOk k n)) ∧ w = w' := by
  go_enter Tryz.func37, Tryz.ntmps37
  go_wp2
  all_goals go_ret
  all_goals (refine ⟨ret_bool ?_, rfl⟩; simp only [beq_iff_eq, beq_eq_false_iff_ne, ne_eq] at *)
  all_goals first
    | (rename_i h9 h1; subst h9; simp [numOk, h1]; done)
    | (rw [Bool.eq_iff_iff]; simp only [numOk]; repeat' split)
  all_goals simp
  all_goals omega
set_option maxRecDepth 100000 in
set_option maxHeartbeats 1000000 in
theorem op2_ok (s : List UInt8) (w : World) :
    Calls Tryz.prog 65 #[.string ⟨s.toArray⟩] w fun e w' => e = .returned (.bool (isSg s)) ∧ w = w' := by
  go_enter Tryz.func65, Tryz.ntmps65
  go_wp2
  all_goals go_ret
  all_goals exact ⟨ret_bool (by simp [isSg, *]), rfl⟩
set_option maxRecDepth 100000 in
set_option maxHeartbeats 1000000 in
theorem type2_ok (s : List UInt8) (w : World) (hn : s.length ≤ 1000000000) :
    Calls Tryz.prog 64 #[.string ⟨s.toArray⟩] w fun e w' => e = .returned (.bool (isTy isNm s)) ∧ Below w.heap.size w w' := by
  have HN := Lib.hid (refIsName_ok s w hn)
  clear hn
  go_enter Tryz.func64, Tryz.ntmps64
  go_wp2_with (go_at_call 66; refine HN.out.mono ?_; rintro e w1 ⟨rfl, hb⟩)
  all_goals go_ret
  all_goals first
    | exact ⟨ret_bool (by simp [isTy, *]), Below.refl _ _⟩
    | exact ⟨ret_bool (by simp [isTy, isNm, *]), hb⟩
def letS (k : Int) : List UInt8 :=
  if k = 1 then [42, 100] else if k = 3 then [42, 109] else if k = 4 ∨ k = 6 then [121] else if k = 7 ∨ k = 9 ∨ k = 11 ∨ k = 36 then [98] else if k = 8 then [117, 42, 108] else if k = 10 then [117, 98] else if k = 12 then [42, 115] else if k = 13 then [121, 101] else if k = 14 then [118, 101] else if k = 15 ∨ k = 16 ∨ k = 17 ∨ k = 18 ∨ k = 30 ∨ k = 34 ∨ k = 35 then [101] else if k = 19 ∨ k = 20 then [101, 63, 118] else if k = 23 then [101, 98, 98] else if k = 24 then [101, 98] else if k = 31 ∨ k = 32 then [101, 101] else []
set_option maxRecDepth 100000 in
set_option maxHeartbeats 1000000 in
theorem letters2_ok (k : Int) (w : World) :
    Calls Tryz.prog 69 #[.int .i64 k] w fun e w' => e = .returned (.string ⟨(letS k).toArray⟩) ∧ w = w' := by
  go_enter Tryz.func69, Tryz.ntmps69
  go_wp2
  all_goals go_ret
  all_goals (refine ⟨?_, rfl⟩; simp only [beq_iff_eq, beq_eq_false_iff_ne, ne_eq] at *)
  all_goals first
    | (rename_i h; subst h; rfl)
    | (simp [letS, *]; done)
/-- Is a kind what a letter says? -/
def isR (k c : Int) : Bool := if c = 121 then k == 5 else if c = 98 then k == 12 else if c = 117 then k == 29 else if c = 101 then isTm k else if c = 118 then isVr k else if c = 115 then isSt k else if c = 100 then isDc k else if c = 109 then k == 4 else k == 9
set_option maxRecDepth 100000 in
set_option maxHeartbeats 1000000 in
theorem is2_ok (k c : Int) (w : World) :
    Calls Tryz.prog 70 #[.int .i64 k, .int .u8 c] w fun e w' => e = .returned (.bool (isR k c)) ∧ w = w' := by
  go_enter Tryz.func70, Tryz.ntmps70
  go_wp2_with (first
    | (go_at_call 41; refine (term2_ok k _).mono ?_; rintro e w1 ⟨rfl, rfl⟩)
    | (go_at_call 83; refine (variable2_ok k _).mono ?_; rintro e w1 ⟨rfl, rfl⟩)
    | (go_at_call 43; refine (statement2_ok k _).mono ?_; rintro e w1 ⟨rfl, rfl⟩)
    | (go_at_call 84; refine (declaration2_ok k _).mono ?_; rintro e w1 ⟨rfl, rfl⟩))
  all_goals go_ret
  all_goals (refine ⟨ret_bool ?_, rfl⟩; (try simp only [beq_iff_eq, beq_eq_false_iff_ne, ne_eq] at *))
  all_goals first
    | (rename_i h; subst h; rfl)
    | (simp [isR, *]; done)
set_option maxRecDepth 100000 in
set_option maxHeartbeats 2000000 in
theorem text2_ok (k : Int) (s : List UInt8) (w : World) (hn : s.length ≤ 1000000000) :
    Calls Tryz.prog 36 #[.int .i64 k, .string ⟨s.toArray⟩] w fun e w' => e = .returned (.bool (textOk isNm k s)) ∧ Below w.heap.size w w' := by
  have HN := Lib.hid (refIsName_ok s w hn)
  have HT := Lib.hid (type2_ok s w hn)
  clear hn
  go_enter Tryz.func36, Tryz.ntmps36
  go_wp2_with (first
    | (go_at_call 66; refine HN.out.mono ?_; rintro e w1 ⟨rfl, hb⟩)
    | (go_at_call 64; refine HT.out.mono ?_; rintro e w1 ⟨rfl, hb⟩)
    | (go_at_call 65; refine (op2_ok s _).mono ?_; rintro e w1 ⟨rfl, rfl⟩))
  all_goals go_ret
  all_goals refine ⟨ret_bool ?_, ?_⟩
  all_goals first
    | exact Below.refl _ _
    | assumption
    | skip
  all_goals (simp only [beq_iff_eq, beq_eq_false_iff_ne, ne_eq] at *)
  all_goals (simp [textOk, named, isNm, *])
end Go.Proofs.YtehdljcmeimbcaaGreat

namespace Go.Proofs.YtehdljcmeimbcaaGreat
set_option linter.unusedSimpArgs false
open Go.RowKit

/-- What stands in a kind's letters, one by one. -/
inductive It where
  | one (c : UInt8)
  | many (c : UInt8)
  | opt (c : UInt8)
def It.enc : It → List UInt8
  | .one c => [c]
  | .many c => [42, c]
  | .opt c => [63, c]
def encs (I : List It) : List UInt8 := I.flatMap It.enc
def optR (c : UInt8) : List Int → List Int
  | [] => []
  | x :: r => if isR x c.toNat = true then r else x :: r
def kG : List It → List Int → Bool
  | [], l => l.isEmpty
  | .one _ :: _, [] => false
  | .one c :: s, x :: r => isR x c.toNat && kG s r
  | .many c :: s, l => kG s (l.dropWhile fun x => isR x c.toNat)
  | .opt c :: s, l => kG s (optR c l)
def its (k : Int) : List It :=
  if k = 1 then [.many 100]
  else if k = 3 then [.many 109]
  else if k = 4 ∨ k = 6 then [.one 121]
  else if k = 7 ∨ k = 9 ∨ k = 11 ∨ k = 36 then [.one 98]
  else if k = 8 then [.one 117, .many 108]
  else if k = 10 then [.one 117, .one 98]
  else if k = 12 then [.many 115]
  else if k = 13 then [.one 121, .one 101]
  else if k = 14 then [.one 118, .one 101]
  else if k = 15 ∨ k = 16 ∨ k = 17 ∨ k = 18 ∨ k = 30 ∨ k = 34 ∨ k = 35 then [.one 101]
  else if k = 19 ∨ k = 20 then [.one 101, .opt 118]
  else if k = 23 then [.one 101, .one 98, .one 98]
  else if k = 24 then [.one 101, .one 98]
  else if k = 31 ∨ k = 32 then [.one 101, .one 101]
  else []
theorem letS_its (k : Int) : letS k = encs (its k) := by
  unfold letS its
  by_cases h : k = 1
  · rw [if_pos h, if_pos h]
    rfl
  rw [if_neg h, if_neg h]
  clear h
  by_cases h : k = 3
  · rw [if_pos h, if_pos h]
    rfl
  rw [if_neg h, if_neg h]
  clear h
  by_cases h : k = 4 ∨ k = 6
  · rw [if_pos h, if_pos h]
    rfl
  rw [if_neg h, if_neg h]
  clear h
  by_cases h : k = 7 ∨ k = 9 ∨ k = 11 ∨ k = 36
  · rw [if_pos h, if_pos h]
    rfl
  rw [if_neg h, if_neg h]
  clear h
  by_cases h : k = 8
  · rw [if_pos h, if_pos h]
    rfl
  rw [if_neg h, if_neg h]
  clear h
  by_cases h : k = 10
  · rw [if_pos h, if_pos h]
    rfl
  rw [if_neg h, if_neg h]
  clear h
  by_cases h : k = 12
  · rw [if_pos h, if_pos h]
    rfl
  rw [if_neg h, if_neg h]
  clear h
  by_cases h : k = 13
  · rw [if_pos h, if_pos h]
    rfl
  rw [if_neg h, if_neg h]
  clear h
  by_cases h : k = 14
  · rw [if_pos h, if_pos h]
    rfl
  rw [if_neg h, if_neg h]
  clear h
  by_cases h : k = 15 ∨ k = 16 ∨ k = 17 ∨ k = 18 ∨ k = 30 ∨ k = 34 ∨ k = 35
  · rw [if_pos h, if_pos h]
    rfl
  rw [if_neg h, if_neg h]
  clear h
  by_cases h : k = 19 ∨ k = 20
  · rw [if_pos h, if_pos h]
    rfl
  rw [if_neg h, if_neg h]
  clear h
  by_cases h : k = 23
  · rw [if_pos h, if_pos h]
    rfl
  rw [if_neg h, if_neg h]
  clear h
  by_cases h : k = 24
  · rw [if_pos h, if_pos h]
    rfl
  rw [if_neg h, if_neg h]
  clear h
  by_cases h : k = 31 ∨ k = 32
  · rw [if_pos h, if_pos h]
    rfl
  rw [if_neg h, if_neg h]
  clear h
  rfl
def Wf (I : List It) : Prop := ∀ c, It.one c ∈ I → c ≠ 42 ∧ c ≠ 63
def wfB (I : List It) : Bool := I.all fun x => match x with
  | .one c => c != 42 && c != 63
  | _ => true
theorem wf_of {I : List It} (h : wfB I = true) : Wf I := by
  intro c hc
  have := List.all_eq_true.1 h _ hc
  simpa using this
theorem wf_its (k : Int) : Wf (its k) := by
  refine wf_of ?_
  unfold its
  by_cases h : k = 1
  · rw [if_pos h]
    rfl
  rw [if_neg h]
  clear h
  by_cases h : k = 3
  · rw [if_pos h]
    rfl
  rw [if_neg h]
  clear h
  by_cases h : k = 4 ∨ k = 6
  · rw [if_pos h]
    rfl
  rw [if_neg h]
  clear h
  by_cases h : k = 7 ∨ k = 9 ∨ k = 11 ∨ k = 36
  · rw [if_pos h]
    rfl
  rw [if_neg h]
  clear h
  by_cases h : k = 8
  · rw [if_pos h]
    rfl
  rw [if_neg h]
  clear h
  by_cases h : k = 10
  · rw [if_pos h]
    rfl
  rw [if_neg h]
  clear h
  by_cases h : k = 12
  · rw [if_pos h]
    rfl
  rw [if_neg h]
  clear h
  by_cases h : k = 13
  · rw [if_pos h]
    rfl
  rw [if_neg h]
  clear h
  by_cases h : k = 14
  · rw [if_pos h]
    rfl
  rw [if_neg h]
  clear h
  by_cases h : k = 15 ∨ k = 16 ∨ k = 17 ∨ k = 18 ∨ k = 30 ∨ k = 34 ∨ k = 35
  · rw [if_pos h]
    rfl
  rw [if_neg h]
  clear h
  by_cases h : k = 19 ∨ k = 20
  · rw [if_pos h]
    rfl
  rw [if_neg h]
  clear h
  by_cases h : k = 23
  · rw [if_pos h]
    rfl
  rw [if_neg h]
  clear h
  by_cases h : k = 24
  · rw [if_pos h]
    rfl
  rw [if_neg h]
  clear h
  by_cases h : k = 31 ∨ k = 32
  · rw [if_pos h]
    rfl
  rw [if_neg h]
  clear h
  rfl
theorem dw_all (p : Int → Bool) : ∀ l : List Int, (l.dropWhile p).isEmpty = l.all p
  | [] => rfl
  | x :: r => by
    simp only [List.dropWhile, List.all_cons]
    cases hp : p x
    · simp
    · simp [dw_all p r]
theorem noK_all (l : List Int) : l.all noK = l.isEmpty := by cases l <;> simp [noK]
theorem kG_its (k : Int) (l : List Int) : kG (its k) l = kidsOk k l := by
  unfold its kidsOk
  by_cases h : k = 1
  · rw [if_pos h, if_pos h]
    exact dw_all _ l
  rw [if_neg h, if_neg h]
  clear h
  by_cases h : k = 3
  · rw [if_pos h, if_pos h]
    exact dw_all _ l
  rw [if_neg h, if_neg h]
  clear h
  by_cases h : k = 4 ∨ k = 6
  · rw [if_pos h, if_pos h]
    rcases l with _ | ⟨x, r⟩ <;> simp [kG, rowOk, noK_all, isR, isK]
  rw [if_neg h, if_neg h]
  clear h
  by_cases h : k = 7 ∨ k = 9 ∨ k = 11 ∨ k = 36
  · rw [if_pos h, if_pos h]
    rcases l with _ | ⟨x, r⟩ <;> simp [kG, rowOk, noK_all, isR, isK]
  rw [if_neg h, if_neg h]
  clear h
  by_cases h : k = 8
  · rw [if_pos h, if_pos h]
    rcases l with _ | ⟨x, r⟩
    · rfl
    · simp [kG, rowOk, isR, dw_all]
      rfl
  rw [if_neg h, if_neg h]
  clear h
  by_cases h : k = 10
  · rw [if_pos h, if_pos h]
    rcases l with _ | ⟨x, _ | ⟨y, r⟩⟩ <;> simp [kG, rowOk, noK_all, isR, isK]
  rw [if_neg h, if_neg h]
  clear h
  by_cases h : k = 12
  · rw [if_pos h, if_pos h]
    exact dw_all _ l
  rw [if_neg h, if_neg h]
  clear h
  by_cases h : k = 13
  · rw [if_pos h, if_pos h]
    rcases l with _ | ⟨x, _ | ⟨y, r⟩⟩ <;> simp [kG, rowOk, noK_all, isR, isK]
  rw [if_neg h, if_neg h]
  clear h
  by_cases h : k = 14
  · rw [if_pos h, if_pos h]
    rcases l with _ | ⟨x, _ | ⟨y, r⟩⟩ <;> simp [kG, rowOk, noK_all, isR, isK]
  rw [if_neg h, if_neg h]
  clear h
  by_cases h : k = 15 ∨ k = 16 ∨ k = 17 ∨ k = 18 ∨ k = 30 ∨ k = 34 ∨ k = 35
  · rw [if_pos h, if_pos h]
    rcases l with _ | ⟨x, r⟩ <;> simp [kG, rowOk, noK_all, isR, isK]
  rw [if_neg h, if_neg h]
  clear h
  by_cases h : k = 19 ∨ k = 20
  · rw [if_pos h, if_pos h]
    rcases l with _ | ⟨x, _ | ⟨y, r⟩⟩
    · rfl
    · simp [kG, rowOk, noK, isR, optR]
    · cases hv : isVr y <;> simp [kG, rowOk, noK, isR, optR, hv, noK_all]
  rw [if_neg h, if_neg h]
  clear h
  by_cases h : k = 23
  · rw [if_pos h, if_pos h]
    rcases l with _ | ⟨x, _ | ⟨y, _ | ⟨z, r⟩⟩⟩ <;> simp [kG, rowOk, noK_all, isR, isK]
  rw [if_neg h, if_neg h]
  clear h
  by_cases h : k = 24
  · rw [if_pos h, if_pos h]
    rcases l with _ | ⟨x, _ | ⟨y, r⟩⟩ <;> simp [kG, rowOk, noK_all, isR, isK]
  rw [if_neg h, if_neg h]
  clear h
  by_cases h : k = 31 ∨ k = 32
  · rw [if_pos h, if_pos h]
    rcases l with _ | ⟨x, _ | ⟨y, r⟩⟩ <;> simp [kG, rowOk, noK_all, isR, isK]
  rw [if_neg h, if_neg h]
  clear h
  simp [kG, rowOk, noK_all]

def lenB (J : List It) : Bool := decide ((encs J).length ≤ 3)
theorem len_its (k : Int) : (encs (its k)).length ≤ 3 := by
  have h0 : lenB (its k) = true := by
    unfold its
    by_cases h : k = 1
    · rw [if_pos h]
      rfl
    rw [if_neg h]
    clear h
    by_cases h : k = 3
    · rw [if_pos h]
      rfl
    rw [if_neg h]
    clear h
    by_cases h : k = 4 ∨ k = 6
    · rw [if_pos h]
      rfl
    rw [if_neg h]
    clear h
    by_cases h : k = 7 ∨ k = 9 ∨ k = 11 ∨ k = 36
    · rw [if_pos h]
      rfl
    rw [if_neg h]
    clear h
    by_cases h : k = 8
    · rw [if_pos h]
      rfl
    rw [if_neg h]
    clear h
    by_cases h : k = 10
    · rw [if_pos h]
      rfl
    rw [if_neg h]
    clear h
    by_cases h : k = 12
    · rw [if_pos h]
      rfl
    rw [if_neg h]
    clear h
    by_cases h : k = 13
    · rw [if_pos h]
      rfl
    rw [if_neg h]
    clear h
    by_cases h : k = 14
    · rw [if_pos h]
      rfl
    rw [if_neg h]
    clear h
    by_cases h : k = 15 ∨ k = 16 ∨ k = 17 ∨ k = 18 ∨ k = 30 ∨ k = 34 ∨ k = 35
    · rw [if_pos h]
      rfl
    rw [if_neg h]
    clear h
    by_cases h : k = 19 ∨ k = 20
    · rw [if_pos h]
      rfl
    rw [if_neg h]
    clear h
    by_cases h : k = 23
    · rw [if_pos h]
      rfl
    rw [if_neg h]
    clear h
    by_cases h : k = 24
    · rw [if_pos h]
      rfl
    rw [if_neg h]
    clear h
    by_cases h : k = 31 ∨ k = 32
    · rw [if_pos h]
      rfl
    rw [if_neg h]
    clear h
    rfl
  simpa [lenB] using h0
theorem char_ne {c : UInt8} {n : Nat} (hn : n < 256) (h : c ≠ UInt8.ofNat n) : ((c.toNat : Int) == (n : Int)) = false := by
  rw [beq_eq_false_iff_ne]
  intro e
  refine h (UInt8.toNat.inj ?_)
  have : c.toNat = n := by omega
  rw [this]
  simp
  omega
theorem int_end (L : List Int) (i : Nat) (hi : i ≤ L.length) : ((i : Int) == (L.length : Int)) = kG [] (L.drop i) := by
  rw [Bool.eq_iff_iff]
  simp [kG, List.isEmpty_iff, List.drop_eq_nil_iff]
  omega
theorem is2_same (k c : Int) (w : World) : Calls Tryz.prog 70 #[.int .i64 k, .int .u8 c] w fun e w' => e = .returned (.bool (isR k c)) ∧ w' = w := (is2_ok k c w).mono fun _ _ h => ⟨h.1, h.2.symm⟩
theorem quiet_at {P : Program} {f : FuncId} {args : Array Value} {w : World} {a n : Nat} {v : Value} (h : Calls P f args (w.drewN (a + n)) fun e w' => e = .returned v ∧ w' = w.drewN (a + n)) : Calls P f args (w.drewN (a + n)) fun e w'' => e = .returned v ∧ ∃ m, w'' = w.drewN (a + m) :=
  h.mono fun _ _ ⟨he, hm⟩ => ⟨he, n, hm⟩
theorem chr_behind (p x : List UInt8) (a : Nat) : chr (p ++ x) (p.length + a) = chr x a := by
  unfold chr
  rw [List.getElem?_append_right (by omega), show p.length + a - p.length = a by omega]
theorem encs_app (I J : List It) : encs (I ++ J) = encs I ++ encs J := by simp [encs]
theorem encs_cons (x : It) (J : List It) : encs (x :: J) = x.enc ++ encs J := rfl
attribute [local go_sem] str_at

set_option maxRecDepth 100000 in
set_option maxHeartbeats 2000000 in
theorem kids2_ok (k : Int) (L : List Int) (A : Option Addr) (cap : Nat) (w : World) (hA : ∀ (i : Nat) (x : Int), L[i]? = some x → ∃ g, A = some ⟨g, 0, none⟩ ∧ w.cell? ⟨g, i, none⟩ = some (.int .i64 x)) (hl : L.length ≤ 1000000000) :
    Calls Tryz.prog 39 #[.int .i64 k, .slice A L.length cap] w fun e w' => e = .returned (.bool (kidsOk k L)) ∧ Below w.heap.size w w' := by
  rw [← kG_its]
  have hlet := letters2_ok k w
  rw [letS_its] at hlet
  have hwf := wf_its k
  have hsh : (encs (its k)).length ≤ 3 := by
    exact len_its k
  generalize its k = I at *
  obtain ⟨S, hS⟩ : ∃ S, S = encs I := ⟨_, rfl⟩
  rw [← hS] at hlet hsh
  have HL := Lib.hid hlet
  have HW := Lib.hid hwf
  have HA := Lib.hid hA
  have HS := Lib.hid hS
  clear hlet hwf hA hS
  go_enter Tryz.func39, Tryz.ntmps39
  go_wp2_with (go_at_call 69; refine HL.out.mono ?_; rintro e w1 ⟨rfl, rfl⟩)
  go_loopg [6, 7] I.length (fun n v6 v7 wr => ∃ (pre J : List It) (i p nq : Nat), I = pre ++ J ∧ J.length = n ∧ p = (encs pre).length ∧ v6 = .int .i64 i ∧ v7 = .int .i64 p ∧ i ≤ L.length ∧ kG J (L.drop i) = kG I L ∧ wr = w.drewN nq)
  case atStart => exact ⟨[], I, 0, 0, 0, rfl, rfl, rfl, rfl, rfl, by omega, rfl, rfl⟩
  case round =>
    obtain ⟨pre, J, i, p, nq, hI, hJ, hp, rfl, rfl, hi, hk, rfl⟩ := hrel
    have hS0 := HS.out
    rw [hI, encs_app] at hS0
    cases J with
    | nil =>
      have hpl : p = S.length := by rw [hp, hS0]; simp [encs]
      subst hpl
      have HK := Lib.hid hk
      clear hI hJ hp hk hS0
      go_wp2_with fail
      go_ret
      refine ⟨ret_bool ?_, bdrew (Below.refl _ _) _⟩
      rw [← HK.out]
      exact int_end L i hi
    | cons it J =>
      rw [encs_cons] at hS0
      have hx : S.length = p + it.enc.length + (encs J).length := by rw [hS0, hp]; simp; omega
      have hch : ∀ a, a < it.enc.length → chr S (p + a) = chr it.enc a := fun a ha => by
        rw [hS0, hp, chr_behind]
        unfold chr
        rw [List.getElem?_append_left ha]
      have HI := Lib.hid hI
      have HJ := Lib.hid hJ
      have HP := Lib.hid hp
      have HK := Lib.hid hk
      clear hI hJ hp hk hS0
      cases it with
      | one c =>
        have h0 : chr S p = (c.toNat : Int) := hch 0 (by simp [It.enc])
        replace hx : S.length = p + 1 + (encs J).length := hx
        obtain ⟨h1, h2⟩ := HW.out c (by rw [HI.out]; simp)
        have c1 : (chr S p == 42) = false := by rw [h0]; exact char_ne (n := 42) (by decide) h1
        have c2 : (chr S p == 63) = false := by rw [h0]; exact char_ne (n := 63) (by decide) h2
        have H0 := Lib.hid h0
        have hpS : p < S.length := by omega
        clear hch h1 h2 h0 hx
        by_cases hlt : i < L.length
        · obtain ⟨g, rfl, hc⟩ := HA.out i _ (List.getElem?_eq_getElem hlt)
          have HD := Lib.hid (List.drop_eq_getElem_cons hlt)
          generalize L[i] = x at *
          have his := fun w => is2_same x (chr S p) w
          have ei : ((i : Int) == (L.length : Int)) = false := by rw [beq_eq_false_iff_ne]; omega
          have ein : (i == L.length) = false := by rw [beq_eq_false_iff_ne]; omega
          cases hr : isR x (chr S p)
          · rw [hr] at his
            have HIS := Lib.hid his
            have HR := Lib.hid hr
            clear hr his
            go_upto_region 7 with (fail)
            go_quiet (first | (go_at_call 70; refine quiet_at (HIS.out _)))
            go_wp2_with fail
            go_ret
            refine ⟨ret_bool ?_, bdrew (bdrew (Below.refl _ _) _) _⟩
            rw [← HK.out, HD.out, kG, ← H0.out, HR.out]
            rfl
          · rw [hr] at his
            have HIS := Lib.hid his
            have HR := Lib.hid hr
            clear hr his
            go_upto_region 7 with (fail)
            go_quiet (first | (go_at_call 70; refine quiet_at (HIS.out _)))
            go_wp2_with fail
            go_roundg (gk - 1)
            case measure =>
              have := HJ.out
              simp only [List.length_cons] at this
              omega
            case rel => exact ⟨pre ++ [.one c], J, i + 1, p + 1, _, by rw [HI.out]; simp, by have := HJ.out; simp only [List.length_cons] at this; omega, by rw [encs_app, HP.out]; simp [encs, It.enc], by go_num, by go_num, by omega, by rw [← HK.out, HD.out, kG, ← H0.out, HR.out]; rfl, rfl⟩
        · obtain rfl : i = L.length := by omega
          have HD := Lib.hid (List.drop_of_length_le (Nat.le_refl L.length))
          go_upto_region 7 with (fail)
          go_quiet (fail)
          go_wp2_with fail
          go_ret
          refine ⟨ret_bool ?_, bdrew (bdrew (Below.refl _ _) _) _⟩
          rw [← HK.out, HD.out]
          rfl
      | many c =>
        have h0 : chr S p = 42 := hch 0 (by simp [It.enc])
        have h1 : chr S (p + 1) = (c.toNat : Int) := hch 1 (by simp [It.enc])
        replace hx : S.length = p + 2 + (encs J).length := hx
        have hpS : p < S.length := by omega
        have hpS1 : p + 1 < S.length := by omega
        have c1 : (chr S p == 42) = true := by rw [h0]; rfl
        have H1 := Lib.hid h1
        clear hch h1 hx h0
        go_wp2_with fail
        obtain ⟨q, hq⟩ : ∃ q : Nat, (p : Int) + 1 = q := ⟨p + 1, by omega⟩
        have hqp : q = p + 1 := by omega
        rw [← hqp] at H1 hpS1
        rw [hq]
        have HQP := Lib.hid hqp
        clear hq hqp
        go_loopg [6] (L.length - i) (fun n v6 wr => ∃ a nz : Nat, a + n = L.length ∧ v6 = .int .i64 a ∧ (L.drop a).dropWhile (fun x => isR x c.toNat) = (L.drop i).dropWhile (fun x => isR x c.toNat) ∧ wr = w.drewN nz)
        case atStart => exact ⟨i, nq, by omega, rfl, rfl, rfl⟩
        case round =>
          obtain ⟨a, nz, ha, rfl, hd, rfl⟩ := hrel
          by_cases hlt : a < L.length
          · obtain ⟨g, rfl, hc⟩ := HA.out a _ (List.getElem?_eq_getElem hlt)
            have HD := Lib.hid (List.drop_eq_getElem_cons hlt)
            generalize L[a] = x at *
            have his := fun w => is2_same x (chr S q) w
            cases hr : isR x (chr S q)
            · rw [hr] at his
              have HIS := Lib.hid his
              rw [H1.out] at hr
              have HR := Lib.hid hr
              have HDW := Lib.hid hd
              clear hr his hd
              go_upto_region 12 with (fail)
              go_quiet (first | (go_at_call 70; refine quiet_at (HIS.out _)))
              go_wp2_with fail
              go_roundg J.length
              case measure =>
                have := HJ.out
                simp only [List.length_cons] at this
                omega
              case rel => exact ⟨pre ++ [.many c], J, a, q + 1, _, by rw [HI.out]; simp, rfl, by rw [encs_app, HQP.out, HP.out]; simp [encs, It.enc], rfl, by go_num, by omega, by rw [← HK.out, kG, ← HDW.out, HD.out, List.dropWhile_cons, HR.out]; rfl, rfl⟩
            · rw [hr] at his
              have HIS := Lib.hid his
              rw [H1.out] at hr
              have HR := Lib.hid hr
              have HDW := Lib.hid hd
              clear hr his hd
              go_upto_region 12 with (fail)
              go_quiet (first | (go_at_call 70; refine quiet_at (HIS.out _)))
              go_wp2_with fail
              go_roundg (gk - 1)
              case measure => omega
              case rel => exact ⟨a + 1, _, by omega, by go_num, by rw [← HDW.out, HD.out, List.dropWhile_cons, HR.out]; rfl, rfl⟩
          · obtain rfl : a = L.length := by omega
            have HD := Lib.hid (List.drop_of_length_le (Nat.le_refl L.length))
            have HDW := Lib.hid hd
            clear hd
            go_upto_region 12 with (fail)
            go_quiet (fail)
            go_wp2_with fail
            go_roundg J.length
            case measure =>
              have := HJ.out
              simp only [List.length_cons] at this
              omega
            case rel => exact ⟨pre ++ [.many c], J, L.length, q + 1, _, by rw [HI.out]; simp, rfl, by rw [encs_app, HQP.out, HP.out]; simp [encs, It.enc], rfl, by go_num, by omega, by rw [← HK.out, kG, ← HDW.out, HD.out]; rfl, rfl⟩
      | opt c =>
        have h0 : chr S p = 63 := hch 0 (by simp [It.enc])
        have h1 : chr S (p + 1) = (c.toNat : Int) := hch 1 (by simp [It.enc])
        replace hx : S.length = p + 2 + (encs J).length := hx
        have hpS : p < S.length := by omega
        have hpS1 : p + 1 < S.length := by omega
        have H1 := Lib.hid h1
        have c1 : (chr S p == 42) = false := by rw [h0]; rfl
        have c2 : (chr S p == 63) = true := by rw [h0]; rfl
        clear hch h1 hx h0
        go_upto_region 16 with (fail)
        obtain ⟨q, hq⟩ : ∃ q : Nat, (p : Int) + 1 = q := ⟨p + 1, by omega⟩
        have hqp : q = p + 1 := by omega
        rw [← hqp] at H1 hpS1
        rw [hq]
        have HQP := Lib.hid hqp
        clear hq hqp
        by_cases hlt : i < L.length
        · obtain ⟨g, rfl, hc⟩ := HA.out i _ (List.getElem?_eq_getElem hlt)
          have HD := Lib.hid (List.drop_eq_getElem_cons hlt)
          generalize L[i] = x at *
          have his := fun w => is2_same x (chr S q) w
          cases hr : isR x (chr S q)
          · rw [hr] at his
            have HIS := Lib.hid his
            rw [H1.out] at hr
            have HR := Lib.hid hr
            clear hr his
            go_quiet (first | (go_at_call 70; refine quiet_at (HIS.out _)))
            go_wp2_with fail
            go_roundg J.length
            case measure =>
              have := HJ.out
              simp only [List.length_cons] at this
              omega
            case rel => exact ⟨pre ++ [.opt c], J, i, q + 1, _, by rw [HI.out]; simp, rfl, by rw [encs_app, HQP.out, HP.out]; simp [encs, It.enc], rfl, by go_num, by omega, by rw [← HK.out, kG, HD.out, optR, HR.out]; rfl, rfl⟩
          · rw [hr] at his
            have HIS := Lib.hid his
            rw [H1.out] at hr
            have HR := Lib.hid hr
            clear hr his
            go_quiet (first | (go_at_call 70; refine quiet_at (HIS.out _)))
            go_wp2_with fail
            go_roundg J.length
            case measure =>
              have := HJ.out
              simp only [List.length_cons] at this
              omega
            case rel => exact ⟨pre ++ [.opt c], J, i + 1, q + 1, _, by rw [HI.out]; simp, rfl, by rw [encs_app, HQP.out, HP.out]; simp [encs, It.enc], by go_num, by go_num, by omega, by rw [← HK.out, kG, HD.out, optR, HR.out]; rfl, rfl⟩
        · obtain rfl : i = L.length := by omega
          have HD := Lib.hid (List.drop_of_length_le (Nat.le_refl L.length))
          go_quiet (fail)
          go_wp2_with fail
          go_roundg J.length
          case measure =>
            have := HJ.out
            simp only [List.length_cons] at this
            omega
          case rel => exact ⟨pre ++ [.opt c], J, L.length, q + 1, _, by rw [HI.out]; simp, rfl, by rw [encs_app, HQP.out, HP.out]; simp [encs, It.enc], rfl, by go_num, by omega, by rw [← HK.out, kG, HD.out]; rfl, rfl⟩
end Go.Proofs.YtehdljcmeimbcaaGreat
