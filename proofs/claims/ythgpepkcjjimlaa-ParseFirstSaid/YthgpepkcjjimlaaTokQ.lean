/- The reference's Number and mark: their walks. -/
import Derived.Test.YthgpepkcjjimlaaTokP
import Derived.WalkLawsBesides
import Derived.Deep.CutRange
namespace Go.Proofs.Ythgpepkcjjimlaa
open Go.RowKit
attribute [local go_sem] str_at

set_option maxRecDepth 100000 in
set_option maxHeartbeats 1000000 in
theorem refNumber_ok (l : List UInt8) (w : World) (hn : l.length ≤ 1000000000) :
    Calls Try.prog 14 #[.string ⟨l.toArray⟩] w fun e w' => e = .returned (.tuple #[.int .i64 (numT l).1, .bool (numT l).2]) ∧ w = w' := by
  have HN := Lib.hid (rnT_eq l)
  go_enter Try.func14, Try.ntmps14
  go_wp2_with fail
  go_loop [4, 5] (fun n i => ∃ (m : Int) (j : Nat), 0 ≤ m ∧ m ≤ 1099511627776 ∧ j ≤ l.length ∧ n = .int .i64 m ∧ i = .int .i64 j ∧ Hid (rnA l m j = rnA l 0 0)) (fun _ i => l.length - (intOf i).toNat)
  case atStart => exact ⟨0, 0, by omega, by omega, by omega, rfl, rfl, Lib.hid rfl⟩
  case round =>
    obtain ⟨m, j, hm0, hm1, hj, rfl, rfl, HJ⟩ := hrel
    have h0 := chr_ge l j
    have h1 := chr_le l j
    by_cases hlj : j < l.length
    · cases hd : isD (chr l j)
      · have HD := Lib.hid hd
        have hcon := digit_ok (chr l j)
        rw [hd] at hcon
        have HC := Lib.hid hcon
        clear hd hcon
        go_wp2_with (go_at_call 12; refine (HC.out _).mono ?_; rintro e w' ⟨rfl, rfl⟩)
        go_ret2
        have hx : rnT l = (0, false) := by unfold rnT; rw [← HJ.out, rnA_not l m j hlj HD.out]
        exact ⟨by rw [← HN.out, hx]; rfl, rfl⟩
      · have HD := Lib.hid hd
        have hcon := digit_ok (chr l j)
        rw [hd] at hcon
        have HC := Lib.hid hcon
        have hd1 : 48 ≤ chr l j := by simp [isD] at hd; omega
        have hd2 : chr l j ≤ 57 := by simp [isD] at hd; omega
        clear hd hcon
        go_wp2_with (go_at_call 12; refine (HC.out _).mono ?_; rintro e w' ⟨rfl, rfl⟩)
        go_round
        case rel =>
          have e : (if 1099511627776 < 10 * m + (chr l j - 48) then (1099511627776 : Int) else 10 * m + (chr l j - 48)) = min (10 * m + (chr l j - 48)) 1099511627776 := by split <;> omega
          rw [e]
          exact ⟨_, j + 1, by omega, by omega, by omega, rfl, by go_num, Lib.hid ((rnA_more l m j hlj HD.out).symm.trans HJ.out)⟩
        case measure => simp [intOf]; omega
    · have hx : rnA l 0 0 = some m := by rw [← HJ.out, rnA_end l m j (by omega)]
      by_cases hl : l = []
      · have hy : rnT l = (0, false) := by unfold rnT; rw [hx]; simp [hl]
        have HY := Lib.hid hy
        have hle : l.isEmpty = true := by simp [hl]
        have hlb : (l == []) = true := by simp [hl]
        clear hx hy hl
        go_wp2_with fail
        go_ret2
        exact ⟨by rw [← HN.out, HY.out]; rfl, rfl⟩
      · have hle : l.isEmpty = false := by cases l <;> simp_all
        have hlb : (l == []) = false := by simp [hl]
        by_cases hb : 2147483647 < m
        · have hy : rnT l = (0, false) := by unfold rnT; rw [hx]; simp [hb]
          have HY := Lib.hid hy
          clear hx hy hl
          go_wp2_with fail
          go_ret2
          exact ⟨by rw [← HN.out, HY.out]; rfl, rfl⟩
        · have hy : rnT l = (m, true) := by unfold rnT; rw [hx]; simp [hb, hl]
          have HY := Lib.hid hy
          clear hx hy hl
          go_wp2_with fail
          go_ret2
          exact ⟨by rw [← HN.out, HY.out]; rfl, rfl⟩

/-- How many bytes the mark at a place has. -/
def mk (l : List UInt8) (p : Nat) : Int := if pre2 (l.drop p) = true then 2 else if isM (chr l p) = true then 1 else 0
theorem pre2_at (l : List UInt8) (p : Nat) : pre2 (l.drop p) = (decide (p + 1 < l.length) && (chr l p == 61) && (chr l (p + 1) == 61)) := by
  by_cases h : p + 1 < l.length
  · obtain ⟨x, hx, hc⟩ := drop_chr l p (by omega)
    obtain ⟨y, hy, hd⟩ := drop_chr l (p + 1) h
    rw [hx, hy, hc, hd]
    unfold pre2
    rw [Bool.eq_iff_iff]
    simp [h]
    constructor
    · rintro ⟨rfl, rfl⟩; exact ⟨rfl, rfl⟩
    · rintro ⟨h1, h2⟩
      refine ⟨UInt8.toNat_inj.1 ?_, UInt8.toNat_inj.1 ?_⟩
      · show x.toNat = 61; omega
      · show y.toNat = 61; omega
  · rw [Bool.eq_iff_iff]
    simp only [h, decide_false, Bool.false_and, Bool.false_eq_true, iff_false]
    intro hp
    have := pre2_len _ hp
    rw [List.length_drop] at this
    omega

theorem isM_take (l : List UInt8) (p k : Nat) (h : k < 13) (hn : (marksL.take k).contains (UInt8.ofNat (chr l p).toNat) = false) (hne : ¬ chr l p = chr marksL k) : (marksL.take (k + 1)).contains (UInt8.ofNat (chr l p).toNat) = false := by
  have hl : k < marksL.length := h
  rw [List.take_succ_eq_append_getElem hl]
  rw [Bool.eq_false_iff] at hn ⊢
  intro hc
  rw [List.contains_iff_mem, List.mem_append] at hc
  rcases hc with hc | hc
  · exact hn (by rw [List.contains_iff_mem]; exact hc)
  · simp at hc
    apply hne
    have h0 := chr_ge l p
    have h1 := chr_le l p
    have e : chr marksL k = (marksL[k].toNat : Int) := by unfold chr; rw [List.getElem?_eq_getElem hl]; rfl
    rw [e, ← hc]
    simp
    omega
theorem isM_hit (l : List UInt8) (p k : Nat) (h : k < 13) (he : chr l p = chr marksL k) : isM (chr l p) = true := by
  have hl : k < marksL.length := h
  have e : chr marksL k = (marksL[k].toNat : Int) := by unfold chr; rw [List.getElem?_eq_getElem hl]; rfl
  unfold isM
  rw [List.contains_iff_mem, he, e]
  have : UInt8.ofNat ((marksL[k].toNat : Int)).toNat = marksL[k] := by simp
  rw [this]
  exact List.getElem_mem hl

set_option maxRecDepth 100000 in
set_option maxHeartbeats 1000000 in
theorem mark_ok (l : List UInt8) (b off cap p : Nat) (w : World) (hb : Bs w b off l) (hn : l.length ≤ 1000000000) (hp : p < l.length) :
    Calls Try.prog 15 #[.slice (some ⟨b, off, none⟩) l.length cap, .int .i64 p] w fun e w' => e = .returned (.int .i64 (mk l p)) ∧ ∃ n, w' = w.drewN n := by
  have hcell := hb p hp
  have HPRE := Lib.hid (pre2_at l p)
  have HB := Lib.hid hb
  clear hb
  have h0 := chr_ge l p
  have h1 := chr_le l p
  generalize hq : pre2 (l.drop p) = q at HPRE
  have HQ := Lib.hid hq
  clear hq
  go_enter Try.func15, Try.ntmps15
  go_upto_region 1 with (fail)
  go_cut [26] from 7 to 40 (fun s26 wx => s26 = .bool q ∧ w = wx)
  case first =>
    by_cases h2 : p + 1 < l.length
    · have hcell2 : w.cell? ⟨b, off + (p + 1), none⟩ = some (.int .u8 (chr l (p + 1))) := HB.out (p + 1) h2
      cases h61 : (chr l p == 61)
      · have hqf : q = false := by rw [HPRE.out, h61]; simp
        subst hqf
        clear HPRE
        go_wp2_with fail
        go_meet
        exact ⟨rfl, rfl⟩
      · have hqe : q = (chr l (p + 1) == 61) := by rw [HPRE.out, h61]; simp [h2]
        have HQE := Lib.hid hqe
        clear hqe HPRE
        go_wp2_with fail
        go_meet
        exact ⟨by rw [HQE.out], rfl⟩
    · have hqf : q = false := by rw [HPRE.out]; simp [h2]
      have hlf : decide (p + 1 < l.length) = false := by simpa using h2
      have hlf' : decide ((p : Int) + 1 < (l.length : Int)) = false := by simp; omega
      subst hqf
      clear HPRE
      go_wp2_with fail
      go_meet
      exact ⟨rfl, rfl⟩
  case rest =>
    obtain ⟨rfl, rfl⟩ := hcut
    clear HPRE
    cases q
    · go_wp2_with fail
      go_loopg [6] 13 (fun k v6 wr => ∃ i nq : Nat, i + k = 13 ∧ v6 = .int .i64 i ∧ wr = w.drewN nq ∧ Hid ((marksL.take i).contains (UInt8.ofNat (chr l p).toNat) = false))
      case atStart => exact ⟨0, 0, rfl, rfl, rfl, Lib.hid rfl⟩
      case round =>
        obtain ⟨i, m0, hik, rfl, rfl, HI⟩ := hrel
        have HIK := Lib.hid hik
        have hi : i ≤ 13 := by omega
        clear hik
        by_cases hlt : i < 13
        · go_upto_region 7 with (fail)
          go_quiet (fail)
          rw [World.drewN_drewN]
          generalize m0 + nq = m1
          generalize hc : chr [123, 125, 40, 41, 91, 93, 59, 46, 61, 43, 45, 42, 60] i = c
          have HC : Hid (chr marksL i = c) := Lib.hid hc
          clear hc hcell
          cases he : (chr l p == c)
          · have HNE : Hid (¬ chr l p = c) := Lib.hid (beq_eq_false_iff_ne.1 he)
            go_wp2_with fail
            go_roundg (gk - 1)
            case measure => have := HIK.out; omega
            case rel => exact ⟨i + 1, m1, by have := HIK.out; omega, by go_num, rfl, Lib.hid (isM_take l p i hlt HI.out (by rw [HC.out]; exact HNE.out))⟩
          · have HEQ : Hid (chr l p = c) := Lib.hid (beq_iff_eq.1 he)
            go_wp2_with fail
            go_ret
            exact ⟨ret_int (by simp [mk, HQ.out, isM_hit l p i hlt (HEQ.out.trans HC.out.symm)]), _, rfl⟩
        · obtain rfl : i = 13 := by omega
          go_wp2_with fail
          go_ret
          exact ⟨ret_int (by have h := HI.out; have hm : isM (chr l p) = false := h; simp [mk, HQ.out, hm]), _, rfl⟩
    · go_wp2_with fail
      go_ret
      exact ⟨ret_int (by simp [mk, HQ.out]), 0, rfl⟩
end Go.Proofs.Ythgpepkcjjimlaa
