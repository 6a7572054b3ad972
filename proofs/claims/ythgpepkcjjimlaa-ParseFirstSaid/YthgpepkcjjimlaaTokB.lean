/- token.nextAt and token.endOf: where blanks and comments are over; where a token ends. -/
import Derived.Test.YthgpepkcjjimlaaTokA
import Derived.BigQuiet
import Derived.Deep.QuietTactic
namespace Go.Proofs.Ythgpepkcjjimlaa
open Go.RowKit

/-- Byte k of a text. -/
def chr (l : List UInt8) (k : Nat) : Int := ((l[k]?.getD 0).toNat : Int)
theorem chr_ge (l : List UInt8) (k : Nat) : 0 ≤ chr l k := by unfold chr; omega
theorem chr_le (l : List UInt8) (k : Nat) : chr l k ≤ 255 := by
  unfold chr
  have := (l[k]?.getD 0).toNat_lt
  omega
theorem drop_chr (l : List UInt8) (k : Nat) (h : k < l.length) : ∃ x, l.drop k = x :: l.drop (k + 1) ∧ chr l k = (x.toNat : Int) := by
  refine ⟨l[k], List.drop_eq_getElem_cons h, ?_⟩
  unfold chr
  rw [List.getElem?_eq_getElem h]; rfl

/-- A text that lies in memory, from a cell on. -/
def Bs (w : World) (b off : Nat) (l : List UInt8) : Prop := ∀ k, k < l.length → w.cell? ⟨b, off + k, none⟩ = some (.int .u8 (chr l k))

/-- How many bytes blanks and comments take (true: inside a comment). -/
def nx : Bool → List UInt8 → Nat
  | _, [] => 0
  | true, x :: r => if (x.toNat : Int) = 10 then nx false r + 1 else nx true r + 1
  | false, x :: r => if (x.toNat : Int) = 35 then nx true r + 1 else if isB x.toNat = true then nx false r + 1 else 0

theorem nx_le : ∀ (t : Bool) (l : List UInt8), nx t l ≤ l.length
  | _, [] => by cases ‹Bool› <;> simp [nx]
  | true, x :: r => by
    have := nx_le true r
    have := nx_le false r
    simp only [nx]; split <;> simp <;> omega
  | false, x :: r => by
    have := nx_le true r
    have := nx_le false r
    simp only [nx]; split
    · simp; omega
    · split <;> simp; omega

def nxt (l : List UInt8) (k : Nat) : Nat := k + nx false (l.drop k)
def nxc (l : List UInt8) (k : Nat) : Nat := k + nx true (l.drop k)

theorem nxt_end (l : List UInt8) (k : Nat) (h : l.length ≤ k) : nxt l k = k := by
  unfold nxt; rw [List.drop_of_length_le h]; simp [nx]
theorem nxc_end (l : List UInt8) (k : Nat) (h : l.length ≤ k) : nxc l k = k := by
  unfold nxc; rw [List.drop_of_length_le h]; simp [nx]
theorem nxt_le (l : List UInt8) (k : Nat) (h : k ≤ l.length) : nxt l k ≤ l.length := by
  unfold nxt
  have := nx_le false (l.drop k)
  simp at this; omega
theorem nxt_hash (l : List UInt8) (k : Nat) (h : k < l.length) (hc : chr l k = 35) : nxt l k = nxc l k := by
  obtain ⟨x, hd, hx⟩ := drop_chr l k h
  have h35 : (x.toNat : Int) = 35 := by omega
  have h10 : ¬ (x.toNat : Int) = 10 := by omega
  unfold nxt nxc; rw [hd]; simp only [nx]; rw [if_pos h35, if_neg h10]
theorem nxt_blank (l : List UInt8) (k : Nat) (h : k < l.length) (hc : ¬ chr l k = 35) (hb : isB (chr l k) = true) : nxt l k = nxt l (k + 1) := by
  obtain ⟨x, hd, hx⟩ := drop_chr l k h
  rw [hx] at hc hb
  unfold nxt; rw [hd]; simp only [nx]; rw [if_neg hc, if_pos hb]; omega
theorem nxt_stop (l : List UInt8) (k : Nat) (h : k < l.length) (hc : ¬ chr l k = 35) (hb : isB (chr l k) = false) : nxt l k = k := by
  obtain ⟨x, hd, hx⟩ := drop_chr l k h
  rw [hx] at hc hb
  unfold nxt; rw [hd]; simp only [nx]; rw [if_neg hc, hb]; simp
theorem nxc_more (l : List UInt8) (k : Nat) (h : k < l.length) (hc : ¬ chr l k = 10) : nxc l k = nxc l (k + 1) := by
  obtain ⟨x, hd, hx⟩ := drop_chr l k h
  rw [hx] at hc
  unfold nxc; rw [hd]; simp only [nx]; rw [if_neg hc]; omega
theorem nxc_line (l : List UInt8) (k : Nat) (h : k < l.length) (hc : chr l k = 10) : nxc l k = nxt l k := by
  obtain ⟨x, hd, hx⟩ := drop_chr l k h
  have h10 : (x.toNat : Int) = 10 := by omega
  have h35 : ¬ (x.toNat : Int) = 35 := by omega
  have hb : isB (x.toNat : Int) = true := by rw [h10]; rfl
  unfold nxc nxt; rw [hd]; simp only [nx]; rw [if_pos h10, if_neg h35, if_pos hb]

set_option maxHeartbeats 1000000 in
theorem nextAt_ok (l : List UInt8) (b off cap : Nat) (at_ : Nat) (w : World) (hb : Bs w b off l) (hn : l.length ≤ 1000000000) (hat : at_ ≤ l.length) :
    Calls Try.prog 25 #[.slice (some ⟨b, off, none⟩) l.length cap, .int .i64 at_] w fun e w' => e = .returned (.int .i64 (nxt l at_)) ∧ w = w' := by
  have HB := Lib.hid hb
  clear hb
  go_enter Try.func25, Try.ntmps25
  go_wp2
  go_loop [1] (fun i => ∃ k : Nat, k ≤ l.length ∧ i = .int .i64 k ∧ Hid (nxt l k = nxt l at_)) (fun i => l.length - (intOf i).toNat)
  case atStart => exact ⟨at_, hat, rfl, Lib.hid rfl⟩
  case round =>
    obtain ⟨k, hk, rfl, HK⟩ := hrel
    by_cases hlt : k < l.length
    · have hcell := HB.out k hlt
      have h0 := chr_ge l k
      have h1 := chr_le l k
      by_cases h35 : chr l k = 35
      · have h35' : (chr l k == 35) = true := by simp [h35]
        have H35 := Lib.hid h35
        clear h35
        go_wp2
        go_loop [1] (fun i => ∃ j : Nat, k ≤ j ∧ j ≤ l.length ∧ i = .int .i64 j ∧ Hid (nxc l j = nxt l at_)) (fun i => l.length - (intOf i).toNat)
        case atStart => exact ⟨k, Nat.le_refl _, hk, rfl, Lib.hid ((nxt_hash l k hlt H35.out).symm.trans HK.out)⟩
        case round =>
          obtain ⟨j, hkj, hj, rfl, HJ⟩ := hrel
          clear hcell h0 h1
          by_cases hlj : j < l.length
          · have hcell := HB.out j hlj
            have h0 := chr_ge l j
            have h1 := chr_le l j
            by_cases h10 : chr l j = 10
            · have h10' : (chr l j != 10) = false := by simp [h10]
              have H10 := Lib.hid h10
              clear h10
              go_wp2
              go_round
              case rel => exact ⟨j, by omega, rfl, Lib.hid ((nxc_line l j hlj H10.out).symm.trans HJ.out)⟩
              case measure =>
                have : j ≠ k := fun e => by have a := H35.out; have b := H10.out; rw [e] at b; omega
                simp [intOf]; omega
            · have h10' : (chr l j != 10) = true := by simp [h10]
              go_wp2
              go_round
              case rel => exact ⟨j + 1, by omega, by omega, by go_num, Lib.hid ((nxc_more l j hlj h10).symm.trans HJ.out)⟩
              case measure => simp [intOf]; omega
          · have : j = l.length := by omega
            subst this
            have hlf : decide (l.length < l.length) = false := by simp
            go_wp2
            go_round
            case rel => exact ⟨l.length, by omega, rfl, Lib.hid (by have := HJ.out; rw [nxc_end l _ (Nat.le_refl _)] at this; rw [nxt_end l _ (Nat.le_refl _)]; exact this)⟩
            case measure => simp [intOf]; omega
      · have h35' : (chr l k == 35) = false := by simp [h35]
        cases hbl : isB (chr l k)
        · have hbl' : ¬ 0 ≤ Lib.indexByte [32, 9, 10, 13] (UInt8.ofNat (chr l k).toNat) := of_decide_eq_false ((indexByte_nonneg _ _).trans hbl)
          have HBL := Lib.hid hbl
          clear hbl
          go_wp2_with (go_at_call 33; refine (indexByte_ok _ _ _).mono ?_; rintro e w' ⟨rfl, rfl⟩)
          go_ret
          exact ⟨ret_int (by rw [← HK.out, nxt_stop l k hlt h35 HBL.out]), rfl⟩
        · have hbl' : 0 ≤ Lib.indexByte [32, 9, 10, 13] (UInt8.ofNat (chr l k).toNat) := of_decide_eq_true ((indexByte_nonneg _ _).trans hbl)
          have HBL := Lib.hid hbl
          clear hbl
          go_wp2_with (go_at_call 33; refine (indexByte_ok _ _ _).mono ?_; rintro e w' ⟨rfl, rfl⟩)
          go_round
          case rel => exact ⟨k + 1, by omega, by go_num, Lib.hid ((nxt_blank l k hlt h35 HBL.out).symm.trans HK.out)⟩
          case measure => simp [intOf]; omega
    · go_wp2
      go_ret
      exact ⟨ret_int (by rw [← HK.out, nxt_end l k (by omega)]), rfl⟩
end Go.Proofs.Ythgpepkcjjimlaa
