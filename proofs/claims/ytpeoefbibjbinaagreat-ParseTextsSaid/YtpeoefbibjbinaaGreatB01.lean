/- The letters and digits of layer 1, as the Go functions answer them: token.isLetter, isDigit, kindAt, goesOn and the reference's Letter, Digit; token.nextAt and token.endOf: where blanks and comments are over; where a token ends; token.endOf: where a token ends; with bytes.HasPrefix and bytes.Equal at texts in memory; token.endOf, token.isWhole, token.Number; token.isWhole, token.Number; token.wordSet: the set of the words, as a map. -/
import Derived.Test.YtpeoefbibjbinaaGreatChecked
import Derived.WalkKit
import Derived.Outline
import Derived.Lib.Hide
import Derived.WalkSpells
import Derived.Lib.Bytealg
import Derived.BigQuiet
import Derived.Deep.QuietTactic
import Derived.Lib.SlBytesConst
import Derived.Laws.BytesArg
import Derived.Below
import Derived.Laws.IdiomStrings
import Derived.Lib.ConvBytes
import Derived.Maps.Own
import Derived.Maps.OwnSet
namespace Go.Proofs.YtpeoefbibjbinaaGreat
open Go.RowKit

def isL (c : Int) : Bool := c == 95 || (decide (97 ≤ c) && decide (c ≤ 122)) || (decide (65 ≤ c) && decide (c ≤ 90))
def isD (c : Int) : Bool := decide (48 ≤ c) && decide (c ≤ 57)

theorem ret_bool {a b : Bool} (h : a = b) : Ending.returned (.bool a) = .returned (.bool b) := by rw [h]
theorem ret_int {k : IntKind} {a b : Int} (h : a = b) : Ending.returned (.int k a) = .returned (.int k b) := by rw [h]

theorem isLetter_ok (c : Int) (w : World) :
    Calls Tryz.prog 48 #[.int .u8 c] w fun e w' => e = .returned (.bool (isL c)) ∧ w = w' := by
  go_enter Tryz.func48, Tryz.ntmps48
  go_wp2
  all_goals go_ret
  all_goals exact ⟨ret_bool (by rw [Bool.eq_iff_iff]; simp [isL]; omega), rfl⟩

theorem isDigit_ok (c : Int) (w : World) :
    Calls Tryz.prog 49 #[.int .u8 c] w fun e w' => e = .returned (.bool (isD c)) ∧ w = w' := by
  go_enter Tryz.func49, Tryz.ntmps49
  go_wp2
  all_goals go_ret
  all_goals exact ⟨ret_bool (by rw [Bool.eq_iff_iff]; simp [isD]; omega), rfl⟩

theorem letter_ok (c : Int) (w : World) :
    Calls Tryz.prog 29 #[.int .u8 c] w fun e w' => e = .returned (.bool (isL c)) ∧ w = w' := by
  go_enter Tryz.func29, Tryz.ntmps29
  go_wp2
  all_goals go_ret
  all_goals exact ⟨ret_bool (by rw [Bool.eq_iff_iff]; simp [isL]; omega), rfl⟩

theorem digit_ok (c : Int) (w : World) :
    Calls Tryz.prog 30 #[.int .u8 c] w fun e w' => e = .returned (.bool (isD c)) ∧ w = w' := by
  go_enter Tryz.func30, Tryz.ntmps30
  go_wp2
  all_goals go_ret
  all_goals exact ⟨ret_bool (by rw [Bool.eq_iff_iff]; simp [isD]; omega), rfl⟩

set_option maxRecDepth 100000 in
theorem indexByte_in (s : ByteArray) (c : Int) (w : World) :
    Calls Tryz.prog 72 #[.string s, .int .u8 c] w fun e w' => e = .returned (.int .i64 (Lib.indexByte s.data.toList (UInt8.ofNat c.toNat))) ∧ w = w' := by
  go_enter Tryz.func72, Tryz.ntmps72
  go_wp2
  rw [run_callFunc_extern Tryz.func85 (by kernel_rfl) (by kernel_rfl) (by kernel_rfl) (e := Extern.BytealgIndexByte.indexByte) (by kernel_rfl), Lib.run_indexByteString]
  simp only [Result.andThen]
  rw [Oper.upon_value]
  go_wp2
  go_ret
  exact ⟨rfl, rfl⟩
theorem indexByte_ok (s : ByteArray) (c : Int) (w : World) :
    Calls Tryz.prog 47 #[.string s, .int .u8 c] w fun e w' => e = .returned (.int .i64 (Lib.indexByte s.data.toList (UInt8.ofNat c.toNat))) ∧ w = w' := by
  go_enter Tryz.func47, Tryz.ntmps47
  go_wp2_with (go_at_call 72; refine (indexByte_in _ _ _).mono ?_; rintro e w' ⟨rfl, rfl⟩)
  go_ret
  exact ⟨rfl, rfl⟩

def marksL : List UInt8 := [123, 125, 40, 41, 91, 93, 59, 46, 61, 43, 45, 42, 60]
def isM (c : Int) : Bool := marksL.contains (UInt8.ofNat c.toNat)
def isB (c : Int) : Bool := [32, 9, 10, 13].contains (UInt8.ofNat c.toNat)

theorem indexByte_nonneg (l : List UInt8) (c : UInt8) : decide (0 ≤ Lib.indexByte l c) = l.contains c := by
  induction l with
  | nil => rfl
  | cons b l ih =>
    unfold Lib.indexByte
    have hge := Lib.indexByte_ge l c
    by_cases hb : b == c
    · have : c = b := by rw [beq_iff_eq] at hb; exact hb.symm
      simp [this]
    · have : (c == b) = false := by
        rw [beq_eq_false_iff_ne]; intro h; exact hb (by rw [h]; exact beq_self_eq_true b)
      rw [if_neg hb, List.contains_cons, this, Bool.false_or, ← ih]
      by_cases hm : Lib.indexByte l c == -1
      · have := beq_iff_eq.1 hm
        rw [if_pos hm, this]
      · have : Lib.indexByte l c ≠ -1 := fun h => hm (by rw [h]; rfl)
        rw [if_neg hm]
        rw [Bool.eq_iff_iff]; simp; omega

def kindI (c : Int) : Int := if isL c = true then 1 else if isD c = true then 3 else if isM c = true then 4 else 0

theorem kindAt_ok (c : Int) (w : World) :
    Calls Tryz.prog 24 #[.int .u8 c] w fun e w' => e = .returned (.int .i64 (kindI c)) ∧ w = w' := by
  have hm : decide (0 ≤ Lib.indexByte [123, 125, 40, 41, 91, 93, 59, 46, 61, 43, 45, 42, 60] (UInt8.ofNat c.toNat)) = isM c := indexByte_nonneg _ _
  have HM := Lib.hid hm
  clear hm
  cases h1 : isL c
  · cases h2 : isD c
    · cases h3 : isM c
      · have h4 : ¬ 0 ≤ Lib.indexByte [123, 125, 40, 41, 91, 93, 59, 46, 61, 43, 45, 42, 60] (UInt8.ofNat c.toNat) := of_decide_eq_false (HM.out.trans h3)
        have HK : kindI c = 0 := by simp [kindI, h1, h2, h3]
        rw [HK]
        clear HK h3 HM
        go_enter Tryz.func24, Tryz.ntmps24
        go_wp2_with (first | (go_at_call 48; refine (isLetter_ok _ _).mono ?_; rintro e w' ⟨rfl, rfl⟩) | (go_at_call 49; refine (isDigit_ok _ _).mono ?_; rintro e w' ⟨rfl, rfl⟩) | (go_at_call 47; refine (indexByte_ok _ _ _).mono ?_; rintro e w' ⟨rfl, rfl⟩))
        all_goals go_ret
        all_goals exact ⟨rfl, rfl⟩
      · have h4 : 0 ≤ Lib.indexByte [123, 125, 40, 41, 91, 93, 59, 46, 61, 43, 45, 42, 60] (UInt8.ofNat c.toNat) := of_decide_eq_true (HM.out.trans h3)
        have HK : kindI c = 4 := by simp [kindI, h1, h2, h3]
        rw [HK]
        clear HK h3 HM
        go_enter Tryz.func24, Tryz.ntmps24
        go_wp2_with (first | (go_at_call 48; refine (isLetter_ok _ _).mono ?_; rintro e w' ⟨rfl, rfl⟩) | (go_at_call 49; refine (isDigit_ok _ _).mono ?_; rintro e w' ⟨rfl, rfl⟩) | (go_at_call 47; refine (indexByte_ok _ _ _).mono ?_; rintro e w' ⟨rfl, rfl⟩))
        all_goals go_ret
        all_goals exact ⟨rfl, rfl⟩
    · have HK : kindI c = 3 := by simp [kindI, h1, h2]
      rw [HK]
      clear HK HM
      go_enter Tryz.func24, Tryz.ntmps24
      go_wp2_with (first | (go_at_call 48; refine (isLetter_ok _ _).mono ?_; rintro e w' ⟨rfl, rfl⟩) | (go_at_call 49; refine (isDigit_ok _ _).mono ?_; rintro e w' ⟨rfl, rfl⟩))
      all_goals go_ret
      all_goals exact ⟨rfl, rfl⟩
  · have HK : kindI c = 1 := by simp [kindI, h1]
    rw [HK]
    clear HK HM
    go_enter Tryz.func24, Tryz.ntmps24
    go_wp2_with (go_at_call 48; refine (isLetter_ok _ _).mono ?_; rintro e w' ⟨rfl, rfl⟩)
    all_goals go_ret
    all_goals exact ⟨rfl, rfl⟩

def goes (k c : Int) : Bool := if k = 1 then isL c || isD c else if k = 3 then isD c else false

theorem goesOn_ok (c k : Int) (w : World) :
    Calls Tryz.prog 51 #[.int .u8 c, .int .i64 k] w fun e w' => e = .returned (.bool (goes k c)) ∧ w = w' := by
  go_enter Tryz.func51, Tryz.ntmps51
  go_wp2_with (first | (go_at_call 48; refine (isLetter_ok _ _).mono ?_; rintro e w' ⟨rfl, rfl⟩) | (go_at_call 49; refine (isDigit_ok _ _).mono ?_; rintro e w' ⟨rfl, rfl⟩))
  all_goals go_ret
  all_goals exact ⟨ret_bool (by simp_all [goes]), rfl⟩
end Go.Proofs.YtpeoefbibjbinaaGreat

namespace Go.Proofs.YtpeoefbibjbinaaGreat
open Go.RowKit

/-- Byte k of a text. -/
def chr (l : List UInt8) (k : Nat) : Int := ((l[k]?.getD 0).toNat : Int)
theorem chr_ge (l : List UInt8) (k : Nat) : 0 ≤ chr l k := by unfold chr; omega
theorem chr_le (l : List UInt8) (k : Nat) : chr l k ≤ 255 := by
  unfold chr
  have := (l[k]?.getD 0).toNat_lt
  omega
theorem drop_chr (l : List UInt8) (k : Nat) (h : k < l.length) : ∃ x, l.drop k = x :: l.drop (k + 1) ∧ chr l k = (x.toNat : Int) := by
  refine ⟨l[k], List.drop_eq_getElem_cons h, ?_⟩
  unfold chr
  rw [List.getElem?_eq_getElem h]; rfl

/-- A text that lies in memory, from a cell on. -/
def Bs (w : World) (b off : Nat) (l : List UInt8) : Prop := ∀ k, k < l.length → w.cell? ⟨b, off + k, none⟩ = some (.int .u8 (chr l k))

/-- How many bytes blanks and comments take (true: inside a comment). -/
def nx : Bool → List UInt8 → Nat
  | _, [] => 0
  | true, x :: r => if (x.toNat : Int) = 10 then nx false r + 1 else nx true r + 1
  | false, x :: r => if (x.toNat : Int) = 35 then nx true r + 1 else if isB x.toNat = true then nx false r + 1 else 0

theorem nx_le : ∀ (t : Bool) (l : List UInt8), nx t l ≤ l.length
  | _, [] => by cases ‹Bool› <;> simp [nx]
  | true, x :: r => by
    have := nx_le true r
    have := nx_le false r
    simp only [nx]; split <;> simp <;> omega
  | false, x :: r => by
    have := nx_le true r
    have := nx_le false r
    simp only [nx]; split
    · simp; omega
    · split <;> simp; omega

def nxt (l : List UInt8) (k : Nat) : Nat := k + nx false (l.drop k)
def nxc (l : List UInt8) (k : Nat) : Nat := k + nx true (l.drop k)

theorem nxt_end (l : List UInt8) (k : Nat) (h : l.length ≤ k) : nxt l k = k := by
  unfold nxt; rw [List.drop_of_length_le h]; simp [nx]
theorem nxc_end (l : List UInt8) (k : Nat) (h : l.length ≤ k) : nxc l k = k := by
  unfold nxc; rw [List.drop_of_length_le h]; simp [nx]
theorem nxt_le (l : List UInt8) (k : Nat) (h : k ≤ l.length) : nxt l k ≤ l.length := by
  unfold nxt
  have := nx_le false (l.drop k)
  simp at this; omega
theorem nxt_hash (l : List UInt8) (k : Nat) (h : k < l.length) (hc : chr l k = 35) : nxt l k = nxc l k := by
  obtain ⟨x, hd, hx⟩ := drop_chr l k h
  have h35 : (x.toNat : Int) = 35 := by omega
  have h10 : ¬ (x.toNat : Int) = 10 := by omega
  unfold nxt nxc; rw [hd]; simp only [nx]; rw [if_pos h35, if_neg h10]
theorem nxt_blank (l : List UInt8) (k : Nat) (h : k < l.length) (hc : ¬ chr l k = 35) (hb : isB (chr l k) = true) : nxt l k = nxt l (k + 1) := by
  obtain ⟨x, hd, hx⟩ := drop_chr l k h
  rw [hx] at hc hb
  unfold nxt; rw [hd]; simp only [nx]; rw [if_neg hc, if_pos hb]; omega
theorem nxt_stop (l : List UInt8) (k : Nat) (h : k < l.length) (hc : ¬ chr l k = 35) (hb : isB (chr l k) = false) : nxt l k = k := by
  obtain ⟨x, hd, hx⟩ := drop_chr l k h
  rw [hx] at hc hb
  unfold nxt; rw [hd]; simp only [nx]; rw [if_neg hc, hb]; simp
theorem nxc_more (l : List UInt8) (k : Nat) (h : k < l.length) (hc : ¬ chr l k = 10) : nxc l k = nxc l (k + 1) := by
  obtain ⟨x, hd, hx⟩ := drop_chr l k h
  rw [hx] at hc
  unfold nxc; rw [hd]; simp only [nx]; rw [if_neg hc]; omega
theorem nxc_line (l : List UInt8) (k : Nat) (h : k < l.length) (hc : chr l k = 10) : nxc l k = nxt l k := by
  obtain ⟨x, hd, hx⟩ := drop_chr l k h
  have h10 : (x.toNat : Int) = 10 := by omega
  have h35 : ¬ (x.toNat : Int) = 35 := by omega
  have hb : isB (x.toNat : Int) = true := by rw [h10]; rfl
  unfold nxc nxt; rw [hd]; simp only [nx]; rw [if_pos h10, if_neg h35, if_pos hb]

set_option maxHeartbeats 1000000 in
theorem nextAt_ok (l : List UInt8) (b off cap : Nat) (at_ : Nat) (w : World) (hb : Bs w b off l) (hn : l.length ≤ 1000000000) (hat : at_ ≤ l.length) :
    Calls Tryz.prog 23 #[.slice (some ⟨b, off, none⟩) l.length cap, .int .i64 at_] w fun e w' => e = .returned (.int .i64 (nxt l at_)) ∧ w = w' := by
  have HB := Lib.hid hb
  clear hb
  go_enter Tryz.func23, Tryz.ntmps23
  go_wp2
  go_loop [1] (fun i => ∃ k : Nat, k ≤ l.length ∧ i = .int .i64 k ∧ Hid (nxt l k = nxt l at_)) (fun i => l.length - (intOf i).toNat)
  case atStart => exact ⟨at_, hat, rfl, Lib.hid rfl⟩
  case round =>
    obtain ⟨k, hk, rfl, HK⟩ := hrel
    by_cases hlt : k < l.length
    · have hcell := HB.out k hlt
      have h0 := chr_ge l k
      have h1 := chr_le l k
      by_cases h35 : chr l k = 35
      · have h35' : (chr l k == 35) = true := by simp [h35]
        have H35 := Lib.hid h35
        clear h35
        go_wp2
        go_loop [1] (fun i => ∃ j : Nat, k ≤ j ∧ j ≤ l.length ∧ i = .int .i64 j ∧ Hid (nxc l j = nxt l at_)) (fun i => l.length - (intOf i).toNat)
        case atStart => exact ⟨k, Nat.le_refl _, hk, rfl, Lib.hid ((nxt_hash l k hlt H35.out).symm.trans HK.out)⟩
        case round =>
          obtain ⟨j, hkj, hj, rfl, HJ⟩ := hrel
          clear hcell h0 h1
          by_cases hlj : j < l.length
          · have hcell := HB.out j hlj
            have h0 := chr_ge l j
            have h1 := chr_le l j
            by_cases h10 : chr l j = 10
            · have h10' : (chr l j != 10) = false := by simp [h10]
              have H10 := Lib.hid h10
              clear h10
              go_wp2
              go_round
              case rel => exact ⟨j, by omega, rfl, Lib.hid ((nxc_line l j hlj H10.out).symm.trans HJ.out)⟩
              case measure =>
                have : j ≠ k := fun e => by have a := H35.out; have b := H10.out; rw [e] at b; omega
                simp [intOf]; omega
            · have h10' : (chr l j != 10) = true := by simp [h10]
              go_wp2
              go_round
              case rel => exact ⟨j + 1, by omega, by omega, by go_num, Lib.hid ((nxc_more l j hlj h10).symm.trans HJ.out)⟩
              case measure => simp [intOf]; omega
          · have : j = l.length := by omega
            subst this
            have hlf : decide (l.length < l.length) = false := by simp
            go_wp2
            go_round
            case rel => exact ⟨l.length, by omega, rfl, Lib.hid (by have := HJ.out; rw [nxc_end l _ (Nat.le_refl _)] at this; rw [nxt_end l _ (Nat.le_refl _)]; exact this)⟩
            case measure => simp [intOf]; omega
      · have h35' : (chr l k == 35) = false := by simp [h35]
        cases hbl : isB (chr l k)
        · have hbl' : ¬ 0 ≤ Lib.indexByte [32, 9, 10, 13] (UInt8.ofNat (chr l k).toNat) := of_decide_eq_false ((indexByte_nonneg _ _).trans hbl)
          have HBL := Lib.hid hbl
          clear hbl
          go_wp2_with (go_at_call 47; refine (indexByte_ok _ _ _).mono ?_; rintro e w' ⟨rfl, rfl⟩)
          go_ret
          exact ⟨ret_int (by rw [← HK.out, nxt_stop l k hlt h35 HBL.out]), rfl⟩
        · have hbl' : 0 ≤ Lib.indexByte [32, 9, 10, 13] (UInt8.ofNat (chr l k).toNat) := of_decide_eq_true ((indexByte_nonneg _ _).trans hbl)
          have HBL := Lib.hid hbl
          clear hbl
          go_wp2_with (go_at_call 47; refine (indexByte_ok _ _ _).mono ?_; rintro e w' ⟨rfl, rfl⟩)
          go_round
          case rel => exact ⟨k + 1, by omega, by go_num, Lib.hid ((nxt_blank l k hlt h35 HBL.out).symm.trans HK.out)⟩
          case measure => simp [intOf]; omega
    · go_wp2
      go_ret
      exact ⟨ret_int (by rw [← HK.out, nxt_end l k (by omega)]), rfl⟩
end Go.Proofs.YtpeoefbibjbinaaGreat

namespace Go.Proofs.YtpeoefbibjbinaaGreat
open Go.RowKit

theorem Bs.cells {w : World} {b off : Nat} {l : List UInt8} (h : Bs w b off l) (k : Nat) (hk : k < l.length) : w.cell? ⟨b, off + k, none⟩ = some (.int .u8 (chr l k)) := h k hk
theorem chr_take (l : List UInt8) (m k : Nat) (h : k < m) : chr (l.take m) k = chr l k := by
  unfold chr; rw [List.getElem?_take, if_pos h]
theorem chr_drop (l : List UInt8) (i k : Nat) : chr (l.drop i) k = chr l (i + k) := by
  unfold chr; rw [List.getElem?_drop]
theorem Bs.part {w : World} {b off : Nat} {l : List UInt8} (h : Bs w b off l) (i m : Nat) : Bs w b (off + i) ((l.drop i).take m) := by
  intro k hk
  have hk' := hk
  rw [List.length_take, List.length_drop] at hk'
  rw [chr_take _ _ _ (by omega), chr_drop, Nat.add_assoc]
  exact h (i + k) (by omega)
theorem Bs.rest {w : World} {b off : Nat} {l : List UInt8} (h : Bs w b off l) (i : Nat) : Bs w b (off + i) (l.drop i) := by
  intro k hk
  rw [List.length_drop] at hk
  rw [chr_drop, Nat.add_assoc]
  exact h (i + k) (by omega)
theorem Bs.keep {w w' : World} {b off : Nat} {l : List UInt8} (h : Bs w b off l) (hk : ∀ k, k < l.length → w'.cell? ⟨b, off + k, none⟩ = w.cell? ⟨b, off + k, none⟩) : Bs w' b off l :=
  fun k hl => (hk k hl).trans (h k hl)
theorem Bs.lt {w : World} {b off : Nat} {l : List UInt8} (h : Bs w b off l) (h0 : 0 < l.length) : b < w.heap.size := World.block_lt_of_cell? w _ (h 0 h0)
theorem Bs.below {w w' : World} {b off B : Nat} {l : List UInt8} (h : Bs w b off l) (hb : Below B w w') (hlt : b < B) : Bs w' b off l :=
  h.keep fun _ _ => hb.cell (by exact hlt)
theorem Bs.alloc {w : World} {b off : Nat} {l : List UInt8} (h : Bs w b off l) (o : Obj) : Bs (w.alloc o) b off l :=
  h.keep fun k hk => World.cell?_alloc_lt w o _ (World.block_lt_of_cell? w _ (h k hk))

set_option maxRecDepth 100000 in
theorem conv_bs {w : World} {b off : Nat} {l : List UInt8} (h : Bs w b off l) (cap : Nat) :
    (convert 22 9 (.slice (some ⟨b, off, none⟩) l.length cap)).run Tryz.prog w = .ok (.string ⟨l.toArray⟩) w := by
  have := run_convert_bytes_arg (P := Tryz.prog) w 22 5 Tryz.underlying22 Tryz.underlying5 b off l.length cap (l.map fun x => (x.toNat : Int)) (by simp) (fun i hi => by
    rw [h i hi]
    unfold chr
    simp [hi]) 9 Tryz.underlying9
  rw [this]
  congr 2
  unfold strOfNums
  rw [List.map_map]
  congr 2
  conv => rhs; rw [← List.map_id l]
  apply List.map_congr_left
  intro x _
  simp

set_option maxRecDepth 100000 in
theorem equal_ok (v1 v2 : Value) (l1 l2 : List UInt8) (w : World) (h1 : (convert 22 9 v1).run Tryz.prog w = .ok (.string ⟨l1.toArray⟩) w) (h2 : (convert 22 9 v2).run Tryz.prog w = .ok (.string ⟨l2.toArray⟩) w) :
    Calls Tryz.prog 73 #[v1, v2] w fun e w' => e = .returned (.bool (l1 == l2)) ∧ w = w' := by
  go_enter Tryz.func73, Tryz.ntmps73
  go_wp2
  go_ret
  exact ⟨rfl, rfl⟩

def pre2 (l : List UInt8) : Bool := l.take 2 == [61, 61]

set_option maxRecDepth 100000 in
theorem hasPrefix_ok (l : List UInt8) (b1 o1 c b2 o2 d : Nat) (w : World) (h1 : Bs w b1 o1 l) (h2 : Bs w b2 o2 [61, 61]) (hc : l.length ≤ c) (hn : l.length ≤ 1000000000) :
    Calls Tryz.prog 50 #[.slice (some ⟨b1, o1, none⟩) l.length c, .slice (some ⟨b2, o2, none⟩) 2 d] w fun e w' => e = .returned (.bool (pre2 l)) ∧ w = w' := by
  have c2 := conv_bs h2 d
  have C2 := Lib.hid c2
  have H1 := Lib.hid h1
  clear c2 h1 h2
  by_cases hl : 2 ≤ l.length
  · have c1 := conv_bs (H1.out.part 0 2) c
    simp only [List.drop_zero, Nat.add_zero, List.length_take, Nat.min_eq_left hl] at c1
    have C1 := Lib.hid c1
    clear c1 H1
    have hcap : 2 ≤ c := by omega
    go_enter Tryz.func50, Tryz.ntmps50
    go_wp2_with (go_at_call 73; refine (equal_ok _ _ _ _ _ C1.out C2.out).mono ?_; rintro e w' ⟨rfl, rfl⟩)
    go_ret
    exact ⟨rfl, rfl⟩
  · have hp : pre2 l = false := by
      unfold pre2
      rw [beq_eq_false_iff_ne]
      intro h
      have := congrArg List.length h
      simp at this
      omega
    rw [hp]
    clear hp
    go_enter Tryz.func50, Tryz.ntmps50
    go_wp2
    go_ret
    exact ⟨rfl, rfl⟩
end Go.Proofs.YtpeoefbibjbinaaGreat

namespace Go.Proofs.YtpeoefbibjbinaaGreat
open Go.RowKit

/-- How many bytes go on as kind k does. -/
def run (k : Int) : List UInt8 → Nat
  | [] => 0
  | x :: r => if goes k x.toNat = true then run k r + 1 else 0
theorem run_le (k : Int) : ∀ l : List UInt8, run k l ≤ l.length
  | [] => by simp [run]
  | x :: r => by
    have := run_le k r
    simp only [run]; split <;> simp; omega
def ends (l : List UInt8) (k : Int) (j : Nat) : Nat := j + run k (l.drop j)
theorem ends_le (l : List UInt8) (k : Int) (j : Nat) (h : j ≤ l.length) : ends l k j ≤ l.length := by
  unfold ends
  have := run_le k (l.drop j)
  simp at this; omega
theorem ends_ge (l : List UInt8) (k : Int) (j : Nat) : j ≤ ends l k j := by unfold ends; omega
theorem ends_end (l : List UInt8) (k : Int) (j : Nat) (h : l.length ≤ j) : ends l k j = j := by
  unfold ends; rw [List.drop_of_length_le h]; simp [run]
theorem ends_more (l : List UInt8) (k : Int) (j : Nat) (h : j < l.length) (hg : goes k (chr l j) = true) : ends l k j = ends l k (j + 1) := by
  obtain ⟨x, hd, hx⟩ := drop_chr l j h
  rw [hx] at hg
  unfold ends; rw [hd]; simp only [run]; rw [if_pos hg]; omega
theorem ends_stop (l : List UInt8) (k : Int) (j : Nat) (h : j < l.length) (hg : goes k (chr l j) = false) : ends l k j = j := by
  obtain ⟨x, hd, hx⟩ := drop_chr l j h
  rw [hx] at hg
  unfold ends; rw [hd]; simp only [run]; rw [hg]; simp

def endT (l : List UInt8) (k : Int) (p : Nat) : Nat := if pre2 (l.drop p) = true then p + 2 else ends l k (p + 1)

theorem pre2_len (l : List UInt8) (h : pre2 l = true) : 2 ≤ l.length := by
  unfold pre2 at h
  rw [beq_iff_eq] at h
  have := congrArg List.length h
  simp at this
  omega

set_option maxRecDepth 100000 in
set_option maxHeartbeats 1000000 in
theorem endOf_ok (l : List UInt8) (b off cap : Nat) (k : Int) (p : Nat) (w : World) (hb : Bs w b off l) (hn : l.length ≤ 1000000000) (hc : l.length ≤ cap) (hp : p < l.length) :
    Calls Tryz.prog 25 #[.slice (some ⟨b, off, none⟩) l.length cap, .int .i64 p, .int .i64 k] w fun e w' => e = .returned (.int .i64 (endT l k p)) ∧ Below w.heap.size w w' := by
  have kc := fun (w : World) (C : Array Value) (n c : Nat) => Lib.run_convert_bytes_const (P := Tryz.prog) w 22 5 C n c Tryz.underlying22 Tryz.underlying5
  have hb1 : Bs (w.alloc (.cells #[.int .u8 61, .int .u8 61] 5 (2, 3))) b (off + p) (l.drop p) := (hb.rest p).alloc _
  have hb2 : Bs (w.alloc (.cells #[.int .u8 61, .int .u8 61] 5 (2, 3))) b off l := hb.alloc _
  have hb3 : Bs (w.alloc (.cells #[.int .u8 61, .int .u8 61] 5 (2, 3))) w.heap.size 0 [61, 61] := fun i hi => by
    simp at hi
    rw [World.cell?_alloc_mark]
    rcases i with _ | _ | i
    · rfl
    · rfl
    · omega
  have hw : Below w.heap.size w (w.alloc (.cells #[.int .u8 61, .int .u8 61] 5 (2, 3))) := (Below.refl _ _).alloc (Nat.le_refl _) _
  have HB1 := Lib.hid hb1
  have HB2 := Lib.hid hb2
  have HB3 := Lib.hid hb3
  have HW := Lib.hid hw
  clear hb hb1 hb2 hb3 hw
  have hd : (l.drop p).length = l.length - p := by simp
  have hcon := hasPrefix_ok (l.drop p) b (off + p) (cap - p) w.heap.size 0 2 _ HB1.out HB3.out (by omega) (by omega)
  rw [hd] at hcon
  have HC := Lib.hid hcon
  clear hcon hd
  have hcap : ¬ cap = p := by omega
  have hcap2 : p ≤ cap := by omega
  cases hpre : pre2 (l.drop p)
  · have HE : Hid (endT l k p = ends l k (p + 1)) := Lib.hid (by simp [endT, hpre])
    rw [hpre] at HC
    clear hpre
    go_enter Tryz.func25, Tryz.ntmps25
    go_wp2_with (go_at_call 50; refine HC.out.mono ?_; rintro e w' ⟨rfl, rfl⟩)
    go_loop [7] (fun i => ∃ j : Nat, p + 1 ≤ j ∧ j ≤ l.length ∧ i = .int .i64 j ∧ Hid (ends l k j = ends l k (p + 1))) (fun i => l.length - (intOf i).toNat)
    case atStart => exact ⟨p + 1, Nat.le_refl _, by omega, by go_num, Lib.hid rfl⟩
    case round =>
      obtain ⟨j, hpj, hj, rfl, HJ⟩ := hrel
      by_cases hlj : j < l.length
      · have hcell := HB2.out j hlj
        cases hg : goes k (chr l j)
        · have HG := Lib.hid hg
          have hcon := goesOn_ok (chr l j) k
          simp only [hg] at hcon
          have HC2 := Lib.hid hcon
          clear hg hcon
          go_wp2_with (go_at_call 51; refine (HC2.out _).mono ?_; rintro e w' ⟨rfl, rfl⟩)
          go_ret
          exact ⟨ret_int (by rw [HE.out, ← HJ.out, ends_stop l k j hlj HG.out]), HW.out⟩
        · have HG := Lib.hid hg
          have hcon := goesOn_ok (chr l j) k
          simp only [hg] at hcon
          have HC2 := Lib.hid hcon
          clear hg hcon
          go_wp2_with (go_at_call 51; refine (HC2.out _).mono ?_; rintro e w' ⟨rfl, rfl⟩)
          go_round
          case rel => exact ⟨j + 1, by omega, by omega, by go_num, Lib.hid ((ends_more l k j hlj HG.out).symm.trans HJ.out)⟩
          case measure => simp [intOf]; omega
      · have hlf : decide (j < l.length) = false := by simp; omega
        go_wp2
        go_ret
        exact ⟨ret_int (by rw [HE.out, ← HJ.out, ends_end l k j (by omega)]), HW.out⟩
  · have HE : Hid (endT l k p = p + 2) := Lib.hid (by simp [endT, hpre])
    rw [hpre] at HC
    clear hpre
    go_enter Tryz.func25, Tryz.ntmps25
    go_wp2_with (go_at_call 50; refine HC.out.mono ?_; rintro e w' ⟨rfl, rfl⟩)
    go_ret
    exact ⟨ret_int (by rw [HE.out]; go_num), HW.out⟩
end Go.Proofs.YtpeoefbibjbinaaGreat

namespace Go.Proofs.YtpeoefbibjbinaaGreat
open Go.RowKit

theorem conv_str (l : List UInt8) (w : World) :
    (convert 9 22 (.string ⟨l.toArray⟩)).run Tryz.prog w = .ok (.slice (some ⟨w.heap.size, 0, none⟩) l.length (grownCap w l.length 0 5)) (Lib.bytesWorld w 5 ⟨l.toArray⟩) := by
  have h := Lib.run_convert_string_bytes (P := Tryz.prog) w 9 22 5 ⟨l.toArray⟩ Tryz.underlying9 Tryz.underlying22 Tryz.underlying5
  have hs : ByteArray.size ⟨l.toArray⟩ = l.length := by simp [ByteArray.size]
  rw [hs] at h
  exact h
theorem bs_str (l : List UInt8) (w : World) : Bs (Lib.bytesWorld w 5 ⟨l.toArray⟩) w.heap.size 0 l := by
  intro k hk
  rw [Nat.zero_add, Lib.bytesWorld_cell w 5 ⟨l.toArray⟩ k (by simp [ByteArray.size]; exact hk)]
  unfold chr
  rw [List.getD_eq_getElem?_getD]
theorem below_str (s : ByteArray) (w : World) : Below w.heap.size w (Lib.bytesWorld w 5 s) :=
  ⟨rfl, rfl, rfl, by rw [Lib.bytesWorld_size]; omega, fun i hi => Lib.bytesWorld_at_old w _ s i hi⟩

theorem str_at (l : List UInt8) (k : Nat) (h : k < ByteArray.size ⟨l.toArray⟩) : (((⟨l.toArray⟩ : ByteArray)[k]'h).toNat : Int) = chr l k := by
  unfold chr
  have hk : k < l.length := by simpa [ByteArray.size] using h
  rw [List.getElem?_eq_getElem hk]
  rfl
attribute [local go_sem] str_at

def whole (l : List UInt8) (k : Int) : Bool := !l.isEmpty && (kindI (chr l 0) == k) && decide (endT l k 0 = l.length)

set_option maxRecDepth 100000 in
set_option maxHeartbeats 1000000 in
theorem isWhole_ok (l : List UInt8) (k : Int) (w : World) (hn : l.length ≤ 1000000000) :
    Calls Tryz.prog 74 #[.string ⟨l.toArray⟩, .int .i64 k] w fun e w' => e = .returned (.bool (whole l k)) ∧ Below w.heap.size w w' := by
  by_cases h0 : l.length = 0
  · have hs : l = [] := List.eq_nil_of_length_eq_zero h0
    subst hs
    go_enter Tryz.func74, Tryz.ntmps74
    go_wp2_with fail
    go_ret
    exact ⟨rfl, Below.refl _ _⟩
  · have h1 : 0 < l.length := by omega
    have hne : l.isEmpty = false := by cases l <;> simp_all
    go_enter Tryz.func74, Tryz.ntmps74
    have hcs := conv_str l w
    have hk := kindAt_ok (chr l 0)
    have he := endOf_ok l w.heap.size 0 (grownCap w l.length 0 5) k 0 _ (bs_str l w) hn (grownCap_ge w _ _ _) h1
    have HE := Lib.hid he
    have HK := Lib.hid hk
    clear hk he
    by_cases hkk : kindI (chr l 0) = k
    · have hkb : (kindI (chr l 0) == k) = true := by simp [hkk]
      have HKK := Lib.hid hkk
      clear hkk
      go_wp2_with (first | (go_at_call 24; refine (HK.out _).mono ?_; rintro e w' ⟨rfl, rfl⟩) | (go_at_call 25; refine HE.out.mono ?_; rintro e w' ⟨rfl, hbl⟩))
      go_ret
      exact ⟨ret_bool (by rw [whole, hne, hkb, Bool.eq_iff_iff]; simp; omega), (below_str _ _).trans (hbl.mono (below_str _ _).size)⟩
    · have hkb : (kindI (chr l 0) == k) = false := by simp [hkk]
      go_wp2_with (go_at_call 24; refine (HK.out _).mono ?_; rintro e w' ⟨rfl, rfl⟩)
      go_ret
      exact ⟨ret_bool (by simp [whole, hkb]), Below.refl _ _⟩

theorem run_all (k : Int) : ∀ l : List UInt8, run k l = l.length → ∀ j, j < l.length → goes k (chr l j) = true
  | [], _, j, hj => by simp at hj
  | x :: r, h, j, hj => by
    simp only [run] at h
    split at h
    · rename_i hx
      rcases j with _ | j
      · simpa [chr] using hx
      · have := run_all k r (by simpa using h) j (by simpa using hj)
        simpa [chr] using this
    · simp at h

theorem chr_pre2 (l : List UInt8) (h : pre2 l = true) : chr l 0 = 61 ∧ chr l 1 = 61 := by
  unfold pre2 at h
  rw [beq_iff_eq] at h
  rcases l with _ | ⟨x, _ | ⟨y, r⟩⟩
  · simp at h
  · simp at h
  · simp at h
    obtain ⟨rfl, rfl⟩ := h
    exact ⟨rfl, rfl⟩

theorem whole_digits (l : List UInt8) (h : whole l 3 = true) : ∀ j, j < l.length → isD (chr l j) = true := by
  unfold whole at h
  simp only [Bool.and_eq_true, beq_iff_eq, decide_eq_true_eq] at h
  obtain ⟨⟨h0, hk⟩, he⟩ := h
  have hd0 : isD (chr l 0) = true := by
    unfold kindI at hk
    split at hk
    · omega
    · split at hk
      · assumption
      · split at hk <;> omega
  unfold endT at he
  split at he
  · rename_i hp
    rw [List.drop_zero] at hp
    have := (chr_pre2 l hp).1
    rw [this] at hd0
    exact absurd hd0 (by decide)
  · unfold ends at he
    rw [Nat.zero_add] at he
    have hr : run 3 (l.drop 1) = (l.drop 1).length := by
      rw [List.length_drop]; omega
    intro j hj
    rcases j with _ | j
    · exact hd0
    · have := run_all 3 (l.drop 1) hr j (by rw [List.length_drop]; omega)
      rw [chr_drop] at this
      rw [Nat.add_comm] at this
      simpa [goes] using this

def numF : Int → List UInt8 → Option Int
  | n, [] => some n
  | n, x :: r => if 2147483647 < n * 10 + ((x.toNat : Int) - 48) then none else numF (n * 10 + ((x.toNat : Int) - 48)) r
def numA (l : List UInt8) (n : Int) (j : Nat) : Option Int := numF n (l.drop j)
theorem numA_end (l : List UInt8) (n : Int) (j : Nat) (h : l.length ≤ j) : numA l n j = some n := by
  unfold numA; rw [List.drop_of_length_le h]; rfl
theorem numA_big (l : List UInt8) (n : Int) (j : Nat) (h : j < l.length) (hb : 2147483647 < n * 10 + (chr l j - 48)) : numA l n j = none := by
  obtain ⟨x, hd, hx⟩ := drop_chr l j h
  rw [hx] at hb
  unfold numA; rw [hd]; simp only [numF]; rw [if_pos hb]
theorem numA_more (l : List UInt8) (n : Int) (j : Nat) (h : j < l.length) (hb : ¬ 2147483647 < n * 10 + (chr l j - 48)) : numA l n j = numA l (n * 10 + (chr l j - 48)) (j + 1) := by
  obtain ⟨x, hd, hx⟩ := drop_chr l j h
  rw [hx] at hb ⊢
  unfold numA; rw [hd]; simp only [numF]; rw [if_neg hb]
def numT (l : List UInt8) : Int × Bool := if whole l 3 = true then (match numA l 0 0 with | some n => (n, true) | none => (0, false)) else (0, false)

theorem ret_pair {k : IntKind} {a b : Int} {c d : Bool} (h : a = b) (h' : c = d) : Ending.returned (.tuple #[.int k a, .bool c]) = .returned (.tuple #[.int k b, .bool d]) := by rw [h, h']

set_option maxRecDepth 100000 in
set_option maxHeartbeats 1000000 in
theorem number_ok (l : List UInt8) (w : World) (hn : l.length ≤ 1000000000) :
    Calls Tryz.prog 52 #[.string ⟨l.toArray⟩] w fun e w' => e = .returned (.tuple #[.int .i64 (numT l).1, .bool (numT l).2]) ∧ Below w.heap.size w w' := by
  have hw := isWhole_ok l 3 w hn
  cases hwh : whole l 3
  · have HN : Hid (numT l = (0, false)) := Lib.hid (by simp [numT, hwh])
    rw [hwh] at hw
    have HW := Lib.hid hw
    clear hw hwh
    go_enter Tryz.func52, Tryz.ntmps52
    go_wp2_with (go_at_call 74; refine HW.out.mono ?_; rintro e w' ⟨rfl, hbl⟩)
    go_ret2
    exact ⟨by rw [HN.out]; rfl, hbl⟩
  · have HD := Lib.hid (whole_digits l hwh)
    have HN : Hid (numT l = match numA l 0 0 with | some n => (n, true) | none => (0, false)) := Lib.hid (by simp [numT, hwh])
    rw [hwh] at hw
    have HW := Lib.hid hw
    clear hw hwh
    go_enter Tryz.func52, Tryz.ntmps52
    go_wp2_with (go_at_call 74; refine HW.out.mono ?_; rintro e w' ⟨rfl, hbl⟩)
    have HBL := Lib.hid hbl
    clear hbl
    go_loop [4, 11] (fun n i => ∃ (m : Int) (j : Nat), 0 ≤ m ∧ m ≤ 2147483647 ∧ j ≤ l.length ∧ n = .int .i64 m ∧ i = .int .i64 j ∧ Hid (numA l m j = numA l 0 0)) (fun _ i => l.length - (intOf i).toNat)
    case atStart => exact ⟨0, 0, by omega, by omega, by omega, rfl, rfl, Lib.hid rfl⟩
    case round =>
      obtain ⟨m, j, hm0, hm1, hj, rfl, rfl, HJ⟩ := hrel
      by_cases hlj : j < l.length
      · have hd := HD.out j hlj
        have hd1 : 48 ≤ chr l j := by simp [isD] at hd; omega
        have hd2 : chr l j ≤ 57 := by simp [isD] at hd; omega
        clear hd
        by_cases hbig : 2147483647 < m * 10 + (chr l j - 48)
        · go_wp2
          go_ret2
          exact ⟨ret_pair (by rw [HN.out, ← HJ.out, numA_big l m j hlj hbig]) (by rw [HN.out, ← HJ.out, numA_big l m j hlj hbig]), HBL.out⟩
        · go_wp2
          go_round
          case rel => exact ⟨m * 10 + (chr l j - 48), j + 1, by omega, by omega, by omega, rfl, by go_num, Lib.hid ((numA_more l m j hlj hbig).symm.trans HJ.out)⟩
          case measure => simp [intOf]; omega
      · go_wp2
        go_ret2
        exact ⟨ret_pair (by rw [HN.out, ← HJ.out, numA_end l m j (by omega)]) (by rw [HN.out, ← HJ.out, numA_end l m j (by omega)]), HBL.out⟩
end Go.Proofs.YtpeoefbibjbinaaGreat

namespace Go.Proofs.YtpeoefbibjbinaaGreat
open Go.RowKit Go.Maps Go.ChangeMaps

/-- The entries of a set of texts that were put in one behind the other. -/
def ents : Nat → List (List UInt8) → List MapEntry
  | _, [] => []
  | n, s :: r => ⟨.string ⟨s.toArray⟩, .agg #[], n⟩ :: ents (n + 1) r

theorem ents_snoc : ∀ (ws : List (List UInt8)) (n : Nat) (s : List UInt8), ents n (ws ++ [s]) = ents n ws ++ [⟨.string ⟨s.toArray⟩, .agg #[], n + ws.length⟩]
  | [], n, s => by simp [ents]
  | x :: r, n, s => by
    simp only [List.cons_append, ents, ents_snoc r (n + 1) s, List.length_cons]
    congr 4
    omega

theorem bytes_beq (a b : List UInt8) : ((⟨a.toArray⟩ : ByteArray) == ⟨b.toArray⟩) = (a == b) := by
  rw [Bool.eq_iff_iff, MapKept.bytes_beq]
  simp

theorem find_ents (l : List UInt8) : ∀ (ws : List (List UInt8)) (n i : Nat),
    ∃ j, Instr.findNow .string (.string ⟨l.toArray⟩) (ents n ws) i = some (if ws.contains l = true then some (j, .agg #[]) else none)
  | [], n, i => ⟨0, by simp [ents, Instr.findNow]⟩
  | s :: r, n, i => by
    obtain ⟨j, ih⟩ := find_ents l r (n + 1) (i + 1)
    simp only [ents, Instr.findNow, Instr.sameNow, bytes_beq]
    by_cases h : l = s
    · subst h; exact ⟨i, by simp⟩
    · have h1 : (l == s) = false := by simpa using h
      refine ⟨j, ?_⟩
      rw [h1]
      simp only [ih, List.contains_cons, h1, Bool.false_or]

theorem push_set (a : Array Obj) (x y : Obj) : (a.push x).setIfInBounds a.size y = a.push y := by
  apply Array.ext_getElem?
  intro i
  rw [Array.getElem?_setIfInBounds, Array.getElem?_push, Array.getElem?_push]
  by_cases h : a.size = i
  · subst h; simp
  · have : ¬ i = a.size := fun e => h e.symm
    simp [h, this]

theorem upd_run (w : World) (es : Array MapEntry) (n : Nat) (s : ByteArray) (v : Value) (h : Instr.findNow .string (.string s) es.toList 0 = some none) :
    (Instr.mapUpdate 51 (.map (some w.heap.size)) (.string s) v).run Tryz.prog (w.alloc (.map es n)) = .ok () (w.alloc (.map (es.push ⟨.string s, v, n⟩) (n + 1))) := by
  have hb : (w.alloc (.map es n)).heap[w.heap.size]? = some (.map es n) := heap_alloc_new w _
  have hc : ∀ m W, (Instr.checkKey false (m + 1) 9 (.string s)).run Tryz.prog W = .ok () W := fun m W => MapKept.run_checkKey (k := .string s) Tryz.underlying9 trivial false m
  have hset : ∀ o, (setObj w.heap.size o).run Tryz.prog (w.alloc (.map es n)) = .ok () (w.alloc o) := fun o => by
    rw [MapKept.run_setObj_map o hb]
    simp [World.alloc, -World.alloc_eq, push_set]
  simp [Instr.mapUpdate, run_underlying Tryz.underlying51, MapKept.run_getObj_map hb, hc, Instr.findKey, run_underlying Tryz.underlying9, h, Result.andThen, hset]

def wordsL : List (List UInt8) := [[97, 102, 116, 101, 114], [97, 114, 114], [99, 97, 108, 108], [99, 97, 110, 99, 101, 108], [99, 108, 97, 115, 115], [99, 111, 109, 112], [99, 114, 101, 97, 116, 101], [100, 101, 115, 116, 114, 111, 121], [100, 105, 115, 97, 98, 108, 101], [101, 108, 115, 101], [101, 110, 97, 98, 108, 101], [101, 118, 101, 110, 116], [102, 110], [102, 114, 111, 110, 116], [104, 97, 110, 100], [105, 102], [105, 110, 116], [105, 116], [106, 111, 105, 110], [108, 101, 110], [108, 111, 103], [108, 111, 111, 112, 101, 114], [109, 97, 105, 110], [110, 101, 119], [110, 117, 108, 108], [111, 102, 102], [111, 110], [112, 111, 115, 116], [114, 101, 116, 117, 114, 110], [115, 112, 97, 119, 110], [115, 116, 97, 114, 116], [115, 116, 111, 112], [116, 111], [116, 111, 107], [118, 97, 114], [119, 104, 105, 108, 101]]
def isW (l : List UInt8) : Bool := wordsL.contains l
def wobj (ws : List (List UInt8)) : Obj := .map (ents 0 ws).toArray ws.length

theorem ins_run (w : World) (ws : List (List UInt8)) (s : List UInt8) (h : ws.contains s = false) :
    (Instr.mapUpdate 51 (.map (some w.heap.size)) (.string ⟨s.toArray⟩) (.agg #[])).run Tryz.prog (w.alloc (wobj ws)) = .ok () (w.alloc (wobj (ws ++ [s]))) := by
  obtain ⟨j, hj⟩ := find_ents s ws 0 0
  rw [h] at hj
  have := upd_run w (ents 0 ws).toArray ws.length ⟨s.toArray⟩ (.agg #[]) (by simpa using hj)
  unfold wobj
  rw [this, ents_snoc, List.length_append]
  simp

def wk (i : Nat) : List (List UInt8) := wordsL.take i

theorem ins_wk (w : World) (i j : Nat) (s : List UInt8) (hs : wordsL[i]? = some s) (h : (wordsL.take i).contains s = false) (hj : j = i + 1) :
    (Instr.mapUpdate 51 (.map (some w.heap.size)) (.string ⟨s.toArray⟩) (.agg #[])).run Tryz.prog (w.alloc (wobj (wk i))) = .ok () (w.alloc (wobj (wk j))) := by
  subst hj
  have hr := ins_run w (wk i) s h
  rw [hr]
  unfold wk
  rw [List.take_add_one, hs]
  rfl

set_option maxRecDepth 100000 in
set_option maxHeartbeats 4000000 in
theorem wordSet_ok (w : World) :
    Calls Tryz.prog 21 #[] w fun e w' => e = .returned (.map (some w.heap.size)) ∧ w' = w.alloc (wobj (wk 36)) := by
  have hmm : ∀ u : World, (Instr.makeMap 51 none).run Tryz.prog u = .ok (.map (some u.heap.size)) (u.alloc (wobj (wk 0))) := fun u => rfl
  have i0 := ins_wk w 0 1 [97, 102, 116, 101, 114] rfl (by decide) rfl
  have i1 := ins_wk w 1 2 [97, 114, 114] rfl (by decide) rfl
  have i2 := ins_wk w 2 3 [99, 97, 108, 108] rfl (by decide) rfl
  have i3 := ins_wk w 3 4 [99, 97, 110, 99, 101, 108] rfl (by decide) rfl
  have i4 := ins_wk w 4 5 [99, 108, 97, 115, 115] rfl (by decide) rfl
  have i5 := ins_wk w 5 6 [99, 111, 109, 112] rfl (by decide) rfl
  have i6 := ins_wk w 6 7 [99, 114, 101, 97, 116, 101] rfl (by decide) rfl
  have i7 := ins_wk w 7 8 [100, 101, 115, 116, 114, 111, 121] rfl (by decide) rfl
  have i8 := ins_wk w 8 9 [100, 105, 115, 97, 98, 108, 101] rfl (by decide) rfl
  have i9 := ins_wk w 9 10 [101, 108, 115, 101] rfl (by decide) rfl
  have i10 := ins_wk w 10 11 [101, 110, 97, 98, 108, 101] rfl (by decide) rfl
  have i11 := ins_wk w 11 12 [101, 118, 101, 110, 116] rfl (by decide) rfl
  have i12 := ins_wk w 12 13 [102, 110] rfl (by decide) rfl
  have i13 := ins_wk w 13 14 [102, 114, 111, 110, 116] rfl (by decide) rfl
  have i14 := ins_wk w 14 15 [104, 97, 110, 100] rfl (by decide) rfl
  have i15 := ins_wk w 15 16 [105, 102] rfl (by decide) rfl
  have i16 := ins_wk w 16 17 [105, 110, 116] rfl (by decide) rfl
  have i17 := ins_wk w 17 18 [105, 116] rfl (by decide) rfl
  have i18 := ins_wk w 18 19 [106, 111, 105, 110] rfl (by decide) rfl
  have i19 := ins_wk w 19 20 [108, 101, 110] rfl (by decide) rfl
  have i20 := ins_wk w 20 21 [108, 111, 103] rfl (by decide) rfl
  have i21 := ins_wk w 21 22 [108, 111, 111, 112, 101, 114] rfl (by decide) rfl
  have i22 := ins_wk w 22 23 [109, 97, 105, 110] rfl (by decide) rfl
  have i23 := ins_wk w 23 24 [110, 101, 119] rfl (by decide) rfl
  have i24 := ins_wk w 24 25 [110, 117, 108, 108] rfl (by decide) rfl
  have i25 := ins_wk w 25 26 [111, 102, 102] rfl (by decide) rfl
  have i26 := ins_wk w 26 27 [111, 110] rfl (by decide) rfl
  have i27 := ins_wk w 27 28 [112, 111, 115, 116] rfl (by decide) rfl
  have i28 := ins_wk w 28 29 [114, 101, 116, 117, 114, 110] rfl (by decide) rfl
  have i29 := ins_wk w 29 30 [115, 112, 97, 119, 110] rfl (by decide) rfl
  have i30 := ins_wk w 30 31 [115, 116, 97, 114, 116] rfl (by decide) rfl
  have i31 := ins_wk w 31 32 [115, 116, 111, 112] rfl (by decide) rfl
  have i32 := ins_wk w 32 33 [116, 111] rfl (by decide) rfl
  have i33 := ins_wk w 33 34 [116, 111, 107] rfl (by decide) rfl
  have i34 := ins_wk w 34 35 [118, 97, 114] rfl (by decide) rfl
  have i35 := ins_wk w 35 36 [119, 104, 105, 108, 101] rfl (by decide) rfl
  go_enter Tryz.func21, Tryz.ntmps21
  go_wp2
  go_ret
  exact ⟨rfl, rfl⟩

theorem look_run (w : World) (b : Nat) (l : List UInt8) (hb : w.heap[b]? = some (wobj (wk 36))) :
    (Instr.lookup 51 (.map (some b)) (.string ⟨l.toArray⟩) true).run Tryz.prog w = .ok (.tuple #[.agg #[], .bool (isW l)]) w := by
  have hc : ∀ e m W, (Instr.checkKey e (m + 1) 9 (.string ⟨l.toArray⟩)).run Tryz.prog W = .ok () W := fun e m W => MapKept.run_checkKey (k := .string ⟨l.toArray⟩) Tryz.underlying9 trivial e m
  have hz : ∀ W, (zeroValue 89).run Tryz.prog W = .ok (.agg #[]) W := fun W => by kernel_rfl
  obtain ⟨j, hj⟩ := find_ents l (wk 36) 0 0
  have hwk : (wk 36).contains l = isW l := rfl
  rw [hwk] at hj
  unfold wobj at hb
  cases hw : isW l
  · rw [hw] at hj
    simp [Instr.lookup, run_underlying Tryz.underlying51, MapKept.run_getObj_map hb, hc, Instr.findKey, run_underlying Tryz.underlying9, hj, Result.andThen, hz]
  · rw [hw] at hj
    simp [Instr.lookup, run_underlying Tryz.underlying51, MapKept.run_getObj_map hb, hc, Instr.findKey, run_underlying Tryz.underlying9, hj, Result.andThen]
end Go.Proofs.YtpeoefbibjbinaaGreat
