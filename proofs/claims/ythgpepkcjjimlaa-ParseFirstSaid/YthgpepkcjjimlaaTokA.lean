/- The letters and digits of layer 1, as the Go functions answer them: token.isLetter, isDigit, kindAt, goesOn and the reference's Letter, Digit. -/
import Derived.Test.YthgpepkcjjimlaaChecked
import Derived.WalkKit
import Derived.Outline
import Derived.Lib.Hide
import Derived.WalkSpells
import Derived.Lib.Bytealg
namespace Go.Proofs.Ythgpepkcjjimlaa
open Go.RowKit

def isL (c : Int) : Bool := c == 95 || (decide (97 ≤ c) && decide (c ≤ 122)) || (decide (65 ≤ c) && decide (c ≤ 90))
def isD (c : Int) : Bool := decide (48 ≤ c) && decide (c ≤ 57)

theorem ret_bool {a b : Bool} (h : a = b) : Ending.returned (.bool a) = .returned (.bool b) := by rw [h]
theorem ret_int {k : IntKind} {a b : Int} (h : a = b) : Ending.returned (.int k a) = .returned (.int k b) := by rw [h]

theorem isLetter_ok (c : Int) (w : World) :
    Calls Try.prog 34 #[.int .u8 c] w fun e w' => e = .returned (.bool (isL c)) ∧ w = w' := by
  go_enter Try.func34, Try.ntmps34
  go_wp2
  all_goals go_ret
  all_goals exact ⟨ret_bool (by rw [Bool.eq_iff_iff]; simp [isL]; omega), rfl⟩

theorem isDigit_ok (c : Int) (w : World) :
    Calls Try.prog 35 #[.int .u8 c] w fun e w' => e = .returned (.bool (isD c)) ∧ w = w' := by
  go_enter Try.func35, Try.ntmps35
  go_wp2
  all_goals go_ret
  all_goals exact ⟨ret_bool (by rw [Bool.eq_iff_iff]; simp [isD]; omega), rfl⟩

theorem letter_ok (c : Int) (w : World) :
    Calls Try.prog 11 #[.int .u8 c] w fun e w' => e = .returned (.bool (isL c)) ∧ w = w' := by
  go_enter Try.func11, Try.ntmps11
  go_wp2
  all_goals go_ret
  all_goals exact ⟨ret_bool (by rw [Bool.eq_iff_iff]; simp [isL]; omega), rfl⟩

theorem digit_ok (c : Int) (w : World) :
    Calls Try.prog 12 #[.int .u8 c] w fun e w' => e = .returned (.bool (isD c)) ∧ w = w' := by
  go_enter Try.func12, Try.ntmps12
  go_wp2
  all_goals go_ret
  all_goals exact ⟨ret_bool (by rw [Bool.eq_iff_iff]; simp [isD]; omega), rfl⟩

set_option maxRecDepth 100000 in
theorem indexByte_in (s : ByteArray) (c : Int) (w : World) :
    Calls Try.prog 48 #[.string s, .int .u8 c] w fun e w' => e = .returned (.int .i64 (Lib.indexByte s.data.toList (UInt8.ofNat c.toNat))) ∧ w = w' := by
  go_enter Try.func48, Try.ntmps48
  go_wp2
  rw [run_callFunc_extern Try.func65 (by kernel_rfl) (by kernel_rfl) (by kernel_rfl) (e := Extern.BytealgIndexByte.indexByte) (by kernel_rfl), Lib.run_indexByteString]
  simp only [Result.andThen]
  rw [Oper.upon_value]
  go_wp2
  go_ret
  exact ⟨rfl, rfl⟩
theorem indexByte_ok (s : ByteArray) (c : Int) (w : World) :
    Calls Try.prog 33 #[.string s, .int .u8 c] w fun e w' => e = .returned (.int .i64 (Lib.indexByte s.data.toList (UInt8.ofNat c.toNat))) ∧ w = w' := by
  go_enter Try.func33, Try.ntmps33
  go_wp2_with (go_at_call 48; refine (indexByte_in _ _ _).mono ?_; rintro e w' ⟨rfl, rfl⟩)
  go_ret
  exact ⟨rfl, rfl⟩

def marksL : List UInt8 := [123, 125, 40, 41, 91, 93, 59, 46, 61, 43, 45, 42, 60]
def isM (c : Int) : Bool := marksL.contains (UInt8.ofNat c.toNat)
def isB (c : Int) : Bool := [32, 9, 10, 13].contains (UInt8.ofNat c.toNat)

theorem indexByte_nonneg (l : List UInt8) (c : UInt8) : decide (0 ≤ Lib.indexByte l c) = l.contains c := by
  induction l with
  | nil => rfl
  | cons b l ih =>
    unfold Lib.indexByte
    have hge := Lib.indexByte_ge l c
    by_cases hb : b == c
    · have : c = b := by rw [beq_iff_eq] at hb; exact hb.symm
      simp [this]
    · have : (c == b) = false := by
        rw [beq_eq_false_iff_ne]; intro h; exact hb (by rw [h]; exact beq_self_eq_true b)
      rw [if_neg hb, List.contains_cons, this, Bool.false_or, ← ih]
      by_cases hm : Lib.indexByte l c == -1
      · have := beq_iff_eq.1 hm
        rw [if_pos hm, this]
      · have : Lib.indexByte l c ≠ -1 := fun h => hm (by rw [h]; rfl)
        rw [if_neg hm]
        rw [Bool.eq_iff_iff]; simp; omega

def kindI (c : Int) : Int := if isL c = true then 1 else if isD c = true then 3 else if isM c = true then 4 else 0

theorem kindAt_ok (c : Int) (w : World) :
    Calls Try.prog 26 #[.int .u8 c] w fun e w' => e = .returned (.int .i64 (kindI c)) ∧ w = w' := by
  have hm : decide (0 ≤ Lib.indexByte [123, 125, 40, 41, 91, 93, 59, 46, 61, 43, 45, 42, 60] (UInt8.ofNat c.toNat)) = isM c := indexByte_nonneg _ _
  have HM := Lib.hid hm
  clear hm
  cases h1 : isL c
  · cases h2 : isD c
    · cases h3 : isM c
      · have h4 : ¬ 0 ≤ Lib.indexByte [123, 125, 40, 41, 91, 93, 59, 46, 61, 43, 45, 42, 60] (UInt8.ofNat c.toNat) := of_decide_eq_false (HM.out.trans h3)
        have HK : kindI c = 0 := by simp [kindI, h1, h2, h3]
        rw [HK]
        clear HK h3 HM
        go_enter Try.func26, Try.ntmps26
        go_wp2_with (first | (go_at_call 34; refine (isLetter_ok _ _).mono ?_; rintro e w' ⟨rfl, rfl⟩) | (go_at_call 35; refine (isDigit_ok _ _).mono ?_; rintro e w' ⟨rfl, rfl⟩) | (go_at_call 33; refine (indexByte_ok _ _ _).mono ?_; rintro e w' ⟨rfl, rfl⟩))
        all_goals go_ret
        all_goals exact ⟨rfl, rfl⟩
      · have h4 : 0 ≤ Lib.indexByte [123, 125, 40, 41, 91, 93, 59, 46, 61, 43, 45, 42, 60] (UInt8.ofNat c.toNat) := of_decide_eq_true (HM.out.trans h3)
        have HK : kindI c = 4 := by simp [kindI, h1, h2, h3]
        rw [HK]
        clear HK h3 HM
        go_enter Try.func26, Try.ntmps26
        go_wp2_with (first | (go_at_call 34; refine (isLetter_ok _ _).mono ?_; rintro e w' ⟨rfl, rfl⟩) | (go_at_call 35; refine (isDigit_ok _ _).mono ?_; rintro e w' ⟨rfl, rfl⟩) | (go_at_call 33; refine (indexByte_ok _ _ _).mono ?_; rintro e w' ⟨rfl, rfl⟩))
        all_goals go_ret
        all_goals exact ⟨rfl, rfl⟩
    · have HK : kindI c = 3 := by simp [kindI, h1, h2]
      rw [HK]
      clear HK HM
      go_enter Try.func26, Try.ntmps26
      go_wp2_with (first | (go_at_call 34; refine (isLetter_ok _ _).mono ?_; rintro e w' ⟨rfl, rfl⟩) | (go_at_call 35; refine (isDigit_ok _ _).mono ?_; rintro e w' ⟨rfl, rfl⟩))
      all_goals go_ret
      all_goals exact ⟨rfl, rfl⟩
  · have HK : kindI c = 1 := by simp [kindI, h1]
    rw [HK]
    clear HK HM
    go_enter Try.func26, Try.ntmps26
    go_wp2_with (go_at_call 34; refine (isLetter_ok _ _).mono ?_; rintro e w' ⟨rfl, rfl⟩)
    all_goals go_ret
    all_goals exact ⟨rfl, rfl⟩

def goes (k c : Int) : Bool := if k = 1 then isL c || isD c else if k = 3 then isD c else false

theorem goesOn_ok (c k : Int) (w : World) :
    Calls Try.prog 37 #[.int .u8 c, .int .i64 k] w fun e w' => e = .returned (.bool (goes k c)) ∧ w = w' := by
  go_enter Try.func37, Try.ntmps37
  go_wp2_with (first | (go_at_call 34; refine (isLetter_ok _ _).mono ?_; rintro e w' ⟨rfl, rfl⟩) | (go_at_call 35; refine (isDigit_ok _ _).mono ?_; rintro e w' ⟨rfl, rfl⟩))
  all_goals go_ret
  all_goals exact ⟨ret_bool (by simp_all [goes]), rfl⟩
end Go.Proofs.Ythgpepkcjjimlaa
