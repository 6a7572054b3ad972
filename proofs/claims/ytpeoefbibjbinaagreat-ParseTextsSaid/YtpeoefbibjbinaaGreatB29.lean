/- The document's trees in memory: kids; The document's parser, plainly: rows of forests; what it does behind what is wrong. -/
import Derived.Test.YtpeoefbibjbinaaGreatB04
import Derived.Test.YtpeoefbibjbinaaGreatB28
import Derived.Deep.LoopGhost
import Derived.BigQuiet
import Derived.Test.YtpeoefbibjbinaaGreatB15
namespace Go.Proofs.YtpeoefbibjbinaaGreat
set_option linter.unusedSimpArgs false
open Go.RowKit

/-- What stands in a kind's letters, one by one. -/
inductive It where
  | one (c : UInt8)
  | many (c : UInt8)
  | opt (c : UInt8)
def It.enc : It → List UInt8
  | .one c => [c]
  | .many c => [42, c]
  | .opt c => [63, c]
def encs (I : List It) : List UInt8 := I.flatMap It.enc
def optR (c : UInt8) : List Int → List Int
  | [] => []
  | x :: r => if isR x c.toNat = true then r else x :: r
def kG : List It → List Int → Bool
  | [], l => l.isEmpty
  | .one _ :: _, [] => false
  | .one c :: s, x :: r => isR x c.toNat && kG s r
  | .many c :: s, l => kG s (l.dropWhile fun x => isR x c.toNat)
  | .opt c :: s, l => kG s (optR c l)
def its (k : Int) : List It :=
  if k = 1 then [.many 100]
  else if k = 3 then [.many 109]
  else if k = 4 ∨ k = 6 then [.one 121]
  else if k = 7 ∨ k = 9 ∨ k = 11 ∨ k = 36 then [.one 98]
  else if k = 8 then [.one 117, .many 108]
  else if k = 10 then [.one 117, .one 98]
  else if k = 12 then [.many 115]
  else if k = 13 then [.one 121, .one 101]
  else if k = 14 then [.one 118, .one 101]
  else if k = 15 ∨ k = 16 ∨ k = 17 ∨ k = 18 ∨ k = 30 ∨ k = 34 ∨ k = 35 then [.one 101]
  else if k = 19 ∨ k = 20 then [.one 101, .opt 118]
  else if k = 23 then [.one 101, .one 98, .one 98]
  else if k = 24 then [.one 101, .one 98]
  else if k = 31 ∨ k = 32 then [.one 101, .one 101]
  else []
theorem letS_its (k : Int) : letS k = encs (its k) := by
  unfold letS its
  by_cases h : k = 1
  · rw [if_pos h, if_pos h]
    rfl
  rw [if_neg h, if_neg h]
  clear h
  by_cases h : k = 3
  · rw [if_pos h, if_pos h]
    rfl
  rw [if_neg h, if_neg h]
  clear h
  by_cases h : k = 4 ∨ k = 6
  · rw [if_pos h, if_pos h]
    rfl
  rw [if_neg h, if_neg h]
  clear h
  by_cases h : k = 7 ∨ k = 9 ∨ k = 11 ∨ k = 36
  · rw [if_pos h, if_pos h]
    rfl
  rw [if_neg h, if_neg h]
  clear h
  by_cases h : k = 8
  · rw [if_pos h, if_pos h]
    rfl
  rw [if_neg h, if_neg h]
  clear h
  by_cases h : k = 10
  · rw [if_pos h, if_pos h]
    rfl
  rw [if_neg h, if_neg h]
  clear h
  by_cases h : k = 12
  · rw [if_pos h, if_pos h]
    rfl
  rw [if_neg h, if_neg h]
  clear h
  by_cases h : k = 13
  · rw [if_pos h, if_pos h]
    rfl
  rw [if_neg h, if_neg h]
  clear h
  by_cases h : k = 14
  · rw [if_pos h, if_pos h]
    rfl
  rw [if_neg h, if_neg h]
  clear h
  by_cases h : k = 15 ∨ k = 16 ∨ k = 17 ∨ k = 18 ∨ k = 30 ∨ k = 34 ∨ k = 35
  · rw [if_pos h, if_pos h]
    rfl
  rw [if_neg h, if_neg h]
  clear h
  by_cases h : k = 19 ∨ k = 20
  · rw [if_pos h, if_pos h]
    rfl
  rw [if_neg h, if_neg h]
  clear h
  by_cases h : k = 23
  · rw [if_pos h, if_pos h]
    rfl
  rw [if_neg h, if_neg h]
  clear h
  by_cases h : k = 24
  · rw [if_pos h, if_pos h]
    rfl
  rw [if_neg h, if_neg h]
  clear h
  by_cases h : k = 31 ∨ k = 32
  · rw [if_pos h, if_pos h]
    rfl
  rw [if_neg h, if_neg h]
  clear h
  rfl
def Wf (I : List It) : Prop := ∀ c, It.one c ∈ I → c ≠ 42 ∧ c ≠ 63
def wfB (I : List It) : Bool := I.all fun x => match x with
  | .one c => c != 42 && c != 63
  | _ => true
theorem wf_of {I : List It} (h : wfB I = true) : Wf I := by
  intro c hc
  have := List.all_eq_true.1 h _ hc
  simpa using this
theorem wf_its (k : Int) : Wf (its k) := by
  refine wf_of ?_
  unfold its
  by_cases h : k = 1
  · rw [if_pos h]
    rfl
  rw [if_neg h]
  clear h
  by_cases h : k = 3
  · rw [if_pos h]
    rfl
  rw [if_neg h]
  clear h
  by_cases h : k = 4 ∨ k = 6
  · rw [if_pos h]
    rfl
  rw [if_neg h]
  clear h
  by_cases h : k = 7 ∨ k = 9 ∨ k = 11 ∨ k = 36
  · rw [if_pos h]
    rfl
  rw [if_neg h]
  clear h
  by_cases h : k = 8
  · rw [if_pos h]
    rfl
  rw [if_neg h]
  clear h
  by_cases h : k = 10
  · rw [if_pos h]
    rfl
  rw [if_neg h]
  clear h
  by_cases h : k = 12
  · rw [if_pos h]
    rfl
  rw [if_neg h]
  clear h
  by_cases h : k = 13
  · rw [if_pos h]
    rfl
  rw [if_neg h]
  clear h
  by_cases h : k = 14
  · rw [if_pos h]
    rfl
  rw [if_neg h]
  clear h
  by_cases h : k = 15 ∨ k = 16 ∨ k = 17 ∨ k = 18 ∨ k = 30 ∨ k = 34 ∨ k = 35
  · rw [if_pos h]
    rfl
  rw [if_neg h]
  clear h
  by_cases h : k = 19 ∨ k = 20
  · rw [if_pos h]
    rfl
  rw [if_neg h]
  clear h
  by_cases h : k = 23
  · rw [if_pos h]
    rfl
  rw [if_neg h]
  clear h
  by_cases h : k = 24
  · rw [if_pos h]
    rfl
  rw [if_neg h]
  clear h
  by_cases h : k = 31 ∨ k = 32
  · rw [if_pos h]
    rfl
  rw [if_neg h]
  clear h
  rfl
theorem dw_all (p : Int → Bool) : ∀ l : List Int, (l.dropWhile p).isEmpty = l.all p
  | [] => rfl
  | x :: r => by
    simp only [List.dropWhile, List.all_cons]
    cases hp : p x
    · simp
    · simp [dw_all p r]
theorem noK_all (l : List Int) : l.all noK = l.isEmpty := by cases l <;> simp [noK]
theorem kG_its (k : Int) (l : List Int) : kG (its k) l = kidsOk k l := by
  unfold its kidsOk
  by_cases h : k = 1
  · rw [if_pos h, if_pos h]
    exact dw_all _ l
  rw [if_neg h, if_neg h]
  clear h
  by_cases h : k = 3
  · rw [if_pos h, if_pos h]
    exact dw_all _ l
  rw [if_neg h, if_neg h]
  clear h
  by_cases h : k = 4 ∨ k = 6
  · rw [if_pos h, if_pos h]
    rcases l with _ | ⟨x, r⟩ <;> simp [kG, rowOk, noK_all, isR, isK]
  rw [if_neg h, if_neg h]
  clear h
  by_cases h : k = 7 ∨ k = 9 ∨ k = 11 ∨ k = 36
  · rw [if_pos h, if_pos h]
    rcases l with _ | ⟨x, r⟩ <;> simp [kG, rowOk, noK_all, isR, isK]
  rw [if_neg h, if_neg h]
  clear h
  by_cases h : k = 8
  · rw [if_pos h, if_pos h]
    rcases l with _ | ⟨x, r⟩
    · rfl
    · simp [kG, rowOk, isR, dw_all]
      rfl
  rw [if_neg h, if_neg h]
  clear h
  by_cases h : k = 10
  · rw [if_pos h, if_pos h]
    rcases l with _ | ⟨x, _ | ⟨y, r⟩⟩ <;> simp [kG, rowOk, noK_all, isR, isK]
  rw [if_neg h, if_neg h]
  clear h
  by_cases h : k = 12
  · rw [if_pos h, if_pos h]
    exact dw_all _ l
  rw [if_neg h, if_neg h]
  clear h
  by_cases h : k = 13
  · rw [if_pos h, if_pos h]
    rcases l with _ | ⟨x, _ | ⟨y, r⟩⟩ <;> simp [kG, rowOk, noK_all, isR, isK]
  rw [if_neg h, if_neg h]
  clear h
  by_cases h : k = 14
  · rw [if_pos h, if_pos h]
    rcases l with _ | ⟨x, _ | ⟨y, r⟩⟩ <;> simp [kG, rowOk, noK_all, isR, isK]
  rw [if_neg h, if_neg h]
  clear h
  by_cases h : k = 15 ∨ k = 16 ∨ k = 17 ∨ k = 18 ∨ k = 30 ∨ k = 34 ∨ k = 35
  · rw [if_pos h, if_pos h]
    rcases l with _ | ⟨x, r⟩ <;> simp [kG, rowOk, noK_all, isR, isK]
  rw [if_neg h, if_neg h]
  clear h
  by_cases h : k = 19 ∨ k = 20
  · rw [if_pos h, if_pos h]
    rcases l with _ | ⟨x, _ | ⟨y, r⟩⟩
    · rfl
    · simp [kG, rowOk, noK, isR, optR]
    · cases hv : isVr y <;> simp [kG, rowOk, noK, isR, optR, hv, noK_all]
  rw [if_neg h, if_neg h]
  clear h
  by_cases h : k = 23
  · rw [if_pos h, if_pos h]
    rcases l with _ | ⟨x, _ | ⟨y, _ | ⟨z, r⟩⟩⟩ <;> simp [kG, rowOk, noK_all, isR, isK]
  rw [if_neg h, if_neg h]
  clear h
  by_cases h : k = 24
  · rw [if_pos h, if_pos h]
    rcases l with _ | ⟨x, _ | ⟨y, r⟩⟩ <;> simp [kG, rowOk, noK_all, isR, isK]
  rw [if_neg h, if_neg h]
  clear h
  by_cases h : k = 31 ∨ k = 32
  · rw [if_pos h, if_pos h]
    rcases l with _ | ⟨x, _ | ⟨y, r⟩⟩ <;> simp [kG, rowOk, noK_all, isR, isK]
  rw [if_neg h, if_neg h]
  clear h
  simp [kG, rowOk, noK_all]

def lenB (J : List It) : Bool := decide ((encs J).length ≤ 3)
theorem len_its (k : Int) : (encs (its k)).length ≤ 3 := by
  have h0 : lenB (its k) = true := by
    unfold its
    by_cases h : k = 1
    · rw [if_pos h]
      rfl
    rw [if_neg h]
    clear h
    by_cases h : k = 3
    · rw [if_pos h]
      rfl
    rw [if_neg h]
    clear h
    by_cases h : k = 4 ∨ k = 6
    · rw [if_pos h]
      rfl
    rw [if_neg h]
    clear h
    by_cases h : k = 7 ∨ k = 9 ∨ k = 11 ∨ k = 36
    · rw [if_pos h]
      rfl
    rw [if_neg h]
    clear h
    by_cases h : k = 8
    · rw [if_pos h]
      rfl
    rw [if_neg h]
    clear h
    by_cases h : k = 10
    · rw [if_pos h]
      rfl
    rw [if_neg h]
    clear h
    by_cases h : k = 12
    · rw [if_pos h]
      rfl
    rw [if_neg h]
    clear h
    by_cases h : k = 13
    · rw [if_pos h]
      rfl
    rw [if_neg h]
    clear h
    by_cases h : k = 14
    · rw [if_pos h]
      rfl
    rw [if_neg h]
    clear h
    by_cases h : k = 15 ∨ k = 16 ∨ k = 17 ∨ k = 18 ∨ k = 30 ∨ k = 34 ∨ k = 35
    · rw [if_pos h]
      rfl
    rw [if_neg h]
    clear h
    by_cases h : k = 19 ∨ k = 20
    · rw [if_pos h]
      rfl
    rw [if_neg h]
    clear h
    by_cases h : k = 23
    · rw [if_pos h]
      rfl
    rw [if_neg h]
    clear h
    by_cases h : k = 24
    · rw [if_pos h]
      rfl
    rw [if_neg h]
    clear h
    by_cases h : k = 31 ∨ k = 32
    · rw [if_pos h]
      rfl
    rw [if_neg h]
    clear h
    rfl
  simpa [lenB] using h0
theorem char_ne {c : UInt8} {n : Nat} (hn : n < 256) (h : c ≠ UInt8.ofNat n) : ((c.toNat : Int) == (n : Int)) = false := by
  rw [beq_eq_false_iff_ne]
  intro e
  refine h (UInt8.toNat.inj ?_)
  have : c.toNat = n := by omega
  rw [this]
  simp
  omega
theorem int_end (L : List Int) (i : Nat) (hi : i ≤ L.length) : ((i : Int) == (L.length : Int)) = kG [] (L.drop i) := by
  rw [Bool.eq_iff_iff]
  simp [kG, List.isEmpty_iff, List.drop_eq_nil_iff]
  omega
theorem is2_same (k c : Int) (w : World) : Calls Tryz.prog 70 #[.int .i64 k, .int .u8 c] w fun e w' => e = .returned (.bool (isR k c)) ∧ w' = w := (is2_ok k c w).mono fun _ _ h => ⟨h.1, h.2.symm⟩
theorem quiet_at {P : Program} {f : FuncId} {args : Array Value} {w : World} {a n : Nat} {v : Value} (h : Calls P f args (w.drewN (a + n)) fun e w' => e = .returned v ∧ w' = w.drewN (a + n)) : Calls P f args (w.drewN (a + n)) fun e w'' => e = .returned v ∧ ∃ m, w'' = w.drewN (a + m) :=
  h.mono fun _ _ ⟨he, hm⟩ => ⟨he, n, hm⟩
theorem chr_behind (p x : List UInt8) (a : Nat) : chr (p ++ x) (p.length + a) = chr x a := by
  unfold chr
  rw [List.getElem?_append_right (by omega), show p.length + a - p.length = a by omega]
theorem encs_app (I J : List It) : encs (I ++ J) = encs I ++ encs J := by simp [encs]
theorem encs_cons (x : It) (J : List It) : encs (x :: J) = x.enc ++ encs J := rfl
attribute [local go_sem] str_at

set_option maxRecDepth 100000 in
set_option maxHeartbeats 2000000 in
theorem kids2_ok (k : Int) (L : List Int) (A : Option Addr) (cap : Nat) (w : World) (hA : ∀ (i : Nat) (x : Int), L[i]? = some x → ∃ g, A = some ⟨g, 0, none⟩ ∧ w.cell? ⟨g, i, none⟩ = some (.int .i64 x)) (hl : L.length ≤ 1000000000) :
    Calls Tryz.prog 39 #[.int .i64 k, .slice A L.length cap] w fun e w' => e = .returned (.bool (kidsOk k L)) ∧ Below w.heap.size w w' := by
  rw [← kG_its]
  have hlet := letters2_ok k w
  rw [letS_its] at hlet
  have hwf := wf_its k
  have hsh : (encs (its k)).length ≤ 3 := by
    exact len_its k
  generalize its k = I at *
  obtain ⟨S, hS⟩ : ∃ S, S = encs I := ⟨_, rfl⟩
  rw [← hS] at hlet hsh
  have HL := Lib.hid hlet
  have HW := Lib.hid hwf
  have HA := Lib.hid hA
  have HS := Lib.hid hS
  clear hlet hwf hA hS
  go_enter Tryz.func39, Tryz.ntmps39
  go_wp2_with (go_at_call 69; refine HL.out.mono ?_; rintro e w1 ⟨rfl, rfl⟩)
  go_loopg [6, 7] I.length (fun n v6 v7 wr => ∃ (pre J : List It) (i p nq : Nat), I = pre ++ J ∧ J.length = n ∧ p = (encs pre).length ∧ v6 = .int .i64 i ∧ v7 = .int .i64 p ∧ i ≤ L.length ∧ kG J (L.drop i) = kG I L ∧ wr = w.drewN nq)
  case atStart => exact ⟨[], I, 0, 0, 0, rfl, rfl, rfl, rfl, rfl, by omega, rfl, rfl⟩
  case round =>
    obtain ⟨pre, J, i, p, nq, hI, hJ, hp, rfl, rfl, hi, hk, rfl⟩ := hrel
    have hS0 := HS.out
    rw [hI, encs_app] at hS0
    cases J with
    | nil =>
      have hpl : p = S.length := by rw [hp, hS0]; simp [encs]
      subst hpl
      have HK := Lib.hid hk
      clear hI hJ hp hk hS0
      go_wp2_with fail
      go_ret
      refine ⟨ret_bool ?_, bdrew (Below.refl _ _) _⟩
      rw [← HK.out]
      exact int_end L i hi
    | cons it J =>
      rw [encs_cons] at hS0
      have hx : S.length = p + it.enc.length + (encs J).length := by rw [hS0, hp]; simp; omega
      have hch : ∀ a, a < it.enc.length → chr S (p + a) = chr it.enc a := fun a ha => by
        rw [hS0, hp, chr_behind]
        unfold chr
        rw [List.getElem?_append_left ha]
      have HI := Lib.hid hI
      have HJ := Lib.hid hJ
      have HP := Lib.hid hp
      have HK := Lib.hid hk
      clear hI hJ hp hk hS0
      cases it with
      | one c =>
        have h0 : chr S p = (c.toNat : Int) := hch 0 (by simp [It.enc])
        replace hx : S.length = p + 1 + (encs J).length := hx
        obtain ⟨h1, h2⟩ := HW.out c (by rw [HI.out]; simp)
        have c1 : (chr S p == 42) = false := by rw [h0]; exact char_ne (n := 42) (by decide) h1
        have c2 : (chr S p == 63) = false := by rw [h0]; exact char_ne (n := 63) (by decide) h2
        have H0 := Lib.hid h0
        have hpS : p < S.length := by omega
        clear hch h1 h2 h0 hx
        by_cases hlt : i < L.length
        · obtain ⟨g, rfl, hc⟩ := HA.out i _ (List.getElem?_eq_getElem hlt)
          have HD := Lib.hid (List.drop_eq_getElem_cons hlt)
          generalize L[i] = x at *
          have his := fun w => is2_same x (chr S p) w
          have ei : ((i : Int) == (L.length : Int)) = false := by rw [beq_eq_false_iff_ne]; omega
          have ein : (i == L.length) = false := by rw [beq_eq_false_iff_ne]; omega
          cases hr : isR x (chr S p)
          · rw [hr] at his
            have HIS := Lib.hid his
            have HR := Lib.hid hr
            clear hr his
            go_upto_region 7 with (fail)
            go_quiet (first | (go_at_call 70; refine quiet_at (HIS.out _)))
            go_wp2_with fail
            go_ret
            refine ⟨ret_bool ?_, bdrew (bdrew (Below.refl _ _) _) _⟩
            rw [← HK.out, HD.out, kG, ← H0.out, HR.out]
            rfl
          · rw [hr] at his
            have HIS := Lib.hid his
            have HR := Lib.hid hr
            clear hr his
            go_upto_region 7 with (fail)
            go_quiet (first | (go_at_call 70; refine quiet_at (HIS.out _)))
            go_wp2_with fail
            go_roundg (gk - 1)
            case measure =>
              have := HJ.out
              simp only [List.length_cons] at this
              omega
            case rel => exact ⟨pre ++ [.one c], J, i + 1, p + 1, _, by rw [HI.out]; simp, by have := HJ.out; simp only [List.length_cons] at this; omega, by rw [encs_app, HP.out]; simp [encs, It.enc], by go_num, by go_num, by omega, by rw [← HK.out, HD.out, kG, ← H0.out, HR.out]; rfl, rfl⟩
        · obtain rfl : i = L.length := by omega
          have HD := Lib.hid (List.drop_of_length_le (Nat.le_refl L.length))
          go_upto_region 7 with (fail)
          go_quiet (fail)
          go_wp2_with fail
          go_ret
          refine ⟨ret_bool ?_, bdrew (bdrew (Below.refl _ _) _) _⟩
          rw [← HK.out, HD.out]
          rfl
      | many c =>
        have h0 : chr S p = 42 := hch 0 (by simp [It.enc])
        have h1 : chr S (p + 1) = (c.toNat : Int) := hch 1 (by simp [It.enc])
        replace hx : S.length = p + 2 + (encs J).length := hx
        have hpS : p < S.length := by omega
        have hpS1 : p + 1 < S.length := by omega
        have c1 : (chr S p == 42) = true := by rw [h0]; rfl
        have H1 := Lib.hid h1
        clear hch h1 hx h0
        go_wp2_with fail
        obtain ⟨q, hq⟩ : ∃ q : Nat, (p : Int) + 1 = q := ⟨p + 1, by omega⟩
        have hqp : q = p + 1 := by omega
        rw [← hqp] at H1 hpS1
        rw [hq]
        have HQP := Lib.hid hqp
        clear hq hqp
        go_loopg [6] (L.length - i) (fun n v6 wr => ∃ a nz : Nat, a + n = L.length ∧ v6 = .int .i64 a ∧ (L.drop a).dropWhile (fun x => isR x c.toNat) = (L.drop i).dropWhile (fun x => isR x c.toNat) ∧ wr = w.drewN nz)
        case atStart => exact ⟨i, nq, by omega, rfl, rfl, rfl⟩
        case round =>
          obtain ⟨a, nz, ha, rfl, hd, rfl⟩ := hrel
          by_cases hlt : a < L.length
          · obtain ⟨g, rfl, hc⟩ := HA.out a _ (List.getElem?_eq_getElem hlt)
            have HD := Lib.hid (List.drop_eq_getElem_cons hlt)
            generalize L[a] = x at *
            have his := fun w => is2_same x (chr S q) w
            cases hr : isR x (chr S q)
            · rw [hr] at his
              have HIS := Lib.hid his
              rw [H1.out] at hr
              have HR := Lib.hid hr
              have HDW := Lib.hid hd
              clear hr his hd
              go_upto_region 12 with (fail)
              go_quiet (first | (go_at_call 70; refine quiet_at (HIS.out _)))
              go_wp2_with fail
              go_roundg J.length
              case measure =>
                have := HJ.out
                simp only [List.length_cons] at this
                omega
              case rel => exact ⟨pre ++ [.many c], J, a, q + 1, _, by rw [HI.out]; simp, rfl, by rw [encs_app, HQP.out, HP.out]; simp [encs, It.enc], rfl, by go_num, by omega, by rw [← HK.out, kG, ← HDW.out, HD.out, List.dropWhile_cons, HR.out]; rfl, rfl⟩
            · rw [hr] at his
              have HIS := Lib.hid his
              rw [H1.out] at hr
              have HR := Lib.hid hr
              have HDW := Lib.hid hd
              clear hr his hd
              go_upto_region 12 with (fail)
              go_quiet (first | (go_at_call 70; refine quiet_at (HIS.out _)))
              go_wp2_with fail
              go_roundg (gk - 1)
              case measure => omega
              case rel => exact ⟨a + 1, _, by omega, by go_num, by rw [← HDW.out, HD.out, List.dropWhile_cons, HR.out]; rfl, rfl⟩
          · obtain rfl : a = L.length := by omega
            have HD := Lib.hid (List.drop_of_length_le (Nat.le_refl L.length))
            have HDW := Lib.hid hd
            clear hd
            go_upto_region 12 with (fail)
            go_quiet (fail)
            go_wp2_with fail
            go_roundg J.length
            case measure =>
              have := HJ.out
              simp only [List.length_cons] at this
              omega
            case rel => exact ⟨pre ++ [.many c], J, L.length, q + 1, _, by rw [HI.out]; simp, rfl, by rw [encs_app, HQP.out, HP.out]; simp [encs, It.enc], rfl, by go_num, by omega, by rw [← HK.out, kG, ← HDW.out, HD.out]; rfl, rfl⟩
      | opt c =>
        have h0 : chr S p = 63 := hch 0 (by simp [It.enc])
        have h1 : chr S (p + 1) = (c.toNat : Int) := hch 1 (by simp [It.enc])
        replace hx : S.length = p + 2 + (encs J).length := hx
        have hpS : p < S.length := by omega
        have hpS1 : p + 1 < S.length := by omega
        have H1 := Lib.hid h1
        have c1 : (chr S p == 42) = false := by rw [h0]; rfl
        have c2 : (chr S p == 63) = true := by rw [h0]; rfl
        clear hch h1 hx h0
        go_upto_region 16 with (fail)
        obtain ⟨q, hq⟩ : ∃ q : Nat, (p : Int) + 1 = q := ⟨p + 1, by omega⟩
        have hqp : q = p + 1 := by omega
        rw [← hqp] at H1 hpS1
        rw [hq]
        have HQP := Lib.hid hqp
        clear hq hqp
        by_cases hlt : i < L.length
        · obtain ⟨g, rfl, hc⟩ := HA.out i _ (List.getElem?_eq_getElem hlt)
          have HD := Lib.hid (List.drop_eq_getElem_cons hlt)
          generalize L[i] = x at *
          have his := fun w => is2_same x (chr S q) w
          cases hr : isR x (chr S q)
          · rw [hr] at his
            have HIS := Lib.hid his
            rw [H1.out] at hr
            have HR := Lib.hid hr
            clear hr his
            go_quiet (first | (go_at_call 70; refine quiet_at (HIS.out _)))
            go_wp2_with fail
            go_roundg J.length
            case measure =>
              have := HJ.out
              simp only [List.length_cons] at this
              omega
            case rel => exact ⟨pre ++ [.opt c], J, i, q + 1, _, by rw [HI.out]; simp, rfl, by rw [encs_app, HQP.out, HP.out]; simp [encs, It.enc], rfl, by go_num, by omega, by rw [← HK.out, kG, HD.out, optR, HR.out]; rfl, rfl⟩
          · rw [hr] at his
            have HIS := Lib.hid his
            rw [H1.out] at hr
            have HR := Lib.hid hr
            clear hr his
            go_quiet (first | (go_at_call 70; refine quiet_at (HIS.out _)))
            go_wp2_with fail
            go_roundg J.length
            case measure =>
              have := HJ.out
              simp only [List.length_cons] at this
              omega
            case rel => exact ⟨pre ++ [.opt c], J, i + 1, q + 1, _, by rw [HI.out]; simp, rfl, by rw [encs_app, HQP.out, HP.out]; simp [encs, It.enc], by go_num, by go_num, by omega, by rw [← HK.out, kG, HD.out, optR, HR.out]; rfl, rfl⟩
        · obtain rfl : i = L.length := by omega
          have HD := Lib.hid (List.drop_of_length_le (Nat.le_refl L.length))
          go_quiet (fail)
          go_wp2_with fail
          go_roundg J.length
          case measure =>
            have := HJ.out
            simp only [List.length_cons] at this
            omega
          case rel => exact ⟨pre ++ [.opt c], J, L.length, q + 1, _, by rw [HI.out]; simp, rfl, by rw [encs_app, HQP.out, HP.out]; simp [encs, It.enc], rfl, by go_num, by omega, by rw [← HK.out, kG, HD.out]; rfl, rfl⟩
end Go.Proofs.YtpeoefbibjbinaaGreat

namespace Go.Proofs.YtpeoefbibjbinaaGreat
open Go.RowKit

/-- The rows of a forest's trees. -/
def Fo.rows : Fo → List (List Tw)
  | .nil => []
  | .cons d k r => (one d k).flat 0 :: r.rows
theorem Fo.rows_app : ∀ f g : Fo, (f.app g).rows = f.rows ++ g.rows
  | .nil, _ => rfl
  | .cons d k r, g => by simp [app, rows, rows_app r g]
theorem one_rows (d : Nd) (k : Fo) : (one d k).rows = [(one d k).flat 0] := rfl
theorem starts_sh : ∀ (f : Fo) (a b : Nat), (f.starts a).map (fun z => z + (b : Int)) = f.starts (a + b)
  | .nil, _, _ => rfl
  | .cons d k r, a, b => by
    simp only [Fo.starts, List.map_cons, starts_sh r]
    congr 1
    congr 1
    omega
theorem flat_sh : ∀ (f : Fo) (a b : Nat), (f.flat a).map (shT b) = f.flat (a + b)
  | .nil, _, _ => rfl
  | .cons d k r, a, b => by
    simp only [Fo.flat, List.map_cons, List.map_append, flat_sh k, flat_sh r]
    have e1 : shT b (d.tw (k.starts (a + 1))) = d.tw (k.starts (a + b + 1)) := by
      have := starts_sh k (a + 1) b
      simp only [shT, Nd.tw]
      rw [this]
      congr 2
      omega
    rw [e1]
    congr 2
    · congr 1; omega
    · congr 1; omega
theorem twF_rows : ∀ (f : Fo) (ks : List Int) (R : List Tw), twF ks R f.rows = (ks ++ f.starts (R.length + 1), R ++ f.flat (R.length + 1))
  | .nil, ks, R => by simp [Fo.rows, twF, Fo.starts, Fo.flat]
  | .cons d k r, ks, R => by
    have hX : ((one d k).flat 0).map (shT (R.length + 1)) = (one d k).flat (R.length + 1) := by rw [flat_sh]; congr 1; omega
    simp only [Fo.rows, twF]
    rw [hX, twF_rows r]
    have hl : (R ++ (one d k).flat (R.length + 1)).length + 1 = R.length + 1 + 1 + k.size := by
      rw [List.length_append, Fo.flat_len, one_size]
      omega
    rw [hl]
    simp [Fo.starts, Fo.flat, one]
theorem twL_rows (d : Nd) (f : Fo) : twL d f.rows = (one d f).flat 0 := by
  unfold twL
  rw [twF_rows]
  simp [one, Fo.flat]
theorem twF_sum : ∀ (l : List (List Tw)) (ks : List Int) (R : List Tw), (twF ks R l).2.length = R.length + (l.map List.length).sum
  | [], _, _ => by simp [twF]
  | X :: l, ks, R => by
    simp only [twF, twF_sum l, List.length_append, List.length_map, List.map_cons, List.sum_cons]
    omega
theorem twL_len (d : Nd) (l : List (List Tw)) : (twL d l).length = 1 + (l.map List.length).sum := by
  unfold twL
  rw [List.length_cons, twF_sum]
  simp
  omega
theorem rows_sum : ∀ f : Fo, (f.rows.map List.length).sum = f.size
  | .nil => rfl
  | .cons d k r => by
    simp only [Fo.rows, List.map_cons, List.sum_cons, rows_sum r, Fo.flat_len, one_size, Fo.size]
    omega
theorem rows_le : ∀ f : Fo, f.rows.length ≤ f.size
  | .nil => Nat.le_refl _
  | .cons d k r => by
    have := rows_le r
    simp only [Fo.rows, List.length_cons, Fo.size]
    omega
theorem tq_yes {d : Nd} {l : List (List Tw)} {σ : Sg} (h1 : 1 + (l.map List.length).sum ≤ 100000000) (h2 : l.length ≤ 100000000) : tq d l σ = some (twL d l, σ) := by
  unfold tq
  rw [if_pos ⟨by rw [twL_len]; exact h1, h2⟩]
theorem tq_rows {d : Nd} {f : Fo} {σ : Sg} (h : f.size + 1 ≤ 100000000) : tq d f.rows σ = some ((one d f).flat 0, σ) := by
  rw [tq_yes (by rw [rows_sum]; omega) (by have := rows_le f; omega), twL_rows]

/-- From some number of rounds on. -/
def Ev (T : List Tok) (q : Gq) (m : Nat) (σ : Sg) (x : List Tw × Sg) : Prop := ∃ N, ∀ n, N ≤ n → Q T n q m σ = some x
theorem Ev.step {T : List Tok} {q : Gq} {m : Nat} {σ : Sg} {x : List Tw × Sg} (h : ∃ N, ∀ n, N ≤ n → Q T (n + 1) q m σ = some x) : Ev T q m σ x := by
  obtain ⟨N, h⟩ := h
  refine ⟨N + 1, fun n hn => ?_⟩
  obtain ⟨n', rfl⟩ : ∃ n', n = n' + 1 := ⟨n - 1, by omega⟩
  exact h n' (by omega)

/-! Behind what is wrong. -/
section
variable {T : List Tok} {σ : Sg} (h : σ.er ≠ 0)
include h
theorem rest_e : rest T σ = [] := if_neg h
theorem hd_e : hd (rest T σ) = tok0' := by rw [rest_e h]; rfl
theorem isT_e (s : List UInt8) : isT T s σ = false := by
  unfold isT
  rw [hd_e h]
  have : ((0 : Int) == kindOf s) = false := by
    unfold kindOf
    split <;> decide
  simp [tok0', this]
theorem isIn_e (l : List (List UInt8)) : isIn T l σ = false := by
  unfold isIn
  rw [List.any_eq_false]
  intro s _
  rw [isT_e h]
  simp
theorem isKd_e {k : Int} (hk : k ≠ 0) : isKd T k σ = false := by
  unfold isKd
  rw [hd_e h]
  simp [tok0']
  omega
theorem wrong_e (e : Int) : wrong e σ = σ := if_neg h
theorem takeS_e : takeS T false σ = (tok0', σ) := by
  unfold takeS
  rw [if_neg (by decide), wrong_e h]
theorem sgn_e (s : List UInt8) : sgn T s σ = (tok0', σ) := by unfold sgn; rw [isT_e h, takeS_e h]
theorem knd_e {k : Int} (hk : k ≠ 0) : knd T k σ = (tok0', σ) := by unfold knd; rw [isKd_e h hk, takeS_e h]
theorem oneS_e (l : List (List UInt8)) : oneS T l σ = (tok0', σ) := by unfold oneS; rw [isIn_e h, takeS_e h]
theorem openE_e (m : Nat) (s : List UInt8) : openE T m s σ = σ := by unfold openE; rw [if_neg (by rw [isT_e h]; simp)]
theorem openS_e (m : Nat) (s : List UInt8) : openS T m s σ = (tok0', σ) := by unfold openS; rw [openE_e h, isT_e h, takeS_e h]
theorem useQ_e : useQ T σ = (twL (at_ tok0' 29 [] 0) [], σ) := by unfold useQ; rw [knd_e h (by decide)]; rfl
theorem typQ_e : typQ T σ = (twL (at_ tok0' 5 [] 0) [], σ) := by
  unfold typQ
  rw [isKd_e h (by decide), if_neg (by decide), oneS_e h]
  rfl
theorem ev_first_e (m : Nat) : Ev T .first m σ (twL (at_ tok0' 29 [] 0) [], σ) := .step ⟨0, fun n _ => by
  rw [Q]
  simp only [isKd_e h (show (3 : Int) ≠ 0 by decide), isT_e h, Bool.false_eq_true, if_false, useQ_e h]⟩
theorem ev_tight_e (m : Nat) : Ev T .tight m σ (twL (at_ tok0' 29 [] 0) [], σ) := by
  obtain ⟨N, h1⟩ := ev_first_e (T := T) h m
  refine .step ⟨N + 1, fun n hn => ?_⟩
  obtain ⟨n', rfl⟩ : ∃ n', n = n' + 1 := ⟨n - 1, by omega⟩
  rw [Q, h1 _ (by omega), Option.bind_some, Q]
  simp only [isT_e h, Bool.false_eq_true, if_false]
theorem ev_unary_e (m : Nat) : Ev T .unary m σ (twL (at_ tok0' 29 [] 0) [], σ) := by
  obtain ⟨N, h1⟩ := ev_tight_e (T := T) h m
  refine .step ⟨N, fun n hn => ?_⟩
  rw [Q]
  simp only [isT_e h, Bool.false_eq_true, if_false]
  exact h1 n hn
theorem ev_product_e (m : Nat) : Ev T .product m σ (twL (at_ tok0' 29 [] 0) [], σ) := by
  obtain ⟨N, h1⟩ := ev_unary_e (T := T) h m
  refine .step ⟨N + 1, fun n hn => ?_⟩
  obtain ⟨n', rfl⟩ : ∃ n', n = n' + 1 := ⟨n - 1, by omega⟩
  rw [Q, h1 _ (by omega), Option.bind_some, Q]
  simp only [isT_e h, Bool.false_eq_true, if_false]
theorem ev_sum_e (m : Nat) : Ev T .sum m σ (twL (at_ tok0' 29 [] 0) [], σ) := by
  obtain ⟨N, h1⟩ := ev_product_e (T := T) h m
  refine .step ⟨N + 1, fun n hn => ?_⟩
  obtain ⟨n', rfl⟩ : ∃ n', n = n' + 1 := ⟨n - 1, by omega⟩
  rw [Q, h1 _ (by omega), Option.bind_some, Q]
  simp only [isT_e h, Bool.or_self, Bool.false_eq_true, if_false]
theorem ev_term_e (m : Nat) : Ev T .term m σ (twL (at_ tok0' 29 [] 0) [], σ) := by
  obtain ⟨N, h1⟩ := ev_sum_e (T := T) h m
  refine .step ⟨N, fun n hn => ?_⟩
  rw [Q, h1 _ hn, Option.bind_some]
  simp only [isT_e h, Bool.or_self, Bool.false_eq_true, if_false]
theorem ev_block_e (m : Nat) (hm : m ≤ 1000) : Ev T .block m σ (twL (at_ tok0' 12 [] 0) [], σ) := by
  refine .step ⟨1, fun n hn => ?_⟩
  obtain ⟨n', rfl⟩ : ∃ n', n = n' + 1 := ⟨n - 1, by omega⟩
  rw [Q, if_pos hm, openS_e h, Q, if_neg (by intro h'; exact h h'.1), sgn_e h]
  exact tq_yes (by simp) (by simp)
end
end Go.Proofs.YtpeoefbibjbinaaGreat
