/- The reference's IsName; Trees, plainly: forests, how they lie in a row, which may be; The document's trees in memory: Term, Statement, Declaration, Variable, Type, Op, text, number, letters, is; The grammar, plainly: a parser of tokens that answers trees; A parser in memory; parser.next. -/
import Derived.Test.YtpeoefbibjbinaaGreatB03
import Derived.Test.YtpeoefbibjbinaaGreatB02
import Derived.Deep.QuietTactic
import Derived.BigQuiet
import Derived.RegionTactic
import Derived.ChangeAlike
import Derived.Outline
import Derived.WalkLawsBesides
namespace Go.Proofs.YtpeoefbibjbinaaGreat
open Go.RowKit
attribute [local go_sem] str_at

/-- Which byte may stand at a place of a name. -/
def nameC (l : List UInt8) (j : Nat) : Bool := isL (chr l j) || (decide (0 < j) && isD (chr l j))
theorem whole_name (l : List UInt8) (hne : l ≠ []) (h : ∀ j, j < l.length → nameC l j = true) : whole l 1 = true := by
  have h0 : 0 < l.length := by cases l <;> simp_all
  have hL : isL (chr l 0) = true := by have := h 0 h0; simpa [nameC] using this
  have hk : kindI (chr l 0) = 1 := by simp [kindI, hL]
  have hp : pre2 (l.drop 0) = false := by
    rw [Bool.eq_false_iff]
    intro hp
    have := (chr_pre2 _ hp).1
    rw [List.drop_zero] at this
    rw [this] at hL
    exact absurd hL (by decide)
  have hr : run 1 (l.drop 1) = (l.drop 1).length := run_of_all 1 _ (fun x hx => by
    obtain ⟨j, hj, e⟩ := mem_chr _ x hx
    rw [← e, chr_drop]
    rw [List.length_drop] at hj
    have := h (1 + j) (by omega)
    unfold nameC at this
    rw [Bool.or_eq_true, Bool.and_eq_true] at this
    unfold goes
    rw [if_pos rfl, Bool.or_eq_true]
    rcases this with h1 | h1
    · exact .inl h1
    · exact .inr h1.2)
  rw [List.length_drop] at hr
  have he : l.isEmpty = false := by cases l <;> simp_all
  unfold whole endT ends
  rw [hk, hp, he, hr]
  simp
  omega
theorem name_whole (l : List UInt8) (h : whole l 1 = true) : ∀ j, j < l.length → nameC l j = true := by
  unfold whole at h
  simp only [Bool.and_eq_true, beq_iff_eq, decide_eq_true_eq] at h
  obtain ⟨⟨_, hk⟩, he⟩ := h
  have hL : isL (chr l 0) = true := by
    unfold kindI at hk
    split at hk
    · assumption
    · split at hk
      · omega
      · split at hk <;> omega
  unfold endT at he
  rw [if_neg (fun hp => by
    have := (chr_pre2 _ hp).1
    rw [List.drop_zero] at this
    rw [this] at hL
    exact absurd hL (by decide))] at he
  unfold ends at he
  rw [Nat.zero_add] at he
  intro j hj
  rcases j with _ | j
  · simp [nameC, hL]
  · have hr : run 1 (l.drop 1) = (l.drop 1).length := by rw [List.length_drop]; omega
    have := run_all 1 (l.drop 1) hr j (by rw [List.length_drop]; omega)
    rw [chr_drop, Nat.add_comm] at this
    unfold goes at this
    rw [if_pos rfl, Bool.or_eq_true] at this
    unfold nameC
    rw [Bool.or_eq_true, Bool.and_eq_true]
    rcases this with h1 | h1
    · exact .inl h1
    · exact .inr ⟨by simp, h1⟩
theorem whole_not (l : List UInt8) (j : Nat) (hj : j < l.length) (h : nameC l j = false) : whole l 1 = false := by
  rw [Bool.eq_false_iff]
  intro hw
  have := name_whole l hw j hj
  rw [h] at this
  cases this

set_option maxRecDepth 100000 in
set_option maxHeartbeats 1000000 in
theorem refIsName_ok (l : List UInt8) (w : World) (hn : l.length ≤ 1000000000) :
    Calls Tryz.prog 66 #[.string ⟨l.toArray⟩] w fun e w' => e = .returned (.bool (decide (l.length ≤ 32) && whole l 1 && !isW l)) ∧ Below w.heap.size w w' := by
  go_enter Tryz.func66, Tryz.ntmps66
  go_wp2_with fail
  go_loop [3] (fun i => ∃ k : Nat, k ≤ l.length ∧ i = .int .i64 k ∧ Hid (∀ j, j < k → nameC l j = true)) (fun i => l.length - (intOf i).toNat)
  case atStart => exact ⟨0, by omega, rfl, Lib.hid (fun j hj => by omega)⟩
  case round =>
    obtain ⟨k, hk, rfl, HK⟩ := hrel
    by_cases hlt : k < l.length
    · have hcl := letter_ok (chr l k)
      have hcd := digit_ok (chr l k)
      cases hL : isL (chr l k)
      · by_cases hk0 : k = 0
        · subst hk0
          rw [hL] at hcl
          have HCL := Lib.hid hcl
          have HW := Lib.hid (whole_not l 0 hlt (by simp [nameC, hL]))
          clear hcl hcd hL
          go_wp2_with (go_at_call 29; refine (HCL.out _).mono ?_; rintro e w' ⟨rfl, rfl⟩)
          go_ret
          exact ⟨ret_bool (by rw [HW.out]; simp), Below.refl _ _⟩
        · have hkb : ((k : Int) == 0) = false := by rw [beq_eq_false_iff_ne]; omega
          have hkb' : (k == 0) = false := by rw [beq_eq_false_iff_ne]; omega
          have hpos : 0 < k := by omega
          clear hk0
          cases hD : isD (chr l k)
          · rw [hL] at hcl
            rw [hD] at hcd
            have HCL := Lib.hid hcl
            have HCD := Lib.hid hcd
            have HW := Lib.hid (whole_not l k hlt (by simp [nameC, hL, hD]))
            clear hcl hcd hL hD
            go_wp2_with (first
              | (go_at_call 29; refine (HCL.out _).mono ?_; rintro e w' ⟨rfl, rfl⟩)
              | (go_at_call 30; refine (HCD.out _).mono ?_; rintro e w' ⟨rfl, rfl⟩))
            go_ret
            exact ⟨ret_bool (by rw [HW.out]; simp), Below.refl _ _⟩
          · rw [hL] at hcl
            rw [hD] at hcd
            have HCL := Lib.hid hcl
            have HCD := Lib.hid hcd
            have HN := Lib.hid (show nameC l k = true by simp [nameC, hD, hpos])
            clear hcl hcd hL hD
            go_wp2_with (first
              | (go_at_call 29; refine (HCL.out _).mono ?_; rintro e w' ⟨rfl, rfl⟩)
              | (go_at_call 30; refine (HCD.out _).mono ?_; rintro e w' ⟨rfl, rfl⟩))
            go_round
            case rel => exact ⟨k + 1, by omega, by go_num, Lib.hid (fun j hj => by
              rcases Nat.lt_or_ge j k with h | h
              · exact HK.out j h
              · have : j = k := by omega
                rw [this]; exact HN.out)⟩
            case measure => simp [intOf]; omega
      · rw [hL] at hcl
        have HCL := Lib.hid hcl
        have HN := Lib.hid (show nameC l k = true by simp [nameC, hL])
        clear hcl hcd hL
        go_wp2_with (go_at_call 29; refine (HCL.out _).mono ?_; rintro e w' ⟨rfl, rfl⟩)
        go_round
        case rel => exact ⟨k + 1, by omega, by go_num, Lib.hid (fun j hj => by
          rcases Nat.lt_or_ge j k with h | h
          · exact HK.out j h
          · have : j = k := by omega
            rw [this]; exact HN.out)⟩
        case measure => simp [intOf]; omega
    · obtain rfl : k = l.length := by omega
      by_cases hl : l = []
      · have HW : Hid (whole l 1 = false) := Lib.hid (by rw [hl]; rfl)
        have hle : l.isEmpty = true := by simp [hl]
        clear hl
        go_wp2_with fail
        go_ret
        exact ⟨ret_bool (by rw [HW.out]; simp), Below.refl _ _⟩
      · have HW := Lib.hid (whole_name l hl HK.out)
        have hle : l.isEmpty = false := by cases l <;> simp_all
        clear hl
        by_cases h32 : l.length ≤ 32
        · go_wp2_with (go_at_call 31; refine (refIsWord_ok _ _).mono ?_; rintro e w' ⟨rfl, hb⟩)
          go_ret
          exact ⟨ret_bool (by rw [HW.out]; simp [h32]), hb⟩
        · have hd : decide (l.length ≤ 32) = false := by simpa using h32
          go_wp2_with fail
          go_ret
          exact ⟨ret_bool (by simp), Below.refl _ _⟩
end Go.Proofs.YtpeoefbibjbinaaGreat

namespace Go.Proofs.YtpeoefbibjbinaaGreat

/-- A twig as it lies in a row. -/
structure Tw where
  kind : Int
  text : List UInt8
  n : Int
  line : Int
  col : Int
  kids : List Int
  deriving DecidableEq

/-- A twig without its kids. -/
structure Nd where
  kind : Int
  text : List UInt8
  n : Int
  line : Int
  col : Int
  deriving DecidableEq

def Tw.nd (t : Tw) : Nd := ⟨t.kind, t.text, t.n, t.line, t.col⟩
def Nd.tw (d : Nd) (k : List Int) : Tw := ⟨d.kind, d.text, d.n, d.line, d.col, k⟩
theorem Nd.tw_nd (d : Nd) (k : List Int) : (d.tw k).nd = d := rfl

/-- Forests: a first tree (its data, its kids), and the others. -/
inductive Fo where
  | nil
  | cons (d : Nd) (k : Fo) (r : Fo)

def Fo.size : Fo → Nat
  | .nil => 0
  | .cons _ k r => 1 + k.size + r.size
def Fo.starts : Nat → Fo → List Int
  | _, .nil => []
  | b, .cons _ k r => (b : Int) :: r.starts (b + 1 + k.size)
def Fo.flat : Nat → Fo → List Tw
  | _, .nil => []
  | b, .cons d k r => d.tw (k.starts (b + 1)) :: (k.flat (b + 1) ++ r.flat (b + 1 + k.size))
def Fo.nds : Fo → List Nd
  | .nil => []
  | .cons d _ r => d :: r.nds
def Fo.len (f : Fo) : Nat := f.nds.length
theorem Fo.flat_len : ∀ (f : Fo) (b : Nat), (f.flat b).length = f.size
  | .nil, _ => rfl
  | .cons d k r, b => by simp [flat, size, flat_len k, flat_len r]; omega
theorem Fo.starts_len : ∀ (f : Fo) (b : Nat), (f.starts b).length = f.len
  | .nil, _ => rfl
  | .cons d k r, b => by simp [starts, starts_len r, len, nds]

def isTm (k : Int) : Bool := decide (26 ≤ k) && decide (k ≤ 36)
def isSt (k : Int) : Bool := decide (13 ≤ k) && decide (k ≤ 25)
def isDc (k : Int) : Bool := k == 2 || k == 3 || k == 6 || k == 7 || k == 8 || k == 10 || k == 11
def isVr (k : Int) : Bool := k == 29 || k == 30 || k == 31
def isK (k : Int) (x : Int) : Bool := x == k

/-- Kids: one of each sort ahead, then as many of a sort as one likes. -/
def rowOk : List (Int → Bool) → (Int → Bool) → List Int → Bool
  | [], rest, l => l.all rest
  | _ :: _, _, [] => false
  | a :: zs, rest, x :: l => a x && rowOk zs rest l
def noK : Int → Bool := fun _ => false

def kidsOk (k : Int) (l : List Int) : Bool :=
  if k = 1 then rowOk [] isDc l
  else if k = 3 then rowOk [] (isK 4) l
  else if k = 4 ∨ k = 6 then rowOk [isK 5] noK l
  else if k = 7 ∨ k = 9 ∨ k = 11 ∨ k = 36 then rowOk [isK 12] noK l
  else if k = 8 then rowOk [isK 29] (isK 9) l
  else if k = 10 then rowOk [isK 29, isK 12] noK l
  else if k = 12 then rowOk [] isSt l
  else if k = 13 then rowOk [isK 5, isTm] noK l
  else if k = 14 then rowOk [isVr, isTm] noK l
  else if k = 15 ∨ k = 16 ∨ k = 17 ∨ k = 18 ∨ k = 30 ∨ k = 34 ∨ k = 35 then rowOk [isTm] noK l
  else if k = 19 ∨ k = 20 then rowOk [isTm] noK l || rowOk [isTm, isVr] noK l
  else if k = 23 then rowOk [isTm, isK 12, isK 12] noK l
  else if k = 24 then rowOk [isTm, isK 12] noK l
  else if k = 31 ∨ k = 32 then rowOk [isTm, isTm] noK l
  else rowOk [] noK l

def isTy (nm : List UInt8 → Bool) (s : List UInt8) : Bool := s == [105, 110, 116] || s == [102, 110] || s == [116, 111, 107] || s == [104, 97, 110, 100] || s == [97, 114, 114] || nm s
def isSg (s : List UInt8) : Bool := s == [43] || s == [45] || s == [42] || s == [60] || s == [61, 61]
def named (k : Int) : Bool := k == 2 || k == 3 || k == 4 || k == 6 || k == 7 || k == 8 || k == 10 || k == 13 || k == 19 || k == 21 || k == 22 || k == 29 || k == 30 || k == 33
def textOk (nm : List UInt8 → Bool) (k : Int) (s : List UInt8) : Bool :=
  if k = 5 then isTy nm s else if k = 32 then isSg s else if named k = true then nm s else s == []
def numOk (k n : Int) : Bool :=
  if k = 9 then decide (0 ≤ n) && decide (n ≤ 3)
  else if k = 10 then decide (0 ≤ n) && decide (n ≤ 1)
  else if k = 19 then decide (-1 ≤ n) && decide (n ≤ 2147483647)
  else if k = 26 then decide (0 ≤ n) && decide (n ≤ 2147483647)
  else n == 0
def kindOk (k : Int) : Bool := decide (1 ≤ k) && decide (k ≤ 36)

/-- Has a twig what its kind has? -/
def ndOk (nm : List UInt8 → Bool) (d : Nd) (l : List Int) : Bool := kindOk d.kind && textOk nm d.kind d.text && numOk d.kind d.n && kidsOk d.kind l
def Fo.fit (nm : List UInt8 → Bool) : Fo → Bool
  | .nil => true
  | .cons d k r => ndOk nm d (k.nds.map (·.kind)) && k.fit nm && r.fit nm

/-- How tightly a twig binds. -/
def bnd (k : Int) (s : List UInt8) : Int :=
  if isTm k = false then 0
  else if k = 34 ∨ k = 35 then 4
  else if k = 32 then (if s = [60] ∨ s = [61, 61] then 1 else if s = [43] ∨ s = [45] then 2 else if s = [42] then 3 else 5)
  else 5
/-- How tightly the i-th kid of a twig must bind. -/
def must (d : Nd) (i : Nat) : Int :=
  if d.kind = 32 then (if i = 1 then bnd d.kind d.text + 1 else if bnd d.kind d.text < 2 then 2 else bnd d.kind d.text)
  else if d.kind = 34 ∨ d.kind = 35 then 4
  else if d.kind = 30 ∨ d.kind = 31 then (if i = 0 then 5 else 0)
  else 0
def prn (d : Nd) (i : Nat) (x : Nd) : Bool := decide (bnd x.kind x.text < must d i)
def ins (d : Nd) (i : Nat) : Bool := if d.kind = 31 then i == 1 else d.kind == 34 || d.kind == 35
def dpr (d : Nd) (i : Nat) (x : Nd) : Int := (if x.kind = 12 then 1 else 0) + (if prn d i x = true then 1 else 0) + (if ins d i = true then 1 else 0)

/-- The nests of a forest that are kids of p (of nest m), from its i-th one on. -/
def Fo.deps (m : Int) (p : Nd) : Nat → Fo → List Int
  | _, .nil => []
  | i, .cons d k r => (m + dpr p i d) :: (deps (m + dpr p i d) d 0 k ++ deps m p (i + 1) r)
/-- Whose kid each one is. -/
def Fo.pars (p : Int) : Nat → Fo → List Int
  | _, .nil => []
  | b, .cons _ k r => p :: (pars (b : Int) (b + 1) k ++ pars p (b + 1 + k.size) r)
theorem Fo.deps_len : ∀ (f : Fo) (m : Int) (p : Nd) (i : Nat), (f.deps m p i).length = f.size
  | .nil, _, _, _ => rfl
  | .cons d k r, m, p, i => by simp [deps, size, deps_len k, deps_len r]; omega
theorem Fo.pars_len : ∀ (f : Fo) (p : Int) (b : Nat), (f.pars p b).length = f.size
  | .nil, _, _ => rfl
  | .cons d k r, p, b => by simp [pars, size, pars_len k, pars_len r]; omega

/-- A tree that may be. -/
def MayT (nm : List UInt8 → Bool) (d : Nd) (k : Fo) : Prop := d.kind = 1 ∧ ndOk nm d (k.nds.map (·.kind)) = true ∧ k.fit nm = true ∧ ∀ x ∈ k.deps 0 d 0, x ≤ 64
/-- A row of twigs that may be. -/
def MayL (nm : List UInt8 → Bool) (l : List Tw) : Prop := ∃ d k, l = (Fo.cons d k .nil).flat 0 ∧ MayT nm d k

theorem flat_nil : ∀ {f : Fo} {b : Nat}, f.flat b = [] → f = .nil
  | .nil, _, _ => rfl
  | .cons _ _ _, _, h => by cases h

/-- What lies in a row is one forest: as many trees as there are starts. -/
theorem flat_inj : ∀ (f g : Fo) (b : Nat) (r s : List Tw), f.flat b ++ r = g.flat b ++ s → f.starts b = g.starts b → f = g ∧ r = s
  | .nil, .nil, _, _, _, h, _ => ⟨rfl, h⟩
  | .nil, .cons _ _ _, _, _, _, _, h => by cases h
  | .cons _ _ _, .nil, _, _, _, _, h => by cases h
  | .cons d k r, .cons d' k' r', b, u, v, h, hs => by
    simp only [Fo.flat, List.cons_append, List.cons.injEq, List.append_assoc] at h
    obtain ⟨h1, h2⟩ := h
    have hk : k.starts (b + 1) = k'.starts (b + 1) := congrArg Tw.kids h1
    have hd : d = d' := by have := congrArg Tw.nd h1; exact this
    obtain ⟨rfl, h3⟩ := flat_inj k k' (b + 1) _ _ h2 hk
    simp only [Fo.starts, List.cons.injEq] at hs
    obtain ⟨rfl, h4⟩ := flat_inj r r' _ _ _ h3 hs.2
    exact ⟨by rw [hd], h4⟩

end Go.Proofs.YtpeoefbibjbinaaGreat

namespace Go.Proofs.YtpeoefbibjbinaaGreat
open Go.RowKit

/-- Is a text a name? -/
def isNm (s : List UInt8) : Bool := decide (s.length ≤ 32) && whole s 1 && !isW s

set_option maxRecDepth 100000 in
set_option maxHeartbeats 1000000 in
theorem term2_ok (k : Int) (w : World) :
    Calls Tryz.prog 41 #[.int .i64 k] w fun e w' => e = .returned (.bool (isTm k)) ∧ w = w' := by
  go_enter Tryz.func41, Tryz.ntmps41
  go_wp2
  all_goals go_ret
  all_goals exact ⟨ret_bool (by rw [Bool.eq_iff_iff]; simp [isTm]; omega), rfl⟩
set_option maxRecDepth 100000 in
set_option maxHeartbeats 1000000 in
theorem statement2_ok (k : Int) (w : World) :
    Calls Tryz.prog 43 #[.int .i64 k] w fun e w' => e = .returned (.bool (isSt k)) ∧ w = w' := by
  go_enter Tryz.func43, Tryz.ntmps43
  go_wp2
  all_goals go_ret
  all_goals exact ⟨ret_bool (by rw [Bool.eq_iff_iff]; simp [isSt]; omega), rfl⟩
set_option maxRecDepth 100000 in
set_option maxHeartbeats 1000000 in
theorem declaration2_ok (k : Int) (w : World) :
    Calls Tryz.prog 84 #[.int .i64 k] w fun e w' => e = .returned (.bool (isDc k)) ∧ w = w' := by
  go_enter Tryz.func84, Tryz.ntmps84
  go_wp2
  all_goals go_ret
  all_goals (refine ⟨ret_bool ?_, rfl⟩; simp only [beq_iff_eq, beq_eq_false_iff_ne, ne_eq] at *; rw [Bool.eq_iff_iff]; simp [isDc]; try omega)
set_option maxRecDepth 100000 in
set_option maxHeartbeats 1000000 in
theorem variable2_ok (k : Int) (w : World) :
    Calls Tryz.prog 83 #[.int .i64 k] w fun e w' => e = .returned (.bool (isVr k)) ∧ w = w' := by
  go_enter Tryz.func83, Tryz.ntmps83
  go_wp2
  all_goals go_ret
  all_goals (refine ⟨ret_bool ?_, rfl⟩; (try simp only [beq_iff_eq, beq_eq_false_iff_ne, ne_eq] at *); rw [Bool.eq_iff_iff]; simp [isVr]; try omega)
set_option maxRecDepth 100000 in
set_option maxHeartbeats 1000000 in
theorem number2_ok (k n : Int) (w : World) :
    Calls Tryz.prog 37 #[.int .i64 k, .int .i64 n] w fun e w' => e = .returned (.bool (numOk k n)) ∧ w = w' := by
  go_enter Tryz.func37, Tryz.ntmps37
  go_wp2
  all_goals go_ret
  all_goals (refine ⟨ret_bool ?_, rfl⟩; simp only [beq_iff_eq, beq_eq_false_iff_ne, ne_eq] at *)
  all_goals first
    | (rename_i h9 h1; subst h9; simp [numOk, h1]; done)
    | (rw [Bool.eq_iff_iff]; simp only [numOk]; repeat' split)
  all_goals simp
  all_goals omega
set_option maxRecDepth 100000 in
set_option maxHeartbeats 1000000 in
theorem op2_ok (s : List UInt8) (w : World) :
    Calls Tryz.prog 65 #[.string ⟨s.toArray⟩] w fun e w' => e = .returned (.bool (isSg s)) ∧ w = w' := by
  go_enter Tryz.func65, Tryz.ntmps65
  go_wp2
  all_goals go_ret
  all_goals exact ⟨ret_bool (by simp [isSg, *]), rfl⟩
set_option maxRecDepth 100000 in
set_option maxHeartbeats 1000000 in
theorem type2_ok (s : List UInt8) (w : World) (hn : s.length ≤ 1000000000) :
    Calls Tryz.prog 64 #[.string ⟨s.toArray⟩] w fun e w' => e = .returned (.bool (isTy isNm s)) ∧ Below w.heap.size w w' := by
  have HN := Lib.hid (refIsName_ok s w hn)
  clear hn
  go_enter Tryz.func64, Tryz.ntmps64
  go_wp2_with (go_at_call 66; refine HN.out.mono ?_; rintro e w1 ⟨rfl, hb⟩)
  all_goals go_ret
  all_goals first
    | exact ⟨ret_bool (by simp [isTy, *]), Below.refl _ _⟩
    | exact ⟨ret_bool (by simp [isTy, isNm, *]), hb⟩
def letS (k : Int) : List UInt8 :=
  if k = 1 then [42, 100] else if k = 3 then [42, 109] else if k = 4 ∨ k = 6 then [121] else if k = 7 ∨ k = 9 ∨ k = 11 ∨ k = 36 then [98] else if k = 8 then [117, 42, 108] else if k = 10 then [117, 98] else if k = 12 then [42, 115] else if k = 13 then [121, 101] else if k = 14 then [118, 101] else if k = 15 ∨ k = 16 ∨ k = 17 ∨ k = 18 ∨ k = 30 ∨ k = 34 ∨ k = 35 then [101] else if k = 19 ∨ k = 20 then [101, 63, 118] else if k = 23 then [101, 98, 98] else if k = 24 then [101, 98] else if k = 31 ∨ k = 32 then [101, 101] else []
set_option maxRecDepth 100000 in
set_option maxHeartbeats 1000000 in
theorem letters2_ok (k : Int) (w : World) :
    Calls Tryz.prog 69 #[.int .i64 k] w fun e w' => e = .returned (.string ⟨(letS k).toArray⟩) ∧ w = w' := by
  go_enter Tryz.func69, Tryz.ntmps69
  go_wp2
  all_goals go_ret
  all_goals (refine ⟨?_, rfl⟩; simp only [beq_iff_eq, beq_eq_false_iff_ne, ne_eq] at *)
  all_goals first
    | (rename_i h; subst h; rfl)
    | (simp [letS, *]; done)
/-- Is a kind what a letter says? -/
def isR (k c : Int) : Bool := if c = 121 then k == 5 else if c = 98 then k == 12 else if c = 117 then k == 29 else if c = 101 then isTm k else if c = 118 then isVr k else if c = 115 then isSt k else if c = 100 then isDc k else if c = 109 then k == 4 else k == 9
set_option maxRecDepth 100000 in
set_option maxHeartbeats 1000000 in
theorem is2_ok (k c : Int) (w : World) :
    Calls Tryz.prog 70 #[.int .i64 k, .int .u8 c] w fun e w' => e = .returned (.bool (isR k c)) ∧ w = w' := by
  go_enter Tryz.func70, Tryz.ntmps70
  go_wp2_with (first
    | (go_at_call 41; refine (term2_ok k _).mono ?_; rintro e w1 ⟨rfl, rfl⟩)
    | (go_at_call 83; refine (variable2_ok k _).mono ?_; rintro e w1 ⟨rfl, rfl⟩)
    | (go_at_call 43; refine (statement2_ok k _).mono ?_; rintro e w1 ⟨rfl, rfl⟩)
    | (go_at_call 84; refine (declaration2_ok k _).mono ?_; rintro e w1 ⟨rfl, rfl⟩))
  all_goals go_ret
  all_goals (refine ⟨ret_bool ?_, rfl⟩; (try simp only [beq_iff_eq, beq_eq_false_iff_ne, ne_eq] at *))
  all_goals first
    | (rename_i h; subst h; rfl)
    | (simp [isR, *]; done)
set_option maxRecDepth 100000 in
set_option maxHeartbeats 2000000 in
theorem text2_ok (k : Int) (s : List UInt8) (w : World) (hn : s.length ≤ 1000000000) :
    Calls Tryz.prog 36 #[.int .i64 k, .string ⟨s.toArray⟩] w fun e w' => e = .returned (.bool (textOk isNm k s)) ∧ Below w.heap.size w w' := by
  have HN := Lib.hid (refIsName_ok s w hn)
  have HT := Lib.hid (type2_ok s w hn)
  clear hn
  go_enter Tryz.func36, Tryz.ntmps36
  go_wp2_with (first
    | (go_at_call 66; refine HN.out.mono ?_; rintro e w1 ⟨rfl, hb⟩)
    | (go_at_call 64; refine HT.out.mono ?_; rintro e w1 ⟨rfl, hb⟩)
    | (go_at_call 65; refine (op2_ok s _).mono ?_; rintro e w1 ⟨rfl, rfl⟩))
  all_goals go_ret
  all_goals refine ⟨ret_bool ?_, ?_⟩
  all_goals first
    | exact Below.refl _ _
    | assumption
    | skip
  all_goals (simp only [beq_iff_eq, beq_eq_false_iff_ne, ne_eq] at *)
  all_goals (simp [textOk, named, isNm, *])
end Go.Proofs.YtpeoefbibjbinaaGreat

namespace Go.Proofs.YtpeoefbibjbinaaGreat

/-- What a part of the grammar comes to: too few rounds; something wrong, and what stands from there on; a tree, and what stands behind it. -/
inductive Out where
  | dry
  | bad (err : Int) (r : List Tok)
  | ok (d : Nd) (k : Fo) (r : List Tok)

def Out.and (o : Out) (f : Nd → Fo → List Tok → Out) : Out :=
  match o with
  | .dry => .dry
  | .bad e r => .bad e r
  | .ok d k r => f d k r

def Fo.app : Fo → Fo → Fo
  | .nil, g => g
  | .cons d k r, g => .cons d k (r.app g)
def one (d : Nd) (k : Fo) : Fo := .cons d k .nil

def hd (r : List Tok) : Tok := r.headD ⟨0, [], 0, 0, 0⟩
def seesK (k : Int) (r : List Tok) (l : List (List UInt8)) : Bool := (hd r).kind == k && l.contains (hd r).text
def seesW (r : List Tok) (l : List (List UInt8)) : Bool := seesK 2 r l
def seesM (r : List Tok) (l : List (List UInt8)) : Bool := seesK 4 r l
/-- A token that must be. -/
def tk (c : Bool) (r : List Tok) (f : Tok → List Tok → Out) : Out := if c = true then f (hd r) r.tail else .bad 4 r
def tkM (l : List (List UInt8)) (r : List Tok) (f : Tok → List Tok → Out) : Out := tk (seesM r l) r f
def tkW (l : List (List UInt8)) (r : List Tok) (f : Tok → List Tok → Out) : Out := tk (seesW r l) r f
def tkK (k : Int) (r : List Tok) (f : Tok → List Tok → Out) : Out := tk ((hd r).kind == k) r f
/-- A token with which it is one nest deeper. -/
def ent (m : Nat) (r : List Tok) (f : Tok → List Tok → Out) : Out := if m = 64 then .bad 5 r else f (hd r) r.tail
def at_ (t : Tok) (k : Int) (s : List UInt8) (n : Int) : Nd := ⟨k, s, n, t.line, t.col⟩

def tyWords : List (List UInt8) := [[105, 110, 116], [102, 110], [116, 111, 107], [104, 97, 110, 100], [97, 114, 114]]
def isTyT (r : List Tok) : Bool := (hd r).kind == 1 || seesW r tyWords
/-- A type; a name that is used; the looper; a member; a callback. -/
def tyO (r : List Tok) : Out := tk (isTyT r) r fun t r => .ok (at_ t 5 t.text 0) .nil r
def useO (r : List Tok) : Out := tkK 1 r fun t r => .ok (at_ t 29 t.text 0) .nil r
def onO (r : List Tok) : Out := tkW [[111, 110]] r fun _ r => useO r
def memO (r : List Tok) : Out := tkK 1 r fun x r => (tyO r).and fun y yk r => tkM [[59]] r fun _ r => .ok (at_ x 4 x.text 0) (one y yk) r
def lifeWords : List (List UInt8) := [[99, 114, 101, 97, 116, 101], [115, 116, 97, 114, 116], [115, 116, 111, 112], [100, 101, 115, 116, 114, 111, 121]]
def lifeO (b : List Tok → Out) (r : List Tok) : Out := tkW lifeWords r fun x r => (b r).and fun d k r => .ok (at_ x 9 [] (lifeWords.idxOf x.text)) (one d k) r

/-- The parts of the grammar, and the loops in them with what they have so far. -/
inductive Gr where
  | decls (acc : Fo) | decl | members (t nm : Tok) (acc : Fo) | lives (t nm : Tok) (acc : Fo)
  | block | stmts (t : Tok) (acc : Fo) | stmt | to (d : Nd) (acc : Fo) | var
  | term | sum | sumL (d : Nd) (k : Fo) | product | prodL (d : Nd) (k : Fo) | unary | tight | tightL (d : Nd) (k : Fo) | first

def actWords : List (List UInt8) := [[99, 97, 108, 108], [99, 97, 110, 99, 101, 108], [106, 111, 105, 110], [108, 111, 103]]
def actKind (s : List UInt8) : Int := if s = [99, 97, 110, 99, 101, 108] then 16 else if s = [106, 111, 105, 110] then 17 else if s = [108, 111, 103] then 18 else 15
def nameNd : Tok → Int → Tok → Nd := fun t k nm => at_ t k nm.text 0
def isVarK (k : Int) : Bool := k == 29 || k == 30 || k == 31

def P : Nat → Gr → List Tok → Nat → Out
  | 0, _, _, _ => .dry
  | n + 1, q, r, m => match q with
    | .decls acc => if r = [] then .ok ⟨1, [], 0, 1, 1⟩ acc [] else (P n .decl r m).and fun d k r => P n (.decls (acc.app (one d k))) r m
    | .decl =>
      if seesW r [[108, 111, 111, 112, 101, 114]] = true then tkK 1 r.tail fun nm r' => tkM [[59]] r' fun _ r' => .ok (at_ (hd r) 2 nm.text 0) .nil r'
      else if seesW r [[99, 108, 97, 115, 115]] = true then tkK 1 r.tail fun nm r' => tkM [[123]] r' fun _ r' => P n (.members (hd r) nm .nil) r' m
      else if seesW r [[118, 97, 114]] = true then tkK 1 r.tail fun nm r' => (tyO r').and fun y yk r' => tkM [[59]] r' fun _ r' => .ok (at_ (hd r) 6 nm.text 0) (one y yk) r'
      else if seesW r [[102, 110]] = true then tkK 1 r.tail fun nm r' => (P n .block r' m).and fun d k r' => .ok (at_ (hd r) 7 nm.text 0) (one d k) r'
      else if seesW r [[99, 111, 109, 112]] = true then tkK 1 r.tail fun nm r' => (onO r').and fun u uk r' => tkM [[123]] r' fun _ r' => P n (.lives (hd r) nm (one u uk)) r' m
      else if seesW r [[101, 118, 101, 110, 116]] = true then tkK 1 r.tail fun nm r' => (onO r').and fun u uk r' => tkW [[111, 110], [111, 102, 102]] r' fun x r' =>
        (P n .block r' m).and fun d k r' => .ok (at_ (hd r) 10 nm.text (if x.text = [111, 110] then 1 else 0)) ((one u uk).app (one d k)) r'
      else tkW [[109, 97, 105, 110]] r fun t r' => (P n .block r' m).and fun d k r' => .ok (at_ t 11 [] 0) (one d k) r'
    | .members t nm acc =>
      if seesM r [[125]] = true then .ok (at_ t 3 nm.text 0) acc r.tail
      else (memO r).and fun d k r' => P n (.members t nm (acc.app (one d k))) r' m
    | .lives t nm acc =>
      if seesM r [[125]] = true then .ok (at_ t 8 nm.text 0) acc r.tail
      else (lifeO (fun r => P n .block r m) r).and fun d k r' => P n (.lives t nm (acc.app (one d k))) r' m
    | .block => if seesM r [[123]] = true then ent m r fun t r' => P n (.stmts t .nil) r' (m + 1) else .bad 4 r
    | .stmts t acc =>
      if seesM r [[125]] = true then .ok (at_ t 12 [] 0) acc r.tail
      else (P n .stmt r m).and fun d k r' => P n (.stmts t (acc.app (one d k))) r' m
    | .stmt =>
      if seesW r [[118, 97, 114]] = true then tkK 1 r.tail fun nm r' => (tyO r').and fun y yk r' => tkM [[61]] r' fun _ r' => (P n .term r' m).and fun d k r' => tkM [[59]] r' fun _ r' => .ok (at_ (hd r) 13 nm.text 0) ((one y yk).app (one d k)) r'
      else if seesW r actWords = true then (P n .term r.tail m).and fun d k r' => tkM [[59]] r' fun _ r' => .ok (at_ (hd r) (actKind (hd r).text) [] 0) (one d k) r'
      else if seesW r [[112, 111, 115, 116]] = true then tkK 1 r.tail fun nm r' => (P n .term r' m).and fun d k r' =>
        if seesW r' [[97, 102, 116, 101, 114]] = true then tkK 3 r'.tail fun x r' => P n (.to (at_ (hd r) 19 nm.text x.n) (one d k)) r' m
        else if seesW r' [[102, 114, 111, 110, 116]] = true then P n (.to (at_ (hd r) 19 nm.text (-1)) (one d k)) r'.tail m
        else P n (.to (at_ (hd r) 19 nm.text 0) (one d k)) r' m
      else if seesW r [[115, 112, 97, 119, 110]] = true then (P n .term r.tail m).and fun d k r' => P n (.to (at_ (hd r) 20 [] 0) (one d k)) r' m
      else if seesW r [[101, 110, 97, 98, 108, 101], [100, 105, 115, 97, 98, 108, 101]] = true then tkK 1 r.tail fun nm r' => tkM [[59]] r' fun _ r' => .ok (at_ (hd r) (if (hd r).text = [100, 105, 115, 97, 98, 108, 101] then 22 else 21) nm.text 0) .nil r'
      else if seesW r [[105, 102]] = true then (P n .term r.tail m).and fun d k r' => (P n .block r' m).and fun d' k' r' =>
        if seesW r' [[101, 108, 115, 101]] = true then (P n .block r'.tail m).and fun d'' k'' r' => .ok (at_ (hd r) 23 [] 0) ((one d k).app ((one d' k').app (one d'' k''))) r'
        else .ok (at_ (hd r) 23 [] 0) ((one d k).app ((one d' k').app (one (at_ (hd r) 12 [] 0) .nil))) r'
      else if seesW r [[119, 104, 105, 108, 101]] = true then (P n .term r.tail m).and fun d k r' => (P n .block r' m).and fun d' k' r' => .ok (at_ (hd r) 24 [] 0) ((one d k).app (one d' k')) r'
      else if seesW r [[114, 101, 116, 117, 114, 110]] = true then tkM [[59]] r.tail fun _ r' => .ok (at_ (hd r) 25 [] 0) .nil r'
      else (P n .var r m).and fun d k r' => tkM [[61]] r' fun _ r' => (P n .term r' m).and fun d' k' r' => tkM [[59]] r' fun _ r' => .ok (at_ (hd r) 14 [] 0) ((one d k).app (one d' k')) r'
    | .to d acc =>
      if seesW r [[116, 111]] = true then (P n .var r.tail m).and fun d' k' r' => tkM [[59]] r' fun _ r' => .ok d (acc.app (one d' k')) r'
      else tkM [[59]] r fun _ r' => .ok d acc r'
    | .var => (P n .tight r m).and fun d k r' => if isVarK d.kind = true then .ok d k r' else .bad 4 r'
    | .term => (P n .sum r m).and fun d k r' =>
      if seesM r' [[60], [61, 61]] = true then (P n .sum r'.tail m).and fun d' k' r'' => .ok (at_ (hd r') 32 (hd r').text 0) ((one d k).app (one d' k')) r''
      else .ok d k r'
    | .sum => (P n .product r m).and fun d k r' => P n (.sumL d k) r' m
    | .sumL d k =>
      if seesM r [[43], [45]] = true then (P n .product r.tail m).and fun d' k' r' => P n (.sumL (at_ (hd r) 32 (hd r).text 0) ((one d k).app (one d' k'))) r' m
      else .ok d k r
    | .product => (P n .unary r m).and fun d k r' => P n (.prodL d k) r' m
    | .prodL d k =>
      if seesM r [[42]] = true then (P n .unary r.tail m).and fun d' k' r' => P n (.prodL (at_ (hd r) 32 (hd r).text 0) ((one d k).app (one d' k'))) r' m
      else .ok d k r
    | .unary =>
      if seesW r [[97, 114, 114], [108, 101, 110]] = true then ent m r fun t r' => (P n .unary r' (m + 1)).and fun d k r' => .ok (at_ t (if t.text = [108, 101, 110] then 35 else 34) [] 0) (one d k) r'
      else P n .tight r m
    | .tight => (P n .first r m).and fun d k r' => P n (.tightL d k) r' m
    | .tightL d k =>
      if seesM r [[46]] = true then tkK 1 r.tail fun nm r' => P n (.tightL (at_ (hd r) 30 nm.text 0) (one d k)) r' m
      else if seesM r [[91]] = true then ent m r fun t r' => (P n .term r' (m + 1)).and fun d' k' r' => tkM [[93]] r' fun _ r' => P n (.tightL (at_ t 31 [] 0) ((one d k).app (one d' k'))) r' m
      else .ok d k r
    | .first =>
      if ((hd r).kind == 3) = true then .ok (at_ (hd r) 26 [] (hd r).n) .nil r.tail
      else if seesW r [[110, 117, 108, 108]] = true then .ok (at_ (hd r) 27 [] 0) .nil r.tail
      else if seesW r [[105, 116]] = true then .ok (at_ (hd r) 28 [] 0) .nil r.tail
      else if seesW r [[110, 101, 119]] = true then tkK 1 r.tail fun nm r' => .ok (at_ (hd r) 33 nm.text 0) .nil r'
      else if seesW r [[102, 110]] = true then (P n .block r.tail m).and fun d k r' => .ok (at_ (hd r) 36 [] 0) (one d k) r'
      else if seesM r [[40]] = true then ent m r fun _ r' => (P n .term r' (m + 1)).and fun d k r' => tkM [[41]] r' fun _ r' => .ok d k r'
      else useO r

/-- The numbers of a forest's trees, and the forest itself, each twig behind its kids, from number b on. -/
def Fo.ids : Nat → Fo → List Int
  | _, .nil => []
  | b, .cons _ k r => ((b + k.size : Nat) : Int) :: r.ids (b + k.size + 1)
def Fo.post : Nat → Fo → List Tw
  | _, .nil => []
  | b, .cons d k r => k.post b ++ d.tw (k.ids b) :: r.post (b + k.size + 1)

theorem Fo.size_app : ∀ f g : Fo, (f.app g).size = f.size + g.size
  | .nil, g => by simp [app, size]
  | .cons d k r, g => by simp [app, size, size_app r g]; omega
theorem Fo.post_len : ∀ (f : Fo) (b : Nat), (f.post b).length = f.size
  | .nil, _ => rfl
  | .cons d k r, b => by simp [post, size, post_len k, post_len r]; omega
theorem Fo.post_app : ∀ (f g : Fo) (b : Nat), (f.app g).post b = f.post b ++ g.post (b + f.size)
  | .nil, g, b => by simp [app, post, size]
  | .cons d k r, g, b => by
    simp only [app, post, size, post_app r g, List.append_assoc, List.cons_append]
    congr 4; omega
theorem Fo.ids_app : ∀ (f g : Fo) (b : Nat), (f.app g).ids b = f.ids b ++ g.ids (b + f.size)
  | .nil, g, b => by simp [app, ids, size]
  | .cons d k r, g, b => by
    simp only [app, ids, size, ids_app r g, List.cons_append]
    congr 3; omega
theorem Fo.app_nil : ∀ f : Fo, f.app .nil = f
  | .nil => rfl
  | .cons d k r => by simp [app, app_nil r]
theorem one_size (d : Nd) (k : Fo) : (one d k).size = k.size + 1 := by simp [one, Fo.size]; omega
theorem one_ids (d : Nd) (k : Fo) (b : Nat) : (one d k).ids b = [((b + k.size : Nat) : Int)] := rfl
theorem one_post (d : Nd) (k : Fo) (b : Nat) : (one d k).post b = k.post b ++ [d.tw (k.ids b)] := rfl

end Go.Proofs.YtpeoefbibjbinaaGreat

namespace Go.Proofs.YtpeoefbibjbinaaGreat
open Go.RowKit

/-- Where a parser lies, and its tokens. -/
structure Cx where
  p : Nat
  A : Option Addr
  cap : Nat
  T : List Tok
  X : List Nat

def Cx.ptr (C : Cx) : Value := .pointer (some ⟨C.p, 0, none⟩)
/-- Tokens in memory, below a block. -/
def TkB (w : World) (B : Nat) (A : Option Addr) (T : List Tok) : Prop := ∀ i t, T[i]? = some t → ∃ g off, A = some ⟨g, off, none⟩ ∧ g < B ∧ w.cell? ⟨g, off + i * 5, none⟩ = some (.int .i64 t.kind) ∧ w.cell? ⟨g, off + i * 5 + 1, none⟩ = some (.string ⟨t.text.toArray⟩) ∧ w.cell? ⟨g, off + i * 5 + 2, none⟩ = some (.int .i64 t.n) ∧ w.cell? ⟨g, off + i * 5 + 3, none⟩ = some (.int .i64 t.line) ∧ w.cell? ⟨g, off + i * 5 + 4, none⟩ = some (.int .i64 t.col)
/-- A row of numbers in memory, in none of some blocks. -/
def IntRow (w : World) (X : List Nat) (v : Value) (l : List Int) : Prop := ∃ A cap, v = .slice A l.length cap ∧ (0 < l.length → ∃ g cs m, A = some ⟨g, 0, none⟩ ∧ w.heap[g]? = some (.cells cs 3 m) ∧ g ∉ X ∧ ∀ (i : Nat) (x : Int), l[i]? = some x → cs[i]? = some (Value.int .i64 x))
def twCells (t : Tw) (kv : Value) : List Value := [.int .i64 t.kind, .string ⟨t.text.toArray⟩, .int .i64 t.n, .int .i64 t.line, .int .i64 t.col, kv]
/-- Twigs in memory. -/
def Tws (w : World) (X : List Nat) : List Tw → List Value → Prop
  | [], xs => xs = []
  | t :: r, xs => ∃ kv ys, xs = twCells t kv ++ ys ∧ IntRow w X kv t.kids ∧ Tws w X r ys

structure PS (w : World) (C : Cx) (k m : Nat) (v : Value) (tw : List Tw) : Prop where
  par : w.heap[C.p]? = some (.cells #[.slice C.A C.T.length C.cap, .int .i64 k, .int .i64 m, v] 65 (0, 0))
  toks : TkB w C.p C.A C.T
  own : ∃ xs, w.ownsRow (C.p + 1) 39 6 v tw.length xs ∧ Tws w C.X tw xs
  kle : k ≤ C.T.length
  big : C.T.length ≤ 1000000
  few : tw.length ≤ 2 * k + 1
  nest : m ≤ 64
  xlt : ∀ b ∈ C.X, b < w.heap.size

/-- All but the parser and its twigs is as it was. -/
structure Kp (p : Nat) (v : Value) (w : World) (v' : Value) (w' : World) : Prop where
  os : w'.os = w.os
  tape : w'.tape = w.tape
  output : w'.output = w.output
  size : w.heap.size ≤ w'.heap.size
  block : ∀ k, k < w.heap.size → k ≠ p → v.ownBlock ≠ some k → w'.heap[k]? = w.heap[k]?
  own : ∀ k, v'.ownBlock = some k → v.ownBlock = some k ∨ w.heap.size ≤ k

theorem Kp.of {p : Nat} {v : Value} {w w' : World} (h : Below w.heap.size w w') : Kp p v w v w' := ⟨h.os, h.tape, h.output, h.size, fun k hk _ _ => h.block k hk, fun _ hk => .inl hk⟩
theorem Kp.refl (p : Nat) (v : Value) (w : World) : Kp p v w v w := .of (Below.refl _ _)
theorem Kp.trans {p : Nat} {v v' v'' : Value} {w w' w'' : World} (h : Kp p v w v' w') (g : Kp p v' w' v'' w'') : Kp p v w v'' w'' :=
  ⟨g.os.trans h.os, g.tape.trans h.tape, g.output.trans h.output, Nat.le_trans h.size g.size,
   fun k hk hp hv => (g.block k (Nat.lt_of_lt_of_le hk h.size) hp (fun e => (h.own k e).elim hv (by omega))).trans (h.block k hk hp hv),
   fun k hk => (g.own k hk).elim (fun e => h.own k e) (fun e => .inr (Nat.le_trans h.size e))⟩

/-- The same, whatever has become of the twigs. -/
def KpB (p : Nat) (v : Value) (w w' : World) : Prop := ∃ v', Kp p v w v' w'
theorem Kp.transB {p : Nat} {v v' : Value} {w w' w'' : World} (h : Kp p v w v' w') (g : KpB p v' w' w'') : KpB p v w w'' := let ⟨v'', g⟩ := g; ⟨v'', h.trans g⟩
theorem KpB.of {p : Nat} {v : Value} {w w' : World} (h : Below w.heap.size w w') : KpB p v w w' := ⟨v, .of h⟩
theorem PS.lt {w : World} {C : Cx} {k m : Nat} {v : Value} {tw : List Tw} (h : PS w C k m v tw) : C.p < w.heap.size := lt_of_block h.par
/-- What is below the parser stays. -/
theorem Kp.below {C : Cx} {k m : Nat} {v v' : Value} {tw : List Tw} {w w' : World} (h : Kp C.p v w v' w') (hs : PS w C k m v tw) : Below C.p w w' := by
  refine ⟨h.os, h.tape, h.output, h.size, fun b hb => h.block b (by have := hs.lt; omega) (by omega) fun e => ?_⟩
  obtain ⟨xs, ho, _⟩ := hs.own
  have := (ho.lt b e).1
  omega

theorem IntRow.keep {w w' : World} {X : List Nat} {v : Value} {l : List Int} (h : IntRow w X v l) (hk : ∀ (g : Nat) (cs : Array Value) (m : Nat × Nat), w.heap[g]? = some (Obj.cells cs 3 m) → w'.heap[g]? = w.heap[g]?) : IntRow w' X v l := by
  obtain ⟨A, cap, rfl, h⟩ := h
  refine ⟨A, cap, rfl, fun h0 => ?_⟩
  obtain ⟨g, cs, m, h1, h2, h3⟩ := h h0
  exact ⟨g, cs, m, h1, (hk g cs m h2).trans h2, h3⟩
theorem Tws.keep {w w' : World} {X : List Nat} (hk : ∀ (g : Nat) (cs : Array Value) (m : Nat × Nat), w.heap[g]? = some (Obj.cells cs 3 m) → w'.heap[g]? = w.heap[g]?) : ∀ {tw : List Tw} {xs : List Value}, Tws w X tw xs → Tws w' X tw xs
  | [], _, h => h
  | _ :: _, _, ⟨kv, ys, e, h1, h2⟩ => ⟨kv, ys, e, h1.keep hk, Tws.keep hk h2⟩
theorem TkB.below {w w' : World} {B B' : Nat} {A : Option Addr} {T : List Tok} (h : TkB w B A T) (hb : Below B' w w') (hB : B ≤ B') : TkB w' B A T := by
  intro i t hi
  obtain ⟨g, off, h1, h2, h3, h4, h5, h6, h7⟩ := h i t hi
  have hc := fun o => hb.cell (p := ⟨g, o, none⟩) (show g < B' by omega)
  exact ⟨g, off, h1, h2, (hc _).trans h3, (hc _).trans h4, (hc _).trans h5, (hc _).trans h6, (hc _).trans h7⟩
/-- A parser is as it was where nothing that lay there has turned. -/
theorem PS.after {w w' : World} {C : Cx} {k m : Nat} {v : Value} {tw : List Tw} (h : PS w C k m v tw) (hb : Below w.heap.size w w') : PS w' C k m v tw := by
  have hp := h.lt
  obtain ⟨xs, ho, ht⟩ := h.own
  refine ⟨(hb.block _ hp).trans h.par, h.toks.below hb (by omega), ⟨xs, ?_, ht.keep fun g cs m hg => hb.block g (lt_of_block hg)⟩, h.kle, h.big, h.few, h.nest, fun b hx => Nat.lt_of_lt_of_le (h.xlt b hx) hb.size⟩
  exact ho.kept (row := none) (w' := w') ⟨hb.os, hb.tape, hb.output, hb.size, fun k hk _ => hb.block k hk⟩ (by cases hv : v.ownBlock <;> simp)

def tokV (t : Tok) : Value := .agg #[.int .i64 t.kind, .string ⟨t.text.toArray⟩, .int .i64 t.n, .int .i64 t.line, .int .i64 t.col]
theorem hd_at (T : List Tok) (k : Nat) (h : k < T.length) : T[k]? = some (hd (T.drop k)) := by
  rw [List.getElem?_eq_getElem h, List.drop_eq_getElem_cons h]; rfl
theorem hd_end (T : List Tok) (k : Nat) (h : T.length ≤ k) : hd (T.drop k) = ⟨0, [], 0, 0, 0⟩ := by
  rw [List.drop_eq_nil_of_le h]; rfl
theorem PS.cells {w : World} {C : Cx} {k m : Nat} {v : Value} {tw : List Tw} (h : PS w C k m v tw) :
    w.cell? ⟨C.p, 0, none⟩ = some (.slice C.A C.T.length C.cap) ∧ w.cell? ⟨C.p, 1, none⟩ = some (.int .i64 k) ∧ w.cell? ⟨C.p, 2, none⟩ = some (.int .i64 m) ∧ w.cell? ⟨C.p, 3, none⟩ = some v := by
  have := h.par
  refine ⟨?_, ?_, ?_, ?_⟩ <;> simp [World.cell?, this]
theorem PS.free {w : World} {C : Cx} {k m : Nat} {v : Value} {tw : List Tw} (h : PS w C k m v tw) (i : Nat) : w.frozen? ⟨C.p, i, none⟩ = false := by
  have := h.par
  simp [World.frozen?, this]

theorem bdrew {B : Nat} {a b : World} (h : Below B a b) (n : Nat) : Below B a (b.drewN n) := ⟨h.os, h.tape, h.output, h.size, h.block⟩
/-- Below, behind stores into a block of five cells. -/
theorem bset5 {B : Nat} {a b : World} (h : Below B a b) (g : Nat) (hg : B ≤ g) (u0 u1 u2 u3 u4 : Value) :
    Below B a (((((b.setCell ⟨g, 0, none⟩ u0).setCell ⟨g, 1, none⟩ u1).setCell ⟨g, 2, none⟩ u2).setCell ⟨g, 3, none⟩ u3).setCell ⟨g, 4, none⟩ u4) :=
  ((((h.setCell (p := ⟨g, 0, none⟩) hg _).setCell (p := ⟨g, 1, none⟩) hg _).setCell (p := ⟨g, 2, none⟩) hg _).setCell (p := ⟨g, 3, none⟩) hg _).setCell (p := ⟨g, 4, none⟩) hg _

set_option maxRecDepth 100000 in
set_option maxHeartbeats 1000000 in
theorem next_ok (C : Cx) (w : World) (k m : Nat) (v : Value) (tw : List Tw) (h : PS w C k m v tw) :
    Calls Tryz.prog 116 #[C.ptr] w fun e w' => e = .returned (tokV (hd (C.T.drop k))) ∧ Below w.heap.size w w' := by
  obtain ⟨c0, c1, c2, c3⟩ := h.cells
  have hp := h.lt
  have hk := h.kle
  have hbig := h.big
  have HS := Lib.hid h
  clear h
  unfold Cx.ptr
  by_cases hlt : k < C.T.length
  · obtain ⟨g, off, hA, hg, t0, t1, t2, t3, t4⟩ := HS.out.toks k _ (hd_at C.T k hlt)
    rw [hA] at c0
    generalize hd (C.T.drop k) = t at *
    have HA := Lib.hid hA
    clear hA
    have hgw : g < w.heap.size := by omega
    go_enter Tryz.func116, Tryz.ntmps116
    go_wp2
    go_quiet (fail)
    go_wp2
    go_region
    go_wp2
    exact bodyPost_ret (v := tokV t) (by simp [results, Tryz.results116, go_sem, tokV]) rfl ⟨rfl, bset5 (bdrew ((Below.refl _ _).alloc (Nat.le_refl _) _) _) _ (Nat.le_refl _) _ _ _ _ _⟩
  · have he := hd_end C.T k (by omega)
    rw [he]
    have hkk : k = C.T.length := by omega
    subst hkk
    clear he
    go_enter Tryz.func116, Tryz.ntmps116
    go_wp2
    go_quiet (fail)
    go_wp2
    exact bodyPost_ret (v := tokV ⟨0, [], 0, 0, 0⟩) (by simp [results, Tryz.results116, go_sem, tokV]) rfl ⟨rfl, bset5 (bdrew ((Below.refl _ _).alloc (Nat.le_refl _) _) _) _ (Nat.le_refl _) _ _ _ _ _⟩
end Go.Proofs.YtpeoefbibjbinaaGreat
