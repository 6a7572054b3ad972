/- What the document reads of a line, plainly: its words, the numbers of words; it is what the program reads. -/
import Derived.Test.YtkljdpjdlccidaaDoorSaA
namespace Go.Proofs.YtkljdpjdlccidaaDoor
open Go
/-! ### Words of a line, with its end -/
def wdR : List UInt8 → List UInt8 → List (List UInt8)
  | _, [] => []
  | cur, c :: r => if c = 32 ∨ c = 10 then cur.reverse :: wdR [] r else wdR (c :: cur) r
theorem wdR_hit (c : UInt8) (r : List UInt8) (hc : c = 32 ∨ c = 10) : ∀ (x cur : List UInt8), (32 : UInt8) ∉ x → (10 : UInt8) ∉ x → wdR cur (x ++ c :: r) = (cur.reverse ++ x) :: wdR [] r
  | [], cur, _, _ => by simp [wdR, hc]
  | b :: x, cur, h, h2 => by
    have h3 : ¬ (b = 32 ∨ b = 10) := by
      rintro (rfl | rfl)
      · exact h (List.mem_cons_self ..)
      · exact h2 (List.mem_cons_self ..)
    simp only [List.cons_append, wdR, h3, if_false]
    rw [wdR_hit c r hc x (b :: cur) (fun e => h (List.mem_cons_of_mem _ e)) fun e => h2 (List.mem_cons_of_mem _ e)]
    simp
theorem wdR_line (e : En) : wdR [] (lnE e ++ [10]) = wsE e := by
  have h0 := (wd_ne e.k).1
  have h1 := (itoa_ne e.a).1
  have h2 := (itoa_ne e.n).1
  have g0 := (wd_ne e.k).2.1
  have g1 := (itoa_ne e.a).2
  have g2 := (itoa_ne e.n).2
  unfold lnE wsE
  generalize wdE e.k = x at *
  generalize Lib.itoa e.a = y at *
  generalize Lib.itoa e.n = z at *
  rw [Lib.join_cons]
  split
  · split
    · simp only [List.append_nil, Lib.joinTail, List.map_nil, List.flatten_nil]
      rw [wdR_hit 10 [] (.inr rfl) x [] h0 g0]
      rfl
    · simp only [List.nil_append, Lib.joinTail, List.map_cons, List.map_nil, List.flatten_cons, List.flatten_nil, List.append_nil, List.cons_append, List.append_assoc]
      rw [wdR_hit 32 _ (.inl rfl) x [] h0 g0, wdR_hit 10 [] (.inr rfl) z [] h2 g2]
      rfl
  · split
    · simp only [List.append_nil, Lib.joinTail, List.map_cons, List.map_nil, List.flatten_cons, List.flatten_nil, List.cons_append, List.nil_append, List.append_assoc]
      rw [wdR_hit 32 _ (.inl rfl) x [] h0 g0, wdR_hit 10 [] (.inr rfl) y [] h1 g1]
      rfl
    · simp only [Lib.joinTail, List.map_cons, List.map_nil, List.flatten_cons, List.flatten_nil, List.append_nil, List.cons_append, List.nil_append, List.append_assoc]
      rw [wdR_hit 32 _ (.inl rfl) x [] h0 g0, wdR_hit 32 _ (.inl rfl) y [] h1 g1, wdR_hit 10 [] (.inr rfl) z [] h2 g2]
      rfl
/-! ### Numbers of words -/
def accR (n : Nat) : List UInt8 → Nat
  | [] => n
  | c :: r => if c = 45 then accR n r else accR ((10 * n + (c.toNat + 208) % 256) % 18446744073709551616) r
theorem accR_append : ∀ (l1 l2 : List UInt8) (n : Nat), accR n (l1 ++ l2) = accR (accR n l1) l2
  | [], _, _ => rfl
  | c :: r, l2, n => by
    simp only [List.cons_append, accR]
    split
    · exact accR_append r l2 n
    · exact accR_append r l2 _
theorem accR_lt : ∀ (l : List UInt8) (n : Nat), n < 18446744073709551616 → accR n l < 18446744073709551616
  | [], _, h => h
  | c :: r, n, h => by
    simp only [accR]
    split
    · exact accR_lt r n h
    · exact accR_lt r _ (Nat.mod_lt _ (by decide))
theorem accR_dec (u : Nat) : u < 18446744073709551616 → accR 0 (Lib.decDigits u) = u := by
  induction u using Nat.strongRecOn with
  | _ u ih =>
    intro h
    rw [Lib.decDigits]
    split
    · rename_i h1
      have e : (UInt8.ofNat (48 + u)).toNat = 48 + u := by simp only [UInt8.toNat_ofNat']; omega
      have ne : UInt8.ofNat (48 + u) ≠ 45 := fun q => by rw [q] at e; simp at e; omega
      simp only [accR, ne, if_false, e]
      omega
    · rename_i h1
      have e : (UInt8.ofNat (48 + u % 10)).toNat = 48 + u % 10 := by simp only [UInt8.toNat_ofNat']; omega
      have ne : UInt8.ofNat (48 + u % 10) ≠ 45 := fun q => by rw [q] at e; simp at e; omega
      rw [accR_append, ih (u / 10) (by omega) (by omega)]
      simp only [accR, ne, if_false, e]
      omega
/-- A number of 64 bits, read with its sign. -/
def sg64 (m : Nat) : Int := if m < 9223372036854775808 then m else (m : Int) - 18446744073709551616
def valR (l : List UInt8) : Int := sg64 (if l.head? = some 45 then (18446744073709551616 - accR 0 l) % 18446744073709551616 else accR 0 l)
theorem sg64_i64 {m : Nat} (h : m < 18446744073709551616) : i64 (sg64 m) := by
  unfold sg64 i64
  split <;> omega
theorem valR_i64 (l : List UInt8) : i64 (valR l) := by
  unfold valR
  apply sg64_i64
  split
  · exact Nat.mod_lt _ (by decide)
  · exact accR_lt l 0 (by decide)
theorem valR_itoa {n : Int} (h : i64 n) : valR (Lib.itoa n) = n := by
  obtain ⟨h0, h1⟩ := h
  unfold valR Lib.itoa
  split
  · rename_i hn
    have : accR 0 (45 :: Lib.decDigits n.natAbs) = n.natAbs := by
      have := accR_dec n.natAbs (by omega)
      simp only [accR, if_true]
      exact this
    rw [this]
    simp only [List.head?_cons, if_true]
    unfold sg64
    split <;> omega
  · rename_i hn
    have hp := accR_dec n.toNat (by omega)
    have hm := dec_mem n.toNat
    have hne := dec_ne n.toNat
    generalize Lib.decDigits n.toNat = l at *
    cases l with
    | nil => exact absurd rfl hne
    | cons c r =>
      have hc := hm c (List.mem_cons_self ..)
      have h45 : ¬ (some c = some (45 : UInt8)) := fun q => by
        obtain rfl := Option.some.inj q
        simp at hc
      rw [hp]
      simp only [List.head?_cons, h45, if_false]
      unfold sg64
      split <;> omega
/-- The entry that the document reads of a line's words. -/
def knR (w : List UInt8) : Int := if w = wdE 1 then 1 else if w = wdE 2 then 2 else if w = wdE 3 then 3 else if w = wdE 4 then 4 else if w = wdE 5 then 5 else 0
def enR (ws : List (List UInt8)) : En :=
  let p := ws ++ [[], [], []]
  let k := knR (p.getD 0 [])
  if k = 3 then ⟨3, 0, valR (p.getD 1 [])⟩ else ⟨k, valR (p.getD 1 []), if k = 1 ∨ k = 2 then 0 else valR (p.getD 2 [])⟩
theorem knR_wd {k : Int} (h : 1 ≤ k ∧ k ≤ 5) : knR (wdE k) = k := by
  have hk' : k = 1 ∨ k = 2 ∨ k = 3 ∨ k = 4 ∨ k = 5 := by omega
  rcases hk' with rfl | rfl | rfl | rfl | rfl <;> decide
theorem enR_line {e : En} (h : mayE e = true) (ok : e.ok) : enR (wsE e) = e := by
  rw [mayE_iff] at h
  obtain ⟨k1, k5, _, h3, h2⟩ := h
  obtain ⟨k, a, n⟩ := e
  obtain ⟨_, oa, on⟩ := ok
  dsimp only at *
  have hk := knR_wd ⟨k1, k5⟩
  unfold enR wsE
  simp only [List.cons_append, List.getD_cons_zero, hk]
  by_cases k3 : k = 3
  · have k2 : ¬ k ≤ 2 := by omega
    simp [k3, valR_itoa on, h3 k3]
  · by_cases k2 : k ≤ 2
    · have k12 : k = 1 ∨ k = 2 := by omega
      simp [k3, k2, k12, valR_itoa oa, h2 k2]
    · have k12 : ¬ (k = 1 ∨ k = 2) := by omega
      simp [k3, k2, k12, valR_itoa oa, valR_itoa on]
theorem knR_i (w : List UInt8) : 0 ≤ knR w ∧ knR w ≤ 5 := by
  unfold knR
  repeat (first | (split; decide) | decide)
theorem enR_ok (ws : List (List UInt8)) : (enR ws).ok := by
  have hk := knR_i ((ws ++ [[], [], []]).getD 0 [])
  have z : i64 0 := ⟨by decide, by decide⟩
  have t : i64 3 := ⟨by decide, by decide⟩
  unfold enR
  dsimp only
  split
  · exact ⟨t, z, valR_i64 _⟩
  · refine ⟨⟨?_, ?_⟩, valR_i64 _, ?_⟩
    · show -9223372036854775808 ≤ knR _; omega
    · show knR _ ≤ 9223372036854775807; omega
    · dsimp only
      split
      · exact z
      · exact valR_i64 _
/-- The document's test of what it read is the program's reading. -/
theorem oneR (x : List UInt8) : rdE x = if mayE (enR (wdR [] (x ++ [10]))) = true ∧ lnE (enR (wdR [] (x ++ [10]))) = x then some (enR (wdR [] (x ++ [10]))) else none := by
  split
  · rename_i h
    exact rdE_some.2 ⟨enR_ok _, h.1, h.2⟩
  · rename_i h
    cases hr : rdE x with
    | none => rfl
    | some e =>
      obtain ⟨ok, may, rfl⟩ := rdE_some.1 hr
      rw [wdR_line, enR_line may ok] at h
      exact absurd ⟨may, rfl⟩ h
end Go.Proofs.YtkljdpjdlccidaaDoor
