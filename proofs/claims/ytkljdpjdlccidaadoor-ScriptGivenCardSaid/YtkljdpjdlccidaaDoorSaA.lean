/- Entries of scripts and their texts, plainly: what is printed, what is read of a line, what is read of a text. -/
import Derived.Lib.ItoaNum
import Derived.Lib.AtoiAllCases
import Derived.Lib.ParseIntBTie
import Derived.Lib.IndexBytes
import Derived.Lib.SplitLaws
import Derived.Lib.Join
namespace Go.Proofs.YtkljdpjdlccidaaDoor
open Go
/-- An entry: its kind, its At, its N. -/
structure En where
  k : Int
  a : Int
  n : Int
deriving DecidableEq
def i64 (x : Int) : Prop := -9223372036854775808 ≤ x ∧ x ≤ 9223372036854775807
def En.ok (e : En) : Prop := i64 e.k ∧ i64 e.a ∧ i64 e.n
def mayE (e : En) : Bool := decide (1 ≤ e.k ∧ e.k ≤ 5 ∧ 0 ≤ e.a ∧ (e.k = 3 → e.a = 0) ∧ (e.k ≤ 2 → e.n = 0))
def wdE (k : Int) : List UInt8 := if k = 1 then [114, 117, 110] else if k = 2 then [119, 111, 114, 107] else if k = 3 then [116, 105, 99, 107] else if k = 4 then [105, 110, 106, 101, 99, 116] else [108, 105, 102, 101]
def wsE (e : En) : List (List UInt8) := wdE e.k :: ((if e.k = 3 then [] else [Lib.itoa e.a]) ++ (if e.k ≤ 2 then [] else [Lib.itoa e.n]))
def lnE (e : En) : List UInt8 := Lib.join (wsE e) [32]
def textE (l : List En) : List UInt8 := if l.all mayE then l.flatMap fun e => lnE e ++ [10] else []
/-! ### Numbers -/
theorem dec_mem : ∀ (u : Nat), ∀ b ∈ Lib.decDigits u, 48 ≤ b.toNat ∧ b.toNat ≤ 57 := by
  intro u
  induction u using Nat.strongRecOn with
  | _ u ih =>
    intro b hb
    rw [Lib.decDigits] at hb
    split at hb
    · rename_i h
      obtain rfl := List.mem_singleton.1 hb
      simp only [UInt8.toNat_ofNat']
      omega
    · rename_i h
      rcases List.mem_append.1 hb with hb | hb
      · exact ih (u / 10) (by omega) b hb
      · obtain rfl := List.mem_singleton.1 hb
        simp only [UInt8.toNat_ofNat']
        omega
theorem dec_ne (u : Nat) : Lib.decDigits u ≠ [] := by
  rw [Lib.decDigits]
  split <;> simp
theorem pu_append : ∀ (l1 l2 : List UInt8) (acc : Nat), Lib.parseUint10 acc (l1 ++ l2) = match Lib.parseUint10 acc l1 with
    | .ok a => Lib.parseUint10 a l2
    | e => e
  | [], l2, acc => rfl
  | c :: r, l2, acc => by
    simp only [List.cons_append, Lib.parseUint10]
    split
    · split
      · rfl
      · split
        · rfl
        · exact pu_append r l2 _
    · rfl
theorem pu_dec (u : Nat) : u < 18446744073709551616 → Lib.parseUint10 0 (Lib.decDigits u) = .ok u := by
  induction u using Nat.strongRecOn with
  | _ u ih =>
    intro h
    rw [Lib.decDigits]
    split
    · rename_i h1
      have e : (UInt8.ofNat (48 + u)).toNat = 48 + u := by simp only [UInt8.toNat_ofNat']; omega
      simp only [Lib.parseUint10, e]
      rw [if_pos (by omega), if_neg (by omega), if_neg (by omega)]
      congr 1
      omega
    · rename_i h1
      have e : (UInt8.ofNat (48 + u % 10)).toNat = 48 + u % 10 := by simp only [UInt8.toNat_ofNat']; omega
      rw [pu_append, ih (u / 10) (by omega) (by omega)]
      simp only [Lib.parseUint10, e]
      rw [if_pos (by omega), if_neg (by omega), if_neg (by omega)]
      congr 1
      omega
theorem atoi_itoa (n : Int) (h0 : -9223372036854775808 ≤ n) (h1 : n ≤ 9223372036854775807) : Lib.atoiAll (Lib.itoa n) = .ok n := by
  unfold Lib.itoa
  split
  · rename_i h
    rw [Lib.atoiAll_minus]
    unfold Lib.parseMag
    rw [if_neg (dec_ne _), pu_dec _ (by omega)]
    simp only [Lib.signed]
    rw [if_neg (by omega)]
    congr 1
    omega
  · rename_i h
    have hp := pu_dec n.toNat (by omega)
    have hm := dec_mem n.toNat
    have hn := dec_ne n.toNat
    generalize Lib.decDigits n.toNat = l at *
    cases l with
    | nil => exact absurd rfl hn
    | cons c r =>
      have := hm c (List.mem_cons_self ..)
      rw [Lib.atoiAll_plain c r (by omega) (by omega)]
      unfold Lib.parseMag
      rw [if_neg (by simp), hp]
      simp only [Lib.signless]
      rw [if_neg (by omega)]
      congr 1
      omega
theorem parse_itoa (n : Int) (h0 : -9223372036854775808 ≤ n) (h1 : n ≤ 9223372036854775807) : Lib.parseIntB 64 (Lib.itoa n) = .ok n := by
  rw [Lib.parseIntB_64]; exact atoi_itoa n h0 h1
theorem itoa_mem (n : Int) : ∀ b ∈ Lib.itoa n, b.toNat = 45 ∨ (48 ≤ b.toNat ∧ b.toNat ≤ 57) := by
  intro b hb
  unfold Lib.itoa at hb
  split at hb
  · rcases List.mem_cons.1 hb with rfl | hb
    · exact .inl rfl
    · exact .inr (dec_mem _ b hb)
  · exact .inr (dec_mem _ b hb)
/-! ### Words -/
theorem ib_at (x : List UInt8) (c : UInt8) (r : List UInt8) (h : c ∉ x) : Lib.indexByte (x ++ c :: r) c = x.length := by
  induction x with
  | nil => simp [Lib.indexByte]
  | cons b x ih =>
    have hb : (b == c) = false := by
      simp only [List.mem_cons, not_or] at h
      simpa using fun e => h.1 e.symm
    have := ih fun e => h (List.mem_cons_of_mem _ e)
    simp only [List.cons_append, Lib.indexByte, hb, this]
    have h2 : ((x.length : Int) == -1) = false := by simp
    simp [h2]
theorem ib_no (x : List UInt8) (c : UInt8) (h : c ∉ x) : Lib.indexByte x c = -1 := by
  induction x with
  | nil => rfl
  | cons b x ih =>
    have hb : (b == c) = false := by
      simp only [List.mem_cons, not_or] at h
      simpa using fun e => h.1 e.symm
    have := ih fun e => h (List.mem_cons_of_mem _ e)
    simp [Lib.indexByte, hb, this]
theorem splitK_hit (c : UInt8) (k : Nat) (x r : List UInt8) (h : c ∉ x) : Lib.splitK [c] 0 (k + 1) (x ++ c :: r) = x :: Lib.splitK [c] 0 k r := by
  have hi : Lib.index (x ++ c :: r) [c] = x.length := by rw [Lib.index_one]; exact ib_at x c r h
  have h2 : ((x.length : Int) == -1) = false := by simp
  rw [Lib.splitK, hi, h2]
  simp
theorem splitK_no (c : UInt8) (k : Nat) (x : List UInt8) (h : c ∉ x) : Lib.splitK [c] 0 k x = [x] := by
  cases k with
  | zero => rfl
  | succ k =>
    have hi : Lib.index x [c] = -1 := by rw [Lib.index_one]; exact ib_no x c h
    rw [Lib.splitK, hi]
    simp
theorem wd_ne (k : Int) : (32 : UInt8) ∉ wdE k ∧ (10 : UInt8) ∉ wdE k ∧ wdE k ≠ [] := by
  unfold wdE
  split
  · decide
  · split
    · decide
    · split
      · decide
      · split
        · decide
        · decide
theorem itoa_ne (n : Int) : (32 : UInt8) ∉ Lib.itoa n ∧ (10 : UInt8) ∉ Lib.itoa n := by
  constructor
  · intro h
    have := itoa_mem n _ h
    simp at this
  · intro h
    have := itoa_mem n _ h
    simp at this
theorem wd_inj {k j : Int} (hk : 1 ≤ k ∧ k ≤ 5) (hj : 1 ≤ j ∧ j ≤ 5) (h : wdE k = wdE j) : k = j := by
  have hk' : k = 1 ∨ k = 2 ∨ k = 3 ∨ k = 4 ∨ k = 5 := by omega
  have hj' : j = 1 ∨ j = 2 ∨ j = 3 ∨ j = 4 ∨ j = 5 := by omega
  rcases hk' with rfl | rfl | rfl | rfl | rfl <;> rcases hj' with rfl | rfl | rfl | rfl | rfl <;> first | rfl | (exfalso; revert h; decide)
/-- The words of a line. -/
theorem split_line (e : En) : Lib.splitK [32] 0 2 (lnE e) = wsE e := by
  have h0 := (wd_ne e.k).1
  have h1 := (itoa_ne e.a).1
  have h2 := (itoa_ne e.n).1
  unfold lnE wsE
  generalize wdE e.k = x at *
  generalize Lib.itoa e.a = y at *
  generalize Lib.itoa e.n = z at *
  rw [Lib.join_cons]
  split
  · split
    · simp only [List.append_nil, Lib.joinTail, List.map_nil, List.flatten_nil]
      exact splitK_no 32 2 x h0
    · simp only [List.nil_append, Lib.joinTail, List.map_cons, List.map_nil, List.flatten_cons, List.flatten_nil, List.append_nil, List.cons_append]
      rw [splitK_hit 32 1 x z h0, splitK_no 32 1 z h2]
  · split
    · simp only [List.append_nil, Lib.joinTail, List.map_cons, List.map_nil, List.flatten_cons, List.flatten_nil, List.append_nil, List.cons_append, List.nil_append]
      rw [splitK_hit 32 1 x y h0, splitK_no 32 1 y h1]
    · simp only [Lib.joinTail, List.map_cons, List.map_nil, List.flatten_cons, List.flatten_nil, List.append_nil, List.cons_append, List.nil_append]
      rw [splitK_hit 32 1 x _ h0, splitK_hit 32 0 y z h1, splitK_no 32 0 z h2]
def valA (l : List UInt8) : Int := match Lib.atoiAll l with
  | .ok v => v
  | .range => Lib.atoiSat l
  | _ => 0
theorem valA_itoa {n : Int} (h : i64 n) : valA (Lib.itoa n) = n := by
  unfold valA
  rw [atoi_itoa n h.1 h.2]
theorem valA_i64 (l : List UInt8) : i64 (valA l) := by
  unfold valA
  split
  · rename_i v h
    exact Lib.atoiAll_bounds h
  · exact Lib.atoiSat_bounds l
  · exact ⟨by decide, by decide⟩
/-- The entry that the program reads of the words of a line, of a kind. -/
def enW (ws : List (List UInt8)) (k : Int) : En := ⟨k, if k = 3 then 0 else valA (ws.getD (min 1 (ws.length - 1)) []), if k ≤ 2 then 0 else valA (ws.getD (ws.length - 1) [])⟩
def rdK (x : List UInt8) (k : Int) : Option En :=
  let ws := Lib.splitK [32] 0 2 x
  if ws.getD 0 [] = wdE k ∧ mayE (enW ws k) = true ∧ lnE (enW ws k) = x then some (enW ws k) else none
theorem mayE_iff (e : En) : mayE e = true ↔ (1 ≤ e.k ∧ e.k ≤ 5 ∧ 0 ≤ e.a ∧ (e.k = 3 → e.a = 0) ∧ (e.k ≤ 2 → e.n = 0)) := by
  unfold mayE
  exact decide_eq_true_iff
theorem enW_line {e : En} (h : mayE e = true) (ok : e.ok) : enW (wsE e) e.k = e := by
  rw [mayE_iff] at h
  obtain ⟨_, _, _, h3, h2⟩ := h
  obtain ⟨k, a, n⟩ := e
  obtain ⟨_, oa, on⟩ := ok
  unfold enW wsE
  dsimp only at *
  by_cases k3 : k = 3
  · have k2 : ¬ k ≤ 2 := by omega
    simp [k3, valA_itoa on, h3 k3]
  · by_cases k2 : k ≤ 2
    · simp [k3, k2, valA_itoa oa, h2 k2]
    · simp [k3, k2, valA_itoa oa, valA_itoa on]
theorem enW_k (ws : List (List UInt8)) (k : Int) : (enW ws k).k = k := rfl
theorem enW_ok (ws : List (List UInt8)) {k : Int} (hk : 1 ≤ k ∧ k ≤ 5) : (enW ws k).ok := by
  refine ⟨⟨?_, ?_⟩, ?_, ?_⟩
  · show -9223372036854775808 ≤ k; omega
  · show k ≤ 9223372036854775807; omega
  · unfold enW
    dsimp only
    split
    · exact ⟨by decide, by decide⟩
    · exact valA_i64 _
  · unfold enW
    dsimp only
    split
    · exact ⟨by decide, by decide⟩
    · exact valA_i64 _
/-- What is read of a line: just the entry that may be and has that line. -/
theorem rdK_some {x : List UInt8} {k : Int} {e : En} (hk : 1 ≤ k ∧ k ≤ 5) : rdK x k = some e ↔ e.k = k ∧ e.ok ∧ mayE e = true ∧ lnE e = x := by
  constructor
  · intro h
    unfold rdK at h
    dsimp only at h
    split at h
    · rename_i c
      obtain rfl := Option.some.inj h
      exact ⟨rfl, enW_ok _ hk, c.2.1, c.2.2⟩
    · cases h
  · rintro ⟨rfl, ok, h1, rfl⟩
    unfold rdK
    dsimp only
    rw [split_line, enW_line h1 ok, if_pos ⟨rfl, h1, rfl⟩]
def rdFrom (x : List UInt8) : Nat → Int → Option En
  | 0, _ => none
  | m + 1, k => match rdK x k with
    | some e => some e
    | none => rdFrom x m (k + 1)
def rdE (x : List UInt8) : Option En := rdFrom x 5 1
theorem rdFrom_some {x : List UInt8} : ∀ (m : Nat) (k : Int) (e : En), 1 ≤ k → k + m ≤ 6 → rdFrom x m k = some e → k ≤ e.k ∧ e.ok ∧ mayE e = true ∧ lnE e = x
  | 0, _, _, _, _, h => by cases h
  | m + 1, k, e, h1, h2, h => by
    simp only [rdFrom] at h
    split at h
    · rename_i e' he
      obtain rfl := Option.some.inj h
      obtain ⟨rfl, q⟩ := (rdK_some ⟨h1, by omega⟩).1 he
      exact ⟨Int.le_refl _, q⟩
    · obtain ⟨q, r⟩ := rdFrom_some m (k + 1) e (by omega) (by omega) h
      exact ⟨by omega, r⟩
theorem line_inj {e f : En} (he : mayE e = true) (hf : mayE f = true) (oe : e.ok) (of : f.ok) (h : lnE e = lnE f) : e = f := by
  have h1 : wsE e = wsE f := by rw [← split_line, ← split_line, h]
  have h0 : wdE e.k = wdE f.k := by
    unfold wsE at h1
    exact (List.cons.inj h1).1
  have hk : e.k = f.k := by
    have a := (mayE_iff e).1 he
    have b := (mayE_iff f).1 hf
    exact wd_inj ⟨a.1, a.2.1⟩ ⟨b.1, b.2.1⟩ h0
  rw [← enW_line he oe, ← enW_line hf of, h1, hk]
theorem rdFrom_of {x : List UInt8} {e : En} (h : mayE e = true) (ok : e.ok) (hl : lnE e = x) : ∀ (m : Nat) (k : Int), 1 ≤ k → k + m = 6 → k ≤ e.k → rdFrom x m k = some e
  | 0, k, _, h2, h3 => by have := ((mayE_iff e).1 h).2.1; omega
  | m + 1, k, h1, h2, h3 => by
    simp only [rdFrom]
    cases hr : rdK x k with
    | some f =>
      obtain ⟨_, of, mf, lf⟩ := (rdK_some ⟨h1, by omega⟩).1 hr
      rw [line_inj mf h of ok (lf.trans hl.symm)]
    | none =>
      dsimp only
      have hne : e.k ≠ k := fun e1 => by
        rw [(rdK_some ⟨h1, by omega⟩).2 ⟨e1, ok, h, hl⟩] at hr
        cases hr
      exact rdFrom_of h ok hl m (k + 1) (by omega) (by omega) (by omega)
theorem rdE_some {x : List UInt8} {e : En} : rdE x = some e ↔ e.ok ∧ mayE e = true ∧ lnE e = x :=
  ⟨fun h => (rdFrom_some 5 1 e (by decide) (by decide) h).2, fun ⟨ok, h, hl⟩ => rdFrom_of h ok hl 5 1 (by decide) (by decide) ((mayE_iff e).1 h).1⟩
/-! ### Texts -/
/-- What a text is read as: what is ahead of its first end of line is a line. -/
def ofE : List UInt8 → List UInt8 → Option (List En)
  | [], [] => some []
  | _ :: _, [] => none
  | cur, c :: r => if c = 10 then match rdE cur.reverse with
      | some e => (ofE [] r).map (e :: ·)
      | none => none
    else ofE (c :: cur) r
def scrE (s : List UInt8) : Option (List En) := ofE [] s
theorem ofE_line (r : List UInt8) : ∀ (x cur : List UInt8), (10 : UInt8) ∉ x → ofE cur (x ++ 10 :: r) = match rdE (cur.reverse ++ x) with
      | some e => (ofE [] r).map (e :: ·)
      | none => none
  | [], cur, _ => by simp [ofE]
  | c :: x, cur, h => by
    have hc : c ≠ 10 := fun e => h (e ▸ List.mem_cons_self ..)
    simp only [List.cons_append, ofE, hc, if_false]
    rw [ofE_line r x (c :: cur) fun e => h (List.mem_cons_of_mem _ e)]
    simp
theorem ofE_none : ∀ (x cur : List UInt8), (10 : UInt8) ∉ x → cur ++ x ≠ [] → ofE cur x = none
  | [], cur, _, h => by
    cases cur with
    | nil => simp at h
    | cons c cur => rfl
  | c :: x, cur, h, _ => by
    have hc : c ≠ 10 := fun e => h (e ▸ List.mem_cons_self ..)
    simp only [ofE, hc, if_false]
    exact ofE_none x (c :: cur) (fun e => h (List.mem_cons_of_mem _ e)) (by simp)
theorem scrE_line {x r : List UInt8} (h : (10 : UInt8) ∉ x) : scrE (x ++ 10 :: r) = match rdE x with
      | some e => (scrE r).map (e :: ·)
      | none => none := by
  unfold scrE
  rw [ofE_line r x [] h]
  rfl
theorem scrE_none {x : List UInt8} (h : (10 : UInt8) ∉ x) (hx : x ≠ []) : scrE x = none := ofE_none x [] h (by simpa using hx)
theorem scrE_nil : scrE [] = some [] := rfl
theorem ln_no10 (e : En) : (10 : UInt8) ∉ lnE e := by
  have h0 := (wd_ne e.k).2.1
  have h1 := (itoa_ne e.a).2
  have h2 := (itoa_ne e.n).2
  unfold lnE wsE
  generalize wdE e.k = x at *
  generalize Lib.itoa e.a = y at *
  generalize Lib.itoa e.n = z at *
  rw [Lib.join_cons]
  simp only [Lib.joinTail]
  split <;> split <;> simp [h0, h1, h2]
/-- A script's text is read as it. -/
theorem scrE_text : ∀ (l : List En), (∀ e ∈ l, e.ok ∧ mayE e = true) → scrE (l.flatMap fun e => lnE e ++ [10]) = some l
  | [], _ => rfl
  | e :: l, h => by
    have he := h e (List.mem_cons_self ..)
    have hr := rdE_some.2 ⟨he.1, he.2, rfl⟩
    simp only [List.flatMap_cons, List.append_assoc, List.singleton_append]
    rw [scrE_line (ln_no10 e), hr, scrE_text l fun f hf => h f (List.mem_cons_of_mem _ hf)]
    rfl
/-- What is read is the script whose text it is. -/
theorem scrE_some : ∀ (n : Nat) (s : List UInt8) (l : List En), s.length ≤ n → scrE s = some l → (∀ e ∈ l, e.ok ∧ mayE e = true) ∧ (l.flatMap fun e => lnE e ++ [10]) = s
  | n, s, l, hn, h => by
    by_cases h10 : (10 : UInt8) ∈ s
    · obtain ⟨x, r, rfl, hx⟩ := List.eq_append_cons_of_mem h10
      rw [scrE_line hx] at h
      cases hr : rdE x with
      | none => rw [hr] at h; cases h
      | some e =>
        rw [hr] at h
        cases hq : scrE r with
        | none => rw [hq] at h; cases h
        | some l' =>
          rw [hq] at h
          obtain rfl := Option.some.inj h
          cases n with
          | zero => simp at hn
          | succ n =>
            obtain ⟨q1, q2⟩ := scrE_some n r l' (by simp at hn; omega) hq
            obtain ⟨ok, may, rfl⟩ := rdE_some.1 hr
            refine ⟨fun f hf => ?_, ?_⟩
            · rcases List.mem_cons.1 hf with rfl | hf
              · exact ⟨ok, may⟩
              · exact q1 f hf
            · simp [q2]
    · cases s with
      | nil =>
        obtain rfl := Option.some.inj h
        exact ⟨fun e he => by simp at he, rfl⟩
      | cons c s =>
        rw [scrE_none h10 (by simp)] at h
        cases h
theorem textE_of {s : List UInt8} {l : List En} (h : scrE s = some l) : textE l = s := by
  obtain ⟨h1, h2⟩ := scrE_some _ s l (Nat.le_refl _) h
  unfold textE
  rw [if_pos (List.all_eq_true.2 fun e he => (h1 e he).2), h2]
theorem scrE_of {l : List En} (h : l.all mayE = true) (ok : ∀ e ∈ l, e.ok) : scrE (textE l) = some l := by
  unfold textE
  rw [if_pos h]
  exact scrE_text l fun e he => ⟨ok e he, List.all_eq_true.1 h e he⟩
end Go.Proofs.YtkljdpjdlccidaaDoor
