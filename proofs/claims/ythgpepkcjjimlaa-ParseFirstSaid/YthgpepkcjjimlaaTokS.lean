/- The reference's Scan: what its loop keeps; plain facts on lines inside tokens and comments. -/
import Derived.Test.YthgpepkcjjimlaaTokQ
namespace Go.Proofs.Ythgpepkcjjimlaa
open Go.RowKit

theorem line_step (l : List UInt8) (p : Nat) (h : ¬ chr l p = 10) : lineOf l (p + 1) = lineOf l p ∧ fromOf l (p + 1) = fromOf l p := by
  simp [lineOf, fromOf, h]
theorem line_run (l : List UInt8) (p : Nat) : ∀ k, (∀ j, p ≤ j → j < p + k → ¬ chr l j = 10) → lineOf l (p + k) = lineOf l p ∧ fromOf l (p + k) = fromOf l p
  | 0, _ => ⟨rfl, rfl⟩
  | k + 1, h => by
    have h1 := line_run l p k (fun j a b => h j a (by omega))
    have h2 := line_step l (p + k) (h (p + k) (by omega) (by omega))
    rw [← Nat.add_assoc]
    exact ⟨h2.1.trans h1.1, h2.2.trans h1.2⟩
theorem run_nl (k : Int) : ∀ (l : List UInt8) (j : Nat), j < run k l → ¬ chr l j = 10
  | [], j, h => by simp [run] at h
  | x :: r, j, h => by
    simp only [run] at h
    split at h
    · rename_i hg
      rcases j with _ | j
      · intro e
        have e' : (x.toNat : Int) = 10 := e
        rw [e'] at hg
        unfold goes at hg
        split at hg
        · exact absurd hg (by decide)
        · split at hg
          · exact absurd hg (by decide)
          · cases hg
      · have := run_nl k r j (by omega)
        simpa [chr] using this
    · omega
/-- No end of a line stands inside a token. -/
theorem line_tok (l : List UInt8) (p : Nat) (h : p < l.length) (hn : nxt l p = p) : lineOf l (endA l p) = lineOf l p ∧ fromOf l (endA l p) = fromOf l p := by
  have hg := endA_gt l p
  have key : ∀ j, p ≤ j → j < endA l p → ¬ chr l j = 10 := by
    intro j h1 h2
    rcases Nat.eq_or_lt_of_le h1 with rfl | h3
    · exact at_nl l p h hn
    · unfold endA at h2
      split at h2
      · omega
      · unfold endT at h2
        split at h2
        · rename_i hp
          obtain rfl : j = p + 1 := by omega
          have := (chr_pre2 _ hp).2
          rw [chr_drop] at this
          omega
        · unfold ends at h2
          have := run_nl (kindA l p) (l.drop (p + 1)) (j - (p + 1)) (by omega)
          rw [chr_drop] at this
          rwa [show p + 1 + (j - (p + 1)) = j from by omega] at this
  obtain ⟨k, hk⟩ : ∃ k, endA l p = p + k := ⟨endA l p - p, by omega⟩
  rw [hk] at key ⊢
  exact line_run l p k key

/-- What the loop of the reference's Scan keeps. -/
structure RI (l : List UInt8) (b off : Nat) (w : World) (v4 v5 : Value) (T : List Tok) (D : List Dg) (wr : World) : Prop where
  below : Below w.heap.size w wr
  text : Bs wr b off l
  own4 : wr.ownsRow w.heap.size 38 5 v4 T.length (tcs T)
  own5 : wr.ownsRow w.heap.size 35 3 v5 D.length (dcs D)
section
variable {l : List UInt8} {b off : Nat} {w wr w2 : World} {v4 v5 : Value} {T : List Tok} {D : List Dg}
theorem RI.after (h : RI l b off w v4 v5 T D wr) (hb : Below wr.heap.size wr w2) (h0 : 0 < l.length) : RI l b off w v4 v5 T D w2 :=
  ⟨h.below.trans (hb.mono h.below.size), h.text.below hb (h.text.lt h0), own_below h.own4 hb, own_below h.own5 hb⟩
theorem RI.app4 {v' : Value} {t : Tok} (h : RI l b off w v4 v5 T D wr) (hg : wr.grownBy w2 v4.ownBlock) (ho : w2.ownsRow w.heap.size 38 5 v' (T.length + 1) (tcs T ++ t.cells)) (hbw : b < w.heap.size) : RI l b off w v' v5 (T ++ [t]) D w2 := by
  have hz := h.below.size
  have hr : ∀ k, v4.ownBlock = some k → w.heap.size ≤ k := fun k hk => (h.own4.lt k hk).1
  refine ⟨h.below.grown hg hz hr, h.text.keep fun k _ => World.cell?_of_block (hg.block b (by omega) (fun e => by have := hr b e.symm; omega)), ?_, h.own5.kept hg (own_ne h.own5 h.own4 (by decide))⟩
  rw [tcs_snoc, List.length_append]
  exact ho
theorem RI.app5 {v' : Value} {t : Dg} (h : RI l b off w v4 v5 T D wr) (hg : wr.grownBy w2 v5.ownBlock) (ho : w2.ownsRow w.heap.size 35 3 v' (D.length + 1) (dcs D ++ t.cells)) (hbw : b < w.heap.size) : RI l b off w v4 v' T (D ++ [t]) w2 := by
  have hz := h.below.size
  have hr : ∀ k, v5.ownBlock = some k → w.heap.size ≤ k := fun k hk => (h.own5.lt k hk).1
  refine ⟨h.below.grown hg hz hr, h.text.keep fun k _ => World.cell?_of_block (hg.block b (by omega) (fun e => by have := hr b e.symm; omega)), h.own4.kept hg (own_ne h.own4 h.own5 (by decide)), ?_⟩
  rw [dcs_snoc, List.length_append]
  exact ho
end
/-- The relation of the loop of the reference's Scan. -/
def RefR (l : List UInt8) (b off : Nat) (w : World) (k : Nat) (v4 v5 v6 v7 v8 : Value) (wr : World) : Prop :=
  ∃ (T : List Tok) (D : List Dg) (p : Nat), p ≤ l.length ∧ l.length - p = k ∧ v6 = .int .i64 (lineOf l p) ∧ v7 = .int .i64 (fromOf l p) ∧ v8 = .int .i64 p ∧ T ++ toks l (nxt l p) = toks l (nxt l 0) ∧ D ++ dgs l (nxt l p) = dgs l (nxt l 0) ∧ RI l b off w v4 v5 T D wr

theorem isW_len (l : List UInt8) (h : isW l = true) : l.length ≤ 32 := by
  have hall : wordsL.all (fun x => decide (x.length ≤ 32)) = true := by decide
  unfold isW at h
  rw [List.contains_iff_mem] at h
  have := List.all_eq_true.1 hall l h
  simpa using this
theorem isB_iff (c : Int) (h0 : 0 ≤ c) (h1 : c ≤ 255) : isB c = (c == 10 || c == 32 || c == 9 || c == 13) := by
  unfold isB
  obtain ⟨n, rfl⟩ := Int.eq_ofNat_of_zero_le h0
  have hn : n < 256 := by omega
  have e : ∀ (m : Nat) (z : Int), m < 256 → z = m → (UInt8.ofNat n == UInt8.ofNat m) = ((n : Int) == z) := fun m z hm hz => by
    rw [Bool.eq_iff_iff]
    simp only [beq_iff_eq]
    constructor
    · intro h
      have h' := congrArg UInt8.toNat h
      simp only [UInt8.toNat_ofNat'] at h'
      omega
    · intro h
      have : n = m := by omega
      rw [this]
  have e1 := e 32 32 (by decide) rfl
  have e2 := e 9 9 (by decide) rfl
  have e3 := e 10 10 (by decide) rfl
  have e4 := e 13 13 (by decide) rfl
  simp only [Int.toNat_natCast, List.contains_cons, List.contains_nil, Bool.or_false]
  rw [show (32 : UInt8) = UInt8.ofNat 32 from rfl, show (9 : UInt8) = UInt8.ofNat 9 from rfl, show (10 : UInt8) = UInt8.ofNat 10 from rfl, show (13 : UInt8) = UInt8.ofNat 13 from rfl, e1, e2, e3, e4]
  cases ((n : Int) == 10) <;> cases ((n : Int) == 32) <;> cases ((n : Int) == 9) <;> simp

theorem bl_false {a b c : Bool} (h : ¬ (a || b || c) = true) : a = false ∧ b = false ∧ c = false := by
  cases a <;> cases b <;> cases c <;> simp_all
theorem tok_meet (l : List UInt8) (p q : Nat) (k n : Int) (h : p < l.length) (hn : nxt l p = p) (hk : ¬ kindA l p = 0) (hq : endA l p = q) (h1 : tkind (kindA l p) ((l.drop p).take (q - p)) = k) (h2 : tnum (kindA l p) ((l.drop p).take (q - p)) = n) :
    (⟨k, (l.drop p).take (q - p), n, lineOf l p, (p : Int) - fromOf l p + 1⟩ : Tok) :: toks l (nxt l q) = toks l (nxt l p) := by
  rw [hn, toks_one l p h hk, hq]
  unfold tokA textA
  rw [hq, h1, h2]
theorem dgs_meet0 (l : List UInt8) (p q : Nat) (D : List Dg) (h : p < l.length) (hn : nxt l p = p) (hq : endA l p = q) (he : errA l p = 0) : D ++ dgs l (nxt l q) = D ++ dgs l (nxt l p) := by
  rw [hn, dgs_skip l p h he, hq]
theorem dgs_meet1 (l : List UInt8) (p q : Nat) (D : List Dg) (e : Int) (h : p < l.length) (hn : nxt l p = p) (hq : endA l p = q) (he : errA l p = e) (h0 : ¬ e = 0) : (D ++ [⟨lineOf l p, (p : Int) - fromOf l p + 1, e⟩]) ++ dgs l (nxt l q) = D ++ dgs l (nxt l p) := by
  rw [hn, dgs_one l p h (by rw [he]; exact h0), hq]
  simp [dgA, he]
theorem kindA_L (l : List UInt8) (p : Nat) (h : isL (chr l p) = true) : kindA l p = 1 := by simp [kindA, kindI, h]
theorem kindA_D (l : List UInt8) (p : Nat) (h : isL (chr l p) = false) (h' : isD (chr l p) = true) : kindA l p = 3 := by simp [kindA, kindI, h, h']
theorem kindA_M (l : List UInt8) (p : Nat) (h : isL (chr l p) = false) (h' : isD (chr l p) = false) (h2 : isM (chr l p) = true) : kindA l p = 4 := by simp [kindA, kindI, h, h', h2]
theorem kindA_0 (l : List UInt8) (p : Nat) (h : isL (chr l p) = false) (h' : isD (chr l p) = false) (h2 : isM (chr l p) = false) : kindA l p = 0 := by simp [kindA, kindI, h, h', h2]
theorem endA_run (l : List UInt8) (p : Nat) (k : Int) (hk : kindA l p = k) (h0 : ¬ k = 0) (h61 : ¬ chr l p = 61) : endA l p = ends l k (p + 1) := by
  unfold endA endT
  rw [hk, if_neg h0, if_neg]
  intro hp
  have := (chr_pre2 _ hp).1
  rw [chr_drop] at this
  exact h61 this
theorem isL_ne (c : Int) (h : isL c = true) : ¬ c = 61 := fun e => by rw [e] at h; exact absurd h (by decide)
theorem isD_ne (c : Int) (h : isD c = true) : ¬ c = 61 := fun e => by rw [e] at h; exact absurd h (by decide)
theorem mk_end (l : List UInt8) (p : Nat) (h : p < l.length) (hk : kindA l p = 4) : (endA l p : Int) = p + mk l p ∧ 0 < mk l p := by
  have hM : isM (chr l p) = true := by
    unfold kindA kindI at hk
    split at hk
    · omega
    · split at hk
      · omega
      · split at hk
        · assumption
        · omega
  unfold endA endT mk
  rw [hk, if_neg (by decide)]
  by_cases hp : pre2 (l.drop p) = true
  · rw [if_pos hp, if_pos hp]; omega
  · rw [if_neg hp, if_neg hp, if_pos hM]
    have hr : ends l 4 (p + 1) = p + 1 := by
      by_cases hl : p + 1 < l.length
      · exact ends_stop l 4 (p + 1) hl (by simp [goes])
      · exact ends_end l 4 (p + 1) (by omega)
    rw [hr]; omega
theorem mk_none (l : List UInt8) (p : Nat) (h : isM (chr l p) = false) : mk l p = 0 := by
  unfold mk
  rw [if_neg, h]
  · rfl
  · intro hp
    have := (chr_pre2 _ hp).1
    rw [chr_drop] at this
    rw [show p + 0 = p from rfl] at this
    rw [this] at h
    exact absurd h (by decide)
end Go.Proofs.Ythgpepkcjjimlaa
