/- The reference's Words, IsWord, Number, mark. -/
import Derived.Test.YthgpepkcjjimlaaTokL
namespace Go.Proofs.Ythgpepkcjjimlaa
open Go.RowKit

def scs (ws : List (List UInt8)) : List Value := ws.map fun s => Value.string ⟨s.toArray⟩

set_option maxRecDepth 100000 in
theorem refWords_ok (w : World) :
    Calls Try.prog 19 #[] w fun e w' => e = .returned (.slice (some ⟨w.heap.size, 0, none⟩) 36 36) ∧ w' = w.alloc (.cells (scs wordsL).toArray 9) := by
  go_enter Try.func19, Try.ntmps19
  go_wp2
  go_ret
  exact ⟨rfl, rfl⟩

theorem words_at (w : World) (k : Nat) (h : k < 36) : (w.alloc (.cells (scs wordsL).toArray 9)).cell? ⟨w.heap.size, k, none⟩ = some (.string ⟨(wordsL.getD k []).toArray⟩) := by
  rw [cell_of_row _ w.heap.size k _ 9 (0, 0) (heap_alloc_new w _)]
  have hl : k < wordsL.length := h
  unfold scs
  simp [List.getD, List.getElem?_eq_getElem hl]

theorem isW_take (l : List UInt8) (k : Nat) (h : k < 36) (hn : (wordsL.take k).contains l = false) (hne : ¬ wordsL.getD k [] = l) : (wordsL.take (k + 1)).contains l = false := by
  have hl : k < wordsL.length := h
  rw [List.take_succ_eq_append_getElem hl]
  simp only [List.getD, List.getElem?_eq_getElem hl, Option.getD_some] at hne
  rw [Bool.eq_false_iff] at hn ⊢
  intro hc
  rw [List.contains_iff_mem, List.mem_append] at hc
  rcases hc with hc | hc
  · exact hn (by rw [List.contains_iff_mem]; exact hc)
  · simp at hc; exact hne hc.symm
theorem isW_hit (l : List UInt8) (k : Nat) (h : k < 36) (he : wordsL.getD k [] = l) : isW l = true := by
  have hl : k < wordsL.length := h
  simp only [List.getD, List.getElem?_eq_getElem hl, Option.getD_some] at he
  unfold isW
  rw [List.contains_iff_mem, ← he]
  exact List.getElem_mem hl

set_option maxRecDepth 100000 in
set_option maxHeartbeats 1000000 in
theorem refIsWord_ok (l : List UInt8) (w : World) :
    Calls Try.prog 13 #[.string ⟨l.toArray⟩] w fun e w' => e = .returned (.bool (isW l)) ∧ Below w.heap.size w w' := by
  have HW := Lib.hid (words_at w)
  have HB := Lib.hid ((Below.refl w.heap.size w).alloc (Nat.le_refl _) (.cells (scs wordsL).toArray 9))
  go_enter Try.func13, Try.ntmps13
  go_wp2_with (go_at_call 19; refine (refWords_ok _).mono ?_; rintro e w' ⟨rfl, rfl⟩)
  generalize w.alloc (.cells (scs wordsL).toArray 9) = w1 at HW HB ⊢
  go_loop [4] (fun i => ∃ k : Nat, k ≤ 36 ∧ i = .int .i64 k ∧ Hid ((wordsL.take k).contains l = false)) (fun i => 36 - (intOf i).toNat)
  case atStart => exact ⟨0, by omega, rfl, Lib.hid rfl⟩
  case round =>
    obtain ⟨k, hk, rfl, HK⟩ := hrel
    by_cases hlt : k < 36
    · have hcell := HW.out k hlt
      generalize hx : wordsL.getD k [] = x at hcell
      by_cases hxl : x = l
      · have HXL := Lib.hid hxl
        have hb : (x == l) = true := by simp [hxl]
        have HX := Lib.hid hx
        clear hxl hx
        go_wp2
        go_ret
        exact ⟨ret_bool (isW_hit l k hlt (HX.out.trans HXL.out)).symm, HB.out⟩
      · have HXL := Lib.hid hxl
        have hb : (x == l) = false := by simp [hxl]
        have HX := Lib.hid hx
        clear hxl hx
        go_wp2
        go_round
        case rel => exact ⟨k + 1, by omega, by go_num, Lib.hid (isW_take l k hlt HK.out (fun e => HXL.out (HX.out.symm.trans e)))⟩
        case measure => simp [intOf]; omega
    · obtain rfl : k = 36 := by omega
      go_wp2
      go_ret
      exact ⟨ret_bool (show false = isW l from HK.out.symm), HB.out⟩

/-- The reference's number: digits gone through, held at a bound. -/
def rnF : Int → List UInt8 → Option Int
  | n, [] => some n
  | n, x :: r => if isD x.toNat = true then rnF (min (10 * n + ((x.toNat : Int) - 48)) 1099511627776) r else none
def rnA (l : List UInt8) (n : Int) (j : Nat) : Option Int := rnF n (l.drop j)
theorem rnA_end (l : List UInt8) (n : Int) (j : Nat) (h : l.length ≤ j) : rnA l n j = some n := by
  unfold rnA; rw [List.drop_of_length_le h]; rfl
theorem rnA_not (l : List UInt8) (n : Int) (j : Nat) (h : j < l.length) (hd : isD (chr l j) = false) : rnA l n j = none := by
  obtain ⟨x, hx, hc⟩ := drop_chr l j h
  rw [hc] at hd
  unfold rnA; rw [hx]; simp only [rnF]; rw [hd]; rfl
theorem rnA_more (l : List UInt8) (n : Int) (j : Nat) (h : j < l.length) (hd : isD (chr l j) = true) : rnA l n j = rnA l (min (10 * n + (chr l j - 48)) 1099511627776) (j + 1) := by
  obtain ⟨x, hx, hc⟩ := drop_chr l j h
  rw [hc] at hd ⊢
  unfold rnA; rw [hx]; simp only [rnF]; rw [if_pos hd]
def rnT (l : List UInt8) : Int × Bool := match rnA l 0 0 with | some n => if l = [] ∨ 2147483647 < n then (0, false) else (n, true) | none => (0, false)

theorem rnF_big : ∀ (l : List UInt8) (n m : Int), 2147483647 < n → rnF n l = some m → 2147483647 < m
  | [], n, m, hn, h => by simp [rnF] at h; omega
  | x :: r, n, m, hn, h => by
    simp only [rnF] at h
    split at h
    · rename_i hd
      refine rnF_big r _ m ?_ h
      simp [isD] at hd
      omega
    · cases h
theorem rnF_num : ∀ (l : List UInt8) (n : Int), 0 ≤ n → n ≤ 2147483647 → (∀ x ∈ l, isD x.toNat = true) →
    (∃ m, numF n l = some m ∧ rnF n l = some m ∧ m ≤ 2147483647) ∨ (numF n l = none ∧ ∃ m, rnF n l = some m ∧ 2147483647 < m)
  | [], n, h0, h1, _ => .inl ⟨n, rfl, rfl, h1⟩
  | x :: r, n, h0, h1, hd => by
    have hx := hd x (List.mem_cons_self ..)
    have hx' := hx
    simp [isD] at hx'
    have hr : ∀ y ∈ r, isD y.toNat = true := fun y hy => hd y (List.mem_cons_of_mem _ hy)
    have e : min (10 * n + ((x.toNat : Int) - 48)) 1099511627776 = n * 10 + ((x.toNat : Int) - 48) := by omega
    simp only [numF, rnF]
    rw [if_pos hx, e]
    by_cases hb : 2147483647 < n * 10 + ((x.toNat : Int) - 48)
    · rw [if_pos hb]
      refine .inr ⟨rfl, ?_⟩
      have hs : ∀ (k : List UInt8) (q : Int), (∀ y ∈ k, isD y.toNat = true) → ∃ m, rnF q k = some m := by
        intro k
        induction k with
        | nil => exact fun q _ => ⟨q, rfl⟩
        | cons y k ih =>
          intro q hk
          simp only [rnF]
          rw [if_pos (hk y (List.mem_cons_self ..))]
          exact ih _ (fun z hz => hk z (List.mem_cons_of_mem _ hz))
      obtain ⟨m, hm⟩ := hs r (n * 10 + ((x.toNat : Int) - 48)) hr
      exact ⟨m, hm, rnF_big r _ m hb hm⟩
    · rw [if_neg hb]
      exact rnF_num r _ (by omega) (by omega) hr
theorem rnF_digits : ∀ (l : List UInt8) (n m : Int), rnF n l = some m → ∀ x ∈ l, isD x.toNat = true
  | [], _, _, _, x, hx => by cases hx
  | y :: r, n, m, h, x, hx => by
    simp only [rnF] at h
    split at h
    · rename_i hd
      rcases List.mem_cons.1 hx with rfl | hx
      · exact hd
      · exact rnF_digits r _ m h x hx
    · cases h
theorem run_of_all (k : Int) : ∀ l : List UInt8, (∀ x ∈ l, goes k x.toNat = true) → run k l = l.length
  | [], _ => rfl
  | x :: r, h => by
    simp only [run]
    rw [if_pos (h x (List.mem_cons_self ..)), run_of_all k r (fun y hy => h y (List.mem_cons_of_mem _ hy))]
    rfl
theorem mem_chr (l : List UInt8) (x : UInt8) (h : x ∈ l) : ∃ j, j < l.length ∧ chr l j = (x.toNat : Int) := by
  obtain ⟨j, hj, e⟩ := List.getElem_of_mem h
  refine ⟨j, hj, ?_⟩
  unfold chr
  rw [List.getElem?_eq_getElem hj, e]; rfl
theorem digits_whole (l : List UInt8) (hne : l ≠ []) (h : ∀ x ∈ l, isD x.toNat = true) : whole l 3 = true := by
  rcases l with _ | ⟨x, r⟩
  · exact absurd rfl hne
  · have hx := h x (List.mem_cons_self ..)
    have hc : chr (x :: r) 0 = (x.toNat : Int) := rfl
    have hnl : isL (x.toNat : Int) = false := by
      simp [isD] at hx
      rw [Bool.eq_false_iff]
      simp [isL]
      omega
    have hk : kindI (chr (x :: r) 0) = 3 := by rw [hc]; simp [kindI, hnl, hx]
    have hp : pre2 ((x :: r).drop 0) = false := by
      rw [Bool.eq_false_iff]
      intro hp
      have := (chr_pre2 _ hp).1
      rw [List.drop_zero, hc] at this
      simp [isD] at hx
      omega
    have hr : run 3 r = r.length := run_of_all 3 r (fun y hy => by simp [goes, h y (List.mem_cons_of_mem _ hy)])
    unfold whole endT ends
    rw [hk, hp]
    simp [hr]
    omega
theorem rnT_eq (l : List UInt8) : rnT l = numT l := by
  unfold rnT numT
  by_cases hw : whole l 3 = true
  · rw [if_pos hw]
    have hd := whole_digits l hw
    have hne : l ≠ [] := fun e => by subst e; exact absurd hw (by decide)
    have hall : ∀ x ∈ l, isD x.toNat = true := fun x hx => by
      obtain ⟨j, hj, e⟩ := mem_chr l x hx
      rw [← e]; exact hd j hj
    have hr := rnF_num l 0 (by omega) (by omega) hall
    unfold rnA numA
    rw [List.drop_zero]
    rcases hr with ⟨m, h1, h2, h3⟩ | ⟨h1, m, h2, h3⟩
    · rw [h1, h2]
      have : ¬ (l = [] ∨ 2147483647 < m) := by
        rintro (h | h)
        · exact hne h
        · omega
      simp only [if_neg this]
    · rw [h1, h2]
      simp only [if_pos (Or.inr h3 : l = [] ∨ 2147483647 < m)]
  · rw [if_neg hw]
    cases hr : rnA l 0 0 with
    | none => rfl
    | some m =>
      have hd := rnF_digits _ _ _ hr
      rw [List.drop_zero] at hd
      have hl : l = [] := by
        by_cases hne : l = []
        · exact hne
        · exact absurd (digits_whole l hne hd) hw
      simp [hl]
end Go.Proofs.Ythgpepkcjjimlaa
