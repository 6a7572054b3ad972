/- token.isWhole, token.Number. -/
import Derived.Test.YthgpepkcjjimlaaTokD
import Derived.Lib.ConvBytes
namespace Go.Proofs.Ythgpepkcjjimlaa
open Go.RowKit

theorem conv_str (l : List UInt8) (w : World) :
    (convert 9 22 (.string ⟨l.toArray⟩)).run Try.prog w = .ok (.slice (some ⟨w.heap.size, 0, none⟩) l.length (grownCap w l.length 0 5)) (Lib.bytesWorld w 5 ⟨l.toArray⟩) := by
  have h := Lib.run_convert_string_bytes (P := Try.prog) w 9 22 5 ⟨l.toArray⟩ Try.underlying9 Try.underlying22 Try.underlying5
  have hs : ByteArray.size ⟨l.toArray⟩ = l.length := by simp [ByteArray.size]
  rw [hs] at h
  exact h
theorem bs_str (l : List UInt8) (w : World) : Bs (Lib.bytesWorld w 5 ⟨l.toArray⟩) w.heap.size 0 l := by
  intro k hk
  rw [Nat.zero_add, Lib.bytesWorld_cell w 5 ⟨l.toArray⟩ k (by simp [ByteArray.size]; exact hk)]
  unfold chr
  rw [List.getD_eq_getElem?_getD]
theorem below_str (s : ByteArray) (w : World) : Below w.heap.size w (Lib.bytesWorld w 5 s) :=
  ⟨rfl, rfl, rfl, by rw [Lib.bytesWorld_size]; omega, fun i hi => Lib.bytesWorld_at_old w _ s i hi⟩

theorem str_at (l : List UInt8) (k : Nat) (h : k < ByteArray.size ⟨l.toArray⟩) : (((⟨l.toArray⟩ : ByteArray)[k]'h).toNat : Int) = chr l k := by
  unfold chr
  have hk : k < l.length := by simpa [ByteArray.size] using h
  rw [List.getElem?_eq_getElem hk]
  rfl
attribute [local go_sem] str_at

def whole (l : List UInt8) (k : Int) : Bool := !l.isEmpty && (kindI (chr l 0) == k) && decide (endT l k 0 = l.length)

set_option maxRecDepth 100000 in
set_option maxHeartbeats 1000000 in
theorem isWhole_ok (l : List UInt8) (k : Int) (w : World) (hn : l.length ≤ 1000000000) :
    Calls Try.prog 50 #[.string ⟨l.toArray⟩, .int .i64 k] w fun e w' => e = .returned (.bool (whole l k)) ∧ Below w.heap.size w w' := by
  by_cases h0 : l.length = 0
  · have hs : l = [] := List.eq_nil_of_length_eq_zero h0
    subst hs
    go_enter Try.func50, Try.ntmps50
    go_wp2_with fail
    go_ret
    exact ⟨rfl, Below.refl _ _⟩
  · have h1 : 0 < l.length := by omega
    have hne : l.isEmpty = false := by cases l <;> simp_all
    go_enter Try.func50, Try.ntmps50
    have hcs := conv_str l w
    have hk := kindAt_ok (chr l 0)
    have he := endOf_ok l w.heap.size 0 (grownCap w l.length 0 5) k 0 _ (bs_str l w) hn (grownCap_ge w _ _ _) h1
    have HE := Lib.hid he
    have HK := Lib.hid hk
    clear hk he
    by_cases hkk : kindI (chr l 0) = k
    · have hkb : (kindI (chr l 0) == k) = true := by simp [hkk]
      have HKK := Lib.hid hkk
      clear hkk
      go_wp2_with (first | (go_at_call 26; refine (HK.out _).mono ?_; rintro e w' ⟨rfl, rfl⟩) | (go_at_call 27; refine HE.out.mono ?_; rintro e w' ⟨rfl, hbl⟩))
      go_ret
      exact ⟨ret_bool (by rw [whole, hne, hkb, Bool.eq_iff_iff]; simp; omega), (below_str _ _).trans (hbl.mono (below_str _ _).size)⟩
    · have hkb : (kindI (chr l 0) == k) = false := by simp [hkk]
      go_wp2_with (go_at_call 26; refine (HK.out _).mono ?_; rintro e w' ⟨rfl, rfl⟩)
      go_ret
      exact ⟨ret_bool (by simp [whole, hkb]), Below.refl _ _⟩

theorem run_all (k : Int) : ∀ l : List UInt8, run k l = l.length → ∀ j, j < l.length → goes k (chr l j) = true
  | [], _, j, hj => by simp at hj
  | x :: r, h, j, hj => by
    simp only [run] at h
    split at h
    · rename_i hx
      rcases j with _ | j
      · simpa [chr] using hx
      · have := run_all k r (by simpa using h) j (by simpa using hj)
        simpa [chr] using this
    · simp at h

theorem chr_pre2 (l : List UInt8) (h : pre2 l = true) : chr l 0 = 61 ∧ chr l 1 = 61 := by
  unfold pre2 at h
  rw [beq_iff_eq] at h
  rcases l with _ | ⟨x, _ | ⟨y, r⟩⟩
  · simp at h
  · simp at h
  · simp at h
    obtain ⟨rfl, rfl⟩ := h
    exact ⟨rfl, rfl⟩

theorem whole_digits (l : List UInt8) (h : whole l 3 = true) : ∀ j, j < l.length → isD (chr l j) = true := by
  unfold whole at h
  simp only [Bool.and_eq_true, beq_iff_eq, decide_eq_true_eq] at h
  obtain ⟨⟨h0, hk⟩, he⟩ := h
  have hd0 : isD (chr l 0) = true := by
    unfold kindI at hk
    split at hk
    · omega
    · split at hk
      · assumption
      · split at hk <;> omega
  unfold endT at he
  split at he
  · rename_i hp
    rw [List.drop_zero] at hp
    have := (chr_pre2 l hp).1
    rw [this] at hd0
    exact absurd hd0 (by decide)
  · unfold ends at he
    rw [Nat.zero_add] at he
    have hr : run 3 (l.drop 1) = (l.drop 1).length := by
      rw [List.length_drop]; omega
    intro j hj
    rcases j with _ | j
    · exact hd0
    · have := run_all 3 (l.drop 1) hr j (by rw [List.length_drop]; omega)
      rw [chr_drop] at this
      rw [Nat.add_comm] at this
      simpa [goes] using this

def numF : Int → List UInt8 → Option Int
  | n, [] => some n
  | n, x :: r => if 2147483647 < n * 10 + ((x.toNat : Int) - 48) then none else numF (n * 10 + ((x.toNat : Int) - 48)) r
def numA (l : List UInt8) (n : Int) (j : Nat) : Option Int := numF n (l.drop j)
theorem numA_end (l : List UInt8) (n : Int) (j : Nat) (h : l.length ≤ j) : numA l n j = some n := by
  unfold numA; rw [List.drop_of_length_le h]; rfl
theorem numA_big (l : List UInt8) (n : Int) (j : Nat) (h : j < l.length) (hb : 2147483647 < n * 10 + (chr l j - 48)) : numA l n j = none := by
  obtain ⟨x, hd, hx⟩ := drop_chr l j h
  rw [hx] at hb
  unfold numA; rw [hd]; simp only [numF]; rw [if_pos hb]
theorem numA_more (l : List UInt8) (n : Int) (j : Nat) (h : j < l.length) (hb : ¬ 2147483647 < n * 10 + (chr l j - 48)) : numA l n j = numA l (n * 10 + (chr l j - 48)) (j + 1) := by
  obtain ⟨x, hd, hx⟩ := drop_chr l j h
  rw [hx] at hb ⊢
  unfold numA; rw [hd]; simp only [numF]; rw [if_neg hb]
def numT (l : List UInt8) : Int × Bool := if whole l 3 = true then (match numA l 0 0 with | some n => (n, true) | none => (0, false)) else (0, false)

theorem ret_pair {k : IntKind} {a b : Int} {c d : Bool} (h : a = b) (h' : c = d) : Ending.returned (.tuple #[.int k a, .bool c]) = .returned (.tuple #[.int k b, .bool d]) := by rw [h, h']

set_option maxRecDepth 100000 in
set_option maxHeartbeats 1000000 in
theorem number_ok (l : List UInt8) (w : World) (hn : l.length ≤ 1000000000) :
    Calls Try.prog 38 #[.string ⟨l.toArray⟩] w fun e w' => e = .returned (.tuple #[.int .i64 (numT l).1, .bool (numT l).2]) ∧ Below w.heap.size w w' := by
  have hw := isWhole_ok l 3 w hn
  cases hwh : whole l 3
  · have HN : Hid (numT l = (0, false)) := Lib.hid (by simp [numT, hwh])
    rw [hwh] at hw
    have HW := Lib.hid hw
    clear hw hwh
    go_enter Try.func38, Try.ntmps38
    go_wp2_with (go_at_call 50; refine HW.out.mono ?_; rintro e w' ⟨rfl, hbl⟩)
    go_ret2
    exact ⟨by rw [HN.out]; rfl, hbl⟩
  · have HD := Lib.hid (whole_digits l hwh)
    have HN : Hid (numT l = match numA l 0 0 with | some n => (n, true) | none => (0, false)) := Lib.hid (by simp [numT, hwh])
    rw [hwh] at hw
    have HW := Lib.hid hw
    clear hw hwh
    go_enter Try.func38, Try.ntmps38
    go_wp2_with (go_at_call 50; refine HW.out.mono ?_; rintro e w' ⟨rfl, hbl⟩)
    have HBL := Lib.hid hbl
    clear hbl
    go_loop [4, 11] (fun n i => ∃ (m : Int) (j : Nat), 0 ≤ m ∧ m ≤ 2147483647 ∧ j ≤ l.length ∧ n = .int .i64 m ∧ i = .int .i64 j ∧ Hid (numA l m j = numA l 0 0)) (fun _ i => l.length - (intOf i).toNat)
    case atStart => exact ⟨0, 0, by omega, by omega, by omega, rfl, rfl, Lib.hid rfl⟩
    case round =>
      obtain ⟨m, j, hm0, hm1, hj, rfl, rfl, HJ⟩ := hrel
      by_cases hlj : j < l.length
      · have hd := HD.out j hlj
        have hd1 : 48 ≤ chr l j := by simp [isD] at hd; omega
        have hd2 : chr l j ≤ 57 := by simp [isD] at hd; omega
        clear hd
        by_cases hbig : 2147483647 < m * 10 + (chr l j - 48)
        · go_wp2
          go_ret2
          exact ⟨ret_pair (by rw [HN.out, ← HJ.out, numA_big l m j hlj hbig]) (by rw [HN.out, ← HJ.out, numA_big l m j hlj hbig]), HBL.out⟩
        · go_wp2
          go_round
          case rel => exact ⟨m * 10 + (chr l j - 48), j + 1, by omega, by omega, by omega, rfl, by go_num, Lib.hid ((numA_more l m j hlj hbig).symm.trans HJ.out)⟩
          case measure => simp [intOf]; omega
      · go_wp2
        go_ret2
        exact ⟨ret_pair (by rw [HN.out, ← HJ.out, numA_end l m j (by omega)]) (by rw [HN.out, ← HJ.out, numA_end l m j (by omega)]), HBL.out⟩
end Go.Proofs.Ythgpepkcjjimlaa
