/- token.endOf, token.isWhole, token.Number. -/
import Derived.Test.YthgpepkcjjimlaaTokC
import Derived.Laws.IdiomStrings
namespace Go.Proofs.Ythgpepkcjjimlaa
open Go.RowKit

/-- How many bytes go on as kind k does. -/
def run (k : Int) : List UInt8 → Nat
  | [] => 0
  | x :: r => if goes k x.toNat = true then run k r + 1 else 0
theorem run_le (k : Int) : ∀ l : List UInt8, run k l ≤ l.length
  | [] => by simp [run]
  | x :: r => by
    have := run_le k r
    simp only [run]; split <;> simp; omega
def ends (l : List UInt8) (k : Int) (j : Nat) : Nat := j + run k (l.drop j)
theorem ends_le (l : List UInt8) (k : Int) (j : Nat) (h : j ≤ l.length) : ends l k j ≤ l.length := by
  unfold ends
  have := run_le k (l.drop j)
  simp at this; omega
theorem ends_ge (l : List UInt8) (k : Int) (j : Nat) : j ≤ ends l k j := by unfold ends; omega
theorem ends_end (l : List UInt8) (k : Int) (j : Nat) (h : l.length ≤ j) : ends l k j = j := by
  unfold ends; rw [List.drop_of_length_le h]; simp [run]
theorem ends_more (l : List UInt8) (k : Int) (j : Nat) (h : j < l.length) (hg : goes k (chr l j) = true) : ends l k j = ends l k (j + 1) := by
  obtain ⟨x, hd, hx⟩ := drop_chr l j h
  rw [hx] at hg
  unfold ends; rw [hd]; simp only [run]; rw [if_pos hg]; omega
theorem ends_stop (l : List UInt8) (k : Int) (j : Nat) (h : j < l.length) (hg : goes k (chr l j) = false) : ends l k j = j := by
  obtain ⟨x, hd, hx⟩ := drop_chr l j h
  rw [hx] at hg
  unfold ends; rw [hd]; simp only [run]; rw [hg]; simp

def endT (l : List UInt8) (k : Int) (p : Nat) : Nat := if pre2 (l.drop p) = true then p + 2 else ends l k (p + 1)

theorem pre2_len (l : List UInt8) (h : pre2 l = true) : 2 ≤ l.length := by
  unfold pre2 at h
  rw [beq_iff_eq] at h
  have := congrArg List.length h
  simp at this
  omega

set_option maxRecDepth 100000 in
set_option maxHeartbeats 1000000 in
theorem endOf_ok (l : List UInt8) (b off cap : Nat) (k : Int) (p : Nat) (w : World) (hb : Bs w b off l) (hn : l.length ≤ 1000000000) (hc : l.length ≤ cap) (hp : p < l.length) :
    Calls Try.prog 27 #[.slice (some ⟨b, off, none⟩) l.length cap, .int .i64 p, .int .i64 k] w fun e w' => e = .returned (.int .i64 (endT l k p)) ∧ Below w.heap.size w w' := by
  have kc := fun (w : World) (C : Array Value) (n c : Nat) => Lib.run_convert_bytes_const (P := Try.prog) w 22 5 C n c Try.underlying22 Try.underlying5
  have hb1 : Bs (w.alloc (.cells #[.int .u8 61, .int .u8 61] 5 (2, 3))) b (off + p) (l.drop p) := (hb.rest p).alloc _
  have hb2 : Bs (w.alloc (.cells #[.int .u8 61, .int .u8 61] 5 (2, 3))) b off l := hb.alloc _
  have hb3 : Bs (w.alloc (.cells #[.int .u8 61, .int .u8 61] 5 (2, 3))) w.heap.size 0 [61, 61] := fun i hi => by
    simp at hi
    rw [World.cell?_alloc_mark]
    rcases i with _ | _ | i
    · rfl
    · rfl
    · omega
  have hw : Below w.heap.size w (w.alloc (.cells #[.int .u8 61, .int .u8 61] 5 (2, 3))) := (Below.refl _ _).alloc (Nat.le_refl _) _
  have HB1 := Lib.hid hb1
  have HB2 := Lib.hid hb2
  have HB3 := Lib.hid hb3
  have HW := Lib.hid hw
  clear hb hb1 hb2 hb3 hw
  have hd : (l.drop p).length = l.length - p := by simp
  have hcon := hasPrefix_ok (l.drop p) b (off + p) (cap - p) w.heap.size 0 2 _ HB1.out HB3.out (by omega) (by omega)
  rw [hd] at hcon
  have HC := Lib.hid hcon
  clear hcon hd
  have hcap : ¬ cap = p := by omega
  have hcap2 : p ≤ cap := by omega
  cases hpre : pre2 (l.drop p)
  · have HE : Hid (endT l k p = ends l k (p + 1)) := Lib.hid (by simp [endT, hpre])
    rw [hpre] at HC
    clear hpre
    go_enter Try.func27, Try.ntmps27
    go_wp2_with (go_at_call 36; refine HC.out.mono ?_; rintro e w' ⟨rfl, rfl⟩)
    go_loop [7] (fun i => ∃ j : Nat, p + 1 ≤ j ∧ j ≤ l.length ∧ i = .int .i64 j ∧ Hid (ends l k j = ends l k (p + 1))) (fun i => l.length - (intOf i).toNat)
    case atStart => exact ⟨p + 1, Nat.le_refl _, by omega, by go_num, Lib.hid rfl⟩
    case round =>
      obtain ⟨j, hpj, hj, rfl, HJ⟩ := hrel
      by_cases hlj : j < l.length
      · have hcell := HB2.out j hlj
        cases hg : goes k (chr l j)
        · have HG := Lib.hid hg
          have hcon := goesOn_ok (chr l j) k
          simp only [hg] at hcon
          have HC2 := Lib.hid hcon
          clear hg hcon
          go_wp2_with (go_at_call 37; refine (HC2.out _).mono ?_; rintro e w' ⟨rfl, rfl⟩)
          go_ret
          exact ⟨ret_int (by rw [HE.out, ← HJ.out, ends_stop l k j hlj HG.out]), HW.out⟩
        · have HG := Lib.hid hg
          have hcon := goesOn_ok (chr l j) k
          simp only [hg] at hcon
          have HC2 := Lib.hid hcon
          clear hg hcon
          go_wp2_with (go_at_call 37; refine (HC2.out _).mono ?_; rintro e w' ⟨rfl, rfl⟩)
          go_round
          case rel => exact ⟨j + 1, by omega, by omega, by go_num, Lib.hid ((ends_more l k j hlj HG.out).symm.trans HJ.out)⟩
          case measure => simp [intOf]; omega
      · have hlf : decide (j < l.length) = false := by simp; omega
        go_wp2
        go_ret
        exact ⟨ret_int (by rw [HE.out, ← HJ.out, ends_end l k j (by omega)]), HW.out⟩
  · have HE : Hid (endT l k p = p + 2) := Lib.hid (by simp [endT, hpre])
    rw [hpre] at HC
    clear hpre
    go_enter Try.func27, Try.ntmps27
    go_wp2_with (go_at_call 36; refine HC.out.mono ?_; rintro e w' ⟨rfl, rfl⟩)
    go_ret
    exact ⟨ret_int (by rw [HE.out]; go_num), HW.out⟩
end Go.Proofs.Ythgpepkcjjimlaa
