/- token.endOf: where a token ends; with bytes.HasPrefix and bytes.Equal at texts in memory. -/
import Derived.Test.YthgpepkcjjimlaaTokB
import Derived.Lib.SlBytesConst
import Derived.Laws.BytesArg
import Derived.Below
namespace Go.Proofs.Ythgpepkcjjimlaa
open Go.RowKit

theorem Bs.cells {w : World} {b off : Nat} {l : List UInt8} (h : Bs w b off l) (k : Nat) (hk : k < l.length) : w.cell? ⟨b, off + k, none⟩ = some (.int .u8 (chr l k)) := h k hk
theorem chr_take (l : List UInt8) (m k : Nat) (h : k < m) : chr (l.take m) k = chr l k := by
  unfold chr; rw [List.getElem?_take, if_pos h]
theorem chr_drop (l : List UInt8) (i k : Nat) : chr (l.drop i) k = chr l (i + k) := by
  unfold chr; rw [List.getElem?_drop]
theorem Bs.part {w : World} {b off : Nat} {l : List UInt8} (h : Bs w b off l) (i m : Nat) : Bs w b (off + i) ((l.drop i).take m) := by
  intro k hk
  have hk' := hk
  rw [List.length_take, List.length_drop] at hk'
  rw [chr_take _ _ _ (by omega), chr_drop, Nat.add_assoc]
  exact h (i + k) (by omega)
theorem Bs.rest {w : World} {b off : Nat} {l : List UInt8} (h : Bs w b off l) (i : Nat) : Bs w b (off + i) (l.drop i) := by
  intro k hk
  rw [List.length_drop] at hk
  rw [chr_drop, Nat.add_assoc]
  exact h (i + k) (by omega)
theorem Bs.keep {w w' : World} {b off : Nat} {l : List UInt8} (h : Bs w b off l) (hk : ∀ k, k < l.length → w'.cell? ⟨b, off + k, none⟩ = w.cell? ⟨b, off + k, none⟩) : Bs w' b off l :=
  fun k hl => (hk k hl).trans (h k hl)
theorem Bs.lt {w : World} {b off : Nat} {l : List UInt8} (h : Bs w b off l) (h0 : 0 < l.length) : b < w.heap.size := World.block_lt_of_cell? w _ (h 0 h0)
theorem Bs.below {w w' : World} {b off B : Nat} {l : List UInt8} (h : Bs w b off l) (hb : Below B w w') (hlt : b < B) : Bs w' b off l :=
  h.keep fun _ _ => hb.cell (by exact hlt)
theorem Bs.alloc {w : World} {b off : Nat} {l : List UInt8} (h : Bs w b off l) (o : Obj) : Bs (w.alloc o) b off l :=
  h.keep fun k hk => World.cell?_alloc_lt w o _ (World.block_lt_of_cell? w _ (h k hk))

theorem conv_bs {w : World} {b off : Nat} {l : List UInt8} (h : Bs w b off l) (cap : Nat) :
    (convert 22 9 (.slice (some ⟨b, off, none⟩) l.length cap)).run Try.prog w = .ok (.string ⟨l.toArray⟩) w := by
  have := run_convert_bytes_arg (P := Try.prog) w 22 5 Try.underlying22 Try.underlying5 b off l.length cap (l.map fun x => (x.toNat : Int)) (by simp) (fun i hi => by
    rw [h i hi]
    unfold chr
    simp [hi]) 9 Try.underlying9
  rw [this]
  congr 2
  unfold strOfNums
  rw [List.map_map]
  congr 2
  conv => rhs; rw [← List.map_id l]
  apply List.map_congr_left
  intro x _
  simp

theorem equal_ok (v1 v2 : Value) (l1 l2 : List UInt8) (w : World) (h1 : (convert 22 9 v1).run Try.prog w = .ok (.string ⟨l1.toArray⟩) w) (h2 : (convert 22 9 v2).run Try.prog w = .ok (.string ⟨l2.toArray⟩) w) :
    Calls Try.prog 49 #[v1, v2] w fun e w' => e = .returned (.bool (l1 == l2)) ∧ w = w' := by
  go_enter Try.func49, Try.ntmps49
  go_wp2
  go_ret
  exact ⟨rfl, rfl⟩

def pre2 (l : List UInt8) : Bool := l.take 2 == [61, 61]

set_option maxRecDepth 100000 in
theorem hasPrefix_ok (l : List UInt8) (b1 o1 c b2 o2 d : Nat) (w : World) (h1 : Bs w b1 o1 l) (h2 : Bs w b2 o2 [61, 61]) (hc : l.length ≤ c) (hn : l.length ≤ 1000000000) :
    Calls Try.prog 36 #[.slice (some ⟨b1, o1, none⟩) l.length c, .slice (some ⟨b2, o2, none⟩) 2 d] w fun e w' => e = .returned (.bool (pre2 l)) ∧ w = w' := by
  have c2 := conv_bs h2 d
  have C2 := Lib.hid c2
  have H1 := Lib.hid h1
  clear c2 h1 h2
  by_cases hl : 2 ≤ l.length
  · have c1 := conv_bs (H1.out.part 0 2) c
    simp only [List.drop_zero, Nat.add_zero, List.length_take, Nat.min_eq_left hl] at c1
    have C1 := Lib.hid c1
    clear c1 H1
    have hcap : 2 ≤ c := by omega
    go_enter Try.func36, Try.ntmps36
    go_wp2_with (go_at_call 49; refine (equal_ok _ _ _ _ _ C1.out C2.out).mono ?_; rintro e w' ⟨rfl, rfl⟩)
    go_ret
    exact ⟨rfl, rfl⟩
  · have hp : pre2 l = false := by
      unfold pre2
      rw [beq_eq_false_iff_ne]
      intro h
      have := congrArg List.length h
      simp at this
      omega
    rw [hp]
    clear hp
    go_enter Try.func36, Try.ntmps36
    go_wp2
    go_ret
    exact ⟨rfl, rfl⟩
end Go.Proofs.Ythgpepkcjjimlaa
