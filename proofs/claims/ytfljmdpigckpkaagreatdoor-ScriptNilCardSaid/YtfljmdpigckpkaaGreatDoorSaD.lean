/- The document's digits, numbers, and which entries may be. -/
import Derived.Test.YtfljmdpigckpkaaGreatDoorSaC
import Derived.Lib.SlBytesConst
import Derived.Laws.BytesArg
import Derived.Lib.ItoaLen
namespace Go.Proofs.YtfljmdpigckpkaaGreatDoor
open Go.RowKit Go.Shelf
attribute [local go_sem] Oper.semAt_some
theorem str_ext {a b : ByteArray} (h : a.data.toList = b.data.toList) : a = b := by
  cases a with
  | mk x =>
    cases b with
    | mk y =>
      congr 1
      exact Array.ext' h
theorem str_size (a : List UInt8) : ByteArray.size ⟨a.toArray⟩ = a.length := by simp [ByteArray.size]
theorem al_cell {w : World} {cs : Array Value} {ty : TypeId} {k : Nat} {v : Value} (h : cs[k]? = some v) : (w.alloc (.cells cs ty)).cell? ⟨w.heap.size, k, none⟩ = some v := by
  have h0 : (w.alloc (.cells cs ty)).heap[w.heap.size]? = some (.cells cs ty (0, 0)) := World.alloc_heap_new w _
  unfold World.cell?
  dsimp only
  rw [h0]
  exact h
def chr (l : List UInt8) (k : Nat) : Int := ((l[k]?.getD 0).toNat : Int)
set_option maxRecDepth 100000 in
theorem conv_one {w : World} {b : Nat} {c : UInt8} (h : w.cell? ⟨b, 0, none⟩ = some (.int .u8 (c.toNat : Int))) (cap : Nat) :
    (convert 181 9 (.slice (some ⟨b, 0, none⟩) 1 cap)).run Tryz.prog w = .ok (.string ⟨#[c]⟩) w := by
  have := run_convert_bytes_arg (P := Tryz.prog) w 181 5 Tryz.underlying181 Tryz.underlying5 b 0 1 cap [(c.toNat : Int)] (by simp) (fun i hi => by
    obtain rfl : i = 0 := by omega
    rw [h]
    rfl) 9 Tryz.underlying9
  rw [this]
  congr 2
  unfold strOfNums
  simp
theorem dec_step (n : Nat) (h : 0 < n) : Lib.decDigits n = (if n / 10 = 0 then [] else Lib.decDigits (n / 10)) ++ [UInt8.ofNat (48 + n % 10)] := by
  conv => lhs; rw [Lib.decDigits]
  split
  · rename_i h10
    rw [if_pos (by omega), Nat.mod_eq_of_lt h10]
    rfl
  · rw [if_neg (by omega)]
theorem itoa_min : Lib.itoa (-9223372036854775808) = [45, 57, 50, 50, 51, 51, 55, 50, 48, 51, 54, 56, 53, 52, 55, 55, 53, 56, 48, 56] := by
  unfold Lib.itoa
  rw [if_pos (by decide)]
  simp [Lib.decDigits]
theorem itoa_len {n : Int} (h : i64 n) : (Lib.itoa n).length ≤ 21 := Lib.itoa_length_le n h.1 h.2
end Go.Proofs.YtfljmdpigckpkaaGreatDoor
