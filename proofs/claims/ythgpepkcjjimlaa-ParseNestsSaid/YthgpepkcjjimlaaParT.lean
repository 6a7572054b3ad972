/- Each part of the grammar, for every number of rounds. -/
import Derived.Test.YthgpepkcjjimlaaParR
import Derived.Test.YthgpepkcjjimlaaParS
import Derived.Test.YthgpepkcjjimlaaParO
namespace Go.Proofs.Ythgpepkcjjimlaa
open Go.RowKit

structure Parts (i : Nat) : Prop where
  block : Ct 47 i .block
  stmt : Ct 63 i .stmt
  term : Ct 78 i .term
  sum : Ct 82 i .sum
  product : Ct 86 i .product
  unary : Ct 88 i .unary
  tight : Ct 84 i .tight
  first : Ct 87 i .first
  var : Ct 81 i .var
  perh : CtTo i
theorem ct_zero (f : Nat) (g : Gr) : Ct f 0 g := fun _ _ _ _ _ _ _ hnd => absurd rfl hnd
theorem parts_all : ∀ n i, i ≤ n → Parts i
  | 0, i, h => by
    obtain rfl : i = 0 := by omega
    exact ⟨ct_zero _ _, ct_zero _ _, ct_zero _ _, ct_zero _ _, ct_zero _ _, ct_zero _ _, ct_zero _ _, ct_zero _ _, ct_zero _ _, fun _ _ _ _ _ _ _ _ _ _ hnd => absurd rfl hnd⟩
  | n + 1, i, h => by
    have ih := parts_all n
    by_cases hi : i ≤ n
    · exact ih i hi
    obtain rfl : i = n + 1 := by omega
    have hn := ih n (Nat.le_refl _)
    exact ⟨block_ok n (Lib.hid fun i hi => (ih i hi).stmt), statement_ok n (Lib.hid hn.term) (Lib.hid hn.block) (Lib.hid hn.var) (Lib.hid hn.perh), term_ok n (Lib.hid hn.sum), sum_ok n (Lib.hid fun i hi => (ih i hi).product), product_ok n (Lib.hid fun i hi => (ih i hi).unary), unary_ok n (Lib.hid hn.unary) (Lib.hid hn.tight), tight_ok n (Lib.hid hn.first) (Lib.hid fun i hi => (ih i hi).term), first_ok n (Lib.hid hn.block) (Lib.hid hn.term), variable_ok n (Lib.hid hn.tight), to_ok (n + 1) (Lib.hid fun i hi => (ih i (by omega)).var)⟩
theorem blocks (n : Nat) : Hid (∀ i, i ≤ n → Ct 47 i .block) := Lib.hid fun i hi => (parts_all n i hi).block
theorem decls_ct : ∀ n, Ct 29 n .decl
  | 0 => ct_zero _ _
  | n + 1 => declaration_ok n (blocks n)
end Go.Proofs.Ythgpepkcjjimlaa
