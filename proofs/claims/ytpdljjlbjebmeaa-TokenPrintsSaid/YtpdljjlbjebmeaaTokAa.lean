/- The reference's Print. -/
import Derived.Test.YtpdljjlbjebmeaaTokZ
namespace Go.Proofs.Ytpdljjlbjebmeaa
open Go.RowKit

theorem str_app (a b : List UInt8) : (⟨a.toArray⟩ : ByteArray) ++ ⟨b.toArray⟩ = ⟨(a ++ b).toArray⟩ := by
  apply ByteArray.ext
  simp

def RpR (T : List Tok) (w : World) (k : Nat) (v3 v4 : Value) (wr : World) : Prop :=
  ∃ i, i + k = T.length ∧ v4 = .int .i64 i ∧ v3 = .string ⟨(pr (T.take i)).toArray⟩ ∧ wr = w

set_option maxRecDepth 100000 in
set_option maxHeartbeats 1000000 in
theorem refPrint_ok (T : List Tok) (A : Option Addr) (cap : Nat) (w : World) (ht : TR w A T) (hn : T.length ≤ 60) (hl : ∀ t ∈ T, t.text.length ≤ 40) :
    Calls Try.prog 22 #[.slice A T.length cap] w fun e w' => e = .returned (.string ⟨(prn T).toArray⟩) ∧ Below w.heap.size w w' := by
  have HT := Lib.hid ht
  have HL := Lib.hid hl
  clear ht hl
  go_enter Try.func22, Try.ntmps22
  go_wp2_with fail
  go_loopg [3, 4] T.length (fun k v3 v4 wr => RpR T w k v3 v4 wr)
  case atStart => exact ⟨0, by omega, rfl, rfl, rfl⟩
  case round =>
    obtain ⟨i, hik, rfl, rfl, rfl⟩ := hrel
    have HIK := Lib.hid hik
    clear hik
    by_cases hlt : i < T.length
    · obtain ⟨t, hti⟩ : ∃ t, T[i]? = some t := ⟨T[i], List.getElem?_eq_getElem hlt⟩
      obtain ⟨g, off, rfl, c0, c1, c2, c3, c4⟩ := HT.out i t hti
      have HSN : Hid (pr (T.take (i + 1)) = (if 0 < i then pr (T.take i) ++ [32] else pr (T.take i)) ++ t.text) := Lib.hid (by
        have e1 : T.take (i + 1) = T.take i ++ [t] := by rw [List.take_add_one, hti]; rfl
        have e2 : (T.take i).length = i := by rw [List.length_take]; omega
        rw [e1, pr_snoc, e2])
      have htl : t.text.length ≤ 40 := HL.out t (List.mem_of_getElem? hti)
      have hpl : (pr (T.take i)).length ≤ 2460 := by
        have := pr_len (T.take i) (fun x hx => HL.out x (List.mem_of_mem_take hx))
        rw [List.length_take] at this
        have : min i T.length * 41 ≤ 60 * 41 := Nat.mul_le_mul_right _ (by omega)
        omega
      clear hti c0 c2 c3 c4
      rcases Nat.eq_zero_or_pos i with h0 | h0
      · subst h0
        have hp0 : (pr ([] : List Tok)).length = 0 := rfl
        go_wp2_with fail
        all_goals first
          | (exfalso; omega)
          | skip
        go_roundg (gk - 1)
        case measure => have := HIK.out; omega
        case rel =>
          refine ⟨1, by have := HIK.out; omega, by go_num, ?_, rfl⟩
          have := HSN.out
          simp only [Nat.zero_add, Nat.lt_irrefl, if_false] at this
          rw [this, List.take_zero, str_app]
      · go_wp2_with fail
        all_goals first
          | (exfalso; omega)
          | skip
        go_roundg (gk - 1)
        case measure => have := HIK.out; omega
        case rel =>
          refine ⟨i + 1, by have := HIK.out; omega, by go_num, ?_, rfl⟩
          have := HSN.out
          rw [if_pos h0] at this
          rw [this, show (⟨#[32]⟩ : ByteArray) = ⟨([32] : List UInt8).toArray⟩ from rfl, str_app, str_app]
    · have hi : i = T.length := by have := HIK.out; omega
      subst hi
      rw [List.take_length]
      have hpl := pr_len T HL.out
      go_wp2_with fail
      all_goals first
        | (exfalso; omega)
        | skip
      all_goals go_ret
      · refine ⟨?_, Below.refl _ _⟩
        have hne : T ≠ [] := by intro e; subst e; simp at *
        rw [show (⟨#[10]⟩ : ByteArray) = ⟨([10] : List UInt8).toArray⟩ from rfl, str_app]
        simp [prn, hne]
      · refine ⟨?_, Below.refl _ _⟩
        have hne : T = [] := by
          have : T.length = 0 := by omega
          exact List.eq_nil_of_length_eq_zero this
        subst hne
        simp [prn, pr]
end Go.Proofs.Ytpdljjlbjebmeaa
