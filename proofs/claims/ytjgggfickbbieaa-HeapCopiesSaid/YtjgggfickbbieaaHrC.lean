/- The document's heap: Is, Len, Get. -/
import Derived.Test.YtjgggfickbbieaaHrB
namespace Go.Proofs.Ytjgggfickbbieaa
open Go.RowKit Go.Shelf
attribute [local go_sem] Oper.semAt_some
theorem hasO_true {L : List Ob} {id : Int} (h : hasO L id = true) : ∃ i : Nat, i < L.length ∧ id = (i : Int) + 1 ∧ atO L id = nt L i := by
  unfold hasO at h
  simp only [Bool.and_eq_true, decide_eq_true_eq] at h
  refine ⟨(id - 1).toNat, by omega, by omega, rfl⟩
section
variable {own : Nat → Bool} {bw : Nat} {L : List Ob} {W : World}
set_option maxHeartbeats 1000000 in
set_option maxRecDepth 100000 in
theorem refLen_ok (h : RH own bw L W) (id : Int) : Calls Try.prog 30 #[.pointer (some ⟨bw, 0, none⟩), .int .i64 id] W fun e W' => e = .returned (.int .i64 (lenO L id)) ∧ W' = W := by
  have hh := refHas_ok h id
  have HH := Lib.hid hh
  clear hh
  unfold lenO
  cases hb : hasO L id with
  | true =>
    rw [hb] at HH
    rw [if_pos rfl]
    obtain ⟨i, hi, rfl, ha⟩ := hasO_true hb
    rw [ha]
    obtain ⟨v, h1, h2, _⟩ := h.ex
    obtain ⟨g, c, rfl, c0, c1, c2, c3, c4, c5⟩ := own6_cells h2 hi
    obtain ⟨A, cc, hv⟩ := own_slice3 (h.vs i hi)
    rw [hv] at c2
    have b0 : W.cell? ⟨bw, 0, none⟩ = some (.slice (some ⟨g, 0, none⟩) L.length c) := by simp [World.cell?, h1]
    have hl := h.len
    have hil : (i : Int) < (L.length : Int) := by omega
    clear h h1 h2 hb ha hv
    go_enter Try.func30, Try.ntmps30
    go_wp2_with (go_at_call 31; refine HH.out.mono ?_; rintro e w2 ⟨rfl, rfl⟩)
    go_ret
    exact ⟨rfl, rfl⟩
  | false =>
    rw [hb] at HH
    rw [if_neg (by simp)]
    clear h hb
    go_enter Try.func30, Try.ntmps30
    go_wp2_with (go_at_call 31; refine HH.out.mono ?_; rintro e w2 ⟨rfl, rfl⟩)
    go_ret
    exact ⟨rfl, rfl⟩
set_option maxHeartbeats 1000000 in
set_option maxRecDepth 100000 in
theorem refIs_ok (h : RH own bw L W) (id k : Int) : Calls Try.prog 29 #[.pointer (some ⟨bw, 0, none⟩), .int .i64 id, .int .i64 k] W fun e W' => e = .returned (.bool (hasO L id && decide ((atO L id).kind = k))) ∧ W' = W := by
  have hh := refHas_ok h id
  have HH := Lib.hid hh
  clear hh
  cases hb : hasO L id with
  | true =>
    rw [hb] at HH
    rw [Bool.true_and]
    obtain ⟨i, hi, rfl, ha⟩ := hasO_true hb
    rw [ha]
    obtain ⟨v, h1, h2, _⟩ := h.ex
    obtain ⟨g, c, rfl, c0, c1, c2, c3, c4, c5⟩ := own6_cells h2 hi
    have b0 : W.cell? ⟨bw, 0, none⟩ = some (.slice (some ⟨g, 0, none⟩) L.length c) := by simp [World.cell?, h1]
    have hl := h.len
    have hil : (i : Int) < (L.length : Int) := by omega
    clear h h1 h2 hb ha c1 c2 c3 c4 c5
    by_cases hk : (nt L i).kind = k
    · rw [decide_eq_true hk]
      rw [hk] at c0
      go_enter Try.func29, Try.ntmps29
      go_wp2_with (go_at_call 31; refine HH.out.mono ?_; rintro e w2 ⟨rfl, rfl⟩)
      go_ret
      exact ⟨rfl, rfl⟩
    · rw [decide_eq_false hk]
      have hk' : ((nt L i).kind == k) = false := by simpa using hk
      go_enter Try.func29, Try.ntmps29
      go_wp2_with (go_at_call 31; refine HH.out.mono ?_; rintro e w2 ⟨rfl, rfl⟩)
      go_ret
      exact ⟨rfl, rfl⟩
  | false =>
    rw [hb] at HH
    rw [Bool.false_and]
    clear h hb
    go_enter Try.func29, Try.ntmps29
    go_wp2_with (go_at_call 31; refine HH.out.mono ?_; rintro e w2 ⟨rfl, rfl⟩)
    go_ret
    exact ⟨rfl, rfl⟩
end
end Go.Proofs.Ytjgggfickbbieaa
