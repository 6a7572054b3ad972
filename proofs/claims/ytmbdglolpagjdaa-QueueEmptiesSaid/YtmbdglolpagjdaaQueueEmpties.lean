/- QueueEmpties: what was put is taken once, in the order in which all is gone over, and what was dropped never: proved for every input, with no condition. -/
import Derived.Test.YtmbdglolpagjdaaRows
import Derived.Test.YtmbdglolpagjdaaQyE
import Derived.WalkKit
import Derived.ProofKit
import Derived.OpenShut
import Derived.ChangeOld
import Derived.Below
namespace Go.Proofs.Ytmbdglolpagjdaa.queueEmpties
open Go.ChangeShapes Go.WideShapes Go.ChangeAt Go.RowKit
set_option linter.unusedVariables false

theorem own : ownKnob Try.prog.godebug = none := by kernel_rfl
theorem laidOut : laidOutB Try.prog = true := by kernel_rfl

theorem walk (a0 : Option Addr) (len0 cap0 : Nat) (T : List ItD) (a1 : Option Addr) (len1 cap1 : Nat) (N : List Int) (w : World) (hT : T.length = len0) (w0 : Items w a0 T) (hN : N.length = len1) (w1 : Ints w a1 N) :
    Calls Try.prog 5 #[.slice a0 len0 cap0, .slice a1 len1 cap1] w fun e w' => e = .returned (.bool true) ∧ Below w.heap.size w w' := by
  by_cases h : len0 ≤ 60
  · by_cases h' : len1 ≤ 60
    · subst hT hN
      exact (empties_walk T N a0 a1 cap0 cap1 w w0 w1 h h').mono fun e w' k => ⟨k.1, k.2.below (fun b _ hb => by simp [pOld, hb]) (Nat.le_refl _)⟩
    · clear w0 w1 hT hN
      have d0 : ¬ (len0 : Int) > 60 := by omega
      have d1 : (len1 : Int) > 60 := by omega
      go_enter Try.func5, Try.ntmps5
      go_wp2_with (go_at_call 8; refine (known_ok _).mono ?_; rintro e w2 ⟨rfl, hb2⟩)
      go_ret
      exact ⟨rfl, hb2.below (fun b _ hb => by simp [pOld, hb]) (Nat.le_refl _)⟩
  · clear w0 w1 hT hN
    have d0 : (len0 : Int) > 60 := by omega
    go_enter Try.func5, Try.ntmps5
    go_wp2_with (go_at_call 8; refine (known_ok _).mono ?_; rintro e w2 ⟨rfl, hb2⟩)
    go_ret
    exact ⟨rfl, hb2.below (fun b _ hb => by simp [pOld, hb]) (Nat.le_refl _)⟩

set_option maxRecDepth 100000 in
theorem lifted (os : Os) (started : os.Started) (H : Type) (enc : TypeId × Value → H) :
    ReturnsInHanded {} Try.checked os 5 .any (Rows.queueEmptiesSpec.pre6 enc Try.prog Try.f5 Rows.queueEmptiesRow.domain false) (Rows.queueEmptiesSpec.post enc Try.prog Try.f5 false true false false) := by
  refine returnsInHanded_of_change (C := Try.checked) own started (by kernel_rfl) Try.func5
    (ChangeSpec.witness6 (enc := enc) (C := Try.checked) false ⟨#[], #[.slice none 0 0, .slice none 0 0], []⟩ 8 (by kernel_rfl) (by kernel_rfl) (by kernel_rfl) (by kernel_rfl)) ?_
  intro W base args ds gs before hval0 hW hcnd _
  have hval : ∀ (j : Nat) t v, Try.f5.params[j]? = some t → args[j]? = some v → Value.okWide Try.prog W .any base t v := hval0
  have hW' := hW
  obtain ⟨p, q, hA0, hV, rfl, hfz, hnd⟩ := hW
  have hA : DataW.TrodAll enc Try.prog W 0 (fun _ => true) true Try.f5.params.toList args.toList ds p := hA0
  rw [Try.params5] at hA hval
  obtain ⟨v0, vs0, d0, ds0, p0, q0, hargs, rfl, rfl, h0, r0⟩ := trodAll_cons hA
  obtain ⟨v1, vs1, d1, ds1, p1, q1, rfl, rfl, rfl, h1, r1⟩ := trodAll_cons r0
  obtain ⟨rfl, rfl, rfl⟩ := trodAll_nil r1
  obtain rfl : args = #[v0, v1] := by cases args; simp_all
  obtain ⟨rfl, rfl⟩ := trodVars_none hV
  obtain ⟨a0, len0, cap0, rfl⟩ := okWide_slice Try.underlying27 (hval 0 27 v0 rfl rfl)
  have k0 := h0
  have lt0 : ∀ x ∈ p0, x.block < W.heap.size := by obtain ⟨m, hm⟩ := k0; exact DataW.trod_lt m _ _ _ hm
  obtain ⟨T, hT, w0⟩ : ∃ T : List ItD, T.length = len0 ∧ Items W a0 T := by
    obtain ⟨fuel, hf⟩ := h0
    exact open_rows ⟨0, false, 0⟩ (by omega) Try.underlying27 cellsItem (fun _ => rfl) open_item hf
  obtain ⟨a1, len1, cap1, rfl⟩ := okWide_slice Try.underlying42 (hval 1 42 v1 rfl rfl)
  have k1 := h1
  have lt1 : ∀ x ∈ p1, x.block < W.heap.size := by obtain ⟨m, hm⟩ := k1; exact DataW.trod_lt m _ _ _ hm
  obtain ⟨N, hN, w1⟩ : ∃ N : List Int, N.length = len1 ∧ Ints W a1 N := by
    obtain ⟨fuel, hf⟩ := h1
    exact open_rows 0 (by omega) Try.underlying42 cellsI (fun _ => rfl) open_i hf
  clear hA0 hval0
  refine (walk a0 len0 cap0 T a1 len1 cap1 N W hT w0 hN w1).mono fun e W' ⟨he, bel⟩ => ?_
  subst he
  exact ⟨_, rfl, _, _, _, [], _, [], hW', trodAll_mk1 (shut_bool Try.underlying4 _), (trodAll_cons_mk (Below.trod laidOut (by kernel_rfl) (of_decide_eq_true (by kernel_rfl)) k0 bel lt0) (trodAll_cons_mk (Below.trod laidOut (by kernel_rfl) (of_decide_eq_true (by kernel_rfl)) k1 bel lt1) trodAll_mk0)), rfl, bel.frame _, fun h => by cases h⟩

theorem over : Rows.queueEmptiesRow.holds Try.pinned (OpenSpec.ofChange Rows.queueEmptiesSpec) :=
  OpenClaim.holds_of_wide 5 Try.f5 rfl rfl rfl rfl rfl rfl rfl ⟨rfl, rfl, rfl, rfl, rfl⟩ rfl rfl rfl rfl rfl (by kernel_rfl) Try.func5 (by kernel_rfl)
    (of_decide_eq_true (by kernel_rfl)) (by unfold Func.isWrapper; first | (rw [if_pos (by decide +kernel)]; kernel_rfl) | (rw [if_neg (by decide +kernel)]; exact ⟨rfl, rfl⟩))
    (fun os started H enc _ => lifted os started H enc)

theorem proved : Rows.QueueEmptiesSaid := over
#print axioms proved
end Go.Proofs.Ytmbdglolpagjdaa.queueEmpties
