/- HeapCopies: a copy is the same as what it was copied from, and goes its own way: proved for every input, with no condition. -/
import Derived.Test.YtjgggfickbbieaaRows
import Derived.Test.YtjgggfickbbieaaHnD
import Derived.WalkKit
import Derived.ProofKit
import Derived.OpenShut
import Derived.ChangeOld
import Derived.Below
namespace Go.Proofs.Ytjgggfickbbieaa.heapCopies
open Go.ChangeShapes Go.WideShapes Go.ChangeAt Go.RowKit
set_option linter.unusedVariables false

theorem own : ownKnob Try.prog.godebug = none := by kernel_rfl
theorem laidOut : laidOutB Try.prog = true := by kernel_rfl

theorem walk (a0 : Option Addr) (len0 cap0 : Nat) (T : List ActD) (a1 : Option Addr) (len1 cap1 : Nat) (S : List ActD) (a2 : Option Addr) (len2 cap2 : Nat) (R : List ActD) (w : World) (hT : T.length = len0) (w0 : Acts w a0 T) (hS : S.length = len1) (w1 : Acts w a1 S) (hR : R.length = len2) (w2 : Acts w a2 R) :
    Calls Try.prog 4 #[.slice a0 len0 cap0, .slice a1 len1 cap1, .slice a2 len2 cap2] w fun e w' => e = .returned (.bool true) ∧ Below w.heap.size w w' := by
  subst hT hS hR
  cases h : (fewB T 30 && fewB S 30 && fewB R 30) with
  | false => exact (copies_many T S R a0 a1 a2 cap0 cap1 cap2 w w0 w1 w2 h).mono fun e w' k => ⟨k.1, k.2.below (fun b _ hb => by simp [pOld, hb]) (Nat.le_refl _)⟩
  | true =>
    simp only [Bool.and_eq_true] at h
    exact (copies_few T S R a0 a1 a2 cap0 cap1 cap2 w w0 w1 w2 h.1.1 h.1.2 h.2).mono fun e w' k => ⟨k.1, k.2.below (fun b _ hb => by simp [pOld, hb]) (Nat.le_refl _)⟩

set_option maxRecDepth 100000 in
theorem lifted (os : Os) (started : os.Started) (H : Type) (enc : TypeId × Value → H) :
    ReturnsInHanded {} Try.checked os 4 .any (Rows.heapCopiesSpec.pre6 enc Try.prog Try.f4 Rows.heapCopiesRow.domain false) (Rows.heapCopiesSpec.post enc Try.prog Try.f4 false true false false) := by
  refine returnsInHanded_of_change (C := Try.checked) own started (by kernel_rfl) Try.func4
    (ChangeSpec.witness6 (enc := enc) (C := Try.checked) false ⟨#[], #[.slice none 0 0, .slice none 0 0, .slice none 0 0], []⟩ 8 (by kernel_rfl) (by kernel_rfl) (by kernel_rfl) (by kernel_rfl)) ?_
  intro W base args ds gs before hval0 hW hcnd _
  have hval : ∀ (j : Nat) t v, Try.f4.params[j]? = some t → args[j]? = some v → Value.okWide Try.prog W .any base t v := hval0
  have hW' := hW
  obtain ⟨p, q, hA0, hV, rfl, hfz, hnd⟩ := hW
  have hA : DataW.TrodAll enc Try.prog W 0 (fun _ => true) true Try.f4.params.toList args.toList ds p := hA0
  rw [Try.params4] at hA hval
  obtain ⟨v0, vs0, d0, ds0, p0, q0, hargs, rfl, rfl, h0, r0⟩ := trodAll_cons hA
  obtain ⟨v1, vs1, d1, ds1, p1, q1, rfl, rfl, rfl, h1, r1⟩ := trodAll_cons r0
  obtain ⟨v2, vs2, d2, ds2, p2, q2, rfl, rfl, rfl, h2, r2⟩ := trodAll_cons r1
  obtain ⟨rfl, rfl, rfl⟩ := trodAll_nil r2
  obtain rfl : args = #[v0, v1, v2] := by cases args; simp_all
  obtain ⟨rfl, rfl⟩ := trodVars_none hV
  obtain ⟨a0, len0, cap0, rfl⟩ := okWide_slice Try.underlying22 (hval 0 22 v0 rfl rfl)
  have k0 := h0
  have lt0 : ∀ x ∈ p0, x.block < W.heap.size := by obtain ⟨m, hm⟩ := k0; exact DataW.trod_lt m _ _ _ hm
  obtain ⟨T, hT, w0⟩ : ∃ T : List ActD, T.length = len0 ∧ Acts W a0 T := by
    obtain ⟨fuel, hf⟩ := h0
    exact open_rows ⟨0, 0, 0, 0, 0, 0, 0, 0, 0, none, 0, 0⟩ (by omega) Try.underlying22 cellsAct (fun _ => rfl) open_act hf
  obtain ⟨a1, len1, cap1, rfl⟩ := okWide_slice Try.underlying22 (hval 1 22 v1 rfl rfl)
  have k1 := h1
  have lt1 : ∀ x ∈ p1, x.block < W.heap.size := by obtain ⟨m, hm⟩ := k1; exact DataW.trod_lt m _ _ _ hm
  obtain ⟨S, hS, w1⟩ : ∃ T : List ActD, T.length = len1 ∧ Acts W a1 T := by
    obtain ⟨fuel, hf⟩ := h1
    exact open_rows ⟨0, 0, 0, 0, 0, 0, 0, 0, 0, none, 0, 0⟩ (by omega) Try.underlying22 cellsAct (fun _ => rfl) open_act hf
  obtain ⟨a2, len2, cap2, rfl⟩ := okWide_slice Try.underlying22 (hval 2 22 v2 rfl rfl)
  have k2 := h2
  have lt2 : ∀ x ∈ p2, x.block < W.heap.size := by obtain ⟨m, hm⟩ := k2; exact DataW.trod_lt m _ _ _ hm
  obtain ⟨R, hR, w2⟩ : ∃ T : List ActD, T.length = len2 ∧ Acts W a2 T := by
    obtain ⟨fuel, hf⟩ := h2
    exact open_rows ⟨0, 0, 0, 0, 0, 0, 0, 0, 0, none, 0, 0⟩ (by omega) Try.underlying22 cellsAct (fun _ => rfl) open_act hf
  clear hA0 hval0
  refine (walk a0 len0 cap0 T a1 len1 cap1 S a2 len2 cap2 R W hT w0 hS w1 hR w2).mono fun e W' ⟨he, bel⟩ => ?_
  subst he
  exact ⟨_, rfl, _, _, _, [], _, [], hW', trodAll_mk1 (shut_bool Try.underlying4 _), (trodAll_cons_mk (Below.trod laidOut (by kernel_rfl) (of_decide_eq_true (by kernel_rfl)) k0 bel lt0) (trodAll_cons_mk (Below.trod laidOut (by kernel_rfl) (of_decide_eq_true (by kernel_rfl)) k1 bel lt1) (trodAll_cons_mk (Below.trod laidOut (by kernel_rfl) (of_decide_eq_true (by kernel_rfl)) k2 bel lt2) trodAll_mk0))), rfl, bel.frame _, fun h => by cases h⟩

theorem over : Rows.heapCopiesRow.holds Try.pinned (OpenSpec.ofChange Rows.heapCopiesSpec) :=
  OpenClaim.holds_of_wide 4 Try.f4 rfl rfl rfl rfl rfl rfl rfl ⟨rfl, rfl, rfl, rfl, rfl⟩ rfl rfl rfl rfl rfl (by kernel_rfl) Try.func4 (by kernel_rfl)
    (of_decide_eq_true (by kernel_rfl)) (by unfold Func.isWrapper; first | (rw [if_pos (by decide +kernel)]; kernel_rfl) | (rw [if_neg (by decide +kernel)]; exact ⟨rfl, rfl⟩))
    (fun os started H enc _ => lifted os started H enc)

theorem proved : Rows.HeapCopiesSaid := over
#print axioms proved
end Go.Proofs.Ytjgggfickbbieaa.heapCopies
