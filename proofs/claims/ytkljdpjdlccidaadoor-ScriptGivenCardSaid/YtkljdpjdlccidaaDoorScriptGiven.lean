/- ScriptGiven: what is given by a script, whatever was refused, as the document has it; that it is in the script, and what is given by itself: proved for every input, with no condition. -/
import Derived.Test.YtkljdpjdlccidaaDoorRows
import Derived.Test.YtkljdpjdlccidaaDoorCards
import Derived.Test.YtkljdpjdlccidaaDoorTie
import Derived.Test.YtkljdpjdlccidaaDoorGsT
import Derived.Test.YtkljdpjdlccidaaDoorGsN
import Derived.Test.YtkljdpjdlccidaaDoorSaO
import Derived.SevenTiedAt
import Derived.Stop.Joined
import Derived.LaidMore
import Derived.WalkKit
import Derived.ProofKit
import Derived.OpenShut
import Derived.ChangeOld
import Derived.Below
namespace Go.Proofs.YtkljdpjdlccidaaDoor.scriptGiven
open Go.ChangeShapes Go.WideShapes Go.ChangeAt Go.RowKit
set_option linter.unusedVariables false

theorem own : ownKnob Tryd.prog.godebug = none := by kernel_rfl
theorem laidOut : laidOutB Tryd.prog = true := by kernel_rfl

theorem cellsEr : Tryd.prog.cellsOf 28 = 1 := by kernel_rfl
theorem walk (a1 : Option Addr) (len1 cap1 : Nat) (T1 : List En) (a2 : Option Addr) (len2 cap2 : Nat) (T2 : List Int) (w : World) (h1 : T1.length = len1) (w1 : RowsE w a1 T1) (n1 : a1 = none → cap1 = 0 ∧ len1 = 0) (h2 : T2.length = len2) (w2 : RowsZ w a2 T2) (hT : TabA w) :
    Calls Tryd.prog 3 #[.slice a1 len1 cap1, .slice a2 len2 cap2] w fun e w' => e = .returned (.bool true) ∧ Below w.heap.size w w' := by
  have bel : ∀ {w' : World}, Ext w w' → Below w.heap.size w w' := fun k => k.below (fun b _ hb => by simp [pOld, hb]) (Nat.le_refl _)
  subst h1 h2
  by_cases q1 : T1.length ≤ 100
  · by_cases q2 : T2.length ≤ 100
    · exact (given_walk hT w1 n1 w2 q1 q2).mono fun e w' k => ⟨k.1, bel k.2⟩
    · have d1 : ¬ (100 : Int) < (T1.length : Int) := by omega
      have d1' : decide ((100 : Int) < (T1.length : Int)) = false := by simp; omega
      have d2 : (100 : Int) < (T2.length : Int) := by omega
      clear w1 w2 n1
      go_enter Tryd.func3, Tryd.ntmps3
      go_wp2_with (go_at_call 6; refine (known12_ok hT).mono ?_; rintro e w2 ⟨rfl, hb2⟩)
      go_ret
      exact ⟨rfl, bel hb2⟩
  · have d1 : (100 : Int) < (T1.length : Int) := by omega
    clear w1 w2 n1
    go_enter Tryd.func3, Tryd.ntmps3
    go_wp2_with (go_at_call 6; refine (known12_ok hT).mono ?_; rintro e w2 ⟨rfl, hb2⟩)
    go_ret
    exact ⟨rfl, bel hb2⟩

set_option maxRecDepth 100000 in
theorem lifted (os : Os) (started : os.Started) (H : Type) (enc : TypeId × Value → H) :
    ReturnsInHanded {} Tryd.checked os 3 .any (fun w args => (Rows.scriptGivenSpec.pre enc Tryd.prog Tryd.f3 [] false w args ∧ laidMetH Tryd.prog laidG w) ∧ sizedMet enc Tryd.prog Tryd.f3 (OpenSpec.ofChange Rows.scriptGivenSpec) false w args) (Rows.scriptGivenSpec.post enc Tryd.prog Tryd.f3 false true false false) := by
  refine handed_shaped (C := Tryd.checked) (X := fun w _ => laidMetH Tryd.prog laidG w) (fun _ _ _ hh h => h.of_heap hh) own started (by kernel_rfl) Tryd.func3
    (ChangeSpec.witness_shaped (enc := enc) (C := Tryd.checked) (os := os) (X := fun w _ => laidMetH Tryd.prog laidG w) false (World.doorLaid Tryd.prog 400 os) #[.slice none 0 0, .slice none 0 0] 8 rfl (World.shaped_of_RefB (by kernel_rfl) (by kernel_rfl)) (by kernel_rfl) (by kernel_rfl) (by kernel_rfl) (door_metG os _)) ?_
  intro W base args ds gs before hsh hval0 hW hcnd _ hL _
  have hT := tabA_of_laidG hL
  have hval : ∀ (j : Nat) t v, Tryd.f3.params[j]? = some t → args[j]? = some v → Value.okWide Tryd.prog W .any base t v := hval0
  have hW' := hW
  obtain ⟨p, q, hA0, hV, rfl, hfz, hnd⟩ := hW
  have hA : DataW.TrodAll enc Tryd.prog W 0 (fun _ => true) true Tryd.f3.params.toList args.toList ds p := hA0
  rw [Tryd.params3] at hA hval
  obtain ⟨v0, vs0, d0, ds0, p0, q0, hargs, rfl, rfl, h0, r0⟩ := trodAll_cons hA
  obtain ⟨v1, vs1, d1, ds1, p1, q1, hargs1, rfl, rfl, h1, r1⟩ := trodAll_cons r0
  obtain ⟨rfl, rfl, rfl⟩ := trodAll_nil r1
  obtain rfl : args = #[v0, v1] := by cases args; simp_all
  obtain ⟨rfl, rfl⟩ := trodVars_none hV
  obtain ⟨a1, len1, cap1, rfl⟩ := okWide_slice Tryd.underlying22 (hval 0 22 v0 rfl rfl)
  obtain ⟨a2, len2, cap2, rfl⟩ := okWide_slice Tryd.underlying23 (hval 1 23 v1 rfl rfl)
  have k0 := h0
  have k1 := h1
  have lt0 : ∀ x ∈ p0, x.block < W.heap.size := by obtain ⟨m, hm⟩ := k0; exact DataW.trod_lt m _ _ _ hm
  have lt1 : ∀ x ∈ p1, x.block < W.heap.size := by obtain ⟨m, hm⟩ := k1; exact DataW.trod_lt m _ _ _ hm
  have n1 : a1 = none → cap1 = 0 ∧ len1 = 0 := by
    obtain ⟨fuel, hf⟩ := h0
    rcases Go.Deep.open_slice Tryd.underlying22 hf with ⟨hcs, _⟩ | ⟨a, len', cap', _, _, _, _, hcs, _⟩
    · injection hcs with hcs _
      injection hcs with q1 q2 q3
      exact fun _ => ⟨q3, q2⟩
    · injection hcs with hcs _
      injection hcs with q1 q2 q3
      intro e
      rw [q1] at e
      cases e
  obtain ⟨T1, e1, w1⟩ : ∃ T : List En, T.length = len1 ∧ RowsE W a1 T := by
    obtain ⟨fuel, hf⟩ := h0
    exact open_rows ⟨0, 0, 0⟩ (by omega) Tryd.underlying22 cellsEn (fun _ => rfl) open_en hf
  obtain ⟨T2, e2, w2⟩ : ∃ T : List Int, T.length = len2 ∧ RowsZ W a2 T := by
    obtain ⟨fuel, hf⟩ := h1
    exact open_rows (f := fun n => [.int .i64 n]) (P := fun _ => True) (0 : Int) (by omega) Tryd.underlying23 cellsEr (fun _ => rfl) (fun h => by
      obtain ⟨z, e, _, _⟩ := DataW.trod_int (k := .i64) (by kernel_rfl) h
      exact ⟨z, e, trivial⟩) hf
  clear hA0 hval0
  refine (walk a1 len1 cap1 T1 a2 len2 cap2 T2 W e1 w1 n1 e2 w2 hT).mono fun e W' ⟨he, bel⟩ => ?_
  subst he
  exact ⟨_, rfl, _, _, _, [], _, [], hW', trodAll_mk1 (shut_bool Tryd.underlying4 _), (trodAll_cons_mk (Below.trod laidOut (by kernel_rfl) (of_decide_eq_true (by kernel_rfl)) k0 bel lt0) (trodAll_cons_mk (Below.trod laidOut (by kernel_rfl) (of_decide_eq_true (by kernel_rfl)) k1 bel lt1) trodAll_mk0)), rfl, bel.frame _, fun h => by cases h⟩

theorem over : Rows.scriptGivenRow.holds Tryd.pinned (OpenSpec.ofChange Rows.scriptGivenSpec) :=
  OpenClaim.holds_of_wide 3 Tryd.f3 rfl rfl rfl rfl rfl rfl rfl ⟨rfl, rfl, rfl, rfl, rfl⟩ rfl rfl rfl rfl rfl (by kernel_rfl) Tryd.func3 (by kernel_rfl)
    (of_decide_eq_true (by kernel_rfl)) (by unfold Func.isWrapper; first | (rw [if_pos (by decide +kernel)]; kernel_rfl) | (rw [if_neg (by decide +kernel)]; exact ⟨rfl, rfl⟩))
    (fun os started H enc _ => lifted os started H enc)

set_option maxRecDepth 100000 in
theorem proved : Rows.ScriptGivenCardSaid :=
  Claim7.holds_tied_plain_at .later [] [.data, .data, .data, .data] true Rows.scriptGivenCard.stood.harness true
    over (fun _ h => by cases h) (by kernel_rfl) (fun _ h => by cases h) scriptGiven_row_tie rfl ⟨rfl, rfl⟩ (by kernel_rfl) rfl
    (fun f fn hf hfn => by
      obtain rfl : f = 3 := (Option.some.inj ((show Tryd.prog.funcNamed Rows.scriptGivenRow.func = some 3 by kernel_rfl).symm.trans hf)).symm
      obtain rfl : fn = Tryd.f3 := (Option.some.inj (Tryd.func3.symm.trans hfn)).symm
      exact ⟨by kernel_rfl, fun j t ht => by
        rw [Tryd.params3] at ht
        have hm : t ∈ ([22, 23] : List TypeId) := by simpa using Array.mem_of_getElem? ht
        have hall : (([22, 23] : List TypeId).all fun u => !Tryd.prog.wantsStandIn u) = true := by kernel_rfl
        exact (show Tryd.prog.wantsStandIn t = false by simpa using List.all_eq_true.1 hall t hm)⟩)
    (by kernel_rfl)
#print axioms proved
end Go.Proofs.YtkljdpjdlccidaaDoor.scriptGiven
