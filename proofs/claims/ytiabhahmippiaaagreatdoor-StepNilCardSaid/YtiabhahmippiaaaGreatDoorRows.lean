/-
  NARROWER THAN 'FOR EVERY INPUT', by the rows' own cells (each row's printed sentence says how): StepCopies: laid · StepNil: laid.
  DERIVED. THE GIVEN ROWS OF THIS SEAT. 2 by the template 'for every input the law returns true; each argument reads behind the call as it read before'; 0 by the template 'total and deterministic' (their statements: YtiabhahmippiaaaGreatDoorTotals.lean).
  GIVEN WITH THE SEED: the statements are not yours to turn. If you find one false, say at which input.
  Laid BY PROGRAM, IN A SANDBOX (cutbox-rows.mjs): the forced cells as the released guide's own fill.sh prints them over the translation 189f1a0ad62144ac… (all of the seat's roots in one cut). By AI agents, Wed Nov 11 2026. No macro, syntax, notation, axiom, sorry.
-/
import Derived.Test.YtiabhahmippiaaaGreatDoorChecked
import GoSem.Claim
import GoSem.ClaimJoined
import GoSem.ClaimMapViews
import Derived.JoinedTies
import Derived.KernelRfl
namespace Go.Proofs.YtiabhahmippiaaaGreatDoor
/- THE CELL 'sum', in the pinned program and in every row, IS THE sha256 OF THE DUMP (.gsa) THAT YtiabhahmippiaaaGreatDoorProg.lean LOADS. Nothing in Lean hashes anything: it is a label: what it is worth is what the hold of that sum in a sandbox is worth. -/
noncomputable def Tryz.pinned : Pinned := { name := "ytiabhahmippiaaagreatdoor", sum := "189f1a0ad62144ac38a0c0191ed4946e2f91ce9823b64ba58969cc009d9a885f", checked := Tryz.checked }
namespace Rows
def none {H : Type} : Left H := { results := [], args := [] }

/- WHAT THE LISTED PACKAGE-LEVEL VARIABLES READ AS WHEN THE CALL BEGINS. Each datum BY PROGRAM (the guide's laid-datum.mjs) off the statement by which the dump's own 'gosem.cut.vars' lays the variable. In a bare row this is a premise. The card (YtiabhahmippiaaaGreatDoorCards.lean) ties it to the program's text. -/
def laid_detent_step_named {H : Type} : DataW H := .agg [.lit (.int .i64 0), .lit (.int .i64 1), .lit (.int .i64 2), .lit (.int .i64 3), .lit (.int .i64 3), .lit (.int .i64 3), .lit (.int .i64 3), .lit (.int .i64 3), .lit (.int .i64 1), .lit (.int .i64 1), .lit (.int .i64 1), .lit (.int .i64 1), .lit (.int .i64 2), .lit (.int .i64 2), .lit (.int .i64 1), .lit (.int .i64 2), .lit (.int .i64 2), .lit (.int .i64 2), .lit (.int .i64 3), .lit (.int .i64 3), .lit (.int .i64 2), .lit (.int .i64 1), .lit (.int .i64 1), .lit (.int .i64 2), .lit (.int .i64 2), .lit (.int .i64 1), .lit (.int .i64 0), .lit (.int .i64 0), .lit (.int .i64 2), .lit (.int .i64 1), .lit (.int .i64 1), .lit (.int .i64 0), .lit (.int .i64 1), .lit (.int .i64 0)]

/-- 'detentlaw10.StepCopies': WHATEVER THE INPUT: true; the input reads as it did. -/
def stepCopiesSpec : ChangeSpec := { name := "stepCopies", fn := fun _ => fun
  | [d1, d2, d3, d4] => { results := [.lit (.bool true)], args := [d1, d2, d3, d4] }
  | _ => none }
def stepCopiesRow : OpenClaim := { program := "ytiabhahmippiaaagreatdoor", sum := "189f1a0ad62144ac38a0c0191ed4946e2f91ce9823b64ba58969cc009d9a885f", func := "detent/detentlaw10.StepCopies", spec := "stepCopies", inPlace := ["maps.clone"], unfollowed := true, recurses := true, named := ["detent/step.named"], apart := false, laid := [("detent/step.named", laid_detent_step_named)] }
def StepCopiesSaid : Prop := stepCopiesRow.holds Tryz.pinned (OpenSpec.ofChange stepCopiesSpec)

/-- ITS FALSE NEIGHBOUR: 'it returns false'. Refute it at one input. -/
def stepCopiesWrong : ChangeSpec := { name := "stepCopies", fn := fun _ => fun
  | [d1, d2, d3, d4] => { results := [.lit (.bool false)], args := [d1, d2, d3, d4] }
  | _ => none }
def StepCopiesWrongFalsely : Prop := stepCopiesRow.holds Tryz.pinned (OpenSpec.ofChange stepCopiesWrong)

/-- 'detentlaw10.StepNil': WHATEVER THE INPUT: true; the input reads as it did. -/
def stepNilSpec : ChangeSpec := { name := "stepNil", fn := fun _ => fun
  | [] => { results := [.lit (.bool true)], args := [] }
  | _ => none }
def stepNilRow : OpenClaim := { program := "ytiabhahmippiaaagreatdoor", sum := "189f1a0ad62144ac38a0c0191ed4946e2f91ce9823b64ba58969cc009d9a885f", func := "detent/detentlaw10.StepNil", spec := "stepNil", unfollowed := true, recurses := true, named := ["detent/step.named"], apart := false, laid := [("detent/step.named", laid_detent_step_named)] }
def StepNilSaid : Prop := stepNilRow.holds Tryz.pinned (OpenSpec.ofChange stepNilSpec)

/-- ITS FALSE NEIGHBOUR: 'it returns false'. Refute it at one input. -/
def stepNilWrong : ChangeSpec := { name := "stepNil", fn := fun _ => fun
  | [] => { results := [.lit (.bool false)], args := [] }
  | _ => none }
def StepNilWrongFalsely : Prop := stepNilRow.holds Tryz.pinned (OpenSpec.ofChange stepNilWrong)

/- THE SECOND FORM. 'bulk': how many values and letters a reading holds, each counted each time it is reached (what is shared counts as often as it is met; a slice's spare places count too). A statement '..UptoSaid' is the law's where the arguments, and the package variables that the reading takes, are together of bulk at most 1048576: NARROWER than '..Said'. Prove '..Said' where nothing that the law and all that it calls make is longer than what came in: it says more and counts as full. Else prove '..UptoSaid'. A law counts once. -/
mutual
def uptoBulk {H : Type} : DataW H → Nat
  | .lit (.string bytes) => bytes.length + 1
  | .lit _ => 1
  | .nil => 1
  | .ptr d => uptoBulk d + 1
  | .slice elems spare => uptoBulkAll elems + uptoBulkAll spare + 1
  | .agg parts => uptoBulkAll parts + 1
  | .iface _ d => uptoBulk d + 1
  | .map entries => uptoBulkEntries entries + 1
  | .held _ => 1
def uptoBulkAll {H : Type} : List (DataW H) → Nat
  | [] => 0
  | d :: r => uptoBulk d + uptoBulkAll r
def uptoBulkEntries {H : Type} : List (Lit × DataW H) → Nat
  | [] => 0
  | x :: r => uptoBulkEntry x + uptoBulkEntries r
def uptoBulkEntry {H : Type} : Lit × DataW H → Nat
  | (.string bytes, d) => bytes.length + uptoBulk d + 1
  | (_, d) => uptoBulk d + 1
 end
def uptoSmall : (H : Type) → List (DataW H) → Bool := fun _ ds => decide (uptoBulkAll ds ≤ 1048576)
def OpenSpec.upto (s : _root_.Go.ChangeSpec) : _root_.Go.OpenSpec := { _root_.Go.OpenSpec.ofChange s with cond := some uptoSmall }

/-- 'detentlaw10.StepCopies', WHERE WHAT IT READS IS OF BULK AT MOST 1048576: true; the input reads as it did. -/
def stepCopiesUptoRow : OpenClaim := { program := "ytiabhahmippiaaagreatdoor", sum := "189f1a0ad62144ac38a0c0191ed4946e2f91ce9823b64ba58969cc009d9a885f", func := "detent/detentlaw10.StepCopies", spec := "stepCopies", inPlace := ["maps.clone"], unfollowed := true, recurses := true, named := ["detent/step.named"], apart := false, laid := [("detent/step.named", laid_detent_step_named)], narrowed := true }
def StepCopiesUptoSaid : Prop := stepCopiesUptoRow.holds Tryz.pinned (OpenSpec.upto stepCopiesSpec)

/-- 'detentlaw10.StepNil', WHERE WHAT IT READS IS OF BULK AT MOST 1048576: true; the input reads as it did. -/
def stepNilUptoRow : OpenClaim := { program := "ytiabhahmippiaaagreatdoor", sum := "189f1a0ad62144ac38a0c0191ed4946e2f91ce9823b64ba58969cc009d9a885f", func := "detent/detentlaw10.StepNil", spec := "stepNil", unfollowed := true, recurses := true, named := ["detent/step.named"], apart := false, laid := [("detent/step.named", laid_detent_step_named)], narrowed := true }
def StepNilUptoSaid : Prop := stepNilUptoRow.holds Tryz.pinned (OpenSpec.upto stepNilSpec)

end Rows
end Go.Proofs.YtiabhahmippiaaaGreatDoor
