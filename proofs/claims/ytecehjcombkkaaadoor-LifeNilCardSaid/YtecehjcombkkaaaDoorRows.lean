/-
  NARROWER THAN 'FOR EVERY INPUT', by the rows' own cells (each row's printed sentence says how): LifePlays: laid · LifeCopies: laid · LifeTurns: laid · LifeNil: laid.
  DERIVED. THE GIVEN ROWS OF THIS SEAT. 4 by the template 'for every input the law returns true; each argument reads behind the call as it read before'; 0 by the template 'total and deterministic' (their statements: YtecehjcombkkaaaDoorTotals.lean).
  GIVEN WITH THE SEED: the statements are not yours to turn. If you find one false, say at which input.
  Laid BY PROGRAM, IN A SANDBOX (cutbox-rows.mjs): the forced cells as the released guide's own fill.sh prints them over the translation 510e19dc65aeb19d… (all of the seat's roots in one cut). By AI agents, Wed Nov 11 2026. No macro, syntax, notation, axiom, sorry.
-/
import Derived.Test.YtecehjcombkkaaaDoorChecked
import GoSem.Claim
import GoSem.ClaimJoined
import GoSem.ClaimMapViews
import Derived.JoinedTies
import Derived.KernelRfl
namespace Go.Proofs.YtecehjcombkkaaaDoor
/- THE CELL 'sum', in the pinned program and in every row, IS THE sha256 OF THE DUMP (.gsa) THAT YtecehjcombkkaaaDoorProg.lean LOADS. Nothing in Lean hashes anything: it is a label: what it is worth is what the hold of that sum in a sandbox is worth. -/
noncomputable def Tryd.pinned : Pinned := { name := "ytecehjcombkkaaadoor", sum := "510e19dc65aeb19da34f75fe115a43f53e4f57585cfda20795450265922bdb77", checked := Tryd.checked }
namespace Rows
def none {H : Type} : Left H := { results := [], args := [] }

/- WHAT THE LISTED PACKAGE-LEVEL VARIABLES READ AS WHEN THE CALL BEGINS. Each datum BY PROGRAM (the guide's laid-datum.mjs) off the statement by which the dump's own 'gosem.cut.vars' lays the variable. In a bare row this is a premise. The card (YtecehjcombkkaaaDoorCards.lean) ties it to the program's text. -/
def laid_detent_life_next {H : Type} : DataW H := .agg [.agg [.lit (.bool true), .lit (.bool false), .lit (.bool false), .lit (.bool false)], .agg [.lit (.bool false), .lit (.bool true), .lit (.bool false), .lit (.bool true)], .agg [.lit (.bool false), .lit (.bool false), .lit (.bool true), .lit (.bool false)], .agg [.lit (.bool false), .lit (.bool true), .lit (.bool false), .lit (.bool true)], .agg [.lit (.bool false), .lit (.bool false), .lit (.bool false), .lit (.bool false)]]

/-- 'detentlaw09.LifePlays': WHATEVER THE INPUT: true; the input reads as it did. -/
def lifePlaysSpec : ChangeSpec := { name := "lifePlays", fn := fun _ => fun
  | [d1, d2, d3] => { results := [.lit (.bool true)], args := [d1, d2, d3] }
  | _ => none }
def lifePlaysRow : OpenClaim := { program := "ytecehjcombkkaaadoor", sum := "510e19dc65aeb19da34f75fe115a43f53e4f57585cfda20795450265922bdb77", func := "detent/detentlaw09.LifePlays", spec := "lifePlays", named := ["detent/life.next"], apart := false, laid := [("detent/life.next", laid_detent_life_next)] }
def LifePlaysSaid : Prop := lifePlaysRow.holds Tryd.pinned (OpenSpec.ofChange lifePlaysSpec)

/-- ITS FALSE NEIGHBOUR: 'it returns false'. Refute it at one input. -/
def lifePlaysWrong : ChangeSpec := { name := "lifePlays", fn := fun _ => fun
  | [d1, d2, d3] => { results := [.lit (.bool false)], args := [d1, d2, d3] }
  | _ => none }
def LifePlaysWrongFalsely : Prop := lifePlaysRow.holds Tryd.pinned (OpenSpec.ofChange lifePlaysWrong)

/-- 'detentlaw09.LifeCopies': WHATEVER THE INPUT: true; the input reads as it did. -/
def lifeCopiesSpec : ChangeSpec := { name := "lifeCopies", fn := fun _ => fun
  | [d1, d2, d3, d4] => { results := [.lit (.bool true)], args := [d1, d2, d3, d4] }
  | _ => none }
def lifeCopiesRow : OpenClaim := { program := "ytecehjcombkkaaadoor", sum := "510e19dc65aeb19da34f75fe115a43f53e4f57585cfda20795450265922bdb77", func := "detent/detentlaw09.LifeCopies", spec := "lifeCopies", inPlace := ["maps.clone"], named := ["detent/life.next"], apart := false, laid := [("detent/life.next", laid_detent_life_next)] }
def LifeCopiesSaid : Prop := lifeCopiesRow.holds Tryd.pinned (OpenSpec.ofChange lifeCopiesSpec)

/-- ITS FALSE NEIGHBOUR: 'it returns false'. Refute it at one input. -/
def lifeCopiesWrong : ChangeSpec := { name := "lifeCopies", fn := fun _ => fun
  | [d1, d2, d3, d4] => { results := [.lit (.bool false)], args := [d1, d2, d3, d4] }
  | _ => none }
def LifeCopiesWrongFalsely : Prop := lifeCopiesRow.holds Tryd.pinned (OpenSpec.ofChange lifeCopiesWrong)

/-- 'detentlaw09.LifeTurns': WHATEVER THE INPUT: true; the input reads as it did. -/
def lifeTurnsSpec : ChangeSpec := { name := "lifeTurns", fn := fun _ => fun
  | [d] => { results := [.lit (.bool true)], args := [d] }
  | _ => none }
def lifeTurnsRow : OpenClaim := { program := "ytecehjcombkkaaadoor", sum := "510e19dc65aeb19da34f75fe115a43f53e4f57585cfda20795450265922bdb77", func := "detent/detentlaw09.LifeTurns", spec := "lifeTurns", named := ["detent/life.next"], apart := false, laid := [("detent/life.next", laid_detent_life_next)] }
def LifeTurnsSaid : Prop := lifeTurnsRow.holds Tryd.pinned (OpenSpec.ofChange lifeTurnsSpec)

/-- ITS FALSE NEIGHBOUR: 'it returns false'. Refute it at one input. -/
def lifeTurnsWrong : ChangeSpec := { name := "lifeTurns", fn := fun _ => fun
  | [d] => { results := [.lit (.bool false)], args := [d] }
  | _ => none }
def LifeTurnsWrongFalsely : Prop := lifeTurnsRow.holds Tryd.pinned (OpenSpec.ofChange lifeTurnsWrong)

/-- 'detentlaw09.LifeNil': WHATEVER THE INPUT: true; the input reads as it did. -/
def lifeNilSpec : ChangeSpec := { name := "lifeNil", fn := fun _ => fun
  | [] => { results := [.lit (.bool true)], args := [] }
  | _ => none }
def lifeNilRow : OpenClaim := { program := "ytecehjcombkkaaadoor", sum := "510e19dc65aeb19da34f75fe115a43f53e4f57585cfda20795450265922bdb77", func := "detent/detentlaw09.LifeNil", spec := "lifeNil", inPlace := ["maps.clone"], named := ["detent/life.next"], apart := false, laid := [("detent/life.next", laid_detent_life_next)] }
def LifeNilSaid : Prop := lifeNilRow.holds Tryd.pinned (OpenSpec.ofChange lifeNilSpec)

/-- ITS FALSE NEIGHBOUR: 'it returns false'. Refute it at one input. -/
def lifeNilWrong : ChangeSpec := { name := "lifeNil", fn := fun _ => fun
  | [] => { results := [.lit (.bool false)], args := [] }
  | _ => none }
def LifeNilWrongFalsely : Prop := lifeNilRow.holds Tryd.pinned (OpenSpec.ofChange lifeNilWrong)

/- THE SECOND FORM. 'bulk': how many values and letters a reading holds, each counted each time it is reached (what is shared counts as often as it is met; a slice's spare places count too). A statement '..UptoSaid' is the law's where the arguments, and the package variables that the reading takes, are together of bulk at most 1048576: NARROWER than '..Said'. Prove '..Said' where nothing that the law and all that it calls make is longer than what came in: it says more and counts as full. Else prove '..UptoSaid'. A law counts once. -/
mutual
def uptoBulk {H : Type} : DataW H → Nat
  | .lit (.string bytes) => bytes.length + 1
  | .lit _ => 1
  | .nil => 1
  | .ptr d => uptoBulk d + 1
  | .slice elems spare => uptoBulkAll elems + uptoBulkAll spare + 1
  | .agg parts => uptoBulkAll parts + 1
  | .iface _ d => uptoBulk d + 1
  | .map entries => uptoBulkEntries entries + 1
  | .held _ => 1
def uptoBulkAll {H : Type} : List (DataW H) → Nat
  | [] => 0
  | d :: r => uptoBulk d + uptoBulkAll r
def uptoBulkEntries {H : Type} : List (Lit × DataW H) → Nat
  | [] => 0
  | x :: r => uptoBulkEntry x + uptoBulkEntries r
def uptoBulkEntry {H : Type} : Lit × DataW H → Nat
  | (.string bytes, d) => bytes.length + uptoBulk d + 1
  | (_, d) => uptoBulk d + 1
 end
def uptoSmall : (H : Type) → List (DataW H) → Bool := fun _ ds => decide (uptoBulkAll ds ≤ 1048576)
def OpenSpec.upto (s : _root_.Go.ChangeSpec) : _root_.Go.OpenSpec := { _root_.Go.OpenSpec.ofChange s with cond := some uptoSmall }

/-- 'detentlaw09.LifePlays', WHERE WHAT IT READS IS OF BULK AT MOST 1048576: true; the input reads as it did. -/
def lifePlaysUptoRow : OpenClaim := { program := "ytecehjcombkkaaadoor", sum := "510e19dc65aeb19da34f75fe115a43f53e4f57585cfda20795450265922bdb77", func := "detent/detentlaw09.LifePlays", spec := "lifePlays", named := ["detent/life.next"], apart := false, laid := [("detent/life.next", laid_detent_life_next)], narrowed := true }
def LifePlaysUptoSaid : Prop := lifePlaysUptoRow.holds Tryd.pinned (OpenSpec.upto lifePlaysSpec)

/-- 'detentlaw09.LifeCopies', WHERE WHAT IT READS IS OF BULK AT MOST 1048576: true; the input reads as it did. -/
def lifeCopiesUptoRow : OpenClaim := { program := "ytecehjcombkkaaadoor", sum := "510e19dc65aeb19da34f75fe115a43f53e4f57585cfda20795450265922bdb77", func := "detent/detentlaw09.LifeCopies", spec := "lifeCopies", inPlace := ["maps.clone"], named := ["detent/life.next"], apart := false, laid := [("detent/life.next", laid_detent_life_next)], narrowed := true }
def LifeCopiesUptoSaid : Prop := lifeCopiesUptoRow.holds Tryd.pinned (OpenSpec.upto lifeCopiesSpec)

/-- 'detentlaw09.LifeTurns', WHERE WHAT IT READS IS OF BULK AT MOST 1048576: true; the input reads as it did. -/
def lifeTurnsUptoRow : OpenClaim := { program := "ytecehjcombkkaaadoor", sum := "510e19dc65aeb19da34f75fe115a43f53e4f57585cfda20795450265922bdb77", func := "detent/detentlaw09.LifeTurns", spec := "lifeTurns", named := ["detent/life.next"], apart := false, laid := [("detent/life.next", laid_detent_life_next)], narrowed := true }
def LifeTurnsUptoSaid : Prop := lifeTurnsUptoRow.holds Tryd.pinned (OpenSpec.upto lifeTurnsSpec)

/-- 'detentlaw09.LifeNil', WHERE WHAT IT READS IS OF BULK AT MOST 1048576: true; the input reads as it did. -/
def lifeNilUptoRow : OpenClaim := { program := "ytecehjcombkkaaadoor", sum := "510e19dc65aeb19da34f75fe115a43f53e4f57585cfda20795450265922bdb77", func := "detent/detentlaw09.LifeNil", spec := "lifeNil", inPlace := ["maps.clone"], named := ["detent/life.next"], apart := false, laid := [("detent/life.next", laid_detent_life_next)], narrowed := true }
def LifeNilUptoSaid : Prop := lifeNilUptoRow.holds Tryd.pinned (OpenSpec.upto lifeNilSpec)

end Rows
end Go.Proofs.YtecehjcombkkaaaDoor
