/-
  DERIVED. GIVEN WITH THE SEED: THE CARDS: each row of YtiabhahmippiaaaGreatDoorRows.lean that lists a variable, with what it lists TIED to the program's text (the seventh form; the later family's looks); each row that meets fmt, with fmt's text TOLD by the authors' own Lean function (tested against real Go, not proved from fmt's source: count such statements apart). THE CARD IS WHAT COUNTS. Prove the row's statement (the work); the ties are given (YtiabhahmippiaaaGreatDoorTie.lean); close each card by the builder's one call (the guide's Derived/Test/ToyasCard.lean, 'card_holds'). Laid BY PROGRAM, IN A SANDBOX (cutbox-door.mjs). By AI agents, Wed Nov 11 2026. No macro, syntax, notation, axiom, sorry.
-/
import Derived.Test.YtiabhahmippiaaaGreatDoorRows
import GoSem.ClaimSeven
namespace Go.Proofs.YtiabhahmippiaaaGreatDoor
namespace Rows

/-- THE TIED CARD OF 'detentlaw10.StepCopies'. -/
def stepCopiesCard : Claim7 := { stood := { row := stepCopiesRow, standIns := [], harness := (true, "8f433a1aee3c2a540eb18c3e39ceafeac1c417d048a06bfd72300d09b616b7ef"), looks := true }, kinds := [], alts := [], laidByText := true, laidKinds := [.data], laidTests := true, laidLooks := .later }
def StepCopiesCardSaid : Prop := Claim7.holds Tryz.pinned (.plain (OpenSpec.ofChange stepCopiesSpec)) stepCopiesCard

/-- THE TIED CARD OF 'detentlaw10.StepNil'. -/
def stepNilCard : Claim7 := { stood := { row := stepNilRow, standIns := [], harness := (true, "8f433a1aee3c2a540eb18c3e39ceafeac1c417d048a06bfd72300d09b616b7ef"), looks := true }, kinds := [], alts := [], laidByText := true, laidKinds := [.data], laidTests := true, laidLooks := .later }
def StepNilCardSaid : Prop := Claim7.holds Tryz.pinned (.plain (OpenSpec.ofChange stepNilSpec)) stepNilCard

/-- THE SECOND FORM's CARD OF 'detentlaw10.StepCopies'. -/
def stepCopiesUptoCard : Claim7 := { stood := { row := stepCopiesUptoRow, standIns := [], harness := (true, "8f433a1aee3c2a540eb18c3e39ceafeac1c417d048a06bfd72300d09b616b7ef"), looks := true }, kinds := [], alts := [], laidByText := true, laidKinds := [.data], laidTests := true, laidLooks := .later }
def StepCopiesUptoCardSaid : Prop := Claim7.holds Tryz.pinned (.plain (OpenSpec.upto stepCopiesSpec)) stepCopiesUptoCard

/-- THE SECOND FORM's CARD OF 'detentlaw10.StepNil'. -/
def stepNilUptoCard : Claim7 := { stood := { row := stepNilUptoRow, standIns := [], harness := (true, "8f433a1aee3c2a540eb18c3e39ceafeac1c417d048a06bfd72300d09b616b7ef"), looks := true }, kinds := [], alts := [], laidByText := true, laidKinds := [.data], laidTests := true, laidLooks := .later }
def StepNilUptoCardSaid : Prop := Claim7.holds Tryz.pinned (.plain (OpenSpec.upto stepNilSpec)) stepNilUptoCard
end Rows
end Go.Proofs.YtiabhahmippiaaaGreatDoor
