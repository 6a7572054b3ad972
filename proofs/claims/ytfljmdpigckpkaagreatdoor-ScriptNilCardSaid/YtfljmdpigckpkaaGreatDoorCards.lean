/-
  DERIVED. GIVEN WITH THE SEED: THE CARDS: each row of YtfljmdpigckpkaaGreatDoorRows.lean that lists a variable, with what it lists TIED to the program's text (the seventh form; the later family's looks); each row that meets fmt, with fmt's text TOLD by the authors' own Lean function (tested against real Go, not proved from fmt's source: count such statements apart). THE CARD IS WHAT COUNTS. Prove the row's statement (the work); the ties are given (YtfljmdpigckpkaaGreatDoorTie.lean); close each card by the builder's one call (the guide's Derived/Test/ToyasCard.lean, 'card_holds'). Laid BY PROGRAM, IN A SANDBOX (cutbox-door.mjs). By AI agents, Wed Nov 11 2026. No macro, syntax, notation, axiom, sorry.
-/
import Derived.Test.YtfljmdpigckpkaaGreatDoorRows
import GoSem.ClaimSeven
namespace Go.Proofs.YtfljmdpigckpkaaGreatDoor
namespace Rows

/-- THE TIED CARD OF 'detentlaw11.MachineFull'. -/
def machineFullCard : Claim7 := { stood := { row := machineFullRow, standIns := [], harness := (true, "30c7a72493631c09535c0efa61876e160234dff1b95d7048619d2fc15287cdfd"), looks := true }, kinds := [], alts := [], laidByText := true, laidKinds := [.data, .data], laidTests := true, laidLooks := .later }
def MachineFullCardSaid : Prop := Claim7.holds Tryz.pinned (.plain (OpenSpec.ofChange machineFullSpec)) machineFullCard

/-- THE TIED CARD OF 'detentlaw11.MachineNil'. -/
def machineNilCard : Claim7 := { stood := { row := machineNilRow, standIns := [], harness := (true, "30c7a72493631c09535c0efa61876e160234dff1b95d7048619d2fc15287cdfd"), looks := true }, kinds := [], alts := [], laidByText := true, laidKinds := [.data, .data], laidTests := true, laidLooks := .later }
def MachineNilCardSaid : Prop := Claim7.holds Tryz.pinned (.plain (OpenSpec.ofChange machineNilSpec)) machineNilCard

/-- THE TIED CARD OF 'detentlaw12.ScriptNil'. -/
def scriptNilCard : Claim7 := { stood := { row := scriptNilRow, standIns := [], harness := (true, "30c7a72493631c09535c0efa61876e160234dff1b95d7048619d2fc15287cdfd"), looks := true }, kinds := [], alts := [], laidByText := true, laidKinds := [.data, .data, .data, .data, .data, .data], laidTests := true, laidLooks := .later }
def ScriptNilCardSaid : Prop := Claim7.holds Tryz.pinned (.plain (OpenSpec.ofChange scriptNilSpec)) scriptNilCard

/-- THE SECOND FORM's CARD OF 'detentlaw11.MachineFull'. -/
def machineFullUptoCard : Claim7 := { stood := { row := machineFullUptoRow, standIns := [], harness := (true, "30c7a72493631c09535c0efa61876e160234dff1b95d7048619d2fc15287cdfd"), looks := true }, kinds := [], alts := [], laidByText := true, laidKinds := [.data, .data], laidTests := true, laidLooks := .later }
def MachineFullUptoCardSaid : Prop := Claim7.holds Tryz.pinned (.plain (OpenSpec.upto machineFullSpec)) machineFullUptoCard

/-- THE SECOND FORM's CARD OF 'detentlaw11.MachineNil'. -/
def machineNilUptoCard : Claim7 := { stood := { row := machineNilUptoRow, standIns := [], harness := (true, "30c7a72493631c09535c0efa61876e160234dff1b95d7048619d2fc15287cdfd"), looks := true }, kinds := [], alts := [], laidByText := true, laidKinds := [.data, .data], laidTests := true, laidLooks := .later }
def MachineNilUptoCardSaid : Prop := Claim7.holds Tryz.pinned (.plain (OpenSpec.upto machineNilSpec)) machineNilUptoCard

/-- THE SECOND FORM's CARD OF 'detentlaw12.ScriptNil'. -/
def scriptNilUptoCard : Claim7 := { stood := { row := scriptNilUptoRow, standIns := [], harness := (true, "30c7a72493631c09535c0efa61876e160234dff1b95d7048619d2fc15287cdfd"), looks := true }, kinds := [], alts := [], laidByText := true, laidKinds := [.data, .data, .data, .data, .data, .data], laidTests := true, laidLooks := .later }
def ScriptNilUptoCardSaid : Prop := Claim7.holds Tryz.pinned (.plain (OpenSpec.upto scriptNilSpec)) scriptNilUptoCard
end Rows
end Go.Proofs.YtfljmdpigckpkaaGreatDoor
