/-
  DERIVED. GIVEN WITH THE SEED: THE CARDS: each row of YtkljdpjdlccidaaDoorRows.lean that lists a variable, with what it lists TIED to the program's text (the seventh form; the later family's looks); each row that meets fmt, with fmt's text TOLD by the authors' own Lean function (tested against real Go, not proved from fmt's source: count such statements apart). THE CARD IS WHAT COUNTS. Prove the row's statement (the work); the ties are given (YtkljdpjdlccidaaDoorTie.lean); close each card by the builder's one call (the guide's Derived/Test/ToyasCard.lean, 'card_holds'). Laid BY PROGRAM, IN A SANDBOX (cutbox-door.mjs). By AI agents, Wed Nov 11 2026. No macro, syntax, notation, axiom, sorry.
-/
import Derived.Test.YtkljdpjdlccidaaDoorRows
import GoSem.ClaimSeven
namespace Go.Proofs.YtkljdpjdlccidaaDoor
namespace Rows

/-- THE TIED CARD OF 'detentlaw12.ScriptGiven'. -/
def scriptGivenCard : Claim7 := { stood := { row := scriptGivenRow, standIns := [], harness := (true, "b06efb1dbdd8d2fa940fd093363c8964153fa60b2a3cd39bcc1a1ed78327c632"), looks := true }, kinds := [], alts := [], laidByText := true, laidKinds := [.data, .data, .data, .data], laidTests := true, laidLooks := .later }
def ScriptGivenCardSaid : Prop := Claim7.holds Tryd.pinned (.plain (OpenSpec.ofChange scriptGivenSpec)) scriptGivenCard

/-- THE TIED CARD OF 'detentlaw12.ScriptReads'. -/
def scriptReadsCard : Claim7 := { stood := { row := scriptReadsRow, standIns := [], harness := (true, "b06efb1dbdd8d2fa940fd093363c8964153fa60b2a3cd39bcc1a1ed78327c632"), looks := true }, kinds := [], alts := [], laidByText := true, laidKinds := [.data, .data, .data, .data, .sentinel, .sentinel, .data, .pinned], laidTests := true, laidLooks := .later }
def ScriptReadsCardSaid : Prop := Claim7.holds Tryd.pinned (.plain (OpenSpec.ofChange scriptReadsSpec)) scriptReadsCard

/-- THE TIED CARD OF 'detentlaw13.TraceFinals'. -/
def traceFinalsCard : Claim7 := { stood := { row := traceFinalsRow, standIns := [], harness := (true, "b06efb1dbdd8d2fa940fd093363c8964153fa60b2a3cd39bcc1a1ed78327c632"), looks := true }, kinds := [], alts := [], laidByText := true, laidKinds := [.data, .data, .data], laidTests := true, laidLooks := .later }
def TraceFinalsCardSaid : Prop := Claim7.holds Tryd.pinned (.plain (OpenSpec.ofChange traceFinalsSpec)) traceFinalsCard

/-- THE SECOND FORM's CARD OF 'detentlaw12.ScriptGiven'. -/
def scriptGivenUptoCard : Claim7 := { stood := { row := scriptGivenUptoRow, standIns := [], harness := (true, "b06efb1dbdd8d2fa940fd093363c8964153fa60b2a3cd39bcc1a1ed78327c632"), looks := true }, kinds := [], alts := [], laidByText := true, laidKinds := [.data, .data, .data, .data], laidTests := true, laidLooks := .later }
def ScriptGivenUptoCardSaid : Prop := Claim7.holds Tryd.pinned (.plain (OpenSpec.upto scriptGivenSpec)) scriptGivenUptoCard

/-- THE SECOND FORM's CARD OF 'detentlaw12.ScriptReads'. -/
def scriptReadsUptoCard : Claim7 := { stood := { row := scriptReadsUptoRow, standIns := [], harness := (true, "b06efb1dbdd8d2fa940fd093363c8964153fa60b2a3cd39bcc1a1ed78327c632"), looks := true }, kinds := [], alts := [], laidByText := true, laidKinds := [.data, .data, .data, .data, .sentinel, .sentinel, .data, .pinned], laidTests := true, laidLooks := .later }
def ScriptReadsUptoCardSaid : Prop := Claim7.holds Tryd.pinned (.plain (OpenSpec.upto scriptReadsSpec)) scriptReadsUptoCard

/-- THE SECOND FORM's CARD OF 'detentlaw13.TraceFinals'. -/
def traceFinalsUptoCard : Claim7 := { stood := { row := traceFinalsUptoRow, standIns := [], harness := (true, "b06efb1dbdd8d2fa940fd093363c8964153fa60b2a3cd39bcc1a1ed78327c632"), looks := true }, kinds := [], alts := [], laidByText := true, laidKinds := [.data, .data, .data], laidTests := true, laidLooks := .later }
def TraceFinalsUptoCardSaid : Prop := Claim7.holds Tryd.pinned (.plain (OpenSpec.upto traceFinalsSpec)) traceFinalsUptoCard
end Rows
end Go.Proofs.YtkljdpjdlccidaaDoor
