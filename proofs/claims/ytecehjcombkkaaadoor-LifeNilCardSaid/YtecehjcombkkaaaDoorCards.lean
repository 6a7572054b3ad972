/-
  DERIVED. GIVEN WITH THE SEED: THE CARDS: each row of YtecehjcombkkaaaDoorRows.lean that lists a variable, with what it lists TIED to the program's text (the seventh form; the later family's looks); each row that meets fmt, with fmt's text TOLD by the authors' own Lean function (tested against real Go, not proved from fmt's source: count such statements apart). THE CARD IS WHAT COUNTS. Prove the row's statement (the work); the ties are given (YtecehjcombkkaaaDoorTie.lean); close each card by the builder's one call (the guide's Derived/Test/ToyasCard.lean, 'card_holds'). Laid BY PROGRAM, IN A SANDBOX (cutbox-door.mjs). By AI agents, Wed Nov 11 2026. No macro, syntax, notation, axiom, sorry.
-/
import Derived.Test.YtecehjcombkkaaaDoorRows
import GoSem.ClaimSeven
namespace Go.Proofs.YtecehjcombkkaaaDoor
namespace Rows

/-- THE TIED CARD OF 'detentlaw09.LifePlays'. -/
def lifePlaysCard : Claim7 := { stood := { row := lifePlaysRow, standIns := [], harness := (true, "ca78b745289a565b1a061f5f492ef4f7eb5bba11ba97d48795e92be389955940"), looks := true }, kinds := [], alts := [], laidByText := true, laidKinds := [.data], laidTests := true, laidLooks := .later }
def LifePlaysCardSaid : Prop := Claim7.holds Tryd.pinned (.plain (OpenSpec.ofChange lifePlaysSpec)) lifePlaysCard

/-- THE TIED CARD OF 'detentlaw09.LifeCopies'. -/
def lifeCopiesCard : Claim7 := { stood := { row := lifeCopiesRow, standIns := [], harness := (true, "ca78b745289a565b1a061f5f492ef4f7eb5bba11ba97d48795e92be389955940"), looks := true }, kinds := [], alts := [], laidByText := true, laidKinds := [.data], laidTests := true, laidLooks := .later }
def LifeCopiesCardSaid : Prop := Claim7.holds Tryd.pinned (.plain (OpenSpec.ofChange lifeCopiesSpec)) lifeCopiesCard

/-- THE TIED CARD OF 'detentlaw09.LifeTurns'. -/
def lifeTurnsCard : Claim7 := { stood := { row := lifeTurnsRow, standIns := [], harness := (true, "ca78b745289a565b1a061f5f492ef4f7eb5bba11ba97d48795e92be389955940"), looks := true }, kinds := [], alts := [], laidByText := true, laidKinds := [.data], laidTests := true, laidLooks := .later }
def LifeTurnsCardSaid : Prop := Claim7.holds Tryd.pinned (.plain (OpenSpec.ofChange lifeTurnsSpec)) lifeTurnsCard

/-- THE TIED CARD OF 'detentlaw09.LifeNil'. -/
def lifeNilCard : Claim7 := { stood := { row := lifeNilRow, standIns := [], harness := (true, "ca78b745289a565b1a061f5f492ef4f7eb5bba11ba97d48795e92be389955940"), looks := true }, kinds := [], alts := [], laidByText := true, laidKinds := [.data], laidTests := true, laidLooks := .later }
def LifeNilCardSaid : Prop := Claim7.holds Tryd.pinned (.plain (OpenSpec.ofChange lifeNilSpec)) lifeNilCard

/-- THE SECOND FORM's CARD OF 'detentlaw09.LifePlays'. -/
def lifePlaysUptoCard : Claim7 := { stood := { row := lifePlaysUptoRow, standIns := [], harness := (true, "ca78b745289a565b1a061f5f492ef4f7eb5bba11ba97d48795e92be389955940"), looks := true }, kinds := [], alts := [], laidByText := true, laidKinds := [.data], laidTests := true, laidLooks := .later }
def LifePlaysUptoCardSaid : Prop := Claim7.holds Tryd.pinned (.plain (OpenSpec.upto lifePlaysSpec)) lifePlaysUptoCard

/-- THE SECOND FORM's CARD OF 'detentlaw09.LifeCopies'. -/
def lifeCopiesUptoCard : Claim7 := { stood := { row := lifeCopiesUptoRow, standIns := [], harness := (true, "ca78b745289a565b1a061f5f492ef4f7eb5bba11ba97d48795e92be389955940"), looks := true }, kinds := [], alts := [], laidByText := true, laidKinds := [.data], laidTests := true, laidLooks := .later }
def LifeCopiesUptoCardSaid : Prop := Claim7.holds Tryd.pinned (.plain (OpenSpec.upto lifeCopiesSpec)) lifeCopiesUptoCard

/-- THE SECOND FORM's CARD OF 'detentlaw09.LifeTurns'. -/
def lifeTurnsUptoCard : Claim7 := { stood := { row := lifeTurnsUptoRow, standIns := [], harness := (true, "ca78b745289a565b1a061f5f492ef4f7eb5bba11ba97d48795e92be389955940"), looks := true }, kinds := [], alts := [], laidByText := true, laidKinds := [.data], laidTests := true, laidLooks := .later }
def LifeTurnsUptoCardSaid : Prop := Claim7.holds Tryd.pinned (.plain (OpenSpec.upto lifeTurnsSpec)) lifeTurnsUptoCard

/-- THE SECOND FORM's CARD OF 'detentlaw09.LifeNil'. -/
def lifeNilUptoCard : Claim7 := { stood := { row := lifeNilUptoRow, standIns := [], harness := (true, "ca78b745289a565b1a061f5f492ef4f7eb5bba11ba97d48795e92be389955940"), looks := true }, kinds := [], alts := [], laidByText := true, laidKinds := [.data], laidTests := true, laidLooks := .later }
def LifeNilUptoCardSaid : Prop := Claim7.holds Tryd.pinned (.plain (OpenSpec.upto lifeNilSpec)) lifeNilUptoCard
end Rows
end Go.Proofs.YtecehjcombkkaaaDoor
