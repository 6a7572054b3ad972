/- strings.Builder: String at this seat, by the shelf's own contract. -/
import Derived.Test.YtpdljjlbjebmeaaTokBa
import Derived.Test.YtpdljjlbjebmeaaBld
namespace Go.Proofs.Ytpdljjlbjebmeaa
open Go.RowKit

theorem bString_any (B b : Nat) (l : List UInt8) (w : World) (h : Lib.IsBuilder 67 5 B b (Lib.byteCells l) w) (hBw : B ≤ w.heap.size) :
    Calls Try.prog 38 #[.pointer (some ⟨b, 0, none⟩)] w fun e w' => e = .returned (.string ⟨l.toArray⟩) ∧ Below B w w' := Try.Builder_String_any B b l w h hBw

end Go.Proofs.Ytpdljjlbjebmeaa
