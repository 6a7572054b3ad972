/- The program's lives, as the walks ask. -/
import Derived.Test.YtecehjcombkkaaaDoorLpF
namespace Go.Proofs.YtecehjcombkkaaaDoor
open Go.RowKit Go.Shelf
/-- The program's lives are what the law's walks ask. -/
def prog9 : Prog9 where
  T := Tab
  gt := 0
  tk := fun h k hp => h.keep k hp
  tlt := fun h => h.2
  PL := PL
  frame := fun h k hp hg => h.frame k hp hg
  pt := fun h => ⟨h.tb, h.ng⟩
  lt := fun h => h.lt
  new := fun n E A c W hs ht h1 h2 => New_ok n E A c W hs ht h1 h2
  may := fun h c w => May_ok h c w
  go := fun h c w => Go_ok h c w
  state := fun h c => State_ok h c
  on := fun h c => On_ok h c
  set := fun h c on => (Set_ok h c on).mono fun _ _ k => ⟨k.1, _, k.2.1, k.2.2, fun _ hg => .inl hg⟩
  comps := fun h => Comps_ok h
  events := fun h => Events_ok h
  copy := fun h => Copy_ok h
  same := fun h h' => Same_ok h h'
end Go.Proofs.YtecehjcombkkaaaDoor
