/- A region that draws its order, whose operations only read, and whose callees leave what lay as it was: walked once. -/
import Derived.Test.YtkljdpjdlccidaaDoorHrA
import Derived.Deep.QuietTactic
namespace Go.Proofs.YtkljdpjdlccidaaDoor
/-- A world that has come of W by growth alone. -/
structure ExtBy (W : World) where
  w : World
  x : Ext W w
instance (W : World) : Inhabited (ExtBy W) := ⟨⟨W, Ext.refl W⟩⟩
theorem region_quiet_ext {P : Program} {id : Nat} {Q : Exit → Act → World → Prop} {a : Act} {w : World} {l : List Oper} (hm : P.follows .mixedOrders = true) (hB : Region.lexB .any l.toArray = true)
    (h : wpQuiet P l.toArray (fun w' => ∃ p : ExtBy w, w' = p.w) (fun a' => ∀ w', (∃ p : ExtBy w, w' = p.w) → Q .normal a' w') l a) : (Code.region id l.toArray true).wp P Q a w :=
  wp_region_quiet (C := fun w' => ∃ p : ExtBy w, w' = p.w) hm hB ⟨⟨_, Ext.drew w⟩, rfl⟩ (by simpa using h)
theorem ExtBy.call {P : Program} {W : World} {f : FuncId} {args : Array Value} {v : Value} {p : ExtBy W} (h : Calls P f args p.w fun e w' => e = .returned v ∧ Ext p.w w') : Calls P f args p.w fun e w'' => e = .returned v ∧ ∃ q : ExtBy W, w'' = q.w :=
  h.mono fun _ w' k => ⟨k.1, ⟨w', p.x.trans k.2⟩, rfl⟩
end Go.Proofs.YtkljdpjdlccidaaDoor
