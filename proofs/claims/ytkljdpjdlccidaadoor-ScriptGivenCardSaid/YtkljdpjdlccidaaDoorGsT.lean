/- What ScriptGiven's row says of the tables that scripts read; the door's own heap meets it. -/
import Derived.Test.YtkljdpjdlccidaaDoorSaT
namespace Go.Proofs.YtkljdpjdlccidaaDoor
open Go.ChangeShapes Go.WideShapes Go.ChangeAt Go.WideMaps Go.WideElems Go.RowKit
abbrev laidG : List (String × DataW Unit) := Rows.scriptGivenRow.laid
theorem laidG_eq : laidG = [laidG.getD 0 laidZ, laidG.getD 1 laidZ, laidG.getD 2 laidZ, laidG.getD 3 laidZ] := rfl
theorem gSG : Tryd.prog.globalNamed (laidG.getD 3 laidZ).1 = some 0 := by kernel_rfl
theorem gPG : Tryd.prog.globalNamed (laidG.getD 2 laidZ).1 = some 4 := by kernel_rfl
theorem tabA_of_laidG {W : World} (h : laidMetH Tryd.prog laidG W) : TabA W := by
  rw [MakeChecks.laidMetH_plain _ _ _ (by kernel_rfl), laidG_eq] at h
  have h2 := h.tail.tail
  have h3 := h2.tail
  have hP : Lib.TabIs Tryd.prog W "internal/strconv.uint64pow10" .u64 Lib.pow10Tab := Lib.tabIs_of_head gPG tP Tryd.underlying175 Tryd.underlying117 (by kernel_rfl) (by kernel_rfl) h2
  obtain ⟨ps, ⟨g, t, cs, fuel, p, q, hg, ht, hv, hd, _, _⟩, _⟩ := h3
  obtain rfl := Option.some.inj (gSG.symm.trans hg)
  obtain rfl := Option.some.inj (tS.symm.trans ht)
  have hc := shape_cells hd
  have hcell : ∀ i : Nat, i < 18 → W.cell? ⟨0, i, none⟩ = some (tabS.getD i (.bool false)) := fun i hi => by
    have h1 := World.var?_cell hg hv i
    rw [h1, ← Array.getElem?_toList]
    exact hc i hi
  refine ⟨⟨hcell, World.block_lt_of_cell? W _ (hcell 0 (by decide))⟩, hP, fun g hg => ?_⟩
  obtain rfl := Option.some.inj (gPG.symm.trans hg)
  have := hP.cell gPG 0 (by decide)
  exact World.block_lt_of_cell? W _ this
set_option maxRecDepth 100000 in
theorem door_metG (os : Os) (args : Array Value) : laidMetH Tryd.prog laidG ((World.doorLaid Tryd.prog 400 os).forCall (fun _ _ => 0) ⟨#[], args, []⟩).memory :=
  laidMetH_of_parts3 (fuel := 8) (laidMet_of_run' 8 (by kernel_rfl) (by kernel_rfl)) (by kernel_rfl) (by kernel_rfl)
end Go.Proofs.YtkljdpjdlccidaaDoor
