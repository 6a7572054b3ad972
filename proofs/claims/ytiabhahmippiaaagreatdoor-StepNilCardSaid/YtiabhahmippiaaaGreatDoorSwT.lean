/- What the rows' condition says of the table of the named registers; the door's own heap meets it. -/
import Derived.Test.YtiabhahmippiaaaGreatDoorRows
import Derived.Test.YtiabhahmippiaaaGreatDoorSvA
import Derived.ProofKit
import Derived.LaidMore
import Derived.OpenShut
import Derived.Stop.Joined
namespace Go.Proofs.YtiabhahmippiaaaGreatDoor
open Go.ChangeShapes Go.WideShapes Go.ChangeAt Go.WideMaps Go.WideElems Go.RowKit
def laidZ : String × DataW Unit := (String.ofList [], .nil)
abbrev laid10 : List (String × DataW Unit) := Rows.stepNilRow.laid
theorem gNamed : Tryz.prog.globalNamed (laid10.headD laidZ).1 = some 0 := by kernel_rfl
theorem tNamed : (Tryz.prog.globals[0]?).map (·.type) = some 217 := by kernel_rfl
theorem cells34 : Tryz.prog.cellsOf 217 = 34 := by kernel_rfl
theorem cellsI : Tryz.prog.cellsOf 3 = 1 := by kernel_rfl
section
variable {H : Type} {enc : TypeId × Value → H} {w : World} {base : Nat} {sp : Nat → Bool} {held : Bool}
set_option maxRecDepth 100000 in
theorem named_cells {fuel : Nat} {cs : List Value} {p : List MemPlace} (h : DataW.trod enc Tryz.prog w base sp held fuel 217 cs = some (Rows.laid_detent_step_named, p)) : cs = tabN.map fun z => Value.int .i64 z := by
  obtain ⟨xs, m, rfl, hx, hlen, hn, hel⟩ := DataW.trod_array Tryz.underlying217 h
  rw [cells34] at hlen
  simp only [cellsI] at hel
  have hx1 := congrArg Prod.fst hx
  dsimp only at hx1
  unfold Rows.laid_detent_step_named at hx1
  have hy : xs.map (fun x => x.1) = tabN.map fun z => DataW.lit (.int .i64 z) := by
    have := DataW.agg.inj hx1
    rw [← this]
    rfl
  apply List.ext_getElem
  · simp [hlen, tabN]
  · intro i h1 h2
    have hi : i < 34 := by omega
    have h0 := hel i hi
    have hix : i < xs.length := by omega
    rw [Nat.mul_one, List.drop_eq_getElem_cons h1, List.take_succ_cons, List.take_zero, List.getElem?_eq_getElem hix] at h0
    obtain ⟨z, e, hz⟩ := DataW.trod_int (k := .i64) (by kernel_rfl) h0
    have hq : (xs.map (fun x => x.1))[i]'(by simpa using hix) = DataW.lit (.int .i64 (tabN[i]'(by simpa [tabN] using hi))) := by
      simp only [hy, List.getElem_map]
    rw [List.getElem_map, hz.1] at hq
    simp only [DataW.lit.injEq, Lit.int.injEq, true_and] at hq
    rw [List.getElem_map]
    rw [← hq]
    exact (List.cons.inj e).1
end
theorem tab_of_laid {W : World} (h : laidMetH Tryz.prog laid10 W) : Tab W := by
  rw [MakeChecks.laidMetH_plain _ _ _ (by kernel_rfl)] at h
  obtain ⟨ps, ⟨g, t, cs, fuel, p, q, hg, ht, hv, hd, _, _⟩, _⟩ := h
  obtain rfl := Option.some.inj (gNamed.symm.trans hg)
  obtain rfl := Option.some.inj (tNamed.symm.trans ht)
  have hc := named_cells hd
  have hcell : ∀ i : Nat, i < 34 → W.cell? ⟨0, i, none⟩ = some (.int .i64 (tabN.getD i 0)) := fun i hi => by
    have h1 := World.var?_cell hg hv i
    rw [h1, ← Array.getElem?_toList, hc, List.getElem?_map]
    have hl : i < tabN.length := hi
    simp [List.getD_eq_getElem?_getD, List.getElem?_eq_getElem hl]
  exact ⟨hcell, World.block_lt_of_cell? W _ (hcell 0 (by decide))⟩
set_option maxRecDepth 100000 in
theorem door_met (os : Os) (args : Array Value) : laidMetH Tryz.prog laid10 ((World.doorLaid Tryz.prog 400 os).forCall (fun _ _ => 0) ⟨#[], args, []⟩).memory :=
  laidMetH_of_parts3 (fuel := 8) (laidMet_of_run' 8 (by kernel_rfl) (by kernel_rfl)) (by kernel_rfl) (by kernel_rfl)
end Go.Proofs.YtiabhahmippiaaaGreatDoor
