/- What the rows' condition says of the table; the door's own heap meets it. -/
import Derived.Test.YtecehjcombkkaaaDoorRows
import Derived.Test.YtecehjcombkkaaaDoorLpB
import Derived.ProofKit
import Derived.LaidMore
import Derived.OpenShut
import Derived.Stop.Joined
namespace Go.Proofs.YtecehjcombkkaaaDoor
open Go.ChangeShapes Go.WideShapes Go.ChangeAt Go.WideMaps Go.WideElems Go.RowKit
def laidZ : String × DataW Unit := (String.ofList [], .nil)
abbrev laid9 : List (String × DataW Unit) := Rows.lifePlaysRow.laid
theorem gNext : Tryd.prog.globalNamed (laid9.headD laidZ).1 = some 0 := by kernel_rfl
theorem tNext : (Tryd.prog.globals[0]?).map (·.type) = some 61 := by kernel_rfl
theorem cells61 : Tryd.prog.cellsOf 61 = 20 := by kernel_rfl
theorem cells60 : Tryd.prog.cellsOf 60 = 4 := by kernel_rfl
theorem cells4 : Tryd.prog.cellsOf 4 = 1 := by kernel_rfl
section
variable {H : Type} {enc : TypeId × Value → H} {w : World} {base : Nat} {sp : Nat → Bool} {held : Bool}
set_option maxRecDepth 100000 in
theorem row4 {fuel : Nat} {cs : List Value} {x : DataW H × List MemPlace} {a b c d : Bool} (h : DataW.trod enc Tryd.prog w base sp held fuel 60 cs = some x) (hx : x.1 = .agg [.lit (.bool a), .lit (.bool b), .lit (.bool c), .lit (.bool d)]) : cs = [.bool a, .bool b, .bool c, .bool d] := by
  obtain ⟨xs, m, rfl, rfl, hlen, hn, hel⟩ := DataW.trod_array Tryd.underlying60 h
  rw [cells60] at hlen
  simp only [cells4] at hel
  match cs, hlen, xs, hn with
  | [c0, c1, c2, c3], _, [x0, x1, x2, x3], _ =>
    have h0 : DataW.trod enc Tryd.prog w base sp held m 4 [c0] = some x0 := hel 0 (by decide)
    have h1 : DataW.trod enc Tryd.prog w base sp held m 4 [c1] = some x1 := hel 1 (by decide)
    have h2 : DataW.trod enc Tryd.prog w base sp held m 4 [c2] = some x2 := hel 2 (by decide)
    have h3 : DataW.trod enc Tryd.prog w base sp held m 4 [c3] = some x3 := hel 3 (by decide)
    obtain ⟨z0, e0, rfl⟩ := DataW.trod_bool Tryd.underlying4 h0
    obtain ⟨z1, e1, rfl⟩ := DataW.trod_bool Tryd.underlying4 h1
    obtain ⟨z2, e2, rfl⟩ := DataW.trod_bool Tryd.underlying4 h2
    obtain ⟨z3, e3, rfl⟩ := DataW.trod_bool Tryd.underlying4 h3
    simp only [List.map_cons, List.map_nil, DataW.agg.injEq, List.cons.injEq, DataW.lit.injEq, Lit.bool.injEq, and_true] at hx
    obtain ⟨q0, q1, q2, q3⟩ := hx
    rw [List.cons.injEq] at e0 e1 e2 e3
    rw [e0.1, e1.1, e2.1, e3.1, q0, q1, q2, q3]
set_option maxRecDepth 100000 in
theorem table_cells {fuel : Nat} {cs : List Value} {p : List MemPlace} (h : DataW.trod enc Tryd.prog w base sp held fuel 61 cs = some (Rows.laid_detent_life_next, p)) : cs = tabL.map Value.bool := by
  obtain ⟨xs, m, rfl, hx, hlen, hn, hel⟩ := DataW.trod_array Tryd.underlying61 h
  rw [cells61] at hlen
  simp only [cells60] at hel
  have hx1 := congrArg Prod.fst hx
  dsimp only at hx1
  unfold Rows.laid_detent_life_next at hx1
  match xs, hn with
  | [x0, x1, x2, x3, x4], _ =>
    simp only [List.map_cons, List.map_nil, DataW.agg.injEq, List.cons.injEq, and_true] at hx1
    obtain ⟨q0, q1, q2, q3, q4⟩ := hx1
    have h0 := row4 (hel 0 (by decide)) q0.symm
    have h1 := row4 (hel 1 (by decide)) q1.symm
    have h2 := row4 (hel 2 (by decide)) q2.symm
    have h3 := row4 (hel 3 (by decide)) q3.symm
    have h4 := row4 (hel 4 (by decide)) q4.symm
    match cs, hlen with
    | [c0, c1, c2, c3, c4, c5, c6, c7, c8, c9, d0, d1, d2, d3, d4, d5, d6, d7, d8, d9], _ =>
      simp only [List.drop_zero, Nat.zero_mul, Nat.one_mul, List.take_succ_cons, List.take_zero, List.drop_succ_cons, List.cons.injEq, and_true] at h0 h1 h2 h3 h4
      obtain ⟨rfl, rfl, rfl, rfl⟩ := h0
      obtain ⟨rfl, rfl, rfl, rfl⟩ := h1
      obtain ⟨rfl, rfl, rfl, rfl⟩ := h2
      obtain ⟨rfl, rfl, rfl, rfl⟩ := h3
      obtain ⟨rfl, rfl, rfl, rfl⟩ := h4
      rfl
end
theorem tab_of_laid {W : World} (h : laidMetH Tryd.prog laid9 W) : Tab W := by
  rw [MakeChecks.laidMetH_plain _ _ _ (by kernel_rfl)] at h
  obtain ⟨ps, ⟨g, t, cs, fuel, p, q, hg, ht, hv, hd, _, _⟩, _⟩ := h
  obtain rfl := Option.some.inj (gNext.symm.trans hg)
  obtain rfl := Option.some.inj (tNext.symm.trans ht)
  have hc := table_cells hd
  have hcell : ∀ i : Nat, i < 20 → W.cell? ⟨0, i, none⟩ = some (.bool (tabL.getD i false)) := fun i hi => by
    have h1 := World.var?_cell hg hv i
    rw [h1, ← Array.getElem?_toList, hc, List.getElem?_map]
    have hl : i < tabL.length := hi
    simp [List.getD_eq_getElem?_getD, List.getElem?_eq_getElem hl]
  exact ⟨hcell, World.block_lt_of_cell? W _ (hcell 0 (by decide))⟩
set_option maxRecDepth 100000 in
theorem door_met (os : Os) (args : Array Value) : laidMetH Tryd.prog laid9 ((World.doorLaid Tryd.prog 400 os).forCall (fun _ _ => 0) ⟨#[], args, []⟩).memory :=
  laidMetH_of_parts3 (fuel := 8) (laidMet_of_run' 8 (by kernel_rfl) (by kernel_rfl)) (by kernel_rfl) (by kernel_rfl)
end Go.Proofs.YtecehjcombkkaaaDoor
