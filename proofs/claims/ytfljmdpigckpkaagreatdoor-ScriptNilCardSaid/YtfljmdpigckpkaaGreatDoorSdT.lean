/- What the rows' condition says of the tables and errors that scripts read; the door's own heap meets it. -/
import Derived.Test.YtfljmdpigckpkaaGreatDoorRows
import Derived.Test.YtfljmdpigckpkaaGreatDoorSaF
import Derived.ProofKit
import Derived.LaidMore
import Derived.OpenShut
import Derived.ChangeArms
import Derived.Lib.LaidTab
import Derived.Stop.Joined
import Derived.Stop.LaidErr
namespace Go.Proofs.YtfljmdpigckpkaaGreatDoor
open Go.ChangeShapes Go.WideShapes Go.ChangeAt Go.WideMaps Go.WideElems Go.RowKit
abbrev laid12n : List (String × DataW Unit) := Rows.scriptNilRow.laid
def laidZ : String × DataW Unit := (String.ofList [], .nil)
theorem laid12n_eq : laid12n = [laid12n.getD 0 laidZ, laid12n.getD 1 laidZ, laid12n.getD 2 laidZ, laid12n.getD 3 laidZ, laid12n.getD 4 laidZ, laid12n.getD 5 laidZ] := rfl
theorem gS : Tryz.prog.globalNamed (laid12n.getD 5 laidZ).1 = some 0 := by kernel_rfl
theorem tS : (Tryz.prog.globals[0]?).map (·.type) = some 264 := by kernel_rfl
theorem gP : Tryz.prog.globalNamed (laid12n.getD 2 laidZ).1 = some 3 := by kernel_rfl
theorem tP : (Tryz.prog.globals[3]?).map (·.type) = some 412 := by kernel_rfl
theorem cells18 : Tryz.prog.cellsOf 264 = 18 := by kernel_rfl
theorem cells3 : Tryz.prog.cellsOf 263 = 3 := by kernel_rfl
theorem cellsSt : Tryz.prog.cellsOf 9 = 1 := by kernel_rfl
theorem cellsBo : Tryz.prog.cellsOf 4 = 1 := by kernel_rfl
section
variable {H : Type} {enc : TypeId × Value → H} {w : World} {base : Nat} {sp : Nat → Bool} {held : Bool}
theorem take3 {cs : List Value} {n : Nat} {a b c : Value} (h : (cs.drop n).take 3 = [a, b, c]) : cs[n]? = some a ∧ cs[n + 1]? = some b ∧ cs[n + 2]? = some c := by
  have h0 := congrArg (fun l : List Value => l[0]?) h
  have h1 := congrArg (fun l : List Value => l[1]?) h
  have h2 := congrArg (fun l : List Value => l[2]?) h
  simp [List.getElem?_drop] at h0 h1 h2
  exact ⟨h0, h1, h2⟩
set_option maxRecDepth 100000 in
theorem shape_el {fuel : Nat} {cs : List Value} {p : List MemPlace} {s : List UInt8} {a b : Bool} (h : DataW.trod enc Tryz.prog w base sp held fuel 263 cs = some (.agg [.lit (.string s), .lit (.bool a), .lit (.bool b)], p)) : cs = [.string ⟨s.toArray⟩, .bool a, .bool b] := by
  obtain ⟨ys, m, rfl, hy, hl, hn, hel⟩ := DataW.trod_struct Tryz.underlying263 h
  rw [cells3] at hl
  obtain ⟨c0, c1, c2, rfl⟩ : ∃ c0 c1 c2, cs = [c0, c1, c2] := by
    match cs, hl with
    | [a, b, c], _ => exact ⟨a, b, c, rfl⟩
  obtain ⟨y0, y1, y2, rfl⟩ : ∃ y0 y1 y2, ys = [y0, y1, y2] := by
    match ys, hn with
    | [a, b, c], _ => exact ⟨a, b, c, rfl⟩
  have hy1 := (Prod.mk.inj hy).1
  simp only [List.map_cons, List.map_nil, DataW.agg.injEq, List.cons.injEq, and_true] at hy1
  have e0 := hel 0 _ rfl
  have e1 := hel 1 _ rfl
  have e2 := hel 2 _ rfl
  simp [cellsSt, cellsBo] at e0 e1 e2
  obtain ⟨s0, q0, r0, _⟩ := DataW.trod_string Tryz.underlying9 e0
  obtain ⟨b1, q1, r1⟩ := DataW.trod_bool Tryz.underlying4 e1
  obtain ⟨b2, q2, r2⟩ := DataW.trod_bool Tryz.underlying4 e2
  obtain ⟨hy0, hy1, hy2⟩ := hy1
  rw [r0] at hy0
  rw [r1] at hy1
  rw [r2] at hy2
  simp only [DataW.lit.injEq, Lit.string.injEq, Lit.bool.injEq] at hy0 hy1 hy2
  obtain rfl := (List.cons.inj q0).1
  obtain rfl := (List.cons.inj q1).1
  obtain rfl := (List.cons.inj q2).1
  subst hy1 hy2
  rw [hy0]
set_option maxRecDepth 100000 in
theorem shape_cells {fuel : Nat} {cs : List Value} {p : List MemPlace} (h : DataW.trod enc Tryz.prog w base sp held fuel 264 cs = some (Rows.laid_detent_script_shapes, p)) : ∀ i : Nat, i < 18 → cs[i]? = some (tabS.getD i (.bool false)) := by
  obtain ⟨xs, m, rfl, hx, hlen, hn, hel⟩ := DataW.trod_array Tryz.underlying264 h
  simp only [cells3] at hel
  have hx1 := (Prod.mk.inj hx).1
  unfold Rows.laid_detent_script_shapes at hx1
  obtain ⟨x0, x1, x2, x3, x4, x5, rfl⟩ : ∃ x0 x1 x2 x3 x4 x5, xs = [x0, x1, x2, x3, x4, x5] := by
    match xs, hn with
    | [a, b, c, d, e, f], _ => exact ⟨a, b, c, d, e, f, rfl⟩
  simp only [List.map_cons, List.map_nil, DataW.agg.injEq, List.cons.injEq, and_true] at hx1
  obtain ⟨h0, h1, h2, h3, h4, h5⟩ := hx1
  obtain ⟨x0v, x0p⟩ := x0
  dsimp only at h0
  subst h0
  obtain ⟨a0, b0, c0⟩ := take3 (shape_el (hel 0 (by decide)))
  obtain ⟨x1v, x1p⟩ := x1
  dsimp only at h1
  subst h1
  obtain ⟨a1, b1, c1⟩ := take3 (shape_el (hel 1 (by decide)))
  obtain ⟨x2v, x2p⟩ := x2
  dsimp only at h2
  subst h2
  obtain ⟨a2, b2, c2⟩ := take3 (shape_el (hel 2 (by decide)))
  obtain ⟨x3v, x3p⟩ := x3
  dsimp only at h3
  subst h3
  obtain ⟨a3, b3, c3⟩ := take3 (shape_el (hel 3 (by decide)))
  obtain ⟨x4v, x4p⟩ := x4
  dsimp only at h4
  subst h4
  obtain ⟨a4, b4, c4⟩ := take3 (shape_el (hel 4 (by decide)))
  obtain ⟨x5v, x5p⟩ := x5
  dsimp only at h5
  subst h5
  obtain ⟨a5, b5, c5⟩ := take3 (shape_el (hel 5 (by decide)))
  intro i hi
  obtain rfl | rfl | rfl | rfl | rfl | rfl | rfl | rfl | rfl | rfl | rfl | rfl | rfl | rfl | rfl | rfl | rfl | rfl : i = 0 ∨ i = 1 ∨ i = 2 ∨ i = 3 ∨ i = 4 ∨ i = 5 ∨ i = 6 ∨ i = 7 ∨ i = 8 ∨ i = 9 ∨ i = 10 ∨ i = 11 ∨ i = 12 ∨ i = 13 ∨ i = 14 ∨ i = 15 ∨ i = 16 ∨ i = 17 := by omega
  · exact a0
  · exact b0
  · exact c0
  · exact a1
  · exact b1
  · exact c1
  · exact a2
  · exact b2
  · exact c2
  · exact a3
  · exact b3
  · exact c3
  · exact a4
  · exact b4
  · exact c4
  · exact a5
  · exact b5
  · exact c5
end
theorem tabA_of_laid {W : World} (h : laidMetH Tryz.prog laid12n W) : TabA W := by
  rw [MakeChecks.laidMetH_plain _ _ _ (by kernel_rfl), laid12n_eq] at h
  have h2 := h.tail.tail
  have h5 := h2.tail.tail.tail
  have hP : Lib.TabIs Tryz.prog W "internal/strconv.uint64pow10" .u64 Lib.pow10Tab := Lib.tabIs_of_head gP tP Tryz.underlying412 Tryz.underlying380 (by kernel_rfl) (by kernel_rfl) h2
  obtain ⟨ps, ⟨g, t, cs, fuel, p, q, hg, ht, hv, hd, _, _⟩, _⟩ := h5
  obtain rfl := Option.some.inj (gS.symm.trans hg)
  obtain rfl := Option.some.inj (tS.symm.trans ht)
  have hc := shape_cells hd
  have hcell : ∀ i : Nat, i < 18 → W.cell? ⟨0, i, none⟩ = some (tabS.getD i (.bool false)) := fun i hi => by
    have h1 := World.var?_cell hg hv i
    rw [h1, ← Array.getElem?_toList]
    exact hc i hi
  refine ⟨⟨hcell, World.block_lt_of_cell? W _ (hcell 0 (by decide))⟩, hP, fun g hg => ?_⟩
  obtain rfl := Option.some.inj (gP.symm.trans hg)
  have := hP.cell gP 0 (by decide)
  exact World.block_lt_of_cell? W _ this
set_option maxRecDepth 100000 in
theorem door_metN (os : Os) (args : Array Value) : laidMetH Tryz.prog laid12n ((World.doorLaid Tryz.prog 400 os).forCall (fun _ _ => 0) ⟨#[], args, []⟩).memory :=
  laidMetH_of_parts3 (fuel := 8) (laidMet_of_run' 8 (by kernel_rfl) (by kernel_rfl)) (by kernel_rfl) (by kernel_rfl)
end Go.Proofs.YtfljmdpigckpkaaGreatDoor
