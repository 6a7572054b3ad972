/- What the rows' condition says of the tables and errors that scripts read; the door's own heap meets it. -/
import Derived.Test.YtkljdpjdlccidaaDoorRows
import Derived.Test.YtkljdpjdlccidaaDoorSaG
import Derived.ProofKit
import Derived.LaidMore
import Derived.OpenShut
import Derived.ChangeArms
import Derived.Lib.LaidTab
import Derived.Stop.Joined
import Derived.Stop.LaidErr
namespace Go.Proofs.YtkljdpjdlccidaaDoor
open Go.ChangeShapes Go.WideShapes Go.ChangeAt Go.WideMaps Go.WideElems Go.RowKit
abbrev laid12 : List (String × DataW Unit) := Rows.scriptReadsRow.laid
def laidZ : String × DataW Unit := (String.ofList [], .nil)
theorem laid12_eq : laid12 = [laid12.getD 0 laidZ, laid12.getD 1 laidZ, laid12.getD 2 laidZ, laid12.getD 3 laidZ, laid12.getD 4 laidZ, laid12.getD 5 laidZ, laid12.getD 6 laidZ, laid12.getD 7 laidZ] := rfl
theorem gS : Tryd.prog.globalNamed (laid12.getD 6 laidZ).1 = some 0 := by kernel_rfl
theorem tS : (Tryd.prog.globals[0]?).map (·.type) = some 93 := by kernel_rfl
theorem gP : Tryd.prog.globalNamed (laid12.getD 2 laidZ).1 = some 4 := by kernel_rfl
theorem tP : (Tryd.prog.globals[4]?).map (·.type) = some 175 := by kernel_rfl
theorem gR : Tryd.prog.globalNamed (laid12.getD 4 laidZ).1 = some 3 := by kernel_rfl
theorem tR : (Tryd.prog.globals[3]?).map (·.type) = some 82 := by kernel_rfl
theorem gE : Tryd.prog.globalNamed (laid12.getD 5 laidZ).1 = some 2 := by kernel_rfl
theorem tE : (Tryd.prog.globals[2]?).map (·.type) = some 82 := by kernel_rfl
theorem cells18 : Tryd.prog.cellsOf 93 = 18 := by kernel_rfl
theorem cells3 : Tryd.prog.cellsOf 92 = 3 := by kernel_rfl
theorem cellsSt : Tryd.prog.cellsOf 9 = 1 := by kernel_rfl
theorem cellsBo : Tryd.prog.cellsOf 4 = 1 := by kernel_rfl
theorem iface_cell {P : Program} {W : World} {n nm : String} {d : DataW Unit} {r : List (String × DataW Unit)} {g : Nat} {ti : TypeId} {ms : Array (String × TypeId)} (h : laidMet P ((n, .iface nm d) :: r) W) (hg : P.globalNamed n = some g) (ht : (P.globals[g]?).map (·.type) = some ti) (hi : P.underlying ti = some (.interface ms)) : ∃ u v, W.cell? ⟨g, 0, none⟩ = some (.iface u v) := by
  obtain ⟨ps, ⟨g0, t0, cs, fuel, p, q, hg0, ht0, hv, hd, _, _⟩, _⟩ := h
  obtain rfl := Option.some.inj (hg.symm.trans hg0)
  obtain rfl := Option.some.inj (ht.symm.trans ht0)
  have hc := World.var?_cell hg0 hv 0
  obtain ⟨l⟩ := cs
  cases fuel with
  | zero => cases hd
  | succ fuel =>
    rcases l with _ | ⟨x, _ | ⟨y, l⟩⟩
    · simp [DataW.trod, hi] at hd
    · cases x with
      | iface u v => exact ⟨u, v, by simpa using hc⟩
      | _ => simp [DataW.trod, hi] at hd
    · simp [DataW.trod, hi] at hd
section
variable {H : Type} {enc : TypeId × Value → H} {w : World} {base : Nat} {sp : Nat → Bool} {held : Bool}
theorem take3 {cs : List Value} {n : Nat} {a b c : Value} (h : (cs.drop n).take 3 = [a, b, c]) : cs[n]? = some a ∧ cs[n + 1]? = some b ∧ cs[n + 2]? = some c := by
  have h0 := congrArg (fun l : List Value => l[0]?) h
  have h1 := congrArg (fun l : List Value => l[1]?) h
  have h2 := congrArg (fun l : List Value => l[2]?) h
  simp [List.getElem?_drop] at h0 h1 h2
  exact ⟨h0, h1, h2⟩
set_option maxRecDepth 100000 in
theorem shape_el {fuel : Nat} {cs : List Value} {p : List MemPlace} {s : List UInt8} {a b : Bool} (h : DataW.trod enc Tryd.prog w base sp held fuel 92 cs = some (.agg [.lit (.string s), .lit (.bool a), .lit (.bool b)], p)) : cs = [.string ⟨s.toArray⟩, .bool a, .bool b] := by
  obtain ⟨ys, m, rfl, hy, hl, hn, hel⟩ := DataW.trod_struct Tryd.underlying92 h
  rw [cells3] at hl
  obtain ⟨c0, c1, c2, rfl⟩ : ∃ c0 c1 c2, cs = [c0, c1, c2] := by
    match cs, hl with
    | [a, b, c], _ => exact ⟨a, b, c, rfl⟩
  obtain ⟨y0, y1, y2, rfl⟩ : ∃ y0 y1 y2, ys = [y0, y1, y2] := by
    match ys, hn with
    | [a, b, c], _ => exact ⟨a, b, c, rfl⟩
  have hy1 := (Prod.mk.inj hy).1
  simp only [List.map_cons, List.map_nil, DataW.agg.injEq, List.cons.injEq, and_true] at hy1
  have e0 := hel 0 _ rfl
  have e1 := hel 1 _ rfl
  have e2 := hel 2 _ rfl
  simp [cellsSt, cellsBo] at e0 e1 e2
  obtain ⟨s0, q0, r0, _⟩ := DataW.trod_string Tryd.underlying9 e0
  obtain ⟨b1, q1, r1⟩ := DataW.trod_bool Tryd.underlying4 e1
  obtain ⟨b2, q2, r2⟩ := DataW.trod_bool Tryd.underlying4 e2
  obtain ⟨hy0, hy1, hy2⟩ := hy1
  rw [r0] at hy0
  rw [r1] at hy1
  rw [r2] at hy2
  simp only [DataW.lit.injEq, Lit.string.injEq, Lit.bool.injEq] at hy0 hy1 hy2
  obtain rfl := (List.cons.inj q0).1
  obtain rfl := (List.cons.inj q1).1
  obtain rfl := (List.cons.inj q2).1
  subst hy1 hy2
  rw [hy0]
set_option maxRecDepth 100000 in
theorem shape_cells {fuel : Nat} {cs : List Value} {p : List MemPlace} (h : DataW.trod enc Tryd.prog w base sp held fuel 93 cs = some (Rows.laid_detent_script_shapes, p)) : ∀ i : Nat, i < 18 → cs[i]? = some (tabS.getD i (.bool false)) := by
  obtain ⟨xs, m, rfl, hx, hlen, hn, hel⟩ := DataW.trod_array Tryd.underlying93 h
  simp only [cells3] at hel
  have hx1 := (Prod.mk.inj hx).1
  unfold Rows.laid_detent_script_shapes at hx1
  obtain ⟨x0, x1, x2, x3, x4, x5, rfl⟩ : ∃ x0 x1 x2 x3 x4 x5, xs = [x0, x1, x2, x3, x4, x5] := by
    match xs, hn with
    | [a, b, c, d, e, f], _ => exact ⟨a, b, c, d, e, f, rfl⟩
  simp only [List.map_cons, List.map_nil, DataW.agg.injEq, List.cons.injEq, and_true] at hx1
  obtain ⟨h0, h1, h2, h3, h4, h5⟩ := hx1
  obtain ⟨x0v, x0p⟩ := x0
  dsimp only at h0
  subst h0
  obtain ⟨a0, b0, c0⟩ := take3 (shape_el (hel 0 (by decide)))
  obtain ⟨x1v, x1p⟩ := x1
  dsimp only at h1
  subst h1
  obtain ⟨a1, b1, c1⟩ := take3 (shape_el (hel 1 (by decide)))
  obtain ⟨x2v, x2p⟩ := x2
  dsimp only at h2
  subst h2
  obtain ⟨a2, b2, c2⟩ := take3 (shape_el (hel 2 (by decide)))
  obtain ⟨x3v, x3p⟩ := x3
  dsimp only at h3
  subst h3
  obtain ⟨a3, b3, c3⟩ := take3 (shape_el (hel 3 (by decide)))
  obtain ⟨x4v, x4p⟩ := x4
  dsimp only at h4
  subst h4
  obtain ⟨a4, b4, c4⟩ := take3 (shape_el (hel 4 (by decide)))
  obtain ⟨x5v, x5p⟩ := x5
  dsimp only at h5
  subst h5
  obtain ⟨a5, b5, c5⟩ := take3 (shape_el (hel 5 (by decide)))
  intro i hi
  obtain rfl | rfl | rfl | rfl | rfl | rfl | rfl | rfl | rfl | rfl | rfl | rfl | rfl | rfl | rfl | rfl | rfl | rfl : i = 0 ∨ i = 1 ∨ i = 2 ∨ i = 3 ∨ i = 4 ∨ i = 5 ∨ i = 6 ∨ i = 7 ∨ i = 8 ∨ i = 9 ∨ i = 10 ∨ i = 11 ∨ i = 12 ∨ i = 13 ∨ i = 14 ∨ i = 15 ∨ i = 16 ∨ i = 17 := by omega
  · exact a0
  · exact b0
  · exact c0
  · exact a1
  · exact b1
  · exact c1
  · exact a2
  · exact b2
  · exact c2
  · exact a3
  · exact b3
  · exact c3
  · exact a4
  · exact b4
  · exact c4
  · exact a5
  · exact b5
  · exact c5
end
theorem maxL {w : World} (h : w.ShapedOpen Tryd.prog) : ∃ m, w.cell? ⟨1, 0, none⟩ = some (.int .i64 m) := Tryd.laysM145.s1_3 w h
theorem tabR_of_laid {W : World} (h : laidMetH Tryd.prog laid12 W) (hs : ∃ m, W.cell? ⟨1, 0, none⟩ = some (.int .i64 m)) : TabR W := by
  rw [MakeChecks.laidMetH_plain _ _ _ (by kernel_rfl), laid12_eq] at h
  have h2 := h.tail.tail
  have h4 := h2.tail.tail
  have h5 := h4.tail
  have h6 := h5.tail
  have hP : Lib.TabIs Tryd.prog W "internal/strconv.uint64pow10" .u64 Lib.pow10Tab := Lib.tabIs_of_head gP tP Tryd.underlying175 Tryd.underlying117 (by kernel_rfl) (by kernel_rfl) h2
  have hE := iface_cell h5 gE tE Tryd.underlying82
  have hR := iface_cell h4 gR tR Tryd.underlying82
  obtain ⟨ps, ⟨g, t, cs, fuel, p, q, hg, ht, hv, hd, _, _⟩, _⟩ := h6
  obtain rfl := Option.some.inj (gS.symm.trans hg)
  obtain rfl := Option.some.inj (tS.symm.trans ht)
  have hc := shape_cells hd
  have hcell : ∀ i : Nat, i < 18 → W.cell? ⟨0, i, none⟩ = some (tabS.getD i (.bool false)) := fun i hi => by
    have h1 := World.var?_cell hg hv i
    rw [h1, ← Array.getElem?_toList]
    exact hc i hi
  refine ⟨⟨⟨hcell, World.block_lt_of_cell? W _ (hcell 0 (by decide))⟩, hP, fun g hg => ?_⟩, hE, hR, hs⟩
  obtain rfl := Option.some.inj (gP.symm.trans hg)
  have := hP.cell gP 0 (by decide)
  exact World.block_lt_of_cell? W _ this
/-- The table of first bytes, as it stands when the program begins; the door's world with it. -/
def fstC : Array Value := match (Rows.laid_unicode_utf8_first : DataW Unit) with
  | .agg xs => (xs.map fun x => match x with
    | .lit (.int k n) => Value.int k n
    | _ => .nilIface).toArray
  | _ => #[]
noncomputable def doorW (os : Os) : World := { World.doorLaid Tryd.prog 400 os with heap := (World.doorLaid Tryd.prog 400 os).heap.modify 5 fun o => match o with
  | .cells _ t m => .cells fstC t m
  | o => o }
set_option maxRecDepth 100000 in
theorem door_met (os : Os) (args : Array Value) : laidMetH Tryd.prog laid12 ((doorW os).forCall (fun _ _ => 0) ⟨#[], args, []⟩).memory :=
  laidMetH_of_parts3 (fuel := 8) (laidMet_of_run' 8 (by kernel_rfl) (by kernel_rfl)) (by kernel_rfl) (by kernel_rfl)
end Go.Proofs.YtkljdpjdlccidaaDoor
