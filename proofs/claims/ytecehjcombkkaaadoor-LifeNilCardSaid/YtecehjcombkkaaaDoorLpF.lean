/- The program's lives: maps.Equal at the seat; Same. -/
import Derived.Test.YtecehjcombkkaaaDoorLpE
import Derived.Test.YtecehjcombkkaaaDoorQtA
import Derived.Shelf.SlMaps.Equal
namespace Go.Proofs.YtecehjcombkkaaaDoor
open Go.RowKit Go.Shelf Go.Maps
attribute [local go_sem] Oper.semAt_some
/-- The shelf's numbers at the seat. -/
def renE : Ren := { f := fun k => if k = 6 then 30 else 0, t := fun k => if k = 0 then 0 else if k = 3 then 3 else if k = 4 then 4 else if k = 23 then 44 else if k = 24 then 44 else if k = 26 then 3 else if k = 27 then 3 else 59, g := fun k => k }
theorem laysE : SlLaysEq.n6 Tryd.prog renE where
  mixed := by kernel_rfl
  f6 := ⟨Tryd.f30.name, by kernel_rfl, by kernel_rfl⟩
  t0 := by kernel_rfl
  a0 := by intro w; kernel_rfl
  z0 := by intro w; kernel_rfl
  v0 := by intro w; kernel_rfl
  t3 := by kernel_rfl
  a3 := by intro w; kernel_rfl
  z3 := by intro w; kernel_rfl
  v3 := by intro w; kernel_rfl
  t4 := by kernel_rfl
  a4 := by intro w; kernel_rfl
  z4 := by intro w; kernel_rfl
  v4 := by intro w; kernel_rfl
  t23 := by kernel_rfl
  a23 := by intro w; kernel_rfl
  z23 := by intro w; kernel_rfl
  v23 := by intro w; kernel_rfl
  t24 := by kernel_rfl
  a24 := by intro w; kernel_rfl
  z24 := by intro w; kernel_rfl
  v24 := by intro w; kernel_rfl
  a26 := by intro w; kernel_rfl
  z26 := by intro w; kernel_rfl
  a27 := by intro w; kernel_rfl
  z27 := by intro w; kernel_rfl
  t36 := by kernel_rfl
  a36 := by intro w; kernel_rfl
  z36 := by intro w; kernel_rfl
theorem neqN (W : World) (x y : Value) (xd yd : DM) (xp yp : List MemPlace) (hx : plainElem Tryd.prog 3 x = some (xd, xp)) (hy : plainElem Tryd.prog 3 y = some (yd, yp)) :
    (binOp .neq 3 x y).run Tryd.prog W = .ok (.bool (!eqN xd yd)) W ∧ ∀ (a b : Operand), (eqGuard .neq 3 a b x y).run Tryd.prog W = .ok () W := by
  obtain ⟨a, rfl, h1, _⟩ := plainElem_int_inv Tryd.underlying3 hx
  obtain ⟨b, rfl, h2, _⟩ := plainElem_int_inv Tryd.underlying3 hy
  obtain rfl : xd = .lit (.int .i64 a) := by simpa using (congrArg Prod.fst h1)
  obtain rfl : yd = .lit (.int .i64 b) := by simpa using (congrArg Prod.fst h2)
  refine ⟨?_, fun _ _ => by rw [eqGuard_at_int]; rfl⟩
  simp [go_sem, eqN, binOp]
  rfl
set_option maxHeartbeats 1000000 in
theorem mequal_ok {W : World} {b1 b2 : Nat} {D1 D2 : DM} {C C2 : List Int} (h1 : OM W b1 D1) (h2 : OM W b2 D2) (c1 : MC C D1) (c2 : MC C2 D2) (hl : C.length = C2.length) :
    Calls Tryd.prog 30 #[.map (some b1), .map (some b2)] W fun e w' => e = .returned (.bool (decide (C = C2))) ∧ Ext W w' := by
  have hcon := AnyEq.maps_Equal laysE law3 (plainElem Tryd.prog 3) (plainElem Tryd.prog 3) eqN b1 b2 _ _ D1 D2 W h1 h2 (.int .i64 0) (fun w => zeroI w) (.lit (.int .i64 0)) [] (Go.plainElem_int Tryd.underlying3 (by decide)) neqN
  obtain ⟨es, e, _, hkeys⟩ := h1.entries law3
  rw [e, equal_plain (by rw [← e]; exact c1) c2 hkeys hl] at hcon
  exact hcon.mono fun e w' k => ⟨k.1, Kept.grown k.2 fun j o e _ => by cases e⟩
attribute [local irreducible] wpQuiet
section
variable {own own' : Nat → Bool} {bw bo : Nat} {C C' : List Int} {E E' : List Bool} {W : World}
set_option maxHeartbeats 4000000 in
set_option maxRecDepth 100000 in
theorem Same_ok (h : PL own bw C E W) (h' : PL own' bo C' E' W) : Calls Tryd.prog 14 #[.pointer (some ⟨bw, 0, none⟩), .pointer (some ⟨bo, 0, none⟩)] W fun e W' => e = .returned (.bool (sameP C E C' E')) ∧ Ext W W' := by
  obtain ⟨bm, D, B, d, _, x0, x1, x2, hl, _, hm, hc, hr, _⟩ := h.parts
  obtain ⟨bm', D', B', d', _, y0, y1, y2, hl', _, hm', hc', hr', _⟩ := h'.parts
  have hn := h.len
  have hn' := h'.len
  by_cases h1 : C.length = C'.length
  · have hme := fun (p : ExtBy W) => mequal_ok ((p.x.kept (fun _ _ => true)).map hm rfl) ((p.x.kept (fun _ _ => true)).map hm' rfl) hc hc' h1
    have heb := fun (p : ExtBy W) => (equalB_ok ((p.x.kept (fun _ _ => true)).row hr fun _ _ => rfl) ((p.x.kept (fun _ _ => true)).row hr' fun _ _ => rfl) (show E.length ≤ 1000 ∧ E'.length ≤ 1000 by omega)).mono fun e w' (k : _ ∧ ∃ n, w' = p.w.drewN n) => (⟨k.1, by obtain ⟨n, hn⟩ := k.2; rw [hn]; exact Ext.drewN _ _⟩ : e = _ ∧ Ext p.w w')
    have z0 : ((C.length : Int) == (C'.length : Int)) = true := by simp [h1]
    have a0 := fun (p : ExtBy W) => (p.x.kept (fun _ _ => true)).cell x0 fun _ _ => rfl
    have a1 := fun (p : ExtBy W) => (p.x.kept (fun _ _ => true)).cell x1 fun _ _ => rfl
    have a2 := fun (p : ExtBy W) => (p.x.kept (fun _ _ => true)).cell x2 fun _ _ => rfl
    have b0 := fun (p : ExtBy W) => (p.x.kept (fun _ _ => true)).cell y0 fun _ _ => rfl
    have b1 := fun (p : ExtBy W) => (p.x.kept (fun _ _ => true)).cell y1 fun _ _ => rfl
    have b2 := fun (p : ExtBy W) => (p.x.kept (fun _ _ => true)).cell y2 fun _ _ => rfl
    have c0 := fun (p : ExtBy W) => Nat.lt_of_lt_of_le hl p.x.size
    have c1 := fun (p : ExtBy W) => Nat.lt_of_lt_of_le hl' p.x.size
    by_cases h2 : C = C'
    · have hs : sameP C E C' E' = decide (E = E') := by unfold sameP; simp [h2]
      rw [decide_eq_true h2] at hme
      rw [hs]
      generalize decide (E = E') = r at heb ⊢
      have HME := Lib.hid hme
      have HEB := Lib.hid heb
      clear hme heb hs h h' hm hm' hc hc' hr hr' h1 h2
      go_enter Tryd.func14, Tryd.ntmps14
      go_upto_region 3 with (fail)
      clear x0 x1 x2 y0 y1 y2 hl hl'
      refine region_quiet_ext (by kernel_rfl) (by kernel_rfl) ?_
      repeat (quiet_step (first
        | (go_at_call 30; exact ExtBy.call (HME.out _))
        | (go_at_call 31; exact ExtBy.call (HEB.out _))))
      refine wpQuiet_nil ?_
      rintro w' ⟨p, rfl⟩
      go_wp2_with fail
      go_ret
      exact ⟨rfl, p.x⟩
    · have hs : sameP C E C' E' = false := by unfold sameP; simp [h2]
      rw [decide_eq_false h2] at hme
      rw [hs]
      have HME := Lib.hid hme
      clear hme heb hs h h' hm hm' hc hc' hr hr' h1 h2
      go_enter Tryd.func14, Tryd.ntmps14
      go_upto_region 3 with (fail)
      clear x0 x1 x2 y0 y1 y2 hl hl'
      refine region_quiet_ext (by kernel_rfl) (by kernel_rfl) ?_
      repeat (quiet_step (first
        | (go_at_call 30; exact ExtBy.call (HME.out _))))
      refine wpQuiet_nil ?_
      rintro w' ⟨p, rfl⟩
      go_wp2_with fail
      go_ret
      exact ⟨rfl, p.x⟩
  · have hs : sameP C E C' E' = false := by
      unfold sameP
      have : ¬ C = C' := fun e => h1 (by rw [e])
      simp [this]
    rw [hs]
    have z0 : ((C.length : Int) == (C'.length : Int)) = false := by simp; omega
    have HX := Lib.hid (fun n => Ext.drewN W n)
    clear hs h h' hm hm' hc hc' hr hr' h1
    go_enter Tryd.func14, Tryd.ntmps14
    go_upto_region 3 with (fail)
    go_quiet (fail)
    go_wp2_with fail
    go_ret
    exact ⟨rfl, HX.out _⟩
end
end Go.Proofs.YtecehjcombkkaaaDoor
