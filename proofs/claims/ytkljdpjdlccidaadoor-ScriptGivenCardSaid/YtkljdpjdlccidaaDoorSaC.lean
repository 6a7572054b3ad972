/- Entries in memory; the table of their shapes; which may be, of the program and of the document. -/
import Derived.Test.YtkljdpjdlccidaaDoorSaB
import Derived.Test.YtkljdpjdlccidaaDoorOpA
namespace Go.Proofs.YtkljdpjdlccidaaDoor
open Go.RowKit Go.Shelf
attribute [local go_sem] Oper.semAt_some
def En.cells (e : En) : List Value := [.int .i64 e.k, .int .i64 e.a, .int .i64 e.n]
def En.v (e : En) : Value := .agg #[.int .i64 e.k, .int .i64 e.a, .int .i64 e.n]
def En.o (e : En) : Obj := .cells #[.int .i64 e.k, .int .i64 e.a, .int .i64 e.n] 42 (0, 0)
theorem En.o_cells {w : World} {b : Nat} {e : En} (h : w.heap[b]? = some e.o) : w.cell? ⟨b, 0, none⟩ = some (.int .i64 e.k) ∧ w.cell? ⟨b, 1, none⟩ = some (.int .i64 e.a) ∧ w.cell? ⟨b, 2, none⟩ = some (.int .i64 e.n) ∧ b < w.heap.size := by
  refine ⟨?_, ?_, ?_, (Array.getElem?_eq_some_iff.1 h).1⟩ <;> simp [World.cell?, h, En.o]
def tabS : List Value := [.string ⟨#[]⟩, .bool false, .bool false, .string ⟨#[114, 117, 110]⟩, .bool true, .bool false, .string ⟨#[119, 111, 114, 107]⟩, .bool true, .bool false, .string ⟨#[116, 105, 99, 107]⟩, .bool false, .bool true, .string ⟨#[105, 110, 106, 101, 99, 116]⟩, .bool true, .bool true, .string ⟨#[108, 105, 102, 101]⟩, .bool true, .bool true]
/-- The table of shapes is there. -/
structure TabS (w : World) : Prop where
  c : ∀ i : Nat, i < 18 → w.cell? ⟨0, i, none⟩ = some (tabS.getD i (.bool false))
  lt : 0 < w.heap.size
theorem TabS.ext {w w' : World} (h : TabS w) (k : Ext w w') : TabS w' := ⟨fun i hi => (k.kept (fun _ _ => true)).cell (h.c i hi) fun _ _ => rfl, Nat.lt_of_lt_of_le h.lt k.size⟩
theorem mayE_f {e : En} (h : ¬ (1 ≤ e.k ∧ e.k ≤ 5 ∧ 0 ≤ e.a ∧ (e.k = 3 → e.a = 0) ∧ (e.k ≤ 2 → e.n = 0))) : mayE e = false := by
  cases hm : mayE e with
  | false => rfl
  | true => exact absurd ((mayE_iff e).1 hm) h
theorem mayE_t {e : En} (h : 1 ≤ e.k ∧ e.k ≤ 5 ∧ 0 ≤ e.a ∧ (e.k = 3 → e.a = 0) ∧ (e.k ≤ 2 → e.n = 0)) : mayE e = true := (mayE_iff e).2 h
section
variable {w : World}

theorem TabS.k1 (h : TabS w) : w.cell? ⟨0, 3, none⟩ = some (.string ⟨#[114, 117, 110]⟩) ∧ w.cell? ⟨0, 4, none⟩ = some (.bool true) ∧ w.cell? ⟨0, 5, none⟩ = some (.bool false) := ⟨h.c 3 (by decide), h.c 4 (by decide), h.c 5 (by decide)⟩
theorem TabS.k2 (h : TabS w) : w.cell? ⟨0, 6, none⟩ = some (.string ⟨#[119, 111, 114, 107]⟩) ∧ w.cell? ⟨0, 7, none⟩ = some (.bool true) ∧ w.cell? ⟨0, 8, none⟩ = some (.bool false) := ⟨h.c 6 (by decide), h.c 7 (by decide), h.c 8 (by decide)⟩
theorem TabS.k3 (h : TabS w) : w.cell? ⟨0, 9, none⟩ = some (.string ⟨#[116, 105, 99, 107]⟩) ∧ w.cell? ⟨0, 10, none⟩ = some (.bool false) ∧ w.cell? ⟨0, 11, none⟩ = some (.bool true) := ⟨h.c 9 (by decide), h.c 10 (by decide), h.c 11 (by decide)⟩
theorem TabS.k4 (h : TabS w) : w.cell? ⟨0, 12, none⟩ = some (.string ⟨#[105, 110, 106, 101, 99, 116]⟩) ∧ w.cell? ⟨0, 13, none⟩ = some (.bool true) ∧ w.cell? ⟨0, 14, none⟩ = some (.bool true) := ⟨h.c 12 (by decide), h.c 13 (by decide), h.c 14 (by decide)⟩
theorem TabS.k5 (h : TabS w) : w.cell? ⟨0, 15, none⟩ = some (.string ⟨#[108, 105, 102, 101]⟩) ∧ w.cell? ⟨0, 16, none⟩ = some (.bool true) ∧ w.cell? ⟨0, 17, none⟩ = some (.bool true) := ⟨h.c 15 (by decide), h.c 16 (by decide), h.c 17 (by decide)⟩
set_option maxHeartbeats 1000000 in
set_option maxRecDepth 100000 in
theorem May_out (e : En) (h : ¬ (1 ≤ e.k ∧ e.k ≤ 5)) (w : World) : Calls Tryd.prog 34 #[e.v] w fun r w' => r = .returned (.bool (mayE e)) ∧ Ext w w' := by
  rw [mayE_f (e := e) (by omega)]
  obtain ⟨k, a, n⟩ := e
  unfold En.v
  dsimp only at h ⊢
  rcases Int.lt_or_le k 1 with h1 | h1
  · go_enter Tryd.func34, Tryd.ntmps34
    go_wp2_with fail
    go_ret
    exact ⟨rfl, Ext.one _ _⟩
  · have h5 : 5 < k := by omega
    go_enter Tryd.func34, Tryd.ntmps34
    go_wp2_with fail
    go_ret
    exact ⟨rfl, Ext.one _ _⟩
set_option maxHeartbeats 1000000 in
set_option maxRecDepth 100000 in
theorem May_1 (hT : TabS w) (a n : Int) : Calls Tryd.prog 34 #[.agg #[.int .i64 1, .int .i64 a, .int .i64 n]] w fun r w' => r = .returned (.bool (mayE ⟨1, a, n⟩)) ∧ Ext w w' := by
  obtain ⟨W1, hW1⟩ : ∃ W1, W1 = w.alloc (En.o ⟨1, a, n⟩) := ⟨_, rfl⟩
  have hx1 : Ext w W1 := by rw [hW1]; exact Ext.one _ _
  have hb1 : W1.heap[w.heap.size]? = some (En.o ⟨1, a, n⟩) := by rw [hW1]; exact World.alloc_heap_new _ _
  obtain ⟨x0, x1, x2, xl⟩ := En.o_cells hb1
  have hT1 := hT.ext hx1
  obtain ⟨s0, s1, s2⟩ := hT1.k1
  have sl := hT1.lt
  dsimp only at x0 x1 x2
  have HX1 := Lib.hid hx1
  have HW := Lib.hid hW1
  clear hx1 hb1 hW1 hT hT1
  go_enter Tryd.func34, Tryd.ntmps34
  go_upto_region 1 with (fail)
  change Code.wp _ _ _ _ (w.alloc (En.o ⟨1, a, n⟩))
  rw [← HW.out]
  generalize w.heap.size = bx at *
  clear HW
  rcases Int.lt_or_le a 0 with ha | ha
  · go_wp2_with fail
    go_ret
    refine ⟨?_, HX1.out.trans (Ext.one _ _)⟩
    rw [mayE_f (by dsimp only; omega)]
    rfl
  · by_cases h0 : n = 0
    · subst h0
      go_wp2_with fail
      go_ret
      refine ⟨?_, HX1.out.trans (Ext.one _ _)⟩
      rw [mayE_t (by dsimp only; omega)]
      rfl
    · have z0 : (n == 0) = false := by simpa using h0
      go_wp2_with fail
      go_ret
      refine ⟨?_, HX1.out.trans (Ext.one _ _)⟩
      rw [mayE_f (by dsimp only; omega)]
      rfl
set_option maxHeartbeats 1000000 in
set_option maxRecDepth 100000 in
theorem May_2 (hT : TabS w) (a n : Int) : Calls Tryd.prog 34 #[.agg #[.int .i64 2, .int .i64 a, .int .i64 n]] w fun r w' => r = .returned (.bool (mayE ⟨2, a, n⟩)) ∧ Ext w w' := by
  obtain ⟨W1, hW1⟩ : ∃ W1, W1 = w.alloc (En.o ⟨2, a, n⟩) := ⟨_, rfl⟩
  have hx1 : Ext w W1 := by rw [hW1]; exact Ext.one _ _
  have hb1 : W1.heap[w.heap.size]? = some (En.o ⟨2, a, n⟩) := by rw [hW1]; exact World.alloc_heap_new _ _
  obtain ⟨x0, x1, x2, xl⟩ := En.o_cells hb1
  have hT1 := hT.ext hx1
  obtain ⟨s0, s1, s2⟩ := hT1.k2
  have sl := hT1.lt
  dsimp only at x0 x1 x2
  have HX1 := Lib.hid hx1
  have HW := Lib.hid hW1
  clear hx1 hb1 hW1 hT hT1
  go_enter Tryd.func34, Tryd.ntmps34
  go_upto_region 1 with (fail)
  change Code.wp _ _ _ _ (w.alloc (En.o ⟨2, a, n⟩))
  rw [← HW.out]
  generalize w.heap.size = bx at *
  clear HW
  rcases Int.lt_or_le a 0 with ha | ha
  · go_wp2_with fail
    go_ret
    refine ⟨?_, HX1.out.trans (Ext.one _ _)⟩
    rw [mayE_f (by dsimp only; omega)]
    rfl
  · by_cases h0 : n = 0
    · subst h0
      go_wp2_with fail
      go_ret
      refine ⟨?_, HX1.out.trans (Ext.one _ _)⟩
      rw [mayE_t (by dsimp only; omega)]
      rfl
    · have z0 : (n == 0) = false := by simpa using h0
      go_wp2_with fail
      go_ret
      refine ⟨?_, HX1.out.trans (Ext.one _ _)⟩
      rw [mayE_f (by dsimp only; omega)]
      rfl
set_option maxHeartbeats 1000000 in
set_option maxRecDepth 100000 in
theorem May_3 (hT : TabS w) (a n : Int) : Calls Tryd.prog 34 #[.agg #[.int .i64 3, .int .i64 a, .int .i64 n]] w fun r w' => r = .returned (.bool (mayE ⟨3, a, n⟩)) ∧ Ext w w' := by
  obtain ⟨W1, hW1⟩ : ∃ W1, W1 = w.alloc (En.o ⟨3, a, n⟩) := ⟨_, rfl⟩
  have hx1 : Ext w W1 := by rw [hW1]; exact Ext.one _ _
  have hb1 : W1.heap[w.heap.size]? = some (En.o ⟨3, a, n⟩) := by rw [hW1]; exact World.alloc_heap_new _ _
  obtain ⟨x0, x1, x2, xl⟩ := En.o_cells hb1
  have hT1 := hT.ext hx1
  obtain ⟨s0, s1, s2⟩ := hT1.k3
  have sl := hT1.lt
  dsimp only at x0 x1 x2
  have HX1 := Lib.hid hx1
  have HW := Lib.hid hW1
  clear hx1 hb1 hW1 hT hT1
  go_enter Tryd.func34, Tryd.ntmps34
  go_upto_region 1 with (fail)
  change Code.wp _ _ _ _ (w.alloc (En.o ⟨3, a, n⟩))
  rw [← HW.out]
  generalize w.heap.size = bx at *
  clear HW
  rcases Int.lt_or_le a 0 with ha | ha
  · go_wp2_with fail
    go_ret
    refine ⟨?_, HX1.out.trans (Ext.one _ _)⟩
    rw [mayE_f (by dsimp only; omega)]
    rfl
  · rcases Int.lt_or_le 0 a with h0 | h0
    · have z0 : (a == 0) = false := by simp; omega
      go_wp2_with fail
      go_ret
      refine ⟨?_, HX1.out.trans (Ext.one _ _)⟩
      rw [mayE_f (by dsimp only; omega)]
      rfl
    · obtain rfl : a = 0 := by omega
      go_wp2_with fail
      go_ret
      refine ⟨?_, HX1.out.trans (Ext.one _ _)⟩
      rw [mayE_t (by dsimp only; omega)]
      rfl
set_option maxHeartbeats 1000000 in
set_option maxRecDepth 100000 in
theorem May_4 (hT : TabS w) (a n : Int) : Calls Tryd.prog 34 #[.agg #[.int .i64 4, .int .i64 a, .int .i64 n]] w fun r w' => r = .returned (.bool (mayE ⟨4, a, n⟩)) ∧ Ext w w' := by
  obtain ⟨W1, hW1⟩ : ∃ W1, W1 = w.alloc (En.o ⟨4, a, n⟩) := ⟨_, rfl⟩
  have hx1 : Ext w W1 := by rw [hW1]; exact Ext.one _ _
  have hb1 : W1.heap[w.heap.size]? = some (En.o ⟨4, a, n⟩) := by rw [hW1]; exact World.alloc_heap_new _ _
  obtain ⟨x0, x1, x2, xl⟩ := En.o_cells hb1
  have hT1 := hT.ext hx1
  obtain ⟨s0, s1, s2⟩ := hT1.k4
  have sl := hT1.lt
  dsimp only at x0 x1 x2
  have HX1 := Lib.hid hx1
  have HW := Lib.hid hW1
  clear hx1 hb1 hW1 hT hT1
  go_enter Tryd.func34, Tryd.ntmps34
  go_upto_region 1 with (fail)
  change Code.wp _ _ _ _ (w.alloc (En.o ⟨4, a, n⟩))
  rw [← HW.out]
  generalize w.heap.size = bx at *
  clear HW
  rcases Int.lt_or_le a 0 with ha | ha
  · go_wp2_with fail
    go_ret
    refine ⟨?_, HX1.out.trans (Ext.one _ _)⟩
    rw [mayE_f (by dsimp only; omega)]
    rfl
  · go_wp2_with fail
    go_ret
    refine ⟨?_, HX1.out.trans (Ext.one _ _)⟩
    rw [mayE_t (by dsimp only; omega)]
    rfl
set_option maxHeartbeats 1000000 in
set_option maxRecDepth 100000 in
theorem May_5 (hT : TabS w) (a n : Int) : Calls Tryd.prog 34 #[.agg #[.int .i64 5, .int .i64 a, .int .i64 n]] w fun r w' => r = .returned (.bool (mayE ⟨5, a, n⟩)) ∧ Ext w w' := by
  obtain ⟨W1, hW1⟩ : ∃ W1, W1 = w.alloc (En.o ⟨5, a, n⟩) := ⟨_, rfl⟩
  have hx1 : Ext w W1 := by rw [hW1]; exact Ext.one _ _
  have hb1 : W1.heap[w.heap.size]? = some (En.o ⟨5, a, n⟩) := by rw [hW1]; exact World.alloc_heap_new _ _
  obtain ⟨x0, x1, x2, xl⟩ := En.o_cells hb1
  have hT1 := hT.ext hx1
  obtain ⟨s0, s1, s2⟩ := hT1.k5
  have sl := hT1.lt
  dsimp only at x0 x1 x2
  have HX1 := Lib.hid hx1
  have HW := Lib.hid hW1
  clear hx1 hb1 hW1 hT hT1
  go_enter Tryd.func34, Tryd.ntmps34
  go_upto_region 1 with (fail)
  change Code.wp _ _ _ _ (w.alloc (En.o ⟨5, a, n⟩))
  rw [← HW.out]
  generalize w.heap.size = bx at *
  clear HW
  rcases Int.lt_or_le a 0 with ha | ha
  · go_wp2_with fail
    go_ret
    refine ⟨?_, HX1.out.trans (Ext.one _ _)⟩
    rw [mayE_f (by dsimp only; omega)]
    rfl
  · go_wp2_with fail
    go_ret
    refine ⟨?_, HX1.out.trans (Ext.one _ _)⟩
    rw [mayE_t (by dsimp only; omega)]
    rfl
theorem May_ok (hT : TabS w) (e : En) : Calls Tryd.prog 34 #[e.v] w fun r w' => r = .returned (.bool (mayE e)) ∧ Ext w w' := by
  by_cases h : 1 ≤ e.k ∧ e.k ≤ 5
  · obtain ⟨k, a, n⟩ := e
    dsimp only at h
    obtain rfl | rfl | rfl | rfl | rfl : k = 1 ∨ k = 2 ∨ k = 3 ∨ k = 4 ∨ k = 5 := by omega
    · exact May_1 hT a n
    · exact May_2 hT a n
    · exact May_3 hT a n
    · exact May_4 hT a n
    · exact May_5 hT a n
  · exact May_out e h w
end
end Go.Proofs.YtkljdpjdlccidaaDoor
