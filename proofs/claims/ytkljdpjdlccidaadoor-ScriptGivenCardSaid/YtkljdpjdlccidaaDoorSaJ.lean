/- The document's May, Line, Text, Same. -/
import Derived.Test.YtkljdpjdlccidaaDoorSaF
import Derived.BigQuiet
namespace Go.Proofs.YtkljdpjdlccidaaDoor
open Go.RowKit Go.Shelf
attribute [local go_sem] Oper.semAt_some
theorem flatE_at : ∀ (T : List En) (i r : Nat) (x : En) (u : Value), T[i]? = some x → (En.cells x)[r]? = some u → (T.flatMap En.cells)[i * 3 + r]? = some u
  | [], i, r, x, u, h, _ => by simp at h
  | y :: T, 0, r, x, u, h, h2 => by
    obtain rfl : y = x := by simpa using h
    have hr : r < (En.cells y).length := (List.getElem?_eq_some_iff.1 h2).1
    rw [List.flatMap_cons, Nat.zero_mul, Nat.zero_add, List.getElem?_append_left hr]
    exact h2
  | y :: T, i + 1, r, x, u, h, h2 => by
    have ih := flatE_at T i r x u (by simpa using h) h2
    have hl : (En.cells y).length = 3 := rfl
    rw [List.flatMap_cons, List.getElem?_append_right (by rw [hl, Nat.succ_mul]; omega), hl]
    rw [show (i + 1) * 3 + r - 3 = i * 3 + r by rw [Nat.succ_mul]; omega]
    exact ih
theorem own_rowsE {W : World} {B : Nat} {A : Option Addr} {c : Nat} {T : List En} (h : W.ownsRow B 42 3 (.slice A T.length c) T.length (T.flatMap En.cells)) (hP : ∀ x ∈ T, x.ok) : RowsE W A T := fun i x hi => by
  have hlt := (List.getElem?_eq_some_iff.1 hi).1
  rcases h.2 with ⟨e, h0⟩ | ⟨g, cap, cur, e, h2⟩
  · omega
  · have hA : A = some ⟨g, 0, none⟩ := by injection e
    refine ⟨g, 0, hA, (Array.getElem?_eq_some_iff.1 h2.2.1).1, hP x (List.mem_of_getElem? hi), fun j u hj => ?_⟩
    have := h.cells (g := g) (by rw [hA]; rfl) _ u (flatE_at T i j x u hi hj)
    simpa [add_none] using this
section
variable {w : World}
theorem refMay_ok (e : En) (w : World) : Calls Tryd.prog 25 #[e.v] w fun r w' => r = .returned (.bool (mayE e)) ∧ Ext w w' := by
  obtain ⟨k, a, n⟩ := e
  obtain ⟨W1, hW1⟩ : ∃ W1, W1 = w.alloc (En.o ⟨k, a, n⟩) := ⟨_, rfl⟩
  have hx1 : Ext w W1 := by rw [hW1]; exact Ext.one _ _
  have hb1 : W1.heap[w.heap.size]? = some (En.o ⟨k, a, n⟩) := by rw [hW1]; exact World.alloc_heap_new _ _
  obtain ⟨x0, x1, x2, xl⟩ := En.o_cells hb1
  dsimp only at x0 x1 x2
  have HX1 := Lib.hid hx1
  have HW := Lib.hid hW1
  clear hx1 hb1 hW1
  unfold En.v
  go_enter Tryd.func25, Tryd.ntmps25
  go_upto_region 1 with (fail)
  change Code.wp _ _ _ _ (w.alloc (En.o ⟨k, a, n⟩))
  rw [← HW.out]
  generalize w.heap.size = bx at *
  clear HW
  by_cases h12 : k = 1 ∨ k = 2
  · rcases Int.lt_or_le a 0 with ha | ha
    · rcases h12 with rfl | rfl
      all_goals
        go_wp2_with fail
        go_ret
        exact ⟨by rw [mayE_f (by dsimp only; omega)]; rfl, HX1.out⟩
    · by_cases hn : n = 0
      · subst hn
        rcases h12 with rfl | rfl
        all_goals
          go_wp2_with fail
          go_ret
          exact ⟨by rw [mayE_t (by dsimp only; omega)]; rfl, HX1.out⟩
      · have z0 : (n == 0) = false := by simpa using hn
        rcases h12 with rfl | rfl
        all_goals
          go_wp2_with fail
          go_ret
          exact ⟨by rw [mayE_f (by dsimp only; omega)]; rfl, HX1.out⟩
  · by_cases h3 : k = 3
    · subst h3
      by_cases ha : a = 0
      · subst ha
        go_wp2_with fail
        go_ret
        exact ⟨by rw [mayE_t (by dsimp only; omega)]; rfl, HX1.out⟩
      · have z0 : (a == 0) = false := by simpa using ha
        go_wp2_with fail
        go_ret
        exact ⟨by rw [mayE_f (by dsimp only; omega)]; rfl, HX1.out⟩
    · by_cases h45 : k = 4 ∨ k = 5
      · rcases Int.lt_or_le a 0 with ha | ha
        · have zd : decide (0 ≤ a) = false := by simp; omega
          rcases h45 with rfl | rfl
          all_goals
            go_wp2_with fail
            go_ret
            exact ⟨by rw [mayE_f (by dsimp only; omega), ← zd]; rfl, HX1.out⟩
        · have zd : decide (0 ≤ a) = true := by simp; omega
          rcases h45 with rfl | rfl
          all_goals
            go_wp2_with fail
            go_ret
            exact ⟨by rw [mayE_t (by dsimp only; omega), ← zd]; rfl, HX1.out⟩
      · have z1 : (k == 1) = false := by simp; omega
        have z2 : (k == 2) = false := by simp; omega
        have z3 : (k == 3) = false := by simp; omega
        have z4 : (k == 4) = false := by simp; omega
        have z5 : (k == 5) = false := by simp; omega
        have hf : mayE ⟨k, a, n⟩ = false := mayE_f (by dsimp only; omega)
        clear h12 h3 h45
        have HF := Lib.hid hf
        clear hf
        go_wp2_with fail
        go_ret
        exact ⟨by rw [HF.out]; rfl, HX1.out⟩
set_option maxRecDepth 100000 in
set_option maxHeartbeats 2000000 in
theorem refSame_ok {A B : Option Addr} {c d : Nat} {l : List En} (h : RowsE w A l) (h' : RowsE w B l) (hl : l.length ≤ 1000000) : Calls Tryd.prog 8 #[.slice A l.length c, .slice B l.length d] w fun r w' => r = .returned (.bool true) ∧ Ext w w' := by
  have H1 := Lib.hid (fun v (k : Ext w v) => Rows3.kept h k)
  have H2 := Lib.hid (fun v (k : Ext w v) => Rows3.kept h' k)
  clear h h'
  go_enter Tryd.func8, Tryd.ntmps8
  go_upto_region 4 with (fail)
  go_loopg [5] l.length (fun k v5 wr => ∃ i : Nat, i + k = l.length ∧ v5 = .int .i64 i ∧ Ext w wr)
  case atStart => exact ⟨0, by omega, rfl, Ext.refl _⟩
  case round =>
    obtain ⟨i, hik, rfl, hx⟩ := hrel
    by_cases hlt : i < l.length
    · obtain ⟨e, hti⟩ : ∃ e, l[i]? = some e := ⟨l[i], List.getElem?_eq_getElem hlt⟩
      obtain ⟨g, off, rfl, gl, c0, c1, c2⟩ := RowsE.at (H1.out wr hx) hti
      obtain ⟨g', off', rfl, gl', d0, d1, d2⟩ := RowsE.at (H2.out wr hx) hti
      have z : (i : Int) < (l.length : Int) := by omega
      have HX := Lib.hid hx
      have HIK := Lib.hid hik
      clear hx hik hti
      go_upto_region 6 with (fail)
      go_region
      clear c0 c1 c2 d0 d1 d2
      go_wp2_with fail
      go_roundg (gk - 1)
      case measure => have := HIK.out; omega
      case rel => exact ⟨i + 1, by have := HIK.out; omega, by go_num, HX.out.trans (Ext.drew _)⟩
    · have hi : i = l.length := by omega
      subst hi
      have HX := Lib.hid hx
      clear hx hik
      go_wp2_with fail
      go_ret
      exact ⟨rfl, HX.out⟩

set_option maxRecDepth 100000 in
set_option maxHeartbeats 2000000 in
theorem refLine_1 {a n : Int} (ha : i64 a) (hn : i64 n) (w : World) : Calls Tryd.prog 26 #[.agg #[.int .i64 1, .int .i64 a, .int .i64 n]] w fun r w' => r = .returned (.string ⟨(lnE ⟨1, a, n⟩ ++ [10]).toArray⟩) ∧ Ext w w' := by
  obtain ⟨W1, hW1⟩ : ∃ W1, W1 = w.alloc (En.o ⟨1, a, n⟩) := ⟨_, rfl⟩
  have hx1 : Ext w W1 := by rw [hW1]; exact Ext.one _ _
  have hb1 : W1.heap[w.heap.size]? = some (En.o ⟨1, a, n⟩) := by rw [hW1]; exact World.alloc_heap_new _ _
  have HF := Lib.hid (fun v (k : Ext W1 v) => En.o_cells ((k.kept (fun _ _ => true)).same _ _ hb1 rfl))
  have HA := Lib.hid (fun v => number_ok ha v)
  have HN := Lib.hid (fun v => number_ok hn v)
  have la := itoa_len ha
  have ln := itoa_len hn
  have sa := str_size (Lib.itoa a)
  have sn := str_size (Lib.itoa n)
  have HX1 := Lib.hid hx1
  have HW := Lib.hid hW1
  have HE := Lib.hid (show lnE ⟨1, a, n⟩ ++ [10] = ([114, 117, 110] : List UInt8) ++ 32 :: (Lib.itoa a ++ [10]) by
    unfold lnE wsE
    rw [Lib.join_cons]
    simp [Lib.joinTail, wdE])
  clear hx1 hb1 hW1 ha hn
  go_enter Tryd.func26, Tryd.ntmps26
  go_upto_region 1 with (fail)
  change Code.wp _ _ _ _ (w.alloc (En.o ⟨1, a, n⟩))
  rw [← HW.out]
  generalize w.heap.size = bx at *
  clear HW
  obtain ⟨x0, x1, x2, xl⟩ := HF.out W1 (Ext.refl _)
  dsimp only at x0 x1 x2
  go_region_with (first | (go_at_call 47; with_reducible refine (HA.out _).mono ?_; rintro e w3 ⟨rfl, hx⟩; have HXw3 := Lib.hid ((HXw2.out).trans hx); clear hx x0 x1 x2 xl; obtain ⟨x0, x1, x2, xl⟩ := HF.out _ HXw3.out; try dsimp only at x0 x1 x2) | (go_at_call 47; with_reducible refine (HN.out _).mono ?_; rintro e w3 ⟨rfl, hx⟩; have HXw3 := Lib.hid ((HXw2.out).trans hx); clear hx x0 x1 x2 xl; obtain ⟨x0, x1, x2, xl⟩ := HF.out _ HXw3.out; try dsimp only at x0 x1 x2) | (go_at_call 47; with_reducible refine (HA.out _).mono ?_; rintro e w2 ⟨rfl, hx⟩; have HXw2 := Lib.hid ((Ext.drew W1).trans hx); clear hx x0 x1 x2 xl; obtain ⟨x0, x1, x2, xl⟩ := HF.out _ HXw2.out; try dsimp only at x0 x1 x2) | (go_at_call 47; with_reducible refine (HN.out _).mono ?_; rintro e w2 ⟨rfl, hx⟩; have HXw2 := Lib.hid ((Ext.drew W1).trans hx); clear hx x0 x1 x2 xl; obtain ⟨x0, x1, x2, xl⟩ := HF.out _ HXw2.out; try dsimp only at x0 x1 x2))
  all_goals
    go_wp2_with fail
    go_ret
    exact ⟨congrArg (fun s => Ending.returned (.string s)) (str_ext (by rw [HE.out]; simp)), HX1.out.trans HXw3.out⟩
set_option maxRecDepth 100000 in
set_option maxHeartbeats 2000000 in
theorem refLine_2 {a n : Int} (ha : i64 a) (hn : i64 n) (w : World) : Calls Tryd.prog 26 #[.agg #[.int .i64 2, .int .i64 a, .int .i64 n]] w fun r w' => r = .returned (.string ⟨(lnE ⟨2, a, n⟩ ++ [10]).toArray⟩) ∧ Ext w w' := by
  obtain ⟨W1, hW1⟩ : ∃ W1, W1 = w.alloc (En.o ⟨2, a, n⟩) := ⟨_, rfl⟩
  have hx1 : Ext w W1 := by rw [hW1]; exact Ext.one _ _
  have hb1 : W1.heap[w.heap.size]? = some (En.o ⟨2, a, n⟩) := by rw [hW1]; exact World.alloc_heap_new _ _
  have HF := Lib.hid (fun v (k : Ext W1 v) => En.o_cells ((k.kept (fun _ _ => true)).same _ _ hb1 rfl))
  have HA := Lib.hid (fun v => number_ok ha v)
  have HN := Lib.hid (fun v => number_ok hn v)
  have la := itoa_len ha
  have ln := itoa_len hn
  have sa := str_size (Lib.itoa a)
  have sn := str_size (Lib.itoa n)
  have HX1 := Lib.hid hx1
  have HW := Lib.hid hW1
  have HE := Lib.hid (show lnE ⟨2, a, n⟩ ++ [10] = ([119, 111, 114, 107] : List UInt8) ++ 32 :: (Lib.itoa a ++ [10]) by
    unfold lnE wsE
    rw [Lib.join_cons]
    simp [Lib.joinTail, wdE])
  clear hx1 hb1 hW1 ha hn
  go_enter Tryd.func26, Tryd.ntmps26
  go_upto_region 1 with (fail)
  change Code.wp _ _ _ _ (w.alloc (En.o ⟨2, a, n⟩))
  rw [← HW.out]
  generalize w.heap.size = bx at *
  clear HW
  obtain ⟨x0, x1, x2, xl⟩ := HF.out W1 (Ext.refl _)
  dsimp only at x0 x1 x2
  go_region_with (first | (go_at_call 47; with_reducible refine (HA.out _).mono ?_; rintro e w3 ⟨rfl, hx⟩; have HXw3 := Lib.hid ((HXw2.out).trans hx); clear hx x0 x1 x2 xl; obtain ⟨x0, x1, x2, xl⟩ := HF.out _ HXw3.out; try dsimp only at x0 x1 x2) | (go_at_call 47; with_reducible refine (HN.out _).mono ?_; rintro e w3 ⟨rfl, hx⟩; have HXw3 := Lib.hid ((HXw2.out).trans hx); clear hx x0 x1 x2 xl; obtain ⟨x0, x1, x2, xl⟩ := HF.out _ HXw3.out; try dsimp only at x0 x1 x2) | (go_at_call 47; with_reducible refine (HA.out _).mono ?_; rintro e w2 ⟨rfl, hx⟩; have HXw2 := Lib.hid ((Ext.drew W1).trans hx); clear hx x0 x1 x2 xl; obtain ⟨x0, x1, x2, xl⟩ := HF.out _ HXw2.out; try dsimp only at x0 x1 x2) | (go_at_call 47; with_reducible refine (HN.out _).mono ?_; rintro e w2 ⟨rfl, hx⟩; have HXw2 := Lib.hid ((Ext.drew W1).trans hx); clear hx x0 x1 x2 xl; obtain ⟨x0, x1, x2, xl⟩ := HF.out _ HXw2.out; try dsimp only at x0 x1 x2))
  all_goals
    go_wp2_with fail
    go_ret
    exact ⟨congrArg (fun s => Ending.returned (.string s)) (str_ext (by rw [HE.out]; simp)), HX1.out.trans HXw3.out⟩
set_option maxRecDepth 100000 in
set_option maxHeartbeats 2000000 in
theorem refLine_3 {a n : Int} (ha : i64 a) (hn : i64 n) (w : World) : Calls Tryd.prog 26 #[.agg #[.int .i64 3, .int .i64 a, .int .i64 n]] w fun r w' => r = .returned (.string ⟨(lnE ⟨3, a, n⟩ ++ [10]).toArray⟩) ∧ Ext w w' := by
  obtain ⟨W1, hW1⟩ : ∃ W1, W1 = w.alloc (En.o ⟨3, a, n⟩) := ⟨_, rfl⟩
  have hx1 : Ext w W1 := by rw [hW1]; exact Ext.one _ _
  have hb1 : W1.heap[w.heap.size]? = some (En.o ⟨3, a, n⟩) := by rw [hW1]; exact World.alloc_heap_new _ _
  have HF := Lib.hid (fun v (k : Ext W1 v) => En.o_cells ((k.kept (fun _ _ => true)).same _ _ hb1 rfl))
  have HA := Lib.hid (fun v => number_ok ha v)
  have HN := Lib.hid (fun v => number_ok hn v)
  have la := itoa_len ha
  have ln := itoa_len hn
  have sa := str_size (Lib.itoa a)
  have sn := str_size (Lib.itoa n)
  have HX1 := Lib.hid hx1
  have HW := Lib.hid hW1
  have HE := Lib.hid (show lnE ⟨3, a, n⟩ ++ [10] = ([116, 105, 99, 107] : List UInt8) ++ 32 :: (Lib.itoa n ++ [10]) by
    unfold lnE wsE
    rw [Lib.join_cons]
    simp [Lib.joinTail, wdE])
  clear hx1 hb1 hW1 ha hn
  go_enter Tryd.func26, Tryd.ntmps26
  go_upto_region 1 with (fail)
  change Code.wp _ _ _ _ (w.alloc (En.o ⟨3, a, n⟩))
  rw [← HW.out]
  generalize w.heap.size = bx at *
  clear HW
  obtain ⟨x0, x1, x2, xl⟩ := HF.out W1 (Ext.refl _)
  dsimp only at x0 x1 x2
  go_region_with (first | (go_at_call 47; with_reducible refine (HA.out _).mono ?_; rintro e w3 ⟨rfl, hx⟩; have HXw3 := Lib.hid ((HXw2.out).trans hx); clear hx x0 x1 x2 xl; obtain ⟨x0, x1, x2, xl⟩ := HF.out _ HXw3.out; try dsimp only at x0 x1 x2) | (go_at_call 47; with_reducible refine (HN.out _).mono ?_; rintro e w3 ⟨rfl, hx⟩; have HXw3 := Lib.hid ((HXw2.out).trans hx); clear hx x0 x1 x2 xl; obtain ⟨x0, x1, x2, xl⟩ := HF.out _ HXw3.out; try dsimp only at x0 x1 x2) | (go_at_call 47; with_reducible refine (HA.out _).mono ?_; rintro e w2 ⟨rfl, hx⟩; have HXw2 := Lib.hid ((Ext.drew W1).trans hx); clear hx x0 x1 x2 xl; obtain ⟨x0, x1, x2, xl⟩ := HF.out _ HXw2.out; try dsimp only at x0 x1 x2) | (go_at_call 47; with_reducible refine (HN.out _).mono ?_; rintro e w2 ⟨rfl, hx⟩; have HXw2 := Lib.hid ((Ext.drew W1).trans hx); clear hx x0 x1 x2 xl; obtain ⟨x0, x1, x2, xl⟩ := HF.out _ HXw2.out; try dsimp only at x0 x1 x2))
  all_goals
    go_wp2_with fail
    go_ret
    exact ⟨congrArg (fun s => Ending.returned (.string s)) (str_ext (by rw [HE.out]; simp)), HX1.out.trans HXw3.out⟩
set_option maxRecDepth 100000 in
set_option maxHeartbeats 2000000 in
theorem refLine_4 {a n : Int} (ha : i64 a) (hn : i64 n) (w : World) : Calls Tryd.prog 26 #[.agg #[.int .i64 4, .int .i64 a, .int .i64 n]] w fun r w' => r = .returned (.string ⟨(lnE ⟨4, a, n⟩ ++ [10]).toArray⟩) ∧ Ext w w' := by
  obtain ⟨W1, hW1⟩ : ∃ W1, W1 = w.alloc (En.o ⟨4, a, n⟩) := ⟨_, rfl⟩
  have hx1 : Ext w W1 := by rw [hW1]; exact Ext.one _ _
  have hb1 : W1.heap[w.heap.size]? = some (En.o ⟨4, a, n⟩) := by rw [hW1]; exact World.alloc_heap_new _ _
  have HF := Lib.hid (fun v (k : Ext W1 v) => En.o_cells ((k.kept (fun _ _ => true)).same _ _ hb1 rfl))
  have HA := Lib.hid (fun v => number_ok ha v)
  have HN := Lib.hid (fun v => number_ok hn v)
  have la := itoa_len ha
  have ln := itoa_len hn
  have sa := str_size (Lib.itoa a)
  have sn := str_size (Lib.itoa n)
  have HX1 := Lib.hid hx1
  have HW := Lib.hid hW1
  have HE := Lib.hid (show lnE ⟨4, a, n⟩ ++ [10] = ([105, 110, 106, 101, 99, 116] : List UInt8) ++ 32 :: (Lib.itoa a ++ 32 :: (Lib.itoa n ++ [10])) by
    unfold lnE wsE
    rw [Lib.join_cons]
    simp [Lib.joinTail, wdE])
  clear hx1 hb1 hW1 ha hn
  go_enter Tryd.func26, Tryd.ntmps26
  go_upto_region 1 with (fail)
  change Code.wp _ _ _ _ (w.alloc (En.o ⟨4, a, n⟩))
  rw [← HW.out]
  generalize w.heap.size = bx at *
  clear HW
  obtain ⟨x0, x1, x2, xl⟩ := HF.out W1 (Ext.refl _)
  dsimp only at x0 x1 x2
  go_region_with (first | (go_at_call 47; with_reducible refine (HA.out _).mono ?_; rintro e w3 ⟨rfl, hx⟩; have HXw3 := Lib.hid ((HXw2.out).trans hx); clear hx x0 x1 x2 xl; obtain ⟨x0, x1, x2, xl⟩ := HF.out _ HXw3.out; try dsimp only at x0 x1 x2) | (go_at_call 47; with_reducible refine (HN.out _).mono ?_; rintro e w3 ⟨rfl, hx⟩; have HXw3 := Lib.hid ((HXw2.out).trans hx); clear hx x0 x1 x2 xl; obtain ⟨x0, x1, x2, xl⟩ := HF.out _ HXw3.out; try dsimp only at x0 x1 x2) | (go_at_call 47; with_reducible refine (HA.out _).mono ?_; rintro e w2 ⟨rfl, hx⟩; have HXw2 := Lib.hid ((Ext.drew W1).trans hx); clear hx x0 x1 x2 xl; obtain ⟨x0, x1, x2, xl⟩ := HF.out _ HXw2.out; try dsimp only at x0 x1 x2) | (go_at_call 47; with_reducible refine (HN.out _).mono ?_; rintro e w2 ⟨rfl, hx⟩; have HXw2 := Lib.hid ((Ext.drew W1).trans hx); clear hx x0 x1 x2 xl; obtain ⟨x0, x1, x2, xl⟩ := HF.out _ HXw2.out; try dsimp only at x0 x1 x2))
  all_goals
    go_wp2_with fail
    go_ret
    exact ⟨congrArg (fun s => Ending.returned (.string s)) (str_ext (by rw [HE.out]; simp)), HX1.out.trans HXw3.out⟩
set_option maxRecDepth 100000 in
set_option maxHeartbeats 2000000 in
theorem refLine_5 {a n : Int} (ha : i64 a) (hn : i64 n) (w : World) : Calls Tryd.prog 26 #[.agg #[.int .i64 5, .int .i64 a, .int .i64 n]] w fun r w' => r = .returned (.string ⟨(lnE ⟨5, a, n⟩ ++ [10]).toArray⟩) ∧ Ext w w' := by
  obtain ⟨W1, hW1⟩ : ∃ W1, W1 = w.alloc (En.o ⟨5, a, n⟩) := ⟨_, rfl⟩
  have hx1 : Ext w W1 := by rw [hW1]; exact Ext.one _ _
  have hb1 : W1.heap[w.heap.size]? = some (En.o ⟨5, a, n⟩) := by rw [hW1]; exact World.alloc_heap_new _ _
  have HF := Lib.hid (fun v (k : Ext W1 v) => En.o_cells ((k.kept (fun _ _ => true)).same _ _ hb1 rfl))
  have HA := Lib.hid (fun v => number_ok ha v)
  have HN := Lib.hid (fun v => number_ok hn v)
  have la := itoa_len ha
  have ln := itoa_len hn
  have sa := str_size (Lib.itoa a)
  have sn := str_size (Lib.itoa n)
  have HX1 := Lib.hid hx1
  have HW := Lib.hid hW1
  have HE := Lib.hid (show lnE ⟨5, a, n⟩ ++ [10] = ([108, 105, 102, 101] : List UInt8) ++ 32 :: (Lib.itoa a ++ 32 :: (Lib.itoa n ++ [10])) by
    unfold lnE wsE
    rw [Lib.join_cons]
    simp [Lib.joinTail, wdE])
  clear hx1 hb1 hW1 ha hn
  go_enter Tryd.func26, Tryd.ntmps26
  go_upto_region 1 with (fail)
  change Code.wp _ _ _ _ (w.alloc (En.o ⟨5, a, n⟩))
  rw [← HW.out]
  generalize w.heap.size = bx at *
  clear HW
  obtain ⟨x0, x1, x2, xl⟩ := HF.out W1 (Ext.refl _)
  dsimp only at x0 x1 x2
  go_region_with (first | (go_at_call 47; with_reducible refine (HA.out _).mono ?_; rintro e w3 ⟨rfl, hx⟩; have HXw3 := Lib.hid ((HXw2.out).trans hx); clear hx x0 x1 x2 xl; obtain ⟨x0, x1, x2, xl⟩ := HF.out _ HXw3.out; try dsimp only at x0 x1 x2) | (go_at_call 47; with_reducible refine (HN.out _).mono ?_; rintro e w3 ⟨rfl, hx⟩; have HXw3 := Lib.hid ((HXw2.out).trans hx); clear hx x0 x1 x2 xl; obtain ⟨x0, x1, x2, xl⟩ := HF.out _ HXw3.out; try dsimp only at x0 x1 x2) | (go_at_call 47; with_reducible refine (HA.out _).mono ?_; rintro e w2 ⟨rfl, hx⟩; have HXw2 := Lib.hid ((Ext.drew W1).trans hx); clear hx x0 x1 x2 xl; obtain ⟨x0, x1, x2, xl⟩ := HF.out _ HXw2.out; try dsimp only at x0 x1 x2) | (go_at_call 47; with_reducible refine (HN.out _).mono ?_; rintro e w2 ⟨rfl, hx⟩; have HXw2 := Lib.hid ((Ext.drew W1).trans hx); clear hx x0 x1 x2 xl; obtain ⟨x0, x1, x2, xl⟩ := HF.out _ HXw2.out; try dsimp only at x0 x1 x2))
  all_goals
    go_wp2_with fail
    go_ret
    exact ⟨congrArg (fun s => Ending.returned (.string s)) (str_ext (by rw [HE.out]; simp)), HX1.out.trans HXw3.out⟩
theorem refLine_ok {e : En} (ok : e.ok) (hk : 1 ≤ e.k ∧ e.k ≤ 5) (w : World) : Calls Tryd.prog 26 #[e.v] w fun r w' => r = .returned (.string ⟨(lnE e ++ [10]).toArray⟩) ∧ Ext w w' := by
  obtain ⟨k, a, n⟩ := e
  obtain ⟨_, ha, hn⟩ := ok
  dsimp only at hk ha hn
  obtain rfl | rfl | rfl | rfl | rfl : k = 1 ∨ k = 2 ∨ k = 3 ∨ k = 4 ∨ k = 5 := by omega
  · exact refLine_1 ha hn w
  · exact refLine_2 ha hn w
  · exact refLine_3 ha hn w
  · exact refLine_4 ha hn w
  · exact refLine_5 ha hn w
set_option maxRecDepth 100000 in
set_option maxHeartbeats 4000000 in
theorem refText_ok {A : Option Addr} {c : Nat} {l : List En} (h : RowsE w A l) (hl : l.length ≤ 3000) : Calls Tryd.prog 12 #[.slice A l.length c] w fun e w' => e = .returned (.string ⟨(textE l).toArray⟩) ∧ Ext w w' := by
  have HR := Lib.hid (fun v (k : Ext w v) => Rows3.kept h k)
  have HOK := Lib.hid (RowsE.ok h)
  clear h
  go_enter Tryd.func12, Tryd.ntmps12
  go_upto_region 3 with (fail)
  go_loopg [3, 4] l.length (fun k v3 v4 wr => ∃ i : Nat, i + k = l.length ∧ v4 = .int .i64 i ∧ v3 = .string ⟨(txE (l.take i)).toArray⟩ ∧ (l.take i).all mayE = true ∧ Ext w wr)
  case atStart => exact ⟨0, by omega, rfl, rfl, rfl, Ext.refl _⟩
  case round =>
    obtain ⟨i, hik, rfl, rfl, hm, hx⟩ := hrel
    have HIK := Lib.hid hik
    have HM := Lib.hid hm
    have HX := Lib.hid hx
    clear hik hm hx
    by_cases hlt : i < l.length
    · obtain ⟨e, hti⟩ : ∃ e, l[i]? = some e := ⟨l[i], List.getElem?_eq_getElem hlt⟩
      obtain ⟨g, off, rfl, gl, c0, c1, c2⟩ := RowsE.at (HR.out wr HX.out) hti
      have z : (i : Int) < (l.length : Int) := by omega
      have HTI := Lib.hid hti
      have HMY := Lib.hid (refMay_ok e wr)
      unfold En.v at HMY
      clear hti
      cases hme : mayE e with
      | false =>
        rw [hme] at HMY
        have HALL := Lib.hid (show textE l = [] by
          unfold textE
          rw [if_neg]
          intro ha
          have := List.all_eq_true.1 ha e (List.mem_of_getElem? HTI.out)
          rw [hme] at this
          cases this)
        clear hme
        go_wp2_with (go_at_call 25; refine HMY.out.mono ?_; rintro e2 w2 ⟨rfl, hx2⟩; have HX2 := Lib.hid (HX.out.trans hx2); clear hx2)
        go_ret
        exact ⟨by rw [HALL.out]; rfl, HX2.out⟩
      | true =>
        rw [hme] at HMY
        have HME := Lib.hid hme
        have HOE := Lib.hid (HOK.out e (List.mem_of_getElem? HTI.out))
        have HLN := Lib.hid (fun v => refLine_ok HOE.out (may_kind HME.out) v)
        unfold En.v at HLN
        have htl := ln_len HOE.out
        have hs1 := str_size (lnE e ++ [10])
        have hs2 := str_size (txE (l.take i))
        have hl1 : (lnE e ++ [10]).length ≤ 51 := by simp; omega
        have hpl : (txE (l.take i)).length ≤ 200000 := by
          have := tx_len (l.take i) (fun x hx => HOK.out x (List.mem_of_mem_take hx))
          rw [List.length_take] at this
          omega
        clear hme htl
        go_wp2_with (first
          | (go_at_call 25; refine HMY.out.mono ?_; rintro e2 w2 ⟨rfl, hx2⟩; have HX2 := Lib.hid (HX.out.trans hx2); clear hx2 c0 c1 c2 gl; obtain ⟨g', off', hga, gl, c0, c1, c2⟩ := RowsE.at (HR.out w2 HX2.out) HTI.out; cases hga)
          | (go_at_call 26; refine (HLN.out _).mono ?_; rintro e3 w3 ⟨rfl, hx3⟩; have HX3 := Lib.hid (HX2.out.trans hx3); clear hx3))
        go_roundg (gk - 1)
        case measure => have := HIK.out; omega
        case rel =>
          refine ⟨i + 1, by have := HIK.out; omega, by go_num, ?_, ?_, HX3.out⟩
          · rw [tx_snoc HTI.out]
            exact congrArg Value.string (str_ext (by simp))
          · rw [List.take_add_one, HTI.out]
            simp [HM.out, HME.out]
    · have hi : i = l.length := by have := HIK.out; omega
      subst hi
      have HTT := Lib.hid (show textE l = txE l by
        have := HM.out
        rw [List.take_length] at this
        unfold textE
        rw [if_pos this]
        rfl)
      go_wp2_with fail
      go_ret
      exact ⟨by rw [HTT.out]; simp, HX.out⟩
end
end Go.Proofs.YtkljdpjdlccidaaDoor
