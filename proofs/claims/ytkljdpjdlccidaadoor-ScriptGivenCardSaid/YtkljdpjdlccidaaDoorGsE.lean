/- How entries are compared: the closure of script.Given. -/
import Derived.Test.YtkljdpjdlccidaaDoorGsB
import Derived.Test.YtkljdpjdlccidaaDoorRzA
namespace Go.Proofs.YtkljdpjdlccidaaDoor
open Go.RowKit Go.Shelf
attribute [local go_sem] Oper.semAt_some
def cmpI (x y : Int) : Int := if x < y then -1 else if y < x then 1 else 0
theorem cmpK_ok_nan (x : Int) (w : World) : Calls Tryd.prog 40 #[.int .i64 x] w fun e w' => e = .returned (.bool false) ∧ w' = w := by
  have z : (x != x) = false := by simp
  go_enter Tryd.func40, Tryd.ntmps40
  go_wp2_with fail
  go_ret
  exact ⟨rfl, rfl⟩
theorem cmpK_ok (x y : Int) (w : World) : Calls Tryd.prog 20 #[.int .i64 x, .int .i64 y] w fun e w' => e = .returned (.int .i64 (cmpI x y)) ∧ w' = w := by
  have H1 := Lib.hid (cmpK_ok_nan x w)
  have H2 := Lib.hid (cmpK_ok_nan y w)
  rcases Int.lt_trichotomy x y with h | h | h
  · have HR := Lib.hid (show cmpI x y = -1 by unfold cmpI; rw [if_pos h])
    go_enter Tryd.func20, Tryd.ntmps20
    go_wp2_with (first | (go_at_call 40; with_reducible refine H1.out.mono ?_; rintro e w2 ⟨rfl, hw⟩; rw [hw]; clear hw H1) | (go_at_call 40; with_reducible refine H2.out.mono ?_; rintro e w2 ⟨rfl, hw⟩; rw [hw]; clear hw H2))
    go_ret
    exact ⟨by rw [HR.out]; rfl, rfl⟩
  · subst h
    have HR := Lib.hid (show cmpI x x = 0 by unfold cmpI; rw [if_neg (Int.lt_irrefl _), if_neg (Int.lt_irrefl _)])
    have z : ¬ x < x := Int.lt_irrefl _
    go_enter Tryd.func20, Tryd.ntmps20
    go_wp2_with (first | (go_at_call 40; with_reducible refine H1.out.mono ?_; rintro e w2 ⟨rfl, hw⟩; rw [hw]; clear hw H1) | (go_at_call 40; with_reducible refine H2.out.mono ?_; rintro e w2 ⟨rfl, hw⟩; rw [hw]; clear hw H2))
    go_ret
    exact ⟨by rw [HR.out]; rfl, rfl⟩
  · have hn : ¬ x < y := by omega
    have HR := Lib.hid (show cmpI x y = 1 by unfold cmpI; rw [if_neg hn, if_pos h])
    go_enter Tryd.func20, Tryd.ntmps20
    go_wp2_with (first | (go_at_call 40; with_reducible refine H1.out.mono ?_; rintro e w2 ⟨rfl, hw⟩; rw [hw]; clear hw H1) | (go_at_call 40; with_reducible refine H2.out.mono ?_; rintro e w2 ⟨rfl, hw⟩; rw [hw]; clear hw H2))
    go_ret
    exact ⟨by rw [HR.out]; rfl, rfl⟩
theorem cmpN_ok_nan (x : Int) (w : World) : Calls Tryd.prog 41 #[.int .i64 x] w fun e w' => e = .returned (.bool false) ∧ w' = w := by
  have z : (x != x) = false := by simp
  go_enter Tryd.func41, Tryd.ntmps41
  go_wp2_with fail
  go_ret
  exact ⟨rfl, rfl⟩
theorem cmpN_ok (x y : Int) (w : World) : Calls Tryd.prog 21 #[.int .i64 x, .int .i64 y] w fun e w' => e = .returned (.int .i64 (cmpI x y)) ∧ w' = w := by
  have H1 := Lib.hid (cmpN_ok_nan x w)
  have H2 := Lib.hid (cmpN_ok_nan y w)
  rcases Int.lt_trichotomy x y with h | h | h
  · have HR := Lib.hid (show cmpI x y = -1 by unfold cmpI; rw [if_pos h])
    go_enter Tryd.func21, Tryd.ntmps21
    go_wp2_with (first | (go_at_call 41; with_reducible refine H1.out.mono ?_; rintro e w2 ⟨rfl, hw⟩; rw [hw]; clear hw H1) | (go_at_call 41; with_reducible refine H2.out.mono ?_; rintro e w2 ⟨rfl, hw⟩; rw [hw]; clear hw H2))
    go_ret
    exact ⟨by rw [HR.out]; rfl, rfl⟩
  · subst h
    have HR := Lib.hid (show cmpI x x = 0 by unfold cmpI; rw [if_neg (Int.lt_irrefl _), if_neg (Int.lt_irrefl _)])
    have z : ¬ x < x := Int.lt_irrefl _
    go_enter Tryd.func21, Tryd.ntmps21
    go_wp2_with (first | (go_at_call 41; with_reducible refine H1.out.mono ?_; rintro e w2 ⟨rfl, hw⟩; rw [hw]; clear hw H1) | (go_at_call 41; with_reducible refine H2.out.mono ?_; rintro e w2 ⟨rfl, hw⟩; rw [hw]; clear hw H2))
    go_ret
    exact ⟨by rw [HR.out]; rfl, rfl⟩
  · have hn : ¬ x < y := by omega
    have HR := Lib.hid (show cmpI x y = 1 by unfold cmpI; rw [if_neg hn, if_pos h])
    go_enter Tryd.func21, Tryd.ntmps21
    go_wp2_with (first | (go_at_call 41; with_reducible refine H1.out.mono ?_; rintro e w2 ⟨rfl, hw⟩; rw [hw]; clear hw H1) | (go_at_call 41; with_reducible refine H2.out.mono ?_; rintro e w2 ⟨rfl, hw⟩; rw [hw]; clear hw H2))
    go_ret
    exact ⟨by rw [HR.out]; rfl, rfl⟩
theorem or_ok {g : Nat} {x y : Int} {w : World} (c0 : w.cell? ⟨g, 0, none⟩ = some (.int .i64 x)) (c1 : w.cell? ⟨g, 1, none⟩ = some (.int .i64 y)) : Calls Tryd.prog 19 #[.slice (some ⟨g, 0, none⟩) 2 2] w fun e w' => e = .returned (.int .i64 (if x = 0 then y else x)) ∧ w' = w := by
  by_cases hx : x = 0
  · rw [if_pos hx]
    subst hx
    by_cases hy : y = 0
    · subst hy
      go_enter Tryd.func19, Tryd.ntmps19
      go_upto_region 3 with (fail)
      refine wp_loop_rounds 3 ?_
      rw [rounds_succ]
      go_wp2_with fail
      rw [rounds_succ]
      go_wp2_with fail
      rw [rounds_succ]
      go_wp2_with fail
      go_ret
      exact ⟨rfl, rfl⟩
    · have z : (y != 0) = true := by simpa using hy
      clear hy
      go_enter Tryd.func19, Tryd.ntmps19
      go_upto_region 3 with (fail)
      refine wp_loop_rounds 3 ?_
      rw [rounds_succ]
      go_wp2_with fail
      rw [rounds_succ]
      go_wp2_with fail
      go_ret
      exact ⟨rfl, rfl⟩
  · rw [if_neg hx]
    have z : (x != 0) = true := by simpa using hx
    clear hx
    go_enter Tryd.func19, Tryd.ntmps19
    go_upto_region 3 with (fail)
    refine wp_loop_rounds 3 ?_
    rw [rounds_succ]
    go_wp2_with fail
    go_ret
    exact ⟨rfl, rfl⟩
/-- What the closure answers of two entries. -/
def cmpE (x y : En) : Int := if cmpI y.k x.k = 0 then cmpI x.a y.a else cmpI y.k x.k
def G18 (b2 b3 : Nat) (x y : En) : Nat → Value → World → Prop
  | 0, v, _ => v = .pointer (some ⟨b3, 0, none⟩)
  | 1, v, _ => v = .int .i64 y.k
  | 2, v, _ => v = .pointer (some ⟨b2, 0, none⟩)
  | 3, v, _ => v = .int .i64 x.k
  | 4, v, _ => v = .int .i64 (cmpI y.k x.k)
  | 5, v, _ => v = .pointer (some ⟨b2, 1, none⟩)
  | 6, v, _ => v = .int .i64 x.a
  | 7, v, _ => v = .pointer (some ⟨b3, 1, none⟩)
  | 8, v, _ => v = .int .i64 y.a
  | 9, v, _ => v = .int .i64 (cmpI x.a y.a)
  | 10, v, w => ∃ g, v = .slice (some ⟨g, 0, none⟩) 2 2 ∧ w.heap[g]? = some (.cells #[.int .i64 (cmpI y.k x.k), .int .i64 (cmpI x.a y.a)] 3 (0, 0))
  | 11, v, _ => v = .int .i64 (cmpE x y)
  | _, _, _ => True
theorem G18.mono {b2 b3 : Nat} {x y : En} : ∀ (f : Bool) (j : Nat) (v : Value) (w w' : World), (fun _ => G18 b2 b3 x y) f j v w → Ext w w' → (fun _ => G18 b2 b3 x y) f j v w'
  | _, 0, _, _, _, h, _ => h
  | _, 1, _, _, _, h, _ => h
  | _, 2, _, _, _, h, _ => h
  | _, 3, _, _, _, h, _ => h
  | _, 4, _, _, _, h, _ => h
  | _, 5, _, _, _, h, _ => h
  | _, 6, _, _, _, h, _ => h
  | _, 7, _, _, _, h, _ => h
  | _, 8, _, _, _, h, _ => h
  | _, 9, _, _, _, h, _ => h
  | _, 10, _, _, _, ⟨g, h1, h2⟩, k => ⟨g, h1, (k.kept (fun _ _ => true)).same _ _ h2 rfl⟩
  | _, 11, _, _, _, h, _ => h
  | _, _ + 12, _, _, _, _, _ => trivial
set_option maxRecDepth 100000 in
set_option maxHeartbeats 2000000 in
theorem cmpE_ok (x y : En) (w : World) : Calls Tryd.prog 18 #[x.v, y.v] w fun e w' => e = .returned (.int .i64 (cmpE x y)) ∧ Ext w w' := by
  obtain ⟨W1, hW1⟩ : ∃ W1, W1 = (w.alloc x.o).alloc y.o := ⟨_, rfl⟩
  have hx1 : Ext w W1 := by rw [hW1]; exact (Ext.one _ _).trans (Ext.one _ _)
  have q0 : W1.heap[w.heap.size]? = some x.o := by rw [hW1]; exact ((Ext.one (w.alloc x.o) y.o).kept (fun _ _ => true)).same _ _ (World.alloc_heap_new _ _) rfl
  have q1 : W1.heap[w.heap.size + 1]? = some y.o := by
    rw [hW1]
    have := World.alloc_heap_new (w.alloc x.o) y.o
    simpa using this
  have HP := Lib.hid (fun v (k : Ext W1 v) => And.intro (En.o_cells ((k.kept (fun _ _ => true)).same _ _ q0 rfl)) (En.o_cells ((k.kept (fun _ _ => true)).same _ _ q1 rfl)))
  have HX1 := Lib.hid hx1
  have HW := Lib.hid hW1
  clear hx1 q0 q1 hW1
  unfold En.v
  go_enter Tryd.func18, Tryd.ntmps18
  go_upto_region 1 with (fail)
  change Code.wp _ _ _ _ ((w.alloc x.o).alloc y.o)
  rw [← HW.out]
  clear HW
  generalize w.heap.size = b2 at *
  obtain ⟨b3, hb3⟩ : ∃ b3, b3 = b2 + 1 := ⟨_, rfl⟩
  rw [← hb3] at HP ⊢
  clear hb3
  refine region_grow (n := 12) (s := 12) (by kernel_rfl) (fun _ => G18 b2 b3 x y) (fun _ w => Ext W1 w) rfl (Ext.drew _) (RgOps.of (z := 17) (by kernel_rfl) rfl G18.mono (fun _ _ _ h k => h.trans k) ?op (fun _ h => absurd h (Nat.lt_irrefl _))) ?fin
  case op =>
    intro j o hj hs' ho f a' w' hF hX hD K hK
    have e2 : a'.tmps.getD 2 undef = .pointer (some ⟨b2, 0, none⟩) := hF.2.2 2 (by kernel_rfl)
    have e3 : a'.tmps.getD 3 undef = .pointer (some ⟨b3, 0, none⟩) := hF.2.2 3 (by kernel_rfl)
    obtain ⟨⟨x0, x1, x2, xl⟩, ⟨y0, y1, y2, yl⟩⟩ := HP.out w' hX
    match j, hj with
    | m + 12, h => exact absurd h (by omega)
    | 0, _ =>
      obtain rfl := Option.some.inj (show some _ = some o from ho)
      clear ho hD
      go_simp
      exact hK _ _ rfl (Ext.refl _)
    | 1, _ =>
      obtain rfl := Option.some.inj (show some _ = some o from ho)
      obtain ⟨d, hd, hG0⟩ := hD _ (Array.mem_of_getElem? (i := 0) rfl) rfl
      cases hd
      replace hG0 : a'.tmps.getD 5 undef = .pointer (some ⟨b3, 0, none⟩) := hG0
      clear ho hD
      go_simp
      exact hK _ _ rfl (Ext.refl _)
    | 2, _ =>
      obtain rfl := Option.some.inj (show some _ = some o from ho)
      clear ho hD
      go_simp
      exact hK _ _ rfl (Ext.refl _)
    | 3, _ =>
      obtain rfl := Option.some.inj (show some _ = some o from ho)
      obtain ⟨d, hd, hG0⟩ := hD _ (Array.mem_of_getElem? (i := 0) rfl) rfl
      cases hd
      replace hG0 : a'.tmps.getD 7 undef = .pointer (some ⟨b2, 0, none⟩) := hG0
      clear ho hD
      go_simp
      exact hK _ _ rfl (Ext.refl _)
    | 4, _ =>
      obtain rfl := Option.some.inj (show some _ = some o from ho)
      obtain ⟨d, hd, hG0⟩ := hD _ (Array.mem_of_getElem? (i := 0) rfl) rfl
      cases hd
      replace hG0 : a'.tmps.getD 6 undef = .int .i64 y.k := hG0
      obtain ⟨d, hd, hG1⟩ := hD _ (Array.mem_of_getElem? (i := 1) rfl) rfl
      cases hd
      replace hG1 : a'.tmps.getD 8 undef = .int .i64 x.k := hG1
      clear ho hD
      go_simp
      refine (cmpK_ok _ _ _).mono ?_
      rintro e u ⟨rfl, hu⟩
      rw [hu]
      exact hK _ _ rfl (Ext.refl _)
    | 5, _ =>
      obtain rfl := Option.some.inj (show some _ = some o from ho)
      clear ho hD
      go_simp
      exact hK _ _ rfl (Ext.refl _)
    | 6, _ =>
      obtain rfl := Option.some.inj (show some _ = some o from ho)
      obtain ⟨d, hd, hG0⟩ := hD _ (Array.mem_of_getElem? (i := 0) rfl) rfl
      cases hd
      replace hG0 : a'.tmps.getD 10 undef = .pointer (some ⟨b2, 1, none⟩) := hG0
      clear ho hD
      go_simp
      exact hK _ _ rfl (Ext.refl _)
    | 7, _ =>
      obtain rfl := Option.some.inj (show some _ = some o from ho)
      clear ho hD
      go_simp
      exact hK _ _ rfl (Ext.refl _)
    | 8, _ =>
      obtain rfl := Option.some.inj (show some _ = some o from ho)
      obtain ⟨d, hd, hG0⟩ := hD _ (Array.mem_of_getElem? (i := 0) rfl) rfl
      cases hd
      replace hG0 : a'.tmps.getD 12 undef = .pointer (some ⟨b3, 1, none⟩) := hG0
      clear ho hD
      go_simp
      exact hK _ _ rfl (Ext.refl _)
    | 9, _ =>
      obtain rfl := Option.some.inj (show some _ = some o from ho)
      obtain ⟨d, hd, hG0⟩ := hD _ (Array.mem_of_getElem? (i := 0) rfl) rfl
      cases hd
      replace hG0 : a'.tmps.getD 11 undef = .int .i64 x.a := hG0
      obtain ⟨d, hd, hG1⟩ := hD _ (Array.mem_of_getElem? (i := 1) rfl) rfl
      cases hd
      replace hG1 : a'.tmps.getD 13 undef = .int .i64 y.a := hG1
      clear ho hD
      go_simp
      refine (cmpN_ok _ _ _).mono ?_
      rintro e u ⟨rfl, hu⟩
      rw [hu]
      exact hK _ _ rfl (Ext.refl _)
    | 10, _ =>
      obtain rfl := Option.some.inj (show some _ = some o from ho)
      obtain ⟨d, hd, hG0⟩ := hD _ (Array.mem_of_getElem? (i := 0) rfl) rfl
      cases hd
      replace hG0 : a'.tmps.getD 9 undef = .int .i64 (cmpI y.k x.k) := hG0
      have hH0 : a'.tmps[9]?.getD undef = .int .i64 (cmpI y.k x.k) := by simpa using hG0
      obtain ⟨d, hd, hG1⟩ := hD _ (Array.mem_of_getElem? (i := 1) rfl) rfl
      cases hd
      replace hG1 : a'.tmps.getD 14 undef = .int .i64 (cmpI x.a y.a) := hG1
      have hH1 : a'.tmps[14]?.getD undef = .int .i64 (cmpI x.a y.a) := by simpa using hG1
      clear ho hD
      go_simp
      exact hK _ _ ⟨_, rfl, World.alloc_heap_new _ _⟩ (Ext.one _ _)
    | 11, _ =>
      obtain rfl := Option.some.inj (show some _ = some o from ho)
      obtain ⟨d, hd, hq⟩ := hD _ (Array.mem_of_getElem? (i := 0) rfl) rfl
      cases hd
      obtain ⟨g, hq, hgb⟩ := hq
      replace hq : a'.tmps.getD 15 undef = .slice (some ⟨g, 0, none⟩) 2 2 := hq
      clear ho hD
      go_simp
      refine (or_ok (x := cmpI y.k x.k) (y := cmpI x.a y.a) (by simp [World.cell?, hgb]) (by simp [World.cell?, hgb])).mono ?_
      rintro e u ⟨rfl, hu⟩
      rw [hu]
      exact hK _ _ rfl (Ext.refl _)
  case fin =>
    intro a' w' hF hX hG
    obtain ⟨u, rfl, hu⟩ := hF.puts hG [5, 6, 7, 8, 9, 10, 11, 12, 13, 14, 15, 16] (by kernel_rfl) (z := 17) rfl (by decide)
    obtain ⟨d, hd, g11⟩ := hu 11 (by omega)
    cases hd
    replace g11 : u 16 = .int .i64 (cmpE x y) := g11
    clear hu hG hF
    simp only [List.drop_succ_cons, List.drop_zero, List.foldl_cons, List.foldl_nil, g11]
    go_wp2_with fail
    go_ret
    exact ⟨rfl, HX1.out.trans hX⟩
/-- Which entry comes first. -/
def ltE (x y : En) : Bool := decide (y.k < x.k) || (decide (x.k = y.k) && decide (x.a < y.a))
theorem cmpE_lt (x y : En) : (cmpE x y < 0) = (ltE x y = true) := by
  unfold cmpE cmpI ltE
  apply propext
  simp only [Bool.or_eq_true, Bool.and_eq_true, decide_eq_true_eq]
  repeat' split
  all_goals (constructor <;> intro h <;> omega)
theorem swoE : SwoS ltE := by
  constructor
  · intro x y h
    unfold ltE at *
    simp only [Bool.or_eq_true, Bool.and_eq_true, decide_eq_true_eq, Bool.or_eq_false_iff, Bool.and_eq_false_iff, decide_eq_false_iff_not] at *
    omega
  · intro x y z h1 h2
    unfold ltE at *
    simp only [Bool.or_eq_false_iff, Bool.and_eq_false_iff, decide_eq_false_iff_not] at *
    omega
end Go.Proofs.YtkljdpjdlccidaaDoor
