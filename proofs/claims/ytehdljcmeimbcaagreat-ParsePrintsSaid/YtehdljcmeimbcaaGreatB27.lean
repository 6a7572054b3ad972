/- The document's trees in memory: Must; The document's trees in memory: Paren. -/
import Derived.Test.YtehdljcmeimbcaaGreatB26
import Derived.Test.YtehdljcmeimbcaaGreatB20
import Derived.StillTailTactics
namespace Go.Proofs.YtehdljcmeimbcaaGreat
open Go.RowKit
set_option linter.unusedSimpArgs false

theorem list32 (l : List Value) (h : l.length = 32) : ∃ x0 x1 x2 x3 x4 x5 x6 x7 x8 x9 x10 x11 x12 x13 x14 x15 x16 x17 x18 x19 x20 x21 x22 x23 x24 x25 x26 x27 x28 x29 x30 x31, l = [x0, x1, x2, x3, x4, x5, x6, x7, x8, x9, x10, x11, x12, x13, x14, x15, x16, x17, x18, x19, x20, x21, x22, x23, x24, x25, x26, x27, x28, x29, x30, x31] := by
  match l, h with
  | [x0, x1, x2, x3, x4, x5, x6, x7, x8, x9, x10, x11, x12, x13, x14, x15, x16, x17, x18, x19, x20, x21, x22, x23, x24, x25, x26, x27, x28, x29, x30, x31], _ => exact ⟨x0, x1, x2, x3, x4, x5, x6, x7, x8, x9, x10, x11, x12, x13, x14, x15, x16, x17, x18, x19, x20, x21, x22, x23, x24, x25, x26, x27, x28, x29, x30, x31, rfl⟩
/-- What each operation of Must's sum gives. -/
def GM (tv : Value) (bn : Nat) (ii r1 r2 : Int) : Nat → Value → World → Prop
  | 0, v, w => ∃ g, v = .slice (some ⟨g, 0, none⟩) 4 4 ∧ w.cell? ⟨g, bn, none⟩ = some (.int .i64 r1)
  | 1, v, _ => v = tv
  | 2, v, _ => v = .int .i64 (bn : Int)
  | 3, v, w => ∃ g, v = .pointer (some ⟨g, bn, none⟩) ∧ w.cell? ⟨g, bn, none⟩ = some (.int .i64 r1)
  | 4, v, _ => v = .int .i64 r1
  | 5, v, _ => v = .int .i64 ii
  | 6, v, _ => v = .int .i64 ii
  | 7, v, w => ∃ g, v = .slice (some ⟨g, 0, none⟩) 4 4 ∧ w.cell? ⟨g, bn, none⟩ = some (.int .i64 r2)
  | 8, v, _ => v = tv
  | 9, v, _ => v = .int .i64 (bn : Int)
  | 10, v, w => ∃ g, v = .pointer (some ⟨g, bn, none⟩) ∧ w.cell? ⟨g, bn, none⟩ = some (.int .i64 r2)
  | 11, v, _ => v = .int .i64 r2
  | 12, v, _ => v = .int .i64 (r1 + r2)
  | 13, v, _ => v = .int .i64 (r1 + r2)
  | _, _, _ => False
theorem GM.mono {tv : Value} {bn : Nat} {ii r1 r2 : Int} (j : Nat) (v : Value) (w w' : World) (h : GM tv bn ii r1 r2 j v w) (hb : Below w.heap.size w w') : GM tv bn ii r1 r2 j v w' := by
  have hc : ∀ {g : Nat} {u : Value}, w.cell? ⟨g, bn, none⟩ = some u → w'.cell? ⟨g, bn, none⟩ = some u := fun {g u} hg => (hb.cell (p := ⟨g, bn, none⟩) (World.block_lt_of_cell? w _ hg)).trans hg
  rcases j with _ | _ | _ | _ | _ | _ | _ | _ | _ | _ | _ | _ | _ | _ | j
  all_goals first
    | exact h
    | (obtain ⟨g, h1, h2⟩ := h; exact ⟨g, h1, hc h2⟩)

theorem gm_new {w : World} {cs : Array Value} {ty : TypeId} {k : Nat} {v : Value} (h : cs[k]? = some v) : (w.alloc (.cells cs ty)).cell? ⟨w.heap.size, k, none⟩ = some v := by
  have h0 : (w.alloc (.cells cs ty)).heap[w.heap.size]? = some (.cells cs ty (0, 0)) := heap_alloc_new w _
  unfold World.cell?
  dsimp only
  rw [h0]
  exact h
set_option maxRecDepth 100000 in
set_option maxHeartbeats 4000000 in
theorem must2_ok (t : Tw) (kv : Value) (i : Nat) (w : World) (hi : i ≤ 1000000000) :
    Calls Tryz.prog 68 #[twA t kv, .int .i64 i] w fun e w' => e = .returned (.int .i64 (mustR t.nd i)) ∧ Below w.heap.size w w' := by
  have hb := (Below.refl w.heap.size w).alloc (Nat.le_refl _) (twO t kv)
  have HB := Lib.hid hb
  have h0 : (w.alloc (twO t kv)).heap[w.heap.size]? = some (twO t kv) := heap_alloc_new w _
  have H0 := Lib.hid h0
  clear hb h0
  by_cases h32 : t.kind = 32
  · have b32 : (t.kind == 32) = true := by simpa using h32
    have hbn := fun w => binds2_ok t kv w
    obtain ⟨bn, r1, r2, h3, h1n, h2n⟩ : ∃ (bn : Nat) (r1 r2 : Int), bndR t.kind t.text = (bn : Int) ∧ (bn = 1 ∧ r1 = 2 ∧ r2 = 0 ∨ bn = 2 ∧ r1 = 2 ∧ r2 = i ∨ bn = 3 ∧ r1 = 3 ∧ r2 = i) ∧ mustR t.nd i = r1 + r2 := by
      unfold mustR bndR
      rw [show t.nd.kind = t.kind from rfl, h32, if_pos rfl, if_neg (by decide), if_pos rfl]
      by_cases e1 : t.text = [60] ∨ t.text = [61, 61]
      · exact ⟨1, 2, 0, by rw [if_pos e1]; rfl, .inl ⟨rfl, rfl, rfl⟩, by rw [show t.nd.text = t.text from rfl, if_pos e1, if_pos rfl]; rfl⟩
      · by_cases e2 : t.text = [43] ∨ t.text = [45]
        · exact ⟨2, 2, i, by rw [if_neg e1, if_pos e2]; rfl, .inr (.inl ⟨rfl, rfl, rfl⟩), by rw [show t.nd.text = t.text from rfl, if_neg e1, if_pos e2, if_neg (by decide)]; rfl⟩
        · exact ⟨3, 3, i, by rw [if_neg e1, if_neg e2]; rfl, .inr (.inr ⟨rfl, rfl, rfl⟩), by rw [show t.nd.text = t.text from rfl, if_neg e1, if_neg e2, if_neg (by decide)]; rfl⟩
    rw [h3] at hbn
    rw [h2n]
    have HBN := Lib.hid hbn
    have HK := Lib.hid h32
    have hr : 0 ≤ r1 ∧ r1 ≤ 3 ∧ 0 ≤ r2 ∧ r2 ≤ 1000000000 := by omega
    have hbn4 : (bn : Int) < 4 := by omega
    have hwr : IntKind.i64.wrap (r1 + r2) = r1 + r2 := by rw [IntKind.wrap_i64]; omega
    obtain ⟨hr1, hr2, hr3, hr4⟩ := hr
    have HWR := Lib.hid hwr
    clear hbn h3 h2n h32 hwr
    unfold twA at HBN ⊢
    go_enter Tryz.func68, Tryz.ntmps68
    go_wp2_with fail
    change Code.wp _ _ _ _ (w.alloc (twO t kv))
    obtain ⟨c0, c1, c2, c3, c4, c5⟩ := tw_cells H0.out
    have hlt : w.heap.size < (w.alloc (twO t kv)).heap.size := by simp
    generalize w.alloc (twO t kv) = W at *
    refine region_grow_lit (by kernel_rfl) (GM (.agg #[.int .i64 t.kind, .string ⟨t.text.toArray⟩, .int .i64 t.n, .int .i64 t.line, .int .i64 t.col, kv]) bn i r1 r2) rfl (by kernel_rfl) (by kernel_rfl) (by kernel_rfl) (by kernel_rfl) GM.mono ?_ ?_
    · intro j o ho a' w' hF hB hD K hK
      obtain ⟨⟨l⟩, df⟩ := a'
      obtain ⟨f1, f2, f3⟩ := hF
      replace f1 : df = [] := f1
      replace f2 : l.length = 32 := f2
      subst f1
      obtain ⟨x0, x1, x2, x3, x4, x5, x6, x7, x8, x9, x10, x11, x12, x13, x14, x15, x16, x17, x18, x19, x20, x21, x22, x23, x24, x25, x26, x27, x28, x29, x30, x31, rfl⟩ := list32 l f2
      have y1 : x1 = .int .i64 i := f3 1 (by kernel_rfl)
      have y2 : x2 = .pointer (some ⟨w.heap.size, 0, none⟩) := f3 2 (by kernel_rfl)
      clear f2 f3
      subst y1 y2
      have hj : j < 14 := (Array.getElem?_eq_some_iff.1 ho).1
      have g0 := (hB.cell (p := ⟨w.heap.size, 0, none⟩) hlt).trans c0
      have g1 := (hB.cell (p := ⟨w.heap.size, 1, none⟩) hlt).trans c1
      have g2 := (hB.cell (p := ⟨w.heap.size, 2, none⟩) hlt).trans c2
      have g3 := (hB.cell (p := ⟨w.heap.size, 3, none⟩) hlt).trans c3
      have g4 := (hB.cell (p := ⟨w.heap.size, 4, none⟩) hlt).trans c4
      have g5 := (hB.cell (p := ⟨w.heap.size, 5, none⟩) hlt).trans c5
      clear c0 c1 c2 c3 c4 c5
      rcases j with _ | _ | _ | _ | _ | _ | _ | _ | _ | _ | _ | _ | _ | _ | j
      · obtain rfl := Option.some.inj (show some _ = some o from ho)
        clear ho hD hj
        go_simp
        exact hK (.slice (some ⟨w'.heap.size, 0, none⟩) 4 4) _ ⟨_, rfl, gm_new (by rcases h1n with ⟨rfl, rfl, _⟩ | ⟨rfl, rfl, _⟩ | ⟨rfl, rfl, _⟩ <;> rfl)⟩ ((Below.refl _ _).alloc (Nat.le_refl _) _)
      · obtain rfl := Option.some.inj (show some _ = some o from ho)
        clear ho hD hj
        go_simp
        exact hK _ _ rfl (Below.refl _ _)
      · obtain rfl := Option.some.inj (show some _ = some o from ho)
        obtain ⟨d1, hd1, hG1⟩ := hD _ (Array.mem_of_getElem? (i := 0) rfl) rfl
        cases hd1
        replace hG1 : GM _ bn i r1 r2 1 x10 _ := hG1
        replace hG1 : x10 = _ := hG1
        subst hG1
        clear ho hD hj
        go_simp
        refine (HBN.out w').mono ?_
        rintro e w3 ⟨rfl, rfl⟩
        exact hK (.int .i64 (bn : Int)) _ rfl ((Below.refl _ _).alloc (Nat.le_refl _) _)
      · obtain rfl := Option.some.inj (show some _ = some o from ho)
        obtain ⟨d0, hd0, hG0⟩ := hD _ (Array.mem_of_getElem? (i := 0) rfl) rfl
        cases hd0
        replace hG0 : GM _ bn i r1 r2 0 x9 _ := hG0
        obtain ⟨d2, hd2, hG2⟩ := hD _ (Array.mem_of_getElem? (i := 1) rfl) rfl
        cases hd2
        replace hG2 : GM _ bn i r1 r2 2 x11 _ := hG2
        obtain ⟨g, rfl, hc⟩ := hG0
        replace hG2 : x11 = _ := hG2
        subst hG2
        clear ho hD hj
        go_simp
        exact hK (.pointer (some ⟨g, bn, none⟩)) _ ⟨g, rfl, hc⟩ (Below.refl _ _)
      · obtain rfl := Option.some.inj (show some _ = some o from ho)
        obtain ⟨d3, hd3, hG3⟩ := hD _ (Array.mem_of_getElem? (i := 0) rfl) rfl
        cases hd3
        replace hG3 : GM _ bn i r1 r2 3 x12 _ := hG3
        obtain ⟨g, rfl, hc⟩ := hG3
        clear ho hD hj
        go_simp
        exact hK (.int .i64 r1) _ rfl (Below.refl _ _)
      · obtain rfl := Option.some.inj (show some _ = some o from ho)
        clear ho hD hj
        go_simp
        exact hK (.int .i64 i) _ rfl (Below.refl _ _)
      · obtain rfl := Option.some.inj (show some _ = some o from ho)
        clear ho hD hj
        go_simp
        exact hK (.int .i64 i) _ rfl (Below.refl _ _)
      · obtain rfl := Option.some.inj (show some _ = some o from ho)
        obtain ⟨d5, hd5, hG5⟩ := hD _ (Array.mem_of_getElem? (i := 0) rfl) rfl
        cases hd5
        replace hG5 : GM _ bn i r1 r2 5 x14 _ := hG5
        obtain ⟨d6, hd6, hG6⟩ := hD _ (Array.mem_of_getElem? (i := 1) rfl) rfl
        cases hd6
        replace hG6 : GM _ bn i r1 r2 6 x15 _ := hG6
        replace hG5 : x14 = _ := hG5
        replace hG6 : x15 = _ := hG6
        subst hG5 hG6
        clear ho hD hj
        go_simp
        exact hK (.slice (some ⟨w'.heap.size, 0, none⟩) 4 4) _ ⟨_, rfl, gm_new (by rcases h1n with ⟨rfl, _, rfl⟩ | ⟨rfl, _, rfl⟩ | ⟨rfl, _, rfl⟩ <;> rfl)⟩ ((Below.refl _ _).alloc (Nat.le_refl _) _)
      · obtain rfl := Option.some.inj (show some _ = some o from ho)
        clear ho hD hj
        go_simp
        exact hK _ _ rfl (Below.refl _ _)
      · obtain rfl := Option.some.inj (show some _ = some o from ho)
        obtain ⟨d8, hd8, hG8⟩ := hD _ (Array.mem_of_getElem? (i := 0) rfl) rfl
        cases hd8
        replace hG8 : GM _ bn i r1 r2 8 x17 _ := hG8
        replace hG8 : x17 = _ := hG8
        subst hG8
        clear ho hD hj
        go_simp
        refine (HBN.out w').mono ?_
        rintro e w3 ⟨rfl, rfl⟩
        exact hK (.int .i64 (bn : Int)) _ rfl ((Below.refl _ _).alloc (Nat.le_refl _) _)
      · obtain rfl := Option.some.inj (show some _ = some o from ho)
        obtain ⟨d7, hd7, hG7⟩ := hD _ (Array.mem_of_getElem? (i := 0) rfl) rfl
        cases hd7
        replace hG7 : GM _ bn i r1 r2 7 x16 _ := hG7
        obtain ⟨d9, hd9, hG9⟩ := hD _ (Array.mem_of_getElem? (i := 1) rfl) rfl
        cases hd9
        replace hG9 : GM _ bn i r1 r2 9 x18 _ := hG9
        obtain ⟨g, rfl, hc⟩ := hG7
        replace hG9 : x18 = _ := hG9
        subst hG9
        clear ho hD hj
        go_simp
        exact hK (.pointer (some ⟨g, bn, none⟩)) _ ⟨g, rfl, hc⟩ (Below.refl _ _)
      · obtain rfl := Option.some.inj (show some _ = some o from ho)
        obtain ⟨d10, hd10, hG10⟩ := hD _ (Array.mem_of_getElem? (i := 0) rfl) rfl
        cases hd10
        replace hG10 : GM _ bn i r1 r2 10 x19 _ := hG10
        obtain ⟨g, rfl, hc⟩ := hG10
        clear ho hD hj
        go_simp
        exact hK (.int .i64 r2) _ rfl (Below.refl _ _)
      · obtain rfl := Option.some.inj (show some _ = some o from ho)
        obtain ⟨d4, hd4, hG4⟩ := hD _ (Array.mem_of_getElem? (i := 0) rfl) rfl
        cases hd4
        replace hG4 : GM _ bn i r1 r2 4 x13 _ := hG4
        obtain ⟨d11, hd11, hG11⟩ := hD _ (Array.mem_of_getElem? (i := 1) rfl) rfl
        cases hd11
        replace hG11 : GM _ bn i r1 r2 11 x20 _ := hG11
        replace hG4 : x13 = _ := hG4
        replace hG11 : x20 = _ := hG11
        subst hG4 hG11
        clear ho hD hj
        go_simp
        rw [HWR.out]
        exact hK (.int .i64 (r1 + r2)) _ rfl (Below.refl _ _)
      · obtain rfl := Option.some.inj (show some _ = some o from ho)
        obtain ⟨d12, hd12, hG12⟩ := hD _ (Array.mem_of_getElem? (i := 0) rfl) rfl
        cases hd12
        replace hG12 : GM _ bn i r1 r2 12 x21 _ := hG12
        replace hG12 : x21 = _ := hG12
        subst hG12
        clear ho hD hj
        go_simp
        exact hK (.int .i64 (r1 + r2)) _ rfl (Below.refl _ _)
      · omega
    · intro a' w' hF hB hG
      obtain ⟨⟨l⟩, df⟩ := a'
      obtain ⟨f1, f2, f3⟩ := hF
      replace f1 : df = [] := f1
      replace f2 : l.length = 32 := f2
      subst f1
      obtain ⟨x0, x1, x2, x3, x4, x5, x6, x7, x8, x9, x10, x11, x12, x13, x14, x15, x16, x17, x18, x19, x20, x21, x22, x23, x24, x25, x26, x27, x28, x29, x30, x31, rfl⟩ := list32 l f2
      obtain ⟨d13, hd13, hG13⟩ := hG 13 (by decide)
      cases hd13
      replace hG13 : x4 = .int .i64 (r1 + r2) := hG13
      subst hG13
      clear f2 f3 hG
      have HBW := Lib.hid (HB.out.trans (hB.mono HB.out.size))
      go_wp2_with fail
      go_ret
      exact ⟨rfl, HBW.out⟩
  · have b32 : (t.kind == 32) = false := by simpa using h32
    clear h32
    unfold twA
    go_enter Tryz.func68, Tryz.ntmps68
    go_wp2_with fail
    all_goals go_ret
    all_goals refine ⟨ret_int ?_, HB.out⟩
    all_goals (simp only [beq_iff_eq, beq_eq_false_iff_ne, ne_eq, Bool.not_eq_true', Bool.not_eq_false'] at *)
    all_goals first
      | contradiction
      | (simp [mustR, Tw.nd, *]; done)
end Go.Proofs.YtehdljcmeimbcaaGreat

namespace Go.Proofs.YtehdljcmeimbcaaGreat
open Go.RowKit
set_option linter.unusedSimpArgs false

set_option maxRecDepth 100000 in
set_option maxHeartbeats 2000000 in
theorem paren2O_ok (R : List Tw) (va : Value) (t : Tw) (kv : Value) (i k : Nat) (x : Tw) (w : World) (hR : RdO w va R) (hk : KidO w kv t.kids) (h1 : t.kids[i]? = some (k : Int)) (h2 : R[k]? = some x) (hi : i ≤ 1000000000) :
    Calls Tryz.prog 38 #[.agg #[va], twA t kv, .int .i64 i] w fun e w' => e = .returned (.bool (prnR t.nd i x.nd)) ∧ Below w.heap.size w w' := by
  obtain ⟨A, ca, rfl, ha⟩ := hR
  obtain ⟨KA, kc, rfl, hkk⟩ := hk
  have hil := (List.getElem?_eq_some_iff.1 h1).1
  have hkl := (List.getElem?_eq_some_iff.1 h2).1
  obtain ⟨g, o6, kvx, rfl, hg, hix, hc⟩ := ha k x h2
  obtain ⟨gk, ok, rfl, hgk, hck⟩ := hkk i _ h1
  obtain ⟨W, hW⟩ : ∃ W : World, W = (w.alloc (.cells #[.slice (some ⟨g, o6, none⟩) R.length ca] 26)).alloc (twO t (.slice (some ⟨gk, ok, none⟩) t.kids.length kc)) := ⟨_, rfl⟩
  have hbe : Below w.heap.size w W := by rw [hW]; exact ((Below.refl _ w).alloc (Nat.le_refl _) _).alloc (by simp) _
  have hbs : W.heap.size = w.heap.size + 2 := by rw [hW]; simp
  have k0 : W.heap[w.heap.size]? = some (.cells #[.slice (some ⟨g, o6, none⟩) R.length ca] 26 (0, 0)) := by
    rw [hW, Below.heap_alloc _ _ _ (by simp)]
    exact heap_alloc_new w _
  have k1 : W.heap[w.heap.size + 1]? = some (twO t (.slice (some ⟨gk, ok, none⟩) t.kids.length kc)) := by
    rw [hW]
    have := heap_alloc_new (w.alloc (.cells #[.slice (some ⟨g, o6, none⟩) R.length ca] 26)) (twO t (.slice (some ⟨gk, ok, none⟩) t.kids.length kc))
    rwa [World.size_alloc] at this
  have q0 := cell_of_one k0
  obtain ⟨p0, p1, p2, p3, p4, p5⟩ := tw_cells k1
  have e0 := (hbe.cell (p := ⟨gk, ok + i, none⟩) hgk).trans hck
  have hcx := fun o u (h : (twCells x kvx)[o]? = some u) => (hbe.cell (p := ⟨g, o6 + k * 6 + o, none⟩) hg).trans (hc o u h)
  have f0 := hcx 0 _ rfl
  have f1 := hcx 1 _ rfl
  have f2 := hcx 2 _ rfl
  have f3 := hcx 3 _ rfl
  have f4 := hcx 4 _ rfl
  have f5 := hcx 5 _ rfl
  rw [Nat.add_zero] at f0
  have HBE := Lib.hid hbe
  have HK1 := Lib.hid k1
  clear ha hkk hix hc hcx h1 h2 hbe k0 k1 hck
  unfold twA
  go_enter Tryz.func38, Tryz.ntmps38
  go_wp2_with fail
  change Code.wp _ _ _ _ ((w.alloc (.cells #[.slice (some ⟨g, o6, none⟩) R.length ca] 26)).alloc (twO t (.slice (some ⟨gk, ok, none⟩) t.kids.length kc)))
  rw [← hW]
  clear hW
  go_still_tail 9, (by kernel_rfl)
  change wpList _ _ _ _ _ W.drew
  have hbd : Below w.heap.size w (W.drew.alloc (twO x kvx)) := (bdrew HBE.out 1).alloc HBE.out.size _
  have hk2 : (W.drew.alloc (twO x kvx)).heap[w.heap.size + 1]? = some (twO t (.slice (some ⟨gk, ok, none⟩) t.kids.length kc)) := (Below.heap_alloc _ _ _ (by show _ < W.heap.size; omega)).trans HK1.out
  have HBD := Lib.hid hbd
  have HK2 := Lib.hid hk2
  clear hbd hk2 HBE HK1 p0 p1 p2 p3 p4 p5 q0 e0 f0 f1 f2 f3 f4 f5
  generalize W.drew = W1 at *
  have hbn := binds2_ok x kvx W1
  obtain ⟨W2, hW2⟩ : ∃ W2, W2 = W1.alloc (twO x kvx) := ⟨_, rfl⟩
  rw [← hW2] at HBD HK2 hbn
  clear hW2
  obtain ⟨p0, p1, p2, p3, p4, p5⟩ := tw_cells HK2.out
  have hmn := must2_ok t (.slice (some ⟨gk, ok, none⟩) t.kids.length kc) i W2 hi
  unfold twA at hbn hmn
  have HBN := Lib.hid hbn
  have HMN := Lib.hid hmn
  clear hbn hmn
  by_cases h0 : 0 < bndR x.kind x.text
  · go_wp2_with (first
      | (go_at_call 67; refine HBN.out.mono ?_; rintro e w1 ⟨rfl, rfl⟩)
      | (go_at_call 68; refine HMN.out.mono ?_; rintro e w3 ⟨rfl, hb3⟩))
    go_ret
    refine ⟨ret_bool ?_, HBD.out.trans (hb3.mono HBD.out.size)⟩
    have e : (decide (0 < bndR x.nd.kind x.nd.text)) = true := decide_eq_true h0
    unfold prnR
    rw [e, Bool.true_and]
    rfl
  · go_wp2_with (go_at_call 67; refine HBN.out.mono ?_; rintro e w1 ⟨rfl, rfl⟩)
    go_ret
    refine ⟨ret_bool ?_, HBD.out⟩
    have e : (decide (0 < bndR x.nd.kind x.nd.text)) = false := decide_eq_false (show ¬ 0 < bndR x.kind x.text by omega)
    unfold prnR
    rw [e, Bool.false_and]
end Go.Proofs.YtehdljcmeimbcaaGreat
