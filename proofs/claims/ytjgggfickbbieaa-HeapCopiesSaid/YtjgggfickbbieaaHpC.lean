/- The program's heap: copies of values, of an object; Object. -/
import Derived.Test.YtjgggfickbbieaaHpB
namespace Go.Proofs.Ytjgggfickbbieaa
open Go.RowKit Go.Shelf
attribute [local go_sem] Oper.semAt_some
/-- All of an object's box is written anew. -/
def obW (W : World) (b : Nat) (x : Ob) (n : Int) : World := (((((W.setCell ⟨b, 0, none⟩ (.int .i64 x.kind)).setCell ⟨b, 1, none⟩ (.int .i64 x.of)).setCell ⟨b, 2, none⟩ x.v).setCell ⟨b, 3, none⟩ (.int .i64 x.site)).setCell ⟨b, 4, none⟩ (.int .i64 x.by')).setCell ⟨b, 5, none⟩ (.int .i64 n)
theorem obo_put {W : World} {b : Nat} {y : Ob} {m : Int} (h : W.heap[b]? = some (obo y m)) (x : Ob) (n : Int) : (obW W b x n).heap[b]? = some (obo x n) ∧ Kept (fun k _ => k != b) W (obW W b x n) := by
  have k : ∀ (w : World) (i : Nat) (v : Value), Kept (fun k _ => k != b) w (w.setCell ⟨b, i, none⟩ v) := fun w i v => Kept.setCell _ fun o ho => by simp
  refine ⟨?_, (((((k _ _ _).trans (k _ _ _)).trans (k _ _ _)).trans (k _ _ _)).trans (k _ _ _)).trans (k _ _ _)⟩
  have h0 := heap_setCell_same W b 0 _ _ (.int .i64 x.kind) h
  have h1 := heap_setCell_same _ b 1 _ _ (.int .i64 x.of) h0
  have h2 := heap_setCell_same _ b 2 _ _ x.v h1
  have h3 := heap_setCell_same _ b 3 _ _ (.int .i64 x.site) h2
  have h4 := heap_setCell_same _ b 4 _ _ (.int .i64 x.by') h3
  have h5 := heap_setCell_same _ b 5 _ _ (.int .i64 n) h4
  unfold obW
  rw [h5]
  simp [obo]
section
variable {W : World}
set_option maxHeartbeats 1000000 in
set_option maxRecDepth 100000 in
theorem copied_ok (l : List Int) (A : Option Addr) (c : Nat) (hs : Src W (.slice A l.length c) l.length (rowI l)) (hl : l.length ≤ 100000) :
    Calls Try.prog 41 #[.slice A l.length c] W fun e W' => ∃ A' c', e = .returned (.slice A' l.length c') ∧ Ext W W' ∧ W'.ownsRow W.heap.size 2 1 (.slice A' l.length c') l.length (rowI l) := by
  obtain ⟨i0, hi0, hz0, hz1, hz2⟩ := infoParts infoI
  have HN := Lib.hid (show (W.alloc (.cells #[] 2 (0, 0))).ownsRow W.heap.size 2 1 (.slice (some ⟨W.heap.size, 0, none⟩) 0 0) 0 [] from ⟨rfl, .inr ⟨W.heap.size, 0, #[], rfl, Nat.le_refl _, World.alloc_heap_new _ _, Nat.le_refl _, by unfold maxLen; omega, rfl, rfl⟩⟩)
  have HS := Lib.hid (hs.ext (Ext.one W (.cells #[] 2 (0, 0))))
  have HONE := Lib.hid (rowI_one l)
  have HLEN := Lib.hid (rowI_len l)
  clear hs
  go_enter Try.func41, Try.ntmps41
  go_wp2_with (at_builtin; refine wpList_append_any rfl _ _ 33 rfl W.heap.size 2 i0 (.int .i64 0) 1 8 Try.underlying33 hi0 hz0 hz1 hz2 rfl (by decide) (.slice (some ⟨W.heap.size, 0, none⟩) 0 0) 0 [] rfl HN.out (.slice A l.length c) l.length (rowI l) rfl HLEN.out HS.out HONE.out (by unfold maxLen; omega) (by omega) (by simp) l.length (by omega) (rowI l) (by simp) ?_; intro A1 c1 w1 hown1 hgrow1 hat1; have HX1 := Lib.hid (grown_ext (Ext.one W (.cells #[] 2 (0, 0))) hgrow1 (by intro b hb; simp [Value.ownBlock] at hb; omega)); have HO1 := Lib.hid hown1; clear hown1 hgrow1 hat1)
  go_ret
  exact ⟨A1, c1, rfl, HX1.out, HO1.out⟩
set_option maxHeartbeats 1000000 in
set_option maxRecDepth 100000 in
theorem apart_ok (x : Ob) (n : Int) (b : Nat) (hb : W.heap[b]? = some (obo x n)) (hv : W.ownsRow 0 2 1 x.v x.vals.length (rowI x.vals)) (hl : x.vals.length ≤ 256) :
    Calls Try.prog 35 #[.pointer (some ⟨b, 0, none⟩)] W fun e W' => ∃ A' c', e = .returned (.agg #[.int .i64 x.kind, .int .i64 x.of, .slice A' x.vals.length c', .int .i64 x.site, .int .i64 x.by', .int .i64 n]) ∧ Ext W W' ∧ W'.ownsRow W.heap.size 2 1 (.slice A' x.vals.length c') x.vals.length (rowI x.vals) := by
  obtain ⟨A, c, hxv⟩ := own_slice3 hv
  have hsrc := Src.of hv (rowI_len _)
  rw [hxv] at hsrc
  obtain ⟨⟨x0, x1, x2, x3, x4, x5⟩, xf, xl⟩ := obo_cells hb
  rw [hxv] at x2
  have HS := Lib.hid hsrc
  have HB := Lib.hid hb
  have HV := Lib.hid hv
  have HXV := Lib.hid hxv
  clear hsrc hb hv hxv
  go_enter Try.func35, Try.ntmps35
  go_upto_region 2 with (fail)
  obtain ⟨W1, hW1⟩ : ∃ W1, W1 = (W.alloc (.cells #[.int .i64 0, .int .i64 0, .slice none 0 0, .int .i64 0, .int .i64 0, .int .i64 0] 45 (0, 0))).alloc (.cells #[.int .i64 x.kind, .int .i64 x.of, .slice A x.vals.length c, .int .i64 x.site, .int .i64 x.by', .int .i64 n] 45 (0, 0)) := ⟨_, rfl⟩
  rw [← hW1]
  have hE1 : Ext W W1 := by rw [hW1]; exact Ext.two _ _ _
  have hs1 : W1.heap.size = W.heap.size + 2 := by rw [hW1]; simp
  have hr0 : W1.heap[W.heap.size]? = some (obo ⟨0, 0, .slice none 0 0, [], 0, 0, 0⟩ 0) := by rw [hW1]; exact (Below.heap_alloc _ _ _ (by simp)).trans (World.alloc_heap_new _ _)
  have hr1 : W1.heap[W.heap.size + 1]? = some (obo x n) := by rw [hW1]; unfold obo; rw [HXV.out]; have := World.alloc_heap_new (W.alloc (.cells #[.int .i64 0, .int .i64 0, .slice none 0 0, .int .i64 0, .int .i64 0, .int .i64 0] 45 (0, 0))) (.cells #[.int .i64 x.kind, .int .i64 x.of, .slice A x.vals.length c, .int .i64 x.site, .int .i64 x.by', .int .i64 n] 45 (0, 0)); rwa [World.size_alloc] at this
  have hbx := (hE1.kept (fun _ _ => true)).same _ _ HB.out rfl
  have hcall := copied_ok x.vals A c (HS.out.ext hE1) (by omega)
  obtain ⟨⟨x0, x1, x2, x3, x4, x5⟩, xf, xl⟩ := obo_cells hbx
  rw [HXV.out] at x2
  have HE1 := Lib.hid hE1
  have HR0 := Lib.hid hr0
  have HR1 := Lib.hid hr1
  have HC := Lib.hid hcall
  have HS1 := Lib.hid hs1
  clear hE1 hr0 hr1 hW1 hbx hcall hs1 HS HV
  go_upto_region 3 with (go_at_call 41; refine HC.out.mono ?_; rintro e w2 ⟨A2, c2, rfl, hx2, ho2⟩; obtain ⟨⟨y0, y1, y2, y3, y4, y5⟩, yf, yl⟩ := obo_cells ((hx2.kept (fun _ _ => true)).same _ _ HR1.out rfl); rw [HXV.out] at y2; have HX2 := Lib.hid hx2; have HO2 := Lib.hid ho2; clear hx2 ho2 x0 x1 x2 x3 x4 x5)
  obtain ⟨w3, hw3⟩ : ∃ w3, w3 = w2.setCell ⟨W.heap.size + 1, 2, none⟩ (.slice A2 x.vals.length c2) := ⟨_, rfl⟩
  rw [← hw3]
  have hq1 : w3.heap[W.heap.size + 1]? = some (obo { x with v := .slice A2 x.vals.length c2 } n) := by
    rw [hw3, heap_setCell_same w2 (W.heap.size + 1) 2 _ _ _ ((HX2.out.kept (fun _ _ => true)).same _ _ HR1.out rfl)]
    simp [obo]
  have hk3 : Kept (fun b _ => b != W.heap.size + 1) w2 w3 := by rw [hw3]; exact Kept.setCell _ fun o ho => by simp
  have hq0 := hk3.same _ _ ((HX2.out.kept (fun _ _ => true)).same _ _ HR0.out rfl) (by simp)
  have hx3 : Ext W w3 := Kept.trans (HE1.out.trans HX2.out) (hk3.mono fun b t hb hp => by simp [pOld] at hp; simp; omega)
  have ho3 := hk3.row HO2.out fun g hg => by
    have h1 := own_base HO2.out g hg
    have h2 := HS1.out
    simp; omega
  obtain ⟨⟨x0, x1, x2, x3, x4, x5⟩, xf, xl⟩ := obo_cells hq1
  obtain ⟨⟨z0, z1, z2, z3, z4, z5⟩, zf, zl⟩ := obo_cells hq0
  dsimp only at x0 x1 x2 x3 x4 x5 z0 z1 z2 z3 z4 z5
  have HX3 := Lib.hid hx3
  have HO3 := Lib.hid ho3
  have HQ0 := Lib.hid hq0
  clear hw3 hq1 hk3 hq0 hx3 ho3 y0 y1 y2 y3 y4 y5 yf yl
  go_wp2_with fail
  obtain ⟨p1, p2⟩ := obo_put HQ0.out ({ x with v := .slice A2 x.vals.length c2 } : Ob) n
  dsimp only [obW] at p1 p2
  generalize (((((w3.setCell ⟨W.heap.size, 0, none⟩ (.int .i64 x.kind)).setCell ⟨W.heap.size, 1, none⟩ (.int .i64 x.of)).setCell ⟨W.heap.size, 2, none⟩ (.slice A2 x.vals.length c2)).setCell ⟨W.heap.size, 3, none⟩ (.int .i64 x.site)).setCell ⟨W.heap.size, 4, none⟩ (.int .i64 x.by')).setCell ⟨W.heap.size, 5, none⟩ (.int .i64 n) = w4 at *
  obtain ⟨⟨u0, u1, u2, u3, u4, u5⟩, _, _⟩ := obo_cells p1
  dsimp only at u0 u1 u2 u3 u4 u5
  refine bodyPost_ret (v := .agg #[.int .i64 x.kind, .int .i64 x.of, .slice A2 x.vals.length c2, .int .i64 x.site, .int .i64 x.by', .int .i64 n]) (by simp [results, Try.results35, go_sem, u0, u1, u2, u3, u4, u5]) rfl ?_
  have hs1 := HS1.out
  exact ⟨A2, c2, rfl, Kept.trans HX3.out (p2.mono fun b t hb hp => by simp [pOld] at hp; simp; omega), own_low (by omega) (p2.row HO3.out fun g hg => by have := own_base HO3.out g hg; simp; omega)⟩
variable {own : Nat → Bool} {bh : Nat} {ps : List Nat} {L : List Ob}
def zeroO : Obj := .cells #[.int .i64 0, .int .i64 0, .slice none 0 0, .int .i64 0, .int .i64 0, .int .i64 0] 45 (0, 0)
set_option maxHeartbeats 1000000 in
set_option maxRecDepth 100000 in
theorem Object_yes (h : PH own bh ps L W) {i : Nat} (hi : i < L.length) : Calls Try.prog 17 #[.pointer (some ⟨bh, 0, none⟩), .int .i64 ((i : Int) + 1)] W fun e W' => ∃ A' c', e = .returned (.tuple #[.agg #[.int .i64 (nt L i).kind, .int .i64 (nt L i).of, .slice A' (nt L i).vals.length c', .int .i64 (nt L i).site, .int .i64 (nt L i).by', .int .i64 (nt L i).nth], .int .i64 0]) ∧ Ext W W' ∧ W'.ownsRow W.heap.size 2 1 (.slice A' (nt L i).vals.length c') (nt L i).vals.length (rowI (nt L i).vals) := by
  obtain ⟨W1, hW1⟩ : ∃ W1, W1 = W.alloc zeroO := ⟨_, rfl⟩
  have hE1 : Ext W W1 := by rw [hW1]; exact Ext.one _ _
  have hr0 : W1.heap[W.heap.size]? = some (obo ⟨0, 0, .slice none 0 0, [], 0, 0, 0⟩ 0) := by rw [hW1]; exact World.alloc_heap_new _ _
  have h1 := h.ext hE1
  have HF := Lib.hid (find_yes h1 hi)
  have HA := Lib.hid (apart_ok (nt L i) (nt L i).nth _ (h1.bo i hi) (h1.vs i hi) (h1.wid i hi))
  have hsz : W.heap.size < W1.heap.size := by rw [hW1]; simp
  have HE1 := Lib.hid hE1
  have HR0 := Lib.hid hr0
  have HW := Lib.hid hW1
  clear h h1 hE1 hr0 hW1
  generalize nt L i = x at *
  generalize pt ps i = b at *
  go_enter Try.func17, Try.ntmps17
  go_upto_region 1 with (fail)
  change Code.wp _ _ _ _ (W.alloc zeroO)
  rw [← HW.out]
  go_wp2_with (first
    | (go_at_call 40; refine HF.out.mono ?_; rintro e w2 ⟨rfl, rfl⟩)
    | (go_at_call 35; refine HA.out.mono ?_; rintro e w3 ⟨A2, c2, rfl, hx3, ho3⟩; obtain ⟨⟨z0, z1, z2, z3, z4, z5⟩, zf, zl⟩ := obo_cells ((hx3.kept (fun _ _ => true)).same _ _ HR0.out rfl); dsimp only at z0 z1 z2 z3 z4 z5; have HX3 := Lib.hid hx3; have HO3 := Lib.hid ho3; clear hx3 ho3))
  obtain ⟨p1, p2⟩ := obo_put ((HX3.out.kept (fun _ _ => true)).same _ _ HR0.out rfl) ({ x with v := .slice A2 x.vals.length c2 } : Ob) x.nth
  dsimp only [obW] at p1 p2
  generalize (((((w3.setCell ⟨W.heap.size, 0, none⟩ (.int .i64 x.kind)).setCell ⟨W.heap.size, 1, none⟩ (.int .i64 x.of)).setCell ⟨W.heap.size, 2, none⟩ (.slice A2 x.vals.length c2)).setCell ⟨W.heap.size, 3, none⟩ (.int .i64 x.site)).setCell ⟨W.heap.size, 4, none⟩ (.int .i64 x.by')).setCell ⟨W.heap.size, 5, none⟩ (.int .i64 x.nth) = w4 at *
  obtain ⟨⟨u0, u1, u2, u3, u4, u5⟩, _, _⟩ := obo_cells p1
  dsimp only at u0 u1 u2 u3 u4 u5
  refine bodyPost_ret (v := .tuple #[.agg #[.int .i64 x.kind, .int .i64 x.of, .slice A2 x.vals.length c2, .int .i64 x.site, .int .i64 x.by', .int .i64 x.nth], .int .i64 0]) (by simp [results, Try.results17, go_sem, u0, u1, u2, u3, u4, u5]) rfl ?_
  exact ⟨A2, c2, rfl, Kept.trans (HE1.out.trans HX3.out) (p2.mono fun b t hb hp => by simp [pOld] at hp; simp; omega), own_low (by omega) (p2.row HO3.out fun g hg => by have := own_base HO3.out g hg; simp; omega)⟩
set_option maxHeartbeats 1000000 in
set_option maxRecDepth 100000 in
theorem Object_no (h : PH own bh ps L W) {id : Int} (hn : hasO L id = false) : Calls Try.prog 17 #[.pointer (some ⟨bh, 0, none⟩), .int .i64 id] W fun e W' => e = .returned (.tuple #[.agg #[.int .i64 0, .int .i64 0, .slice none 0 0, .int .i64 0, .int .i64 0, .int .i64 0], .int .i64 13]) ∧ Ext W W' := by
  obtain ⟨W1, hW1⟩ : ∃ W1, W1 = W.alloc zeroO := ⟨_, rfl⟩
  have hE1 : Ext W W1 := by rw [hW1]; exact Ext.one _ _
  have hr0 : W1.heap[W.heap.size]? = some (obo ⟨0, 0, .slice none 0 0, [], 0, 0, 0⟩ 0) := by rw [hW1]; exact World.alloc_heap_new _ _
  have HF := Lib.hid (find_no (h.ext hE1) hn)
  have hsz : W.heap.size < W1.heap.size := by rw [hW1]; simp
  obtain ⟨⟨z0, z1, z2, z3, z4, z5⟩, zf, zl⟩ := obo_cells hr0
  dsimp only at z0 z1 z2 z3 z4 z5
  have HE1 := Lib.hid hE1
  have HR0 := Lib.hid hr0
  have HW := Lib.hid hW1
  clear h hE1 hr0 hW1 hn
  go_enter Try.func17, Try.ntmps17
  go_upto_region 1 with (fail)
  change Code.wp _ _ _ _ (W.alloc zeroO)
  rw [← HW.out]
  go_wp2_with (go_at_call 40; refine HF.out.mono ?_; rintro e w2 ⟨rfl, rfl⟩)
  obtain ⟨p1, p2⟩ := obo_put HR0.out ⟨0, 0, .slice none 0 0, [], 0, 0, 0⟩ 0
  dsimp only [obW] at p1 p2
  generalize (((((w2.setCell ⟨W.heap.size, 0, none⟩ (.int .i64 0)).setCell ⟨W.heap.size, 1, none⟩ (.int .i64 0)).setCell ⟨W.heap.size, 2, none⟩ (.slice none 0 0)).setCell ⟨W.heap.size, 3, none⟩ (.int .i64 0)).setCell ⟨W.heap.size, 4, none⟩ (.int .i64 0)).setCell ⟨W.heap.size, 5, none⟩ (.int .i64 0) = w4 at *
  obtain ⟨⟨u0, u1, u2, u3, u4, u5⟩, _, _⟩ := obo_cells p1
  dsimp only at u0 u1 u2 u3 u4 u5
  refine bodyPost_ret (v := .tuple #[.agg #[.int .i64 0, .int .i64 0, .slice none 0 0, .int .i64 0, .int .i64 0, .int .i64 0], .int .i64 13]) (by simp [results, Try.results17, go_sem, u0, u1, u2, u3, u4, u5]) rfl ?_
  exact ⟨rfl, Kept.trans HE1.out (p2.mono fun b t hb hp => by simp [pOld] at hp; simp; omega)⟩
end
end Go.Proofs.Ytjgggfickbbieaa
