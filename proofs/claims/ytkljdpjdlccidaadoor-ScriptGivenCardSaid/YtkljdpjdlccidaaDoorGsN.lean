/- ScriptGiven: its walk. -/
import Derived.Test.YtkljdpjdlccidaaDoorGsM
import Derived.Test.YtkljdpjdlccidaaDoorSaK
import Derived.OwnWalk
namespace Go.Proofs.YtkljdpjdlccidaaDoor
open Go.RowKit Go.Shelf
attribute [local go_sem] Oper.semAt_some
theorem infoEr : (Tryd.prog.info? 28).map (fun i => (i.zero, i.size, i.bytes)) = some (some (.int .i64 0), 1, 8) := by kernel_rfl
theorem zerosZ (n : Nat) : (madeCells (Value.int .i64 0).cells (n * 1)).toList = List.replicate n (Value.int .i64 0) := by
  refine List.ext_getElem (by simp [madeCells]) fun i h1 h2 => ?_
  simp [madeCells, Value.cells, Nat.mod_one]
theorem flat_inv : ∀ (T : List En) (j : Nat) (u : Value), (T.flatMap En.cells)[j]? = some u → ∃ x, T[j / 3]? = some x ∧ (En.cells x)[j % 3]? = some u := fun T j u h => by
  have hl := (List.getElem?_eq_some_iff.1 h).1
  rw [flat_len] at hl
  obtain ⟨x, hx⟩ : ∃ x, T[j / 3]? = some x := ⟨_, List.getElem?_eq_getElem (by omega)⟩
  obtain ⟨u', hu⟩ : ∃ u', (En.cells x)[j % 3]? = some u' := ⟨_, List.getElem?_eq_getElem (by show j % 3 < 3; omega)⟩
  have := flat_at T (j / 3) (j % 3) x u' hx hu
  rw [show j / 3 * 3 + j % 3 = j by omega, h] at this
  exact ⟨x, hx, by rw [hu, this]⟩
theorem src_rows {w : World} {A : Option Addr} {c : Nat} {l : List En} (h : RowsE w A l) (hn : A = none → c = 0 ∧ l.length = 0) : Src w (.slice A l.length c) l.length (l.flatMap En.cells) := by
  cases A with
  | none =>
    obtain ⟨h1, h2⟩ := hn rfl
    refine .inl ⟨by rw [h1, h2], h2, by rw [List.length_eq_zero_iff.1 h2]; rfl⟩
  | some ad =>
    refine .inr ⟨ad, c, rfl, fun j u hj => ?_⟩
    obtain ⟨x, hx, hu⟩ := flat_inv l j u hj
    obtain ⟨g, off, e, _, _, e4⟩ := h (j / 3) x hx
    cases e
    have := e4 (j % 3) u hu
    rw [add_none, show off + j = off + j / 3 * 3 + j % 3 by omega]
    exact this
theorem cells_one {l : List En} : ∀ u ∈ l.flatMap En.cells, u.oneCell' = true := by
  intro u hu
  obtain ⟨x, _, hx⟩ := List.mem_flatMap.1 hu
  simp only [En.cells, List.mem_cons, List.not_mem_nil, or_false] at hx
  rcases hx with rfl | rfl | rfl <;> rfl
theorem givE_self {l : List En} {zs : List Int} {G : List En} (hG : G = soS ltE (givE (l.zip zs))) : soS ltE (givE (G.zip (List.replicate G.length 0))) = G := by
  have h1 : givE (G.zip (List.replicate G.length 0)) = G := by
    have e : okD (G.zip (List.replicate G.length 0)) = G := by
      unfold okD
      rw [List.filter_eq_self.2]
      · rw [List.map_fst_zip (by simp)]
      · rintro ⟨x, z⟩ hx
        have := (List.of_mem_zip hx).2
        rw [List.mem_replicate] at this
        simp [this.2]
    unfold givE
    rw [e, List.filter_eq_self.2]
    intro x hx
    rw [hG] at hx
    exact (List.mem_filter.1 (soS_mem hx)).2
  rw [h1]
  rw [hG]
  exact soS_self _ (soS_soS swoE _)
/-- A row of zeros. -/
theorem zero_rows {w : World} {B n g : Nat} {t : TypeId} (h : w.ownsRow B t 1 (.slice (some ⟨g, 0, none⟩) n n) n (madeCells (Value.int .i64 0).cells (n * 1)).toList) : RowsZ w (some ⟨g, 0, none⟩) (List.replicate n 0) := fun i z hi => by
  rw [zerosZ] at h
  obtain ⟨hl, he⟩ := List.getElem?_eq_some_iff.1 hi
  rw [List.length_replicate] at hl
  rcases h.2 with ⟨e, h0⟩ | ⟨g2, cap, cur, e, h2⟩
  · omega
  · injection e with e1 e2 e3
    injection e1 with e1
    injection e1 with e1
    subst e1
    refine ⟨g, 0, rfl, (Array.getElem?_eq_some_iff.1 h2.2.1).1, trivial, fun j u hj => ?_⟩
    match j, hj with
    | 0, hj =>
      obtain rfl := Option.some.inj hj
      have := h.cells (g := g) rfl i (.int .i64 0) (by rw [List.getElem?_replicate, if_pos hl])
      rw [List.getElem_replicate] at he
      subst he
      simpa [add_none] using this
    | n + 1, hj => simp at hj
set_option maxRecDepth 100000 in
set_option maxHeartbeats 8000000 in
theorem given_walk {w : World} (hT : TabA w) {A B : Option Addr} {c d : Nat} {l : List En} {zs : List Int} (h : RowsE w A l) (hn : A = none → c = 0 ∧ l.length = 0) (hz : RowsZ w B zs) (hl : l.length ≤ 100) (hzl : zs.length ≤ 100) : Calls Tryd.prog 3 #[.slice A l.length c, .slice B zs.length d] w fun e w' => e = .returned (.bool true) ∧ Ext w w' := by
  obtain ⟨i0, hi0, hz0, hz1, hz2⟩ := infoParts infoEn
  obtain ⟨j0, hj0, hy0, hy1, hy2⟩ := infoParts infoEr
  have HR := Lib.hid (fun v (k : Ext w v) => Rows3.kept h k)
  have HOK := Lib.hid (RowsE.ok h)
  have HSR := Lib.hid (src_rows h hn)
  have HKN := Lib.hid (fun v (k : Ext w v) => known12_ok (hT.ext k))
  obtain ⟨G, hG⟩ : ∃ G, G = soS ltE (givE (l.zip zs)) := ⟨_, rfl⟩
  have hGl : G.length ≤ 100 := by
    have := givE_len (l.zip zs)
    rw [List.length_zip] at this
    rw [hG, soS_length]
    omega
  have hGok : ∀ x ∈ G, x.ok := fun x hx => HOK.out x (givE_mem (by rw [hG] at hx; exact soS_mem hx))
  have HGOK := Lib.hid hGok
  have HG1 := Lib.hid (fun v A' c' (k : Ext w v) (hr : RowsE v A' l) => given_ok (c := c') (d := d) hr (show RowsZ v B zs from Rows3.kept hz k) (by omega) (by omega))
  have HGR := Lib.hid (fun v (k : Ext w v) => refGiven_ok (c := c) (d := d) (HR.out v k) (show RowsZ v B zs from Rows3.kept hz k) (by omega) (by omega))
  rw [← hG] at HG1 HGR
  have HG2 := Lib.hid (fun v A' c' Bz (hr : RowsE v A' G) (hzr : RowsZ v Bz (List.replicate G.length 0)) => given_ok (c := c') (d := G.length) hr hzr (by omega) (by simp; omega))
  rw [givE_self hG] at HG2
  simp only [List.length_replicate] at HG2
  have HSL := Lib.hid (fun v A1 B1 c1 d1 (h1 : RowsE v A1 l) (h2 : RowsE v B1 l) => refSame_ok (w := v) (A := A1) (B := B1) (c := c1) (d := d1) h1 h2 (by omega))
  have HSG := Lib.hid (fun v A1 B1 c1 d1 (h1 : RowsE v A1 G) (h2 : RowsE v B1 G) => refSame_ok (w := v) (A := A1) (B := B1) (c := c1) (d := d1) h1 h2 (by omega))
  have hlz : (l.length : Int) ≤ 100 := by omega
  have hzz : (zs.length : Int) ≤ 100 := by omega
  have hzd : decide ((100 : Int) < (l.length : Int)) = false := by simp; omega
  have hFL := flat_len l
  have HFL := Lib.hid hFL
  clear h hn hz hT hG hGok hFL
  go_enter Tryd.func3, Tryd.ntmps3
  go_wp2_with (first
    | (go_at_call 6; refine (HKN.out _ HX8.out).mono ?_; rintro e w9 ⟨rfl, hx⟩; have HX9 := Lib.hid (HX8.out.trans hx); clear hx)
    | (go_at_call 8; refine (HSG.out _ _ _ _ _ HR7.out (HRG.out _ HX27.out)).mono ?_; rintro e w8 ⟨rfl, hx⟩; have HX8 := Lib.hid (HX7.out.trans hx); clear hx)
    | (go_at_call 7; refine (HG2.out _ _ _ _ (HRG.out _ HX26.out) HZ6.out).mono ?_; rintro e w7 ⟨A7, c7, rfl, hx, hr⟩; have HX7 := Lib.hid (HX6.out.trans hx); have HX27 := Lib.hid (HX26.out.trans hx); have HR7 := Lib.hid hr; clear hx hr)
    | (at_make; refine wpList_make_full _ rfl _ _ 23 rfl w.heap.size 28 j0 (.int .i64 0) 1 Tryd.underlying23 hj0 hy0 hy1 .i64 .i64 _ _ G.length rfl rfl rfl rfl (by rw [hy2]; omega) (by unfold maxLen; omega) HX5.out.size ?_; intro w6 hown hgrow; have HX6 := Lib.hid (grown_ext HX5.out hgrow fun b hb => by cases hb); have HX26 := Lib.hid (grown_ext HX25.out hgrow fun b hb => by cases hb); have HZ6 := Lib.hid (zero_rows hown); clear hown hgrow)
    | (go_at_call 8; refine (HSL.out _ _ _ _ _ (HRO.out _ HX14.out) (HR.out _ HX4.out)).mono ?_; rintro e w5 ⟨rfl, hx⟩; have HX5 := Lib.hid (HX4.out.trans hx); have HX25 := Lib.hid (HX24.out.trans hx); clear hx)
    | (go_at_call 8; refine (HSG.out _ _ _ _ _ (HRG.out _ HX23.out) HR3.out).mono ?_; rintro e w4 ⟨rfl, hx⟩; have HX4 := Lib.hid (HX3.out.trans hx); have HX14 := Lib.hid (HX13.out.trans hx); have HX24 := Lib.hid (HX23.out.trans hx); clear hx)
    | (go_at_call 9; refine (HGR.out _ HX2.out).mono ?_; rintro e w3 ⟨A3, c3, rfl, hx, ho⟩; have HX3 := Lib.hid (HX2.out.trans hx); have HX13 := Lib.hid (HX12.out.trans hx); have HX23 := Lib.hid hx; have HR3 := Lib.hid (own_rowsE ho HGOK.out); clear hx ho)
    | (go_at_call 7; refine (HG1.out _ _ _ HX1.out (HRO.out _ (Ext.refl _))).mono ?_; rintro e w2 ⟨A2, c2, rfl, hx, hr⟩; have HX2 := Lib.hid (HX1.out.trans hx); have HX12 := Lib.hid hx; have HRG := Lib.hid (fun v (k : Ext w2 v) => Rows3.kept hr k); clear hx hr)
    | (at_builtin; refine wpList_append_any rfl _ _ 22 rfl w.heap.size 42 i0 (.agg #[.int .i64 0, .int .i64 0, .int .i64 0]) 3 24 Tryd.underlying22 hi0 hz0 hz1 hz2 rfl (by decide) (.slice none 0 0) 0 [] rfl (World.ownsRow_nil _ _ _ _) (.slice A l.length c) l.length (l.flatMap En.cells) rfl HFL.out HSR.out cells_one (by unfold maxLen; omega) (by omega) (Nat.le_refl _) l.length (by omega) (l.flatMap En.cells) (by simp) ?_; intro A1 c1 w1 hown hgrow hat; have HX1 := Lib.hid (grown_ext (Ext.refl w) hgrow fun b hb => by cases hb); have HRO := Lib.hid (fun v (k : Ext w1 v) => Rows3.kept (own_rowsE hown HOK.out) k); clear hown hgrow hat))
  go_ret
  exact ⟨rfl, HX9.out⟩
end Go.Proofs.YtkljdpjdlccidaaDoor
