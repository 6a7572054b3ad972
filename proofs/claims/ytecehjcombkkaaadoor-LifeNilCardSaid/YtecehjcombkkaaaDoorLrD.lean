/- The document's lives: Copy. -/
import Derived.Test.YtecehjcombkkaaaDoorLrC
import Derived.Test.YtecehjcombkkaaaDoorRgA
namespace Go.Proofs.YtecehjcombkkaaaDoor
open Go.RowKit Go.Shelf
attribute [local go_sem] Oper.semAt_some
theorem list15 (l : List Value) (h : l.length = 15) : ∃ x0 x1 x2 x3 x4 x5 x6 x7 x8 x9 x10 x11 x12 x13 x14, l = [x0, x1, x2, x3, x4, x5, x6, x7, x8, x9, x10, x11, x12, x13, x14] := by
  match l, h with
  | [x0, x1, x2, x3, x4, x5, x6, x7, x8, x9, x10, x11, x12, x13, x14], _ => exact ⟨x0, x1, x2, x3, x4, x5, x6, x7, x8, x9, x10, x11, x12, x13, x14, rfl⟩
/-- What the copy's operations give. -/
def GCp (B bw : Nat) (vC vE : Value) (C : List Int) (E : List Bool) : Nat → Value → World → Prop
  | 0, u, _ => u = .pointer (some ⟨bw, 0, none⟩)
  | 1, u, _ => u = .pointer (some ⟨bw, 0, none⟩)
  | 2, u, _ => u = .pointer (some ⟨bw, 0, none⟩)
  | 3, u, _ => u = vC
  | 4, u, w => ∃ A c, u = .slice A C.length c ∧ w.ownsRow B 3 1 u C.length (rowV iV C)
  | 5, u, _ => u = .pointer (some ⟨bw, 0, none⟩)
  | 6, u, _ => u = .pointer (some ⟨bw, 0, none⟩)
  | 7, u, _ => u = .pointer (some ⟨bw, 1, none⟩)
  | 8, u, _ => u = vE
  | 9, u, w => ∃ A c, u = .slice A E.length c ∧ w.ownsRow B 4 1 u E.length (rowV bV E)
  | 10, u, w => ∃ A c A' c', u = .agg #[.slice A C.length c, .slice A' E.length c'] ∧ w.ownsRow B 3 1 (.slice A C.length c) C.length (rowV iV C) ∧ w.ownsRow B 4 1 (.slice A' E.length c') E.length (rowV bV E)
  | 11, u, w => ∃ bo v v', u = .pointer (some ⟨bo, 0, none⟩) ∧ B ≤ bo ∧ w.heap[bo]? = some (.cells #[v, v'] 53 (0, 0)) ∧ w.ownsRow B 3 1 v C.length (rowV iV C) ∧ w.ownsRow B 4 1 v' E.length (rowV bV E)
  | _, _, _ => False
theorem GCp.mono {B bw : Nat} {vC vE : Value} {C : List Int} {E : List Bool} : ∀ (_ : Bool) (j : Nat) (u : Value) (w w' : World), GCp B bw vC vE C E j u w → Ext w w' → GCp B bw vC vE C E j u w' := by
  intro f j u w w' h k
  have kk := k.kept (fun _ _ => true)
  match j with
  | 0 => exact h
  | 1 => exact h
  | 2 => exact h
  | 3 => exact h
  | 4 => obtain ⟨A, c, h1, h2⟩ := h; exact ⟨A, c, h1, kk.row h2 fun _ _ => rfl⟩
  | 5 => exact h
  | 6 => exact h
  | 7 => exact h
  | 8 => exact h
  | 9 => obtain ⟨A, c, h1, h2⟩ := h; exact ⟨A, c, h1, kk.row h2 fun _ _ => rfl⟩
  | 10 => obtain ⟨A, c, A', c', h1, h2, h3⟩ := h; exact ⟨A, c, A', c', h1, kk.row h2 fun _ _ => rfl, kk.row h3 fun _ _ => rfl⟩
  | 11 => obtain ⟨bo, v, v', h1, h2, h3, h4, h5⟩ := h; exact ⟨bo, v, v', h1, h2, kk.same _ _ h3 rfl, kk.row h4 fun _ _ => rfl, kk.row h5 fun _ _ => rfl⟩
  | _ + 12 => exact h
theorem ext_mono {W : World} : ∀ (_ : Bool) (w w' : World), Ext W w → Ext w w' → Ext W w' := fun _ _ _ h k => h.trans k
section
variable {own : Nat → Bool} {bw : Nat} {C : List Int} {E : List Bool} {W : World}
set_option maxHeartbeats 2000000 in
set_option maxRecDepth 100000 in
theorem refCopy_ok (h : RL own bw C E W) : Calls Tryd.prog 13 #[.pointer (some ⟨bw, 0, none⟩)] W fun e W' => ∃ bo own', e = .returned (.pointer (some ⟨bo, 0, none⟩)) ∧ RL own' bo C E W' ∧ Ext W W' ∧ ∀ b, own' b = true → W.heap.size ≤ b := by
  obtain ⟨A, c, B, d, hb, x0, x1, hl, hr, hs, _⟩ := h.parts
  have hlen := h.len
  obtain ⟨i0, I0⟩ := infoParts infoBool
  obtain ⟨i1, I1⟩ := infoParts infoInt
  go_enter Tryd.func13, Tryd.ntmps13
  go_upto_region 1 with (fail)
  refine region_grow (n := 12) (s := 12) (by kernel_rfl) (fun _ => GCp W.heap.size bw (.slice A C.length c) (.slice B E.length d) C E) (fun _ w => Ext W w) rfl (Ext.drew _) (RgOps.of (z := 15) (by kernel_rfl) rfl GCp.mono ext_mono ?op (fun _ h => absurd h (Nat.lt_irrefl _))) ?fin
  case op =>
    intro i o hi hs' ho f a' w' hF hX hD K hK
    have e0 : a'.tmps.getD 0 undef = .pointer (some ⟨bw, 0, none⟩) := hF.2.2 0 (by kernel_rfl)
    have hxk := hX.kept (fun _ _ => true)
    have x0 := hxk.cell x0 fun _ _ => rfl
    have x1 := hxk.cell x1 fun _ _ => rfl
    have hl : bw < w'.heap.size := Nat.lt_of_lt_of_le hl hX.size
    match i, hi with
    | n + 12, h => exact absurd h (by omega)
    | 0, _ =>
      obtain rfl := Option.some.inj (show some _ = some o from ho)
      clear ho hD
      go_simp
      exact hK _ _ rfl (Ext.refl _)
    | 1, _ =>
      obtain rfl := Option.some.inj (show some _ = some o from ho)
      obtain ⟨d, hd, hG0⟩ := hD _ (Array.mem_of_getElem? (i := 0) rfl) rfl
      cases hd
      replace hG0 : a'.tmps.getD 3 undef = .pointer (some ⟨bw, 0, none⟩) := hG0
      clear ho hD
      go_simp
      exact hK _ _ rfl (Ext.refl _)
    | 2, _ =>
      obtain rfl := Option.some.inj (show some _ = some o from ho)
      obtain ⟨d, hd, hG0⟩ := hD _ (Array.mem_of_getElem? (i := 0) rfl) rfl
      cases hd
      replace hG0 : a'.tmps.getD 4 undef = .pointer (some ⟨bw, 0, none⟩) := hG0
      clear ho hD
      go_simp
      exact hK _ _ rfl (Ext.refl _)
    | 3, _ =>
      obtain rfl := Option.some.inj (show some _ = some o from ho)
      obtain ⟨d, hd, hG0⟩ := hD _ (Array.mem_of_getElem? (i := 0) rfl) rfl
      cases hd
      replace hG0 : a'.tmps.getD 5 undef = .pointer (some ⟨bw, 0, none⟩) := hG0
      clear ho hD
      go_simp
      exact hK _ _ rfl (Ext.refl _)
    | 4, _ =>
      obtain rfl := Option.some.inj (show some _ = some o from ho)
      obtain ⟨d, hd, hG0⟩ := hD _ (Array.mem_of_getElem? (i := 0) rfl) rfl
      cases hd
      replace hG0 : a'.tmps.getD 6 undef = .slice A C.length c := hG0
      refine wp_append_any _ _ 39 rfl W.heap.size 3 i1 (.int .i64 0) 1 8 Tryd.underlying39 I1.1 I1.2.1 I1.2.2.1 I1.2.2.2 rfl (by omega) (.slice none 0 0) 0 [] rfl (World.ownsRow_nil _ _ _ _) (.slice A C.length c) C.length (rowV iV C) hG0 rowV_len (Src.of (hxk.row hr fun _ _ => rfl) rowV_len) (rowV_one fun _ => rfl) (by unfold maxLen; omega) (by omega) hX.size C.length (by omega) (rowV iV C) (by simp) ?_
      intro A8 c8 w8 hown8 hgrow8 _
      exact hK _ _ ⟨A8, c8, rfl, hown8⟩ (grown_ext (Ext.refl _) hgrow8 (by intro b hb; simp [Value.ownBlock] at hb))
    | 5, _ =>
      obtain rfl := Option.some.inj (show some _ = some o from ho)
      clear ho hD
      go_simp
      exact hK _ _ rfl (Ext.refl _)
    | 6, _ =>
      obtain rfl := Option.some.inj (show some _ = some o from ho)
      obtain ⟨d, hd, hG0⟩ := hD _ (Array.mem_of_getElem? (i := 0) rfl) rfl
      cases hd
      replace hG0 : a'.tmps.getD 8 undef = .pointer (some ⟨bw, 0, none⟩) := hG0
      clear ho hD
      go_simp
      exact hK _ _ rfl (Ext.refl _)
    | 7, _ =>
      obtain rfl := Option.some.inj (show some _ = some o from ho)
      obtain ⟨d, hd, hG0⟩ := hD _ (Array.mem_of_getElem? (i := 0) rfl) rfl
      cases hd
      replace hG0 : a'.tmps.getD 9 undef = .pointer (some ⟨bw, 0, none⟩) := hG0
      clear ho hD
      go_simp
      exact hK _ _ rfl (Ext.refl _)
    | 8, _ =>
      obtain rfl := Option.some.inj (show some _ = some o from ho)
      obtain ⟨d, hd, hG0⟩ := hD _ (Array.mem_of_getElem? (i := 0) rfl) rfl
      cases hd
      replace hG0 : a'.tmps.getD 10 undef = .pointer (some ⟨bw, 1, none⟩) := hG0
      clear ho hD
      go_simp
      exact hK _ _ rfl (Ext.refl _)
    | 9, _ =>
      obtain rfl := Option.some.inj (show some _ = some o from ho)
      obtain ⟨d, hd, hG0⟩ := hD _ (Array.mem_of_getElem? (i := 0) rfl) rfl
      cases hd
      replace hG0 : a'.tmps.getD 11 undef = .slice B E.length d := hG0
      refine wp_append_any _ _ 22 rfl W.heap.size 4 i0 (.bool false) 1 1 Tryd.underlying22 I0.1 I0.2.1 I0.2.2.1 I0.2.2.2 rfl (by omega) (.slice none 0 0) 0 [] rfl (World.ownsRow_nil _ _ _ _) (.slice B E.length d) E.length (rowV bV E) hG0 rowV_len (Src.of (hxk.row hs fun _ _ => rfl) rowV_len) (rowV_one fun _ => rfl) (by unfold maxLen; omega) (by omega) hX.size E.length (by omega) (rowV bV E) (by simp) ?_
      intro A8 c8 w8 hown8 hgrow8 _
      exact hK _ _ ⟨A8, c8, rfl, hown8⟩ (grown_ext (Ext.refl _) hgrow8 (by intro b hb; simp [Value.ownBlock] at hb))
    | 10, _ =>
      obtain rfl := Option.some.inj (show some _ = some o from ho)
      obtain ⟨d, hd, hG0⟩ := hD _ (Array.mem_of_getElem? (i := 0) rfl) rfl
      cases hd
      obtain ⟨d, hd, hG1⟩ := hD _ (Array.mem_of_getElem? (i := 1) rfl) rfl
      cases hd
      obtain ⟨A8, c8, e7, o7⟩ := hG0
      obtain ⟨A9, c9, e12, o12⟩ := hG1
      replace e7 : a'.tmps.getD 7 undef = .slice A8 C.length c8 := e7
      replace e12 : a'.tmps.getD 12 undef = .slice A9 E.length c9 := e12
      have e7b := e7
      have e12b := e12
      rw [e7b] at o7
      rw [e12b] at o12
      have e7' : a'.tmps[7]?.getD undef = .slice A8 C.length c8 := by simpa using e7b
      have e12' : a'.tmps[12]?.getD undef = .slice A9 E.length c9 := by simpa using e12b
      clear ho hD e7b e12b
      go_simp
      exact hK _ _ ⟨A8, c8, A9, c9, rfl, o7, o12⟩ (Ext.refl _)
    | 11, _ =>
      obtain rfl := Option.some.inj (show some _ = some o from ho)
      obtain ⟨d, hd, hG0⟩ := hD _ (Array.mem_of_getElem? (i := 0) rfl) rfl
      cases hd
      obtain ⟨A8, c8, A9, c9, e13, o7, o12⟩ := hG0
      replace e13 : a'.tmps.getD 13 undef = .agg #[.slice A8 C.length c8, .slice A9 E.length c9] := e13
      clear ho hD
      go_simp
      have hx := Ext.one w' (.cells #[.slice A8 C.length c8, .slice A9 E.length c9] 53)
      exact hK _ _ ⟨_, _, _, rfl, hX.size, World.alloc_heap_new _ _, (hx.kept (fun _ _ => true)).row o7 fun _ _ => rfl, (hx.kept (fun _ _ => true)).row o12 fun _ _ => rfl⟩ hx
  case fin =>
    intro a' w' hF hX hG
    obtain ⟨⟨l⟩, df⟩ := a'
    obtain ⟨f1, f2, f3⟩ := hF
    replace f1 : df = [] := f1
    replace f2 : l.length = 15 := f2
    subst f1
    obtain ⟨z0, z1, z2, z3, z4, z5, z6, z7, z8, z9, z10, z11, z12, z13, z14, rfl⟩ := list15 l f2
    obtain ⟨d, hd, bo, v, v', g11, g1, g2, g3, g4⟩ := hG 11 (by omega)
    cases hd
    replace g11 : z14 = .pointer (some ⟨bo, 0, none⟩) := g11
    subst g11
    have HX := Lib.hid hX
    have HG := Lib.hid (And.intro g1 (And.intro g2 (And.intro g3 g4)))
    clear f2 f3 hG hX g1 g2 g3 g4
    simp only [List.drop_succ_cons, List.drop_zero]
    go_wp2_with fail
    go_ret
    obtain ⟨g1, g2, g3, g4⟩ := HG.out
    have hin : ∀ {g : Nat}, W.heap.size ≤ g → g < w'.heap.size → rng W.heap.size w'.heap.size g = true := fun a b => by simp [rng, a, b]
    exact ⟨bo, _, rfl, ⟨⟨v, v', g2, own_zero g3, own_zero g4, fun g hg => hin (own_base g3 g hg) (own_lt g3 g hg), fun g hg => hin (own_base g4 g hg) (own_lt g4 g hg)⟩, hin g1 (Array.getElem?_eq_some_iff.1 g2).1, fun b hb => (by simp [rng] at hb; exact hb.2), hlen⟩, HX.out, fun b hb => by simp [rng] at hb; exact hb.1⟩
end
end Go.Proofs.YtecehjcombkkaaaDoor
