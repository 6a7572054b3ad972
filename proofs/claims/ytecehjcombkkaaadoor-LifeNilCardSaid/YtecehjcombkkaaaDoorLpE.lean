/- The program's lives: Copy. -/
import Derived.Test.YtecehjcombkkaaaDoorLpD
import Derived.Test.YtecehjcombkkaaaDoorLrD
import Derived.Laws.Externs
namespace Go.Proofs.YtecehjcombkkaaaDoor
open Go.RowKit Go.Shelf
attribute [local go_sem] Oper.semAt_some
@[go_sem] theorem eqmap_none (w : World) : (binOp .eql 44 (.map none) (.map none)).run Tryd.prog w = .ok (.bool true) w := by kernel_rfl
@[go_sem] theorem eqmap_some (b : Nat) (w : World) : (binOp .eql 44 (.map (some b)) (.map none)).run Tryd.prog w = .ok (.bool false) w := by kernel_rfl
theorem asMap (v : Value) (w : World) : (Instr.typeAssert (.iface 44 v) 20 44 false).run Tryd.prog w = .ok v w := by kernel_rfl
set_option maxHeartbeats 4000000 in
set_option maxRecDepth 100000 in
theorem mclone_ok (w : World) {b : Nat} {es : Array MapEntry} {clock : Nat} (hb : w.heap[b]? = some (.map es clock)) :
    Calls Tryd.prog 29 #[.map (some b)] w fun e w' => e = .returned (.map (some w.heap.size)) ∧ w' = w.alloc (.map es clock) := by
  go_enter Tryd.func29, Tryd.ntmps29
  go_wp2
  rw [run_callFunc_extern Tryd.func36 (by kernel_rfl) (by kernel_rfl) (by kernel_rfl) (e := Extern.MapsClone.clone) (by kernel_rfl), run_maps_clone_sl _ 44 hb]
  simp only [Result.andThen]
  rw [Oper.upon_value]
  go_wp2
  rw [asMap]
  simp only [Result.andThen]
  rw [Oper.upon_value]
  go_wp2
  go_ret
  exact ⟨rfl, rfl⟩
theorem mclone_at (w : World) {b : Nat} {D : DM} (hm : OM w b D) : Calls Tryd.prog 29 #[.map (some b)] w fun e w' => e = .returned (.map (some w.heap.size)) ∧ Ext w w' ∧ OM w' w.heap.size D := by
  obtain ⟨es, clock, hb, F, hs, hD⟩ := hm
  refine (mclone_ok w hb).mono fun e w' k => ?_
  obtain ⟨k1, rfl⟩ := k
  exact ⟨k1, Ext.one _ _, ⟨es, clock, World.alloc_heap_new _ _, F, hs, hD⟩⟩
theorem list21 (l : List Value) (h : l.length = 21) : ∃ x0 x1 x2 x3 x4 x5 x6 x7 x8 x9 x10 x11 x12 x13 x14 x15 x16 x17 x18 x19 x20, l = [x0, x1, x2, x3, x4, x5, x6, x7, x8, x9, x10, x11, x12, x13, x14, x15, x16, x17, x18, x19, x20] := by
  match l, h with
  | [x0, x1, x2, x3, x4, x5, x6, x7, x8, x9, x10, x11, x12, x13, x14, x15, x16, x17, x18, x19, x20], _ => exact ⟨x0, x1, x2, x3, x4, x5, x6, x7, x8, x9, x10, x11, x12, x13, x14, x15, x16, x17, x18, x19, x20, rfl⟩
/-- What the copy's operations give. -/
def GPp (B bw bm : Nat) (D : DM) (vE : Value) (C : List Int) (E : List Bool) : Nat → Value → World → Prop
  | 0, u, _ => u = .pointer (some ⟨bw, 0, none⟩)
  | 1, u, _ => u = .pointer (some ⟨bw, 0, none⟩)
  | 2, u, _ => u = .pointer (some ⟨bw, 0, none⟩)
  | 3, u, _ => u = .int .i64 (C.length : Int)
  | 4, u, _ => u = .pointer (some ⟨bw, 0, none⟩)
  | 5, u, _ => u = .pointer (some ⟨bw, 0, none⟩)
  | 6, u, _ => u = .pointer (some ⟨bw, 1, none⟩)
  | 7, u, _ => u = .map (some bm)
  | 8, u, w => ∃ b, u = .map (some b) ∧ B ≤ b ∧ OM w b D
  | 9, u, _ => u = .pointer (some ⟨bw, 0, none⟩)
  | 10, u, _ => u = .pointer (some ⟨bw, 0, none⟩)
  | 11, u, _ => u = .pointer (some ⟨bw, 2, none⟩)
  | 12, u, _ => u = vE
  | 13, u, w => ∃ A c, u = .slice A E.length c ∧ w.ownsRow B 4 1 (.slice A E.length c) E.length (rowV bV E)
  | 14, u, w => ∃ b A c, u = .agg #[.int .i64 (C.length : Int), .map (some b), .slice A E.length c] ∧ B ≤ b ∧ OM w b D ∧ w.ownsRow B 4 1 (.slice A E.length c) E.length (rowV bV E)
  | 15, u, w => ∃ bo own, u = .pointer (some ⟨bo, 0, none⟩) ∧ PL own bo C E w ∧ ∀ b, own b = true → B ≤ b
  | _, _, _ => False
theorem GPp.mono {B bw bm : Nat} {D : DM} {vE : Value} {C : List Int} {E : List Bool} : ∀ (_ : Bool) (j : Nat) (u : Value) (w w' : World), GPp B bw bm D vE C E j u w → Ext w w' → GPp B bw bm D vE C E j u w' := by
  intro f j u w w' h k
  have kk := k.kept (fun _ _ => true)
  match j with
  | 0 => exact h
  | 1 => exact h
  | 2 => exact h
  | 3 => exact h
  | 4 => exact h
  | 5 => exact h
  | 6 => exact h
  | 7 => exact h
  | 8 => obtain ⟨b, h1, h2, h3⟩ := h; exact ⟨b, h1, h2, kk.map h3 rfl⟩
  | 9 => exact h
  | 10 => exact h
  | 11 => exact h
  | 12 => exact h
  | 13 => obtain ⟨A, c, h1, h2⟩ := h; exact ⟨A, c, h1, kk.row h2 fun _ _ => rfl⟩
  | 14 => obtain ⟨b, A, c, h1, h2, h3, h4⟩ := h; exact ⟨b, A, c, h1, h2, kk.map h3 rfl, kk.row h4 fun _ _ => rfl⟩
  | 15 => obtain ⟨bo, own, h1, h2, h3⟩ := h; exact ⟨bo, own, h1, h2.ext k, h3⟩
  | _ + 16 => exact h
section
variable {own : Nat → Bool} {bw : Nat} {C : List Int} {E : List Bool} {W : World}
set_option maxHeartbeats 2000000 in
set_option maxRecDepth 100000 in
theorem Copy_ok (h : PL own bw C E W) : Calls Tryd.prog 12 #[.pointer (some ⟨bw, 0, none⟩)] W fun e W' => ∃ bo own', e = .returned (.pointer (some ⟨bo, 0, none⟩)) ∧ PL own' bo C E W' ∧ Ext W W' ∧ ∀ b, own' b = true → W.heap.size ≤ b := by
  obtain ⟨bm, D, B, d, hb, x0, x1, x2, hl, hom, hm, hc, hr, hor⟩ := h.parts
  have hlen := h.len
  have ht := h.tb
  have hst := h.st
  go_enter Tryd.func12, Tryd.ntmps12
  go_upto_region 3 with (fail)
  refine region_grow (n := 16) (s := 16) (by kernel_rfl) (fun _ => GPp W.heap.size bw bm D (.slice B E.length d) C E) (fun _ w => Ext W w) rfl (Ext.drew _) (RgOps.of (z := 21) (by kernel_rfl) rfl GPp.mono ext_mono ?op (fun _ h => absurd h (Nat.lt_irrefl _))) ?fin
  case op =>
    intro i o hi hs' ho f a' w' hF hX hD K hK
    have e0 : a'.tmps.getD 0 undef = .pointer (some ⟨bw, 0, none⟩) := hF.2.2 0 (by kernel_rfl)
    have hxk := hX.kept (fun _ _ => true)
    have x0 := hxk.cell x0 fun _ _ => rfl
    have x1 := hxk.cell x1 fun _ _ => rfl
    have x2 := hxk.cell x2 fun _ _ => rfl
    have hl : bw < w'.heap.size := Nat.lt_of_lt_of_le hl hX.size
    match i, hi with
    | n + 16, h => exact absurd h (by omega)
    | 0, _ =>
      obtain rfl := Option.some.inj (show some _ = some o from ho)
      clear ho hD
      go_simp
      exact hK _ _ rfl (Ext.refl _)
    | 1, _ =>
      obtain rfl := Option.some.inj (show some _ = some o from ho)
      obtain ⟨d, hd, hG0⟩ := hD _ (Array.mem_of_getElem? (i := 0) rfl) rfl
      cases hd
      replace hG0 : a'.tmps.getD 5 undef = .pointer (some ⟨bw, 0, none⟩) := hG0
      clear ho hD
      go_simp
      exact hK _ _ rfl (Ext.refl _)
    | 2, _ =>
      obtain rfl := Option.some.inj (show some _ = some o from ho)
      obtain ⟨d, hd, hG0⟩ := hD _ (Array.mem_of_getElem? (i := 0) rfl) rfl
      cases hd
      replace hG0 : a'.tmps.getD 6 undef = .pointer (some ⟨bw, 0, none⟩) := hG0
      clear ho hD
      go_simp
      exact hK _ _ rfl (Ext.refl _)
    | 3, _ =>
      obtain rfl := Option.some.inj (show some _ = some o from ho)
      obtain ⟨d, hd, hG0⟩ := hD _ (Array.mem_of_getElem? (i := 0) rfl) rfl
      cases hd
      replace hG0 : a'.tmps.getD 7 undef = .pointer (some ⟨bw, 0, none⟩) := hG0
      clear ho hD
      go_simp
      exact hK _ _ rfl (Ext.refl _)
    | 4, _ =>
      obtain rfl := Option.some.inj (show some _ = some o from ho)
      clear ho hD
      go_simp
      exact hK _ _ rfl (Ext.refl _)
    | 5, _ =>
      obtain rfl := Option.some.inj (show some _ = some o from ho)
      obtain ⟨d, hd, hG0⟩ := hD _ (Array.mem_of_getElem? (i := 0) rfl) rfl
      cases hd
      replace hG0 : a'.tmps.getD 9 undef = .pointer (some ⟨bw, 0, none⟩) := hG0
      clear ho hD
      go_simp
      exact hK _ _ rfl (Ext.refl _)
    | 6, _ =>
      obtain rfl := Option.some.inj (show some _ = some o from ho)
      obtain ⟨d, hd, hG0⟩ := hD _ (Array.mem_of_getElem? (i := 0) rfl) rfl
      cases hd
      replace hG0 : a'.tmps.getD 10 undef = .pointer (some ⟨bw, 0, none⟩) := hG0
      clear ho hD
      go_simp
      exact hK _ _ rfl (Ext.refl _)
    | 7, _ =>
      obtain rfl := Option.some.inj (show some _ = some o from ho)
      obtain ⟨d, hd, hG0⟩ := hD _ (Array.mem_of_getElem? (i := 0) rfl) rfl
      cases hd
      replace hG0 : a'.tmps.getD 11 undef = .pointer (some ⟨bw, 1, none⟩) := hG0
      clear ho hD
      go_simp
      exact hK _ _ rfl (Ext.refl _)
    | 8, _ =>
      obtain rfl := Option.some.inj (show some _ = some o from ho)
      obtain ⟨d, hd, hG0⟩ := hD _ (Array.mem_of_getElem? (i := 0) rfl) rfl
      cases hd
      replace hG0 : a'.tmps.getD 12 undef = .map (some bm) := hG0
      have hcall := mclone_at w' (hxk.map hm rfl)
      have hz := hX.size
      clear ho hD x0 x1 x2
      go_simp
      refine hcall.mono ?_
      rintro e w9 ⟨rfl, hx9, hm9⟩
      exact hK _ _ ⟨_, rfl, hz, hm9⟩ hx9
    | 9, _ =>
      obtain rfl := Option.some.inj (show some _ = some o from ho)
      clear ho hD
      go_simp
      exact hK _ _ rfl (Ext.refl _)
    | 10, _ =>
      obtain rfl := Option.some.inj (show some _ = some o from ho)
      obtain ⟨d, hd, hG0⟩ := hD _ (Array.mem_of_getElem? (i := 0) rfl) rfl
      cases hd
      replace hG0 : a'.tmps.getD 14 undef = .pointer (some ⟨bw, 0, none⟩) := hG0
      clear ho hD
      go_simp
      exact hK _ _ rfl (Ext.refl _)
    | 11, _ =>
      obtain rfl := Option.some.inj (show some _ = some o from ho)
      obtain ⟨d, hd, hG0⟩ := hD _ (Array.mem_of_getElem? (i := 0) rfl) rfl
      cases hd
      replace hG0 : a'.tmps.getD 15 undef = .pointer (some ⟨bw, 0, none⟩) := hG0
      clear ho hD
      go_simp
      exact hK _ _ rfl (Ext.refl _)
    | 12, _ =>
      obtain rfl := Option.some.inj (show some _ = some o from ho)
      obtain ⟨d, hd, hG0⟩ := hD _ (Array.mem_of_getElem? (i := 0) rfl) rfl
      cases hd
      replace hG0 : a'.tmps.getD 16 undef = .pointer (some ⟨bw, 2, none⟩) := hG0
      clear ho hD
      go_simp
      exact hK _ _ rfl (Ext.refl _)
    | 13, _ =>
      obtain rfl := Option.some.inj (show some _ = some o from ho)
      obtain ⟨d, hd, hG0⟩ := hD _ (Array.mem_of_getElem? (i := 0) rfl) rfl
      cases hd
      replace hG0 : a'.tmps.getD 17 undef = .slice B E.length d := hG0
      have hcall := cloneB_ok E B d (W := w') (Src.of (hxk.row hr fun _ _ => rfl) rowV_len) (by omega)
      have hz := hX.size
      clear ho hD x0 x1 x2
      go_simp
      refine hcall.mono ?_
      rintro e w9 ⟨A9, c9, rfl, hx9, hr9⟩
      exact hK _ _ ⟨A9, c9, rfl, own_low hz hr9⟩ hx9
    | 14, _ =>
      obtain rfl := Option.some.inj (show some _ = some o from ho)
      obtain ⟨d, hd, hG0⟩ := hD _ (Array.mem_of_getElem? (i := 0) rfl) rfl
      cases hd
      obtain ⟨d, hd, hG1⟩ := hD _ (Array.mem_of_getElem? (i := 1) rfl) rfl
      cases hd
      obtain ⟨d, hd, hG2⟩ := hD _ (Array.mem_of_getElem? (i := 2) rfl) rfl
      cases hd
      replace hG0 : a'.tmps.getD 8 undef = .int .i64 (C.length : Int) := hG0
      obtain ⟨b8, e8, g8, m8⟩ := hG1
      replace e8 : a'.tmps.getD 13 undef = .map (some b8) := e8
      obtain ⟨A9, c9, e9, r9⟩ := hG2
      replace e9 : a'.tmps.getD 18 undef = .slice A9 E.length c9 := e9
      have e0' : a'.tmps[8]?.getD undef = .int .i64 (C.length : Int) := by simpa using hG0
      have e8' : a'.tmps[13]?.getD undef = .map (some b8) := by simpa using e8
      have e9' : a'.tmps[18]?.getD undef = .slice A9 E.length c9 := by simpa using e9
      clear ho hD
      go_simp
      exact hK _ _ ⟨b8, A9, c9, rfl, g8, m8, r9⟩ (Ext.refl _)
    | 15, _ =>
      obtain rfl := Option.some.inj (show some _ = some o from ho)
      obtain ⟨d, hd, hG0⟩ := hD _ (Array.mem_of_getElem? (i := 0) rfl) rfl
      cases hd
      obtain ⟨b8, A9, c9, e13, g8, m8, r9⟩ := hG0
      replace e13 : a'.tmps.getD 19 undef = .agg #[.int .i64 (C.length : Int), .map (some b8), .slice A9 E.length c9] := e13
      clear ho hD
      go_simp
      have hx := Ext.one w' (.cells #[.int .i64 (C.length : Int), .map (some b8), .slice A9 E.length c9] 46)
      obtain ⟨own', p1, p2⟩ := PL.made (ht.keep hxk fun _ => rfl) ht.2 g8 m8 hc r9 hst hlen rfl hX.size
      exact hK _ _ ⟨_, own', rfl, p1, p2⟩ hx
  case fin =>
    intro a' w' hF hX hG
    obtain ⟨⟨l⟩, df⟩ := a'
    obtain ⟨f1, f2, f3⟩ := hF
    replace f1 : df = [] := f1
    replace f2 : l.length = 21 := f2
    subst f1
    obtain ⟨z0, z1, z2, z3, z4, z5, z6, z7, z8, z9, z10, z11, z12, z13, z14, z15, z16, z17, z18, z19, z20, rfl⟩ := list21 l f2
    obtain ⟨d, hd, bo, own', g15, g1, g2⟩ := hG 15 (by omega)
    cases hd
    replace g15 : z20 = .pointer (some ⟨bo, 0, none⟩) := g15
    subst g15
    have HX := Lib.hid hX
    have HG := Lib.hid (And.intro g1 g2)
    clear f2 f3 hG hX g1 g2
    simp only [List.drop_succ_cons, List.drop_zero]
    go_wp2_with fail
    go_ret
    exact ⟨bo, own', rfl, HG.out.1, HX.out, HG.out.2⟩
end
end Go.Proofs.YtecehjcombkkaaaDoor
