/- The program's Step, whatever do does. Written by genVX.py. -/
import Derived.Test.YtfljmdpigckpkaaGreatDoorSvW
import Derived.Test.YtfljmdpigckpkaaGreatDoorRgA
import Derived.Deep.MidRow
namespace Go.Proofs.YtfljmdpigckpkaaGreatDoor
open Go.RowKit Go.Shelf
attribute [local go_sem] Oper.semAt_some
def asko (o s n v l a : Value) : Obj := .cells #[o, s, n, v, l, a] 143 (0, 0)
def zask : Obj := asko (.int .i64 0) (.int .i64 0) (.int .i64 0) (.int .i64 0) (.int .i64 0) (.slice none 0 0)
def zaskV : Value := .agg #[.int .i64 0, .int .i64 0, .int .i64 0, .int .i64 0, .int .i64 0, .slice none 0 0]
theorem asko_cells {w : World} {b : Nat} {v0 v1 v2 v3 v4 v5 : Value} (h : w.heap[b]? = some (asko v0 v1 v2 v3 v4 v5)) : w.cell? ⟨b, 0, none⟩ = some v0 ∧ w.cell? ⟨b, 1, none⟩ = some v1 ∧ w.cell? ⟨b, 2, none⟩ = some v2 ∧ w.cell? ⟨b, 3, none⟩ = some v3 ∧ w.cell? ⟨b, 4, none⟩ = some v4 ∧ w.cell? ⟨b, 5, none⟩ = some v5 ∧ b < w.heap.size ∧ ∀ n, w.frozen? ⟨b, n, none⟩ = false := by
  refine ⟨?_, ?_, ?_, ?_, ?_, ?_, (Array.getElem?_eq_some_iff.1 h).1, fun n => frozen_of_row w b n _ _ h⟩
  all_goals simp [World.cell?, h, asko]
theorem cutS {n : Nat} {l : List Value} (h : l.length = n + 1) : ∃ x r, l = x :: r ∧ r.length = n := by
  cases l with
  | nil => cases h
  | cons x r => exact ⟨x, r, rfl, by simpa using h⟩
theorem list58 (l0 : List Value) (h0 : l0.length = 58) : ∃ x0 x1 x2 x3 x4 x5 x6 x7 x8 x9 x10 x11 x12 x13 x14 x15 x16 x17 x18 x19 x20 x21 x22 x23 x24 x25 x26 x27 x28 x29 x30 x31 x32 x33 x34 x35 x36 x37 x38 x39 x40 x41 x42 x43 x44 x45 x46 x47 x48 x49 x50 x51 x52 x53 x54 x55 x56 x57, l0 = [x0, x1, x2, x3, x4, x5, x6, x7, x8, x9, x10, x11, x12, x13, x14, x15, x16, x17, x18, x19, x20, x21, x22, x23, x24, x25, x26, x27, x28, x29, x30, x31, x32, x33, x34, x35, x36, x37, x38, x39, x40, x41, x42, x43, x44, x45, x46, x47, x48, x49, x50, x51, x52, x53, x54, x55, x56, x57] := by
  obtain ⟨x0, l1, e0, h1⟩ := cutS h0
  obtain ⟨x1, l2, e1, h2⟩ := cutS h1
  obtain ⟨x2, l3, e2, h3⟩ := cutS h2
  obtain ⟨x3, l4, e3, h4⟩ := cutS h3
  obtain ⟨x4, l5, e4, h5⟩ := cutS h4
  obtain ⟨x5, l6, e5, h6⟩ := cutS h5
  obtain ⟨x6, l7, e6, h7⟩ := cutS h6
  obtain ⟨x7, l8, e7, h8⟩ := cutS h7
  obtain ⟨x8, l9, e8, h9⟩ := cutS h8
  obtain ⟨x9, l10, e9, h10⟩ := cutS h9
  obtain ⟨x10, l11, e10, h11⟩ := cutS h10
  obtain ⟨x11, l12, e11, h12⟩ := cutS h11
  obtain ⟨x12, l13, e12, h13⟩ := cutS h12
  obtain ⟨x13, l14, e13, h14⟩ := cutS h13
  obtain ⟨x14, l15, e14, h15⟩ := cutS h14
  obtain ⟨x15, l16, e15, h16⟩ := cutS h15
  obtain ⟨x16, l17, e16, h17⟩ := cutS h16
  obtain ⟨x17, l18, e17, h18⟩ := cutS h17
  obtain ⟨x18, l19, e18, h19⟩ := cutS h18
  obtain ⟨x19, l20, e19, h20⟩ := cutS h19
  obtain ⟨x20, l21, e20, h21⟩ := cutS h20
  obtain ⟨x21, l22, e21, h22⟩ := cutS h21
  obtain ⟨x22, l23, e22, h23⟩ := cutS h22
  obtain ⟨x23, l24, e23, h24⟩ := cutS h23
  obtain ⟨x24, l25, e24, h25⟩ := cutS h24
  obtain ⟨x25, l26, e25, h26⟩ := cutS h25
  obtain ⟨x26, l27, e26, h27⟩ := cutS h26
  obtain ⟨x27, l28, e27, h28⟩ := cutS h27
  obtain ⟨x28, l29, e28, h29⟩ := cutS h28
  obtain ⟨x29, l30, e29, h30⟩ := cutS h29
  obtain ⟨x30, l31, e30, h31⟩ := cutS h30
  obtain ⟨x31, l32, e31, h32⟩ := cutS h31
  obtain ⟨x32, l33, e32, h33⟩ := cutS h32
  obtain ⟨x33, l34, e33, h34⟩ := cutS h33
  obtain ⟨x34, l35, e34, h35⟩ := cutS h34
  obtain ⟨x35, l36, e35, h36⟩ := cutS h35
  obtain ⟨x36, l37, e36, h37⟩ := cutS h36
  obtain ⟨x37, l38, e37, h38⟩ := cutS h37
  obtain ⟨x38, l39, e38, h39⟩ := cutS h38
  obtain ⟨x39, l40, e39, h40⟩ := cutS h39
  obtain ⟨x40, l41, e40, h41⟩ := cutS h40
  obtain ⟨x41, l42, e41, h42⟩ := cutS h41
  obtain ⟨x42, l43, e42, h43⟩ := cutS h42
  obtain ⟨x43, l44, e43, h44⟩ := cutS h43
  obtain ⟨x44, l45, e44, h45⟩ := cutS h44
  obtain ⟨x45, l46, e45, h46⟩ := cutS h45
  obtain ⟨x46, l47, e46, h47⟩ := cutS h46
  obtain ⟨x47, l48, e47, h48⟩ := cutS h47
  obtain ⟨x48, l49, e48, h49⟩ := cutS h48
  obtain ⟨x49, l50, e49, h50⟩ := cutS h49
  obtain ⟨x50, l51, e50, h51⟩ := cutS h50
  obtain ⟨x51, l52, e51, h52⟩ := cutS h51
  obtain ⟨x52, l53, e52, h53⟩ := cutS h52
  obtain ⟨x53, l54, e53, h54⟩ := cutS h53
  obtain ⟨x54, l55, e54, h55⟩ := cutS h54
  obtain ⟨x55, l56, e55, h56⟩ := cutS h55
  obtain ⟨x56, l57, e56, h57⟩ := cutS h56
  obtain ⟨x57, l58, e57, h58⟩ := cutS h57
  have e58 := List.eq_nil_of_length_eq_zero h58
  refine ⟨x0, x1, x2, x3, x4, x5, x6, x7, x8, x9, x10, x11, x12, x13, x14, x15, x16, x17, x18, x19, x20, x21, x22, x23, x24, x25, x26, x27, x28, x29, x30, x31, x32, x33, x34, x35, x36, x37, x38, x39, x40, x41, x42, x43, x44, x45, x46, x47, x48, x49, x50, x51, x52, x53, x54, x55, x56, x57, ?_⟩
  rw [e0, e1, e2, e3, e4, e5, e6, e7, e8, e9, e10, e11, e12, e13, e14, e15, e16, e17, e18, e19, e20, e21, e22, e23, e24, e25, e26, e27, e28, e29, e30, e31, e32, e33, e34, e35, e36, e37, e38, e39, e40, e41, e42, e43, e44, e45, e46, e47, e48, e49, e50, e51, e52, e53, e54, e55, e56, e57, e58]
def zdo : Obj := .cells #[.pointer none, .pointer none, .int .i64 0, .int .i64 0, .int .i64 0, .int .i64 0, .int .i64 0, .slice none 0 0, .int .i64 0, .int .i64 0, .pointer none, .int .i64 0, .int .i64 0, .int .i64 0, .int .i64 0, .int .i64 0, .int .i64 0, .int .i64 0, .int .i64 0, .slice none 0 0, .int .i64 0] 227 (0, 0)
/-- What the operations give that make what do works on. -/
def GSt (bt bf bh k B : Nat) (y : Ins) (task it : Int) : Nat → Value → World → Prop
  | 0, u, _ => u = .pointer (some ⟨bt, 0, none⟩)
  | 1, u, _ => u = .pointer (some ⟨bf, 0, none⟩)
  | 2, u, _ => u = y.v
  | 3, u, _ => u = .pointer (some ⟨bh, 0, none⟩)
  | 4, u, _ => u = .int .i64 task
  | 5, u, _ => u = .int .i64 it
  | 6, u, _ => u = .pointer (some ⟨bf, 0, none⟩)
  | 7, u, _ => u = .pointer (some ⟨bf, 0, none⟩)
  | 8, u, _ => u = .pointer (some ⟨bf, 1, none⟩)
  | 9, u, _ => u = .int .i64 k
  | 10, u, _ => u = .int .i64 ((k : Int) + 1)
  | 11, u, _ => u = .agg #[.pointer (some ⟨bt, 0, none⟩), .pointer (some ⟨bf, 0, none⟩), .int .i64 y.op, .int .i64 y.a, .int .i64 y.b, .int .i64 y.c, .int .i64 y.n, .slice y.lA y.l.length y.lC, .int .i64 y.site, .int .i64 y.line, .pointer (some ⟨bh, 0, none⟩), .int .i64 task, .int .i64 it, .int .i64 ((k : Int) + 1), .int .i64 0, .int .i64 0, .int .i64 0, .int .i64 0, .int .i64 0, .slice none 0 0, .int .i64 0]
  | 12, u, w => ∃ bd, u = .pointer (some ⟨bd, 0, none⟩) ∧ w.heap[bd]? = some zdo ∧ B ≤ bd
  | _, _, _ => False
theorem GSt.mono {bt bf bh k B : Nat} {y : Ins} {task it : Int} : ∀ (_ : Bool) (j : Nat) (u : Value) (w w' : World), GSt bt bf bh k B y task it j u w → Ext w w' → GSt bt bf bh k B y task it j u w' := by
  intro f j u w w' h x
  match j with
  | 0 => exact h
  | 1 => exact h
  | 2 => exact h
  | 3 => exact h
  | 4 => exact h
  | 5 => exact h
  | 6 => exact h
  | 7 => exact h
  | 8 => exact h
  | 9 => exact h
  | 10 => exact h
  | 11 => exact h
  | 12 => obtain ⟨bd, h1, h2, h3⟩ := h; exact ⟨bd, h1, (x.kept (fun _ _ => true)).same _ _ h2 rfl, h3⟩
  | _ + 13 => exact h
theorem extS {W : World} : ∀ (_ : Bool) (w w' : World), Ext W w → Ext w w' → Ext W w' := fun _ _ _ h k => h.trans k
theorem there_of {w : World} {b : Nat} {zs : Array Value} {t : TypeId} (h : w.heap[b]? = some (.cells zs t (0, 0))) : w.there b 0 zs.size := fun j hj => by
  refine ⟨?_, frozen_of_row _ b _ _ _ h⟩
  simp only [World.cell?, h, Nat.zero_add]
  simp [hj]
theorem set_range {b : Nat} {t : TypeId} : ∀ (vs : List Value) (pre zs : List Value) (w : World), w.heap[b]? = some (.cells (pre ++ zs).toArray t (0, 0)) → zs.length = vs.length → (w.setCells b pre.length vs).heap[b]? = some (.cells (pre ++ vs).toArray t (0, 0)) ∧ Kept (ne' b) w (w.setCells b pre.length vs)
  | [], pre, zs, w, h, hl => by
    have : zs = [] := List.eq_nil_of_length_eq_zero hl
    subst this
    exact ⟨h, Kept.refl _ _⟩
  | v :: r, pre, z :: zs, w, h, hl => by
    have h1 : (w.setCell ⟨b, pre.length, none⟩ v).heap[b]? = some (.cells ((pre ++ [v]) ++ zs).toArray t (0, 0)) := by
      rw [heap_setCell_same w b pre.length _ _ v h]
      congr 2
      apply Array.ext'
      simp
    have ih := set_range r (pre ++ [v]) zs _ h1 (by simpa using hl)
    have kk : Kept (ne' b) w (w.setCell ⟨b, pre.length, none⟩ v) := Kept.setCell _ fun o ho => by simp [ne']
    simp only [World.setCells]
    rw [List.length_append] at ih
    exact ⟨by simpa using ih.1, kk.trans ih.2⟩
  | v :: r, pre, [], w, h, hl => by simp at hl
def put6 (w : World) (b : Nat) : World := (((((w.setCell ⟨b, 0, none⟩ (.int .i64 0)).setCell ⟨b, 1, none⟩ (.int .i64 0)).setCell ⟨b, 2, none⟩ (.int .i64 0)).setCell ⟨b, 3, none⟩ (.int .i64 0)).setCell ⟨b, 4, none⟩ (.int .i64 0)).setCell ⟨b, 5, none⟩ (.slice none 0 0)
theorem put6_ok {w : World} {b : Nat} (h : w.heap[b]? = some zask) : (put6 w b).heap[b]? = some zask ∧ Kept (ne' b) w (put6 w b) :=
  set_range (b := b) (t := 143) [.int .i64 0, .int .i64 0, .int .i64 0, .int .i64 0, .int .i64 0, .slice none 0 0] [] [.int .i64 0, .int .i64 0, .int .i64 0, .int .i64 0, .int .i64 0, .slice none 0 0] w h rfl
section
variable {bt g bf gr bc bh : Nat} {k : Nat} {R : List Int} {W : World} {Q : Prg}
set_option maxHeartbeats 8000000 in
set_option maxRecDepth 100000 in
theorem Step_any {i : Nat} {y : Ins} {task it : Int} {X : World → Prop} {p : Nat → Option TypeId → Bool} (h : Th bt g bf gr bc i k R 0 W) (hc : Cod bc Q W) (hi : i < Q.fns.length) (hk : k < Q.fns[i].code.length) (hy : Q.fns[i].code[k] = y) (hks : k ≤ 1000) (hop : 1 ≤ y.op ∧ y.op ≤ 33) (hsh : sharedO y.op = false)
    (hdo : ∀ bd w, W.heap.size < bd → Ext W w → w.heap[bd]? = some (dgo bt bf bh y task it ((k : Int) + 1) 0) → Calls Tryz.prog 122 #[.pointer (some ⟨bd, 0, none⟩)] w fun e w' => e = .returned (.tuple #[]) ∧ X w' ∧ w'.heap[bd]? = some (dgo bt bf bh y task it ((k : Int) + 1) 0) ∧ Kept p w w') (hp : ∀ b t, W.heap.size ≤ b → p b t = true) (hX : ∀ w w', Kept (ne' W.heap.size) w w' → X w → X w') :
    Calls Tryz.prog 65 #[.pointer (some ⟨bt, 0, none⟩), .pointer (some ⟨bh, 0, none⟩), .int .i64 task, .int .i64 it] W fun e W' => e = .returned (.tuple #[zaskV, .int .i64 0]) ∧ X W' := by
  obtain ⟨W1, hW1⟩ : ∃ W1, W1 = W.alloc zask := ⟨_, rfl⟩
  have hx1 : Ext W W1 := by rw [hW1]; exact Ext.one _ _
  have hb1 : W1.heap[W.heap.size]? = some zask := by rw [hW1]; exact World.alloc_heap_new _ _
  have HN := Lib.hid (isNone_th (h.ext hx1))
  have HR := Lib.hid (running_th (h.ext hx1) (hc.ext hx1) hi hk hy)
  have HSH := Lib.hid (fun w => hsh ▸ pShared_ok y.op hop.1 hop.2 w)
  have HX1 := Lib.hid hx1
  have HB1 := Lib.hid hb1
  have HW := Lib.hid hW1
  have HT := Lib.hid h
  have HDO := Lib.hid hdo
  have HP := Lib.hid hp
  have HXX := Lib.hid hX
  clear hx1 hb1 hW1 h hc hdo hy hi hk hsh hop hp hX
  unfold Ins.v at HR
  go_enter Tryz.func65, Tryz.ntmps65
  go_upto_region 1 with (fail)
  change Code.wp _ _ _ _ (W.alloc zask)
  rw [← HW.out]
  go_upto_region 4 with (first
    | (go_at_call 119; refine HR.out.mono ?_; rintro e w2 ⟨rfl, hx2⟩; have HX2 := Lib.hid hx2; clear hx2)
    | (go_at_call 118; refine HN.out.mono ?_; rintro e w2 ⟨rfl, hw⟩; rw [hw]; clear hw))
  obtain ⟨W3, hW3⟩ : ∃ W3, W3 = w2.alloc y.o := ⟨_, rfl⟩
  change Code.wp _ _ _ _ (w2.alloc y.o)
  rw [← hW3]
  have hx3 : Ext w2 W3 := by rw [hW3]; exact Ext.one _ _
  have hb3 : W3.heap[w2.heap.size]? = some y.o := by rw [hW3]; exact World.alloc_heap_new _ _
  obtain ⟨i0, i1, i2, i3, i4, i5, i6, i7, il⟩ := Ins.o_cells hb3
  have HX3 := Lib.hid (HX2.out.trans hx3)
  have HB3 := Lib.hid hb3
  clear hx3 hb3 hW3
  generalize w2.heap.size = bi at *
  go_upto_region 8 with (go_at_call 120; refine (HSH.out _).mono ?_; rintro e w4 ⟨rfl, hw⟩; rw [hw]; clear hw)
  have hlt3 : W.heap.size < W3.heap.size := Nat.lt_of_lt_of_le (Array.getElem?_eq_some_iff.1 HB1.out).1 HX3.out.size
  have HLT := Lib.hid hlt3
  have HZK := Lib.hid hks
  clear i0 i1 i2 i3 i4 i5 i6 i7 il hlt3 hks
  refine region_grow (n := 13) (s := 13) (by kernel_rfl) (fun _ => GSt bt bf bh k W3.heap.size y task it) (fun _ w => Ext W3 w) rfl (Ext.drew _) (RgOps.of (z := 58) (by kernel_rfl) rfl GSt.mono extS ?op (fun _ h => absurd h (Nat.lt_irrefl _))) ?fin
  case op =>
    intro j o hj hs' ho f a' w' hF hX4 hD K hK
    have e0 : a'.tmps.getD 0 undef = .pointer (some ⟨bt, 0, none⟩) := hF.2.2 0 (by kernel_rfl)
    have e1 : a'.tmps.getD 1 undef = .pointer (some ⟨bh, 0, none⟩) := hF.2.2 1 (by kernel_rfl)
    have e2 : a'.tmps.getD 2 undef = .int .i64 task := hF.2.2 2 (by kernel_rfl)
    have e3 : a'.tmps.getD 3 undef = .int .i64 it := hF.2.2 3 (by kernel_rfl)
    have e10 : a'.tmps.getD 10 undef = .pointer (some ⟨bf, 0, none⟩) := hF.2.2 10 (by kernel_rfl)
    have e11 : a'.tmps.getD 11 undef = .pointer (some ⟨bi, 0, none⟩) := hF.2.2 11 (by kernel_rfl)
    obtain ⟨i0, i1, i2, i3, i4, i5, i6, i7, il⟩ := Ins.o_cells ((hX4.kept (fun _ _ => true)).same _ _ HB3.out rfl)
    obtain ⟨t0, t1, t2, tl, s0, sl, f0, f1, f2, fl⟩ := (HT.out.ext (HX1.out.trans (HX3.out.trans hX4))).cells
    have hsz := hX4.size
    have zk : (k : Int) + 1 ≤ 9223372036854775807 := by have := HZK.out; omega
    have hwk : IntKind.i64.wrap ((k : Int) + 1) = (k : Int) + 1 := by rw [IntKind.wrap_i64]; omega
    match j, hj with
    | m + 13, h => exact absurd h (by omega)
    | 0, _ =>
      obtain rfl := Option.some.inj (show some _ = some o from ho)
      clear ho hD
      go_simp
      exact hK _ _ rfl (Ext.refl _)
    | 1, _ =>
      obtain rfl := Option.some.inj (show some _ = some o from ho)
      clear ho hD
      go_simp
      exact hK _ _ rfl (Ext.refl _)
    | 2, _ =>
      obtain rfl := Option.some.inj (show some _ = some o from ho)
      clear ho hD
      go_simp
      exact hK _ _ rfl (Ext.refl _)
    | 3, _ =>
      obtain rfl := Option.some.inj (show some _ = some o from ho)
      clear ho hD
      go_simp
      exact hK _ _ rfl (Ext.refl _)
    | 4, _ =>
      obtain rfl := Option.some.inj (show some _ = some o from ho)
      clear ho hD
      go_simp
      exact hK _ _ rfl (Ext.refl _)
    | 5, _ =>
      obtain rfl := Option.some.inj (show some _ = some o from ho)
      clear ho hD
      go_simp
      exact hK _ _ rfl (Ext.refl _)
    | 6, _ =>
      obtain rfl := Option.some.inj (show some _ = some o from ho)
      clear ho hD
      go_simp
      exact hK _ _ rfl (Ext.refl _)
    | 7, _ =>
      obtain rfl := Option.some.inj (show some _ = some o from ho)
      obtain ⟨d, hd, hG0⟩ := hD _ (Array.mem_of_getElem? (i := 0) rfl) rfl
      cases hd
      replace hG0 : a'.tmps.getD 47 undef = .pointer (some ⟨bf, 0, none⟩) := hG0
      clear ho hD
      go_simp
      exact hK _ _ rfl (Ext.refl _)
    | 8, _ =>
      obtain rfl := Option.some.inj (show some _ = some o from ho)
      obtain ⟨d, hd, hG0⟩ := hD _ (Array.mem_of_getElem? (i := 0) rfl) rfl
      cases hd
      replace hG0 : a'.tmps.getD 48 undef = .pointer (some ⟨bf, 0, none⟩) := hG0
      clear ho hD
      go_simp
      exact hK _ _ rfl (Ext.refl _)
    | 9, _ =>
      obtain rfl := Option.some.inj (show some _ = some o from ho)
      obtain ⟨d, hd, hG0⟩ := hD _ (Array.mem_of_getElem? (i := 0) rfl) rfl
      cases hd
      replace hG0 : a'.tmps.getD 49 undef = .pointer (some ⟨bf, 1, none⟩) := hG0
      clear ho hD
      go_simp
      exact hK _ _ rfl (Ext.refl _)
    | 10, _ =>
      obtain rfl := Option.some.inj (show some _ = some o from ho)
      obtain ⟨d, hd, hG0⟩ := hD _ (Array.mem_of_getElem? (i := 0) rfl) rfl
      cases hd
      replace hG0 : a'.tmps.getD 50 undef = .int .i64 k := hG0
      clear ho hD
      go_simp
      exact hK _ _ rfl (Ext.refl _)
    | 11, _ =>
      obtain rfl := Option.some.inj (show some _ = some o from ho)
      obtain ⟨d, hd, hG0⟩ := hD _ (Array.mem_of_getElem? (i := 0) rfl) rfl
      cases hd
      replace hG0 : a'.tmps.getD 41 undef = .pointer (some ⟨bt, 0, none⟩) := hG0
      obtain ⟨d, hd, hG1⟩ := hD _ (Array.mem_of_getElem? (i := 1) rfl) rfl
      cases hd
      replace hG1 : a'.tmps.getD 42 undef = .pointer (some ⟨bf, 0, none⟩) := hG1
      obtain ⟨d, hd, hG2⟩ := hD _ (Array.mem_of_getElem? (i := 2) rfl) rfl
      cases hd
      replace hG2 : a'.tmps.getD 43 undef = y.v := hG2
      obtain ⟨d, hd, hG3⟩ := hD _ (Array.mem_of_getElem? (i := 3) rfl) rfl
      cases hd
      replace hG3 : a'.tmps.getD 44 undef = .pointer (some ⟨bh, 0, none⟩) := hG3
      obtain ⟨d, hd, hG4⟩ := hD _ (Array.mem_of_getElem? (i := 4) rfl) rfl
      cases hd
      replace hG4 : a'.tmps.getD 45 undef = .int .i64 task := hG4
      obtain ⟨d, hd, hG5⟩ := hD _ (Array.mem_of_getElem? (i := 5) rfl) rfl
      cases hd
      replace hG5 : a'.tmps.getD 46 undef = .int .i64 it := hG5
      obtain ⟨d, hd, hG6⟩ := hD _ (Array.mem_of_getElem? (i := 6) rfl) rfl
      cases hd
      replace hG6 : a'.tmps.getD 51 undef = .int .i64 ((k : Int) + 1) := hG6
      have hH0 : a'.tmps[41]?.getD undef = .pointer (some ⟨bt, 0, none⟩) := by simpa using hG0
      have hH1 : a'.tmps[42]?.getD undef = .pointer (some ⟨bf, 0, none⟩) := by simpa using hG1
      have hH2 : a'.tmps[43]?.getD undef = y.v := by simpa using hG2
      have hH3 : a'.tmps[44]?.getD undef = .pointer (some ⟨bh, 0, none⟩) := by simpa using hG3
      have hH4 : a'.tmps[45]?.getD undef = .int .i64 task := by simpa using hG4
      have hH5 : a'.tmps[46]?.getD undef = .int .i64 it := by simpa using hG5
      have hH6 : a'.tmps[51]?.getD undef = .int .i64 ((k : Int) + 1) := by simpa using hG6
      unfold Ins.v at hG2 hH2
      clear ho hD
      go_simp
      exact hK _ _ rfl (Ext.refl _)
    | 12, _ =>
      obtain rfl := Option.some.inj (show some _ = some o from ho)
      clear ho hD
      go_simp
      exact hK _ _ ⟨_, rfl, World.alloc_heap_new _ _, hsz⟩ (Ext.one _ _)
  case fin =>
    intro a' w' hF hX4 hG
    obtain ⟨⟨ls⟩, df⟩ := a'
    obtain ⟨f1, f2, f3⟩ := hF
    replace f1 : df = [] := f1
    replace f2 : ls.length = 58 := f2
    subst f1
    obtain ⟨d, hd, g11⟩ := hG 11 (by omega)
    cases hd
    obtain ⟨d, hd, bd, g12, gb, gl⟩ := hG 12 (by omega)
    cases hd
    have e8 := f3 8 (by kernel_rfl)
    obtain ⟨z0, z1, z2, z3, z4, z5, z6, z7, z8, z9, z10, z11, z12, z13, z14, z15, z16, z17, z18, z19, z20, z21, z22, z23, z24, z25, z26, z27, z28, z29, z30, z31, z32, z33, z34, z35, z36, z37, z38, z39, z40, z41, z42, z43, z44, z45, z46, z47, z48, z49, z50, z51, z52, z53, z54, z55, z56, z57, rfl⟩ := list58 ls f2
    replace g11 : z52 = .agg #[.pointer (some ⟨bt, 0, none⟩), .pointer (some ⟨bf, 0, none⟩), .int .i64 y.op, .int .i64 y.a, .int .i64 y.b, .int .i64 y.c, .int .i64 y.n, .slice y.lA y.l.length y.lC, .int .i64 y.site, .int .i64 y.line, .pointer (some ⟨bh, 0, none⟩), .int .i64 task, .int .i64 it, .int .i64 ((k : Int) + 1), .int .i64 0, .int .i64 0, .int .i64 0, .int .i64 0, .int .i64 0, .slice none 0 0, .int .i64 0] := g11
    replace g12 : z13 = .pointer (some ⟨bd, 0, none⟩) := g12
    replace e8 : z8 = .pointer (some ⟨W.heap.size, 0, none⟩) := e8
    subst g11 g12 e8
    have hth := there_of gb
    obtain ⟨q1, q2⟩ := set_range (b := bd) (t := 227) (#[.pointer (some ⟨bt, 0, none⟩), .pointer (some ⟨bf, 0, none⟩), .int .i64 y.op, .int .i64 y.a, .int .i64 y.b, .int .i64 y.c, .int .i64 y.n, .slice y.lA y.l.length y.lC, .int .i64 y.site, .int .i64 y.line, .pointer (some ⟨bh, 0, none⟩), .int .i64 task, .int .i64 it, .int .i64 ((k : Int) + 1), .int .i64 0, .int .i64 0, .int .i64 0, .int .i64 0, .int .i64 0, .slice none 0 0, .int .i64 0] : Array Value).toList [] (#[.pointer none, .pointer none, .int .i64 0, .int .i64 0, .int .i64 0, .int .i64 0, .int .i64 0, .slice none 0 0, .int .i64 0, .int .i64 0, .pointer none, .int .i64 0, .int .i64 0, .int .i64 0, .int .i64 0, .int .i64 0, .int .i64 0, .int .i64 0, .int .i64 0, .slice none 0 0, .int .i64 0] : Array Value).toList w' gb rfl
    replace q1 : (w'.setCells bd 0 (#[.pointer (some ⟨bt, 0, none⟩), .pointer (some ⟨bf, 0, none⟩), .int .i64 y.op, .int .i64 y.a, .int .i64 y.b, .int .i64 y.c, .int .i64 y.n, .slice y.lA y.l.length y.lC, .int .i64 y.site, .int .i64 y.line, .pointer (some ⟨bh, 0, none⟩), .int .i64 task, .int .i64 it, .int .i64 ((k : Int) + 1), .int .i64 0, .int .i64 0, .int .i64 0, .int .i64 0, .int .i64 0, .slice none 0 0, .int .i64 0] : Array Value).toList).heap[bd]? = some (dgo bt bf bh y task it ((k : Int) + 1) 0) := q1
    have hx5 : Ext W3 (w'.setCells bd 0 (#[.pointer (some ⟨bt, 0, none⟩), .pointer (some ⟨bf, 0, none⟩), .int .i64 y.op, .int .i64 y.a, .int .i64 y.b, .int .i64 y.c, .int .i64 y.n, .slice y.lA y.l.length y.lC, .int .i64 y.site, .int .i64 y.line, .pointer (some ⟨bh, 0, none⟩), .int .i64 task, .int .i64 it, .int .i64 ((k : Int) + 1), .int .i64 0, .int .i64 0, .int .i64 0, .int .i64 0, .int .i64 0, .slice none 0 0, .int .i64 0] : Array Value).toList) := ext_ne hX4 q2 gl
    have HQ := Lib.hid (And.intro q1 (HX3.out.trans hx5))
    have HGL := Lib.hid gl
    clear f2 f3 hG hX4 q1 q2 hx5 gb gl
    simp only [List.drop_succ_cons, List.drop_zero]
    refine wpList_store_mid rfl 227 _ _ rfl bd 0 #[.pointer (some ⟨bt, 0, none⟩), .pointer (some ⟨bf, 0, none⟩), .int .i64 y.op, .int .i64 y.a, .int .i64 y.b, .int .i64 y.c, .int .i64 y.n, .slice y.lA y.l.length y.lC, .int .i64 y.site, .int .i64 y.line, .pointer (some ⟨bh, 0, none⟩), .int .i64 task, .int .i64 it, .int .i64 ((k : Int) + 1), .int .i64 0, .int .i64 0, .int .i64 0, .int .i64 0, .int .i64 0, .slice none 0 0, .int .i64 0] rfl rfl hth (by kernel_rfl) (by simp [Value.oneCell']) ?_
    generalize w'.setCells bd 0 _ = w5 at *
    have HDQ := Lib.hid (HDO.out bd w5 (Nat.lt_of_lt_of_le HLT.out HGL.out) (HX1.out.trans HQ.out.2) HQ.out.1)
    have hb5 : w5.heap[W.heap.size]? = some zask := (HQ.out.2.kept (fun _ _ => true)).same _ _ HB1.out rfl
    have HB5 := Lib.hid hb5
    clear hb5 hth
    go_upto_region 10 with (go_at_call 122; refine HDQ.out.mono ?_; rintro e w6 ⟨rfl, hx, hd6, hk6⟩; have HD6 := Lib.hid hd6; clear hd6; have HX6 := Lib.hid hx; have HB6 := Lib.hid (hk6.same _ _ HB5.out (HP.out _ _ (Nat.le_refl _))); clear hx hk6)
    obtain ⟨-, -, -, -, -, -, -, -, -, -, -, c14, c15, c16, c17, c18, c19, c20, cl⟩ := dgo_cells HD6.out
    obtain ⟨b0, b1, b2, b3, b4, b5, bl, bz⟩ := asko_cells HB6.out
    have hne : bd ≠ W.heap.size := by have := HLT.out; have := HGL.out; omega
    have hne' : W.heap.size ≠ bd := fun h => hne h.symm
    go_region_with (fail)
    all_goals go_wp2_with fail
    all_goals
      change bodyPost _ _ _ _ _ (World.drew (put6 w6 W.heap.size))
      obtain ⟨q1, q2⟩ := put6_ok HB6.out
      have HX7 := HXX.out _ _ (q2.trans ((Ext.drew _).kept _)) HX6.out
      clear b0 b1 b2 b3 b4 b5 bl bz
      generalize put6 w6 _ = w7 at *
      obtain ⟨b0, b1, b2, b3, b4, b5, bl, bz⟩ := asko_cells (w := w7.drew) q1
      exact bodyPost_ret (v := .tuple #[zaskV, .int .i64 0]) (by simp [results, Tryz.results65, go_sem, zaskV, b0, b1, b2, b3, b4, b5]) rfl ⟨rfl, HX7⟩
end
end Go.Proofs.YtfljmdpigckpkaaGreatDoor
