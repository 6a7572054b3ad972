/- The line of an entry, of the program. -/
import Derived.Test.YtkljdpjdlccidaaDoorSaD
import Derived.Test.YtkljdpjdlccidaaDoorLay
import Derived.Maps.AppendAt
namespace Go.Proofs.YtkljdpjdlccidaaDoor
open Go.RowKit Go.Shelf
attribute [local go_sem] Oper.semAt_some
theorem infoStr : (Tryd.prog.info? 9).map (fun i => (i.zero, i.size, i.bytes)) = some (some (.string ⟨#[]⟩), 1, 16) := by kernel_rfl
def sL (l : List UInt8) : Value := .string ⟨l.toArray⟩
/-- The table of the powers of ten. -/
def TabP (w : World) : Prop := Lib.TabIs Tryd.prog w "internal/strconv.uint64pow10" .u64 Lib.pow10Tab
theorem TabP.ext {w w' : World} (h : TabP w) (k : Ext w w') (hg : ∀ g, Tryd.prog.globalNamed "internal/strconv.uint64pow10" = some g → g < w.heap.size) : TabP w' := by
  unfold TabP Lib.TabIs World.var? at *
  cases hq : Tryd.prog.globalNamed "internal/strconv.uint64pow10" with
  | none => rw [hq] at h; exact h
  | some g =>
    rw [hq] at h
    have hlt := hg g hq
    have hb : w'.heap[g]? = w.heap[g]? := by
      obtain ⟨x, hx⟩ : ∃ x, w.heap[g]? = some x := ⟨_, Array.getElem?_eq_getElem hlt⟩
      rw [hx]
      exact (k.kept (fun _ _ => true)).same _ _ hx rfl
    dsimp only [Option.bind_some] at h ⊢
    rw [hb]
    exact h
theorem map_back (ws : List (List UInt8)) : (ws.map fun l => (⟨l.toArray⟩ : ByteArray)).map (·.data.toList) = ws := by
  induction ws with
  | nil => rfl
  | cons x l ih => simp only [List.map_cons, ih]
theorem own_new1 {W : World} {B b : Nat} {e : TypeId} {v : Value} (h : W.heap[b]? = some (.cells #[v] e (0, 0))) (hB : B ≤ b) : W.ownsRow B e 1 (.slice (some ⟨b, 0, none⟩) 1 1) 1 [v] :=
  ⟨rfl, .inr ⟨b, 1, _, rfl, hB, h, Nat.le_refl _, by unfold maxLen; omega, rfl, rfl⟩⟩
theorem ext_grow (w : World) (k : Nat) (os : Array Obj) : Ext w (Sort.grow (w.drewN k) os) := (Ext.drewN w k).trans (Ext.of ⟨rfl, rfl, rfl, by rw [Sort.size_grow]; omega, fun _ hj => Sort.heap_grow_old _ os hj⟩)
theorem join_ok {W : World} {B : Nat} {A : Option Addr} {c : Nat} {ws : List (List UInt8)} (h : W.ownsRow B 9 1 (.slice A ws.length c) ws.length (rowV sL ws)) (hc : ws.length ≤ 3) (h0 : 0 < ws.length) (hl : (Lib.join ws [32]).length ≤ 1000) :
    Calls Tryd.prog 57 #[.slice A ws.length c, .string ⟨#[32]⟩] W fun e w' => e = .returned (.string ⟨(Lib.join ws [32]).toArray⟩) ∧ Ext W w' := by
  obtain ⟨g, cap, he, hq, hlt, hcap⟩ : ∃ g cap, Value.slice A ws.length c = .slice (some ⟨g, 0, none⟩) ws.length cap ∧ (∀ (j : Nat) u, (rowV sL ws)[j]? = some u → W.cell? ⟨g, j, none⟩ = some u) ∧ g < W.heap.size ∧ ws.length ≤ cap := by
    rcases h.2 with ⟨_, e0⟩ | ⟨g, cap, cur, e, _, h1, h2, h3, h4, h5⟩
    · omega
    · refine ⟨g, cap, e, fun j u hj => ?_, (Array.getElem?_eq_some_iff.1 h1).1, h2⟩
      rw [← h5, List.getElem?_take] at hj
      split at hj
      · simp only [World.cell?, h1]
        simpa using hj
      · cases hj
  rw [he]
  have hm := map_back ws
  have hd : ([32] : List UInt8) = (⟨#[32]⟩ : ByteArray).data.toList := rfl
  have := Any.strings_Join Tryd.lays156 Tryd.Builder_Extra_156 g 0 cap (ws.map fun l => ⟨l.toArray⟩) ⟨#[32]⟩ W (by
    intro j x hj
    rw [Nat.zero_add]
    refine hq j _ ?_
    rw [List.getElem?_map] at hj
    simp only [rowV, List.getElem?_map]
    cases hw : ws[j]? with
    | none => rw [hw] at hj; cases hj
    | some y =>
      rw [hw] at hj
      obtain rfl := Option.some.inj hj
      rfl) hlt (by simp; omega) (by simpa using hcap) (by rw [hm, ← hd]; omega)
  rw [hm, ← hd, List.length_map] at this
  exact this.mono fun e w' k => ⟨k.1, Ext.of k.2⟩
structure TabA (w : World) : Prop where
  s : TabS w
  p : TabP w
  g : ∀ g, Tryd.prog.globalNamed "internal/strconv.uint64pow10" = some g → g < w.heap.size
theorem TabA.ext {w w' : World} (h : TabA w) (k : Ext w w') : TabA w' := ⟨h.s.ext k, h.p.ext k h.g, fun g hg => Nat.lt_of_lt_of_le (h.g g hg) k.size⟩
theorem itoa_ok {w : World} (h : TabA w) {n : Int} (hn : i64 n) : Calls Tryd.prog 51 #[.int .i64 n] w fun e w' => e = .returned (.string ⟨(Lib.itoa n).toArray⟩) ∧ Ext w w' :=
  (Any.strconv_Itoa Tryd.laysM171 n hn.1 hn.2 w h.p).mono fun e w' k => ⟨k.1, by obtain ⟨j, os, rfl⟩ := k.2; exact ext_grow w j os⟩
theorem fmt_ok {w : World} (h : TabA w) {n : Int} (hn : i64 n) : Calls Tryd.prog 56 #[.int .i64 n, .int .i64 10] w fun e w' => e = .returned (.string ⟨(Lib.itoa n).toArray⟩) ∧ Ext w w' :=
  (Any.strconv_FormatInt_10 Tryd.laysM173 n hn.1 hn.2 w h.p).mono fun e w' k => ⟨k.1, by obtain ⟨j, os, rfl⟩ := k.2; exact ext_grow w j os⟩
section
variable {w : World}

set_option maxHeartbeats 2000000 in
set_option maxRecDepth 100000 in
theorem line_1 (hT : TabA w) {a n : Int} (ha : i64 a) (hn : i64 n) : Calls Tryd.prog 36 #[.agg #[.int .i64 1, .int .i64 a, .int .i64 n]] w fun r w' => r = .returned (.string ⟨(lnE ⟨1, a, n⟩).toArray⟩) ∧ Ext w w' := by
  obtain ⟨i0, hi0, hz0, hz1, hz2⟩ := infoParts infoStr
  obtain ⟨W1, hW1⟩ : ∃ W1, W1 = w.alloc (En.o ⟨1, a, n⟩) := ⟨_, rfl⟩
  have hx1 : Ext w W1 := by rw [hW1]; exact Ext.one _ _
  have hb1 : W1.heap[w.heap.size]? = some (En.o ⟨1, a, n⟩) := by rw [hW1]; exact World.alloc_heap_new _ _
  obtain ⟨x0, x1, x2, xl⟩ := En.o_cells hb1
  have hT1 := hT.ext hx1
  obtain ⟨s0, s1, s2⟩ := hT1.s.k1
  have sl := hT1.s.lt
  dsimp only at x0 x1 x2
  have HX1 := Lib.hid hx1
  have HB1 := Lib.hid hb1
  have HT := Lib.hid (fun v (k : Ext W1 v) => hT1.ext k)
  have HW := Lib.hid hW1
  have HA := Lib.hid ha
  have HN := Lib.hid hn
  have la := itoa_len ha
  have ln := itoa_len hn
  have HLL := Lib.hid (show (Lib.join [wdE 1, Lib.itoa a] [32]).length ≤ 1000 by rw [Lib.join_length]; simp [Lib.lens, wdE]; omega)
  clear hx1 hb1 hW1 hT hT1 ha hn la ln
  go_enter Tryd.func36, Tryd.ntmps36
  go_upto_region 1 with (fail)
  change Code.wp _ _ _ _ (w.alloc (En.o ⟨1, a, n⟩))
  rw [← HW.out]
  generalize hbx : w.heap.size = bx at *
  clear HW
  obtain ⟨W2, hW2⟩ : ∃ W2, W2 = W1.alloc (.cells #[.string ⟨#[114, 117, 110]⟩, .bool true, .bool false] 92 (0, 0)) := ⟨_, rfl⟩
  have hx2 : Ext W1 W2 := by rw [hW2]; exact Ext.one _ _
  have hz2' : W2.heap.size = W1.heap.size + 1 := by rw [hW2]; simp
  have HF := Lib.hid (fun (v : World) (k : Ext W2 v) => show v.cell? ⟨W1.heap.size, 1, none⟩ = some (.bool true) ∧ v.cell? ⟨W1.heap.size, 2, none⟩ = some (.bool false) ∧ v.cell? ⟨bx, 1, none⟩ = some (.int .i64 a) ∧ v.cell? ⟨bx, 2, none⟩ = some (.int .i64 n) ∧ W1.heap.size < v.heap.size ∧ bx < v.heap.size by
    have kk := (k.kept (fun _ _ => true))
    have k2 := (hx2.trans k).kept (fun _ _ => true)
    have hb2 : W2.heap[W1.heap.size]? = some (.cells #[.string ⟨#[114, 117, 110]⟩, .bool true, .bool false] 92 (0, 0)) := by rw [hW2]; exact World.alloc_heap_new _ _
    have hz := k.size
    refine ⟨kk.cell (by simp [World.cell?, hb2]) fun _ _ => rfl, kk.cell (by simp [World.cell?, hb2]) fun _ _ => rfl, k2.cell x1 fun _ _ => rfl, k2.cell x2 fun _ _ => rfl, by omega, by omega⟩)
  obtain ⟨W3, hW3⟩ : ∃ W3, W3 = W2.alloc (.cells #[.string ⟨#[114, 117, 110]⟩] 9 (0, 0)) := ⟨_, rfl⟩
  have hx3 : Ext W2 W3 := by rw [hW3]; exact Ext.one _ _
  have hr3 : W3.heap[W2.heap.size]? = some (.cells #[sL (wdE 1)] 9 (0, 0)) := by rw [hW3]; exact World.alloc_heap_new _ _
  have ho3 : W3.ownsRow W2.heap.size 9 1 (.slice (some ⟨W2.heap.size, 0, none⟩) 1 1) 1 (rowV sL [wdE 1]) := own_new1 hr3 (Nat.le_refl _)
  have HX3 := Lib.hid hx3
  have HK2 := Lib.hid hx2
  have HO3 := Lib.hid ho3
  have HZ2 := Lib.hid hz2'
  have HW3 := Lib.hid (show W3 = (W1.alloc (.cells #[.string ⟨#[114, 117, 110]⟩, .bool true, .bool false] 92 (0, 0))).alloc (.cells #[.string ⟨#[114, 117, 110]⟩] 9 (0, 0)) by rw [hW3, hW2])
  clear hx2 hz2' hW2 hW3 hx3 hr3 ho3
  go_upto_region 3 with (fail)
  change Code.wp _ _ _ _ ((W1.alloc (.cells #[.string ⟨#[114, 117, 110]⟩, .bool true, .bool false] 92 (0, 0))).alloc (.cells #[.string ⟨#[114, 117, 110]⟩] 9 (0, 0)))
  rw [← HW3.out]
  have ez := HZ2.out
  rw [← ez]
  clear s0 s1 s2 sl x0 x1 x2 xl HW3 ez
  obtain ⟨f1, f2, f3, f4, f5, f6⟩ := HF.out _ HX3.out
  go_upto_region 5 with (first
    | (go_at_call 51; refine (itoa_ok (HT.out _ (HK2.out.trans HX3.out)) HA.out).mono ?_; rintro e w4 ⟨rfl, hx⟩; have HX4 := Lib.hid (HX3.out.trans hx); have HR4 := Lib.hid ((hx.kept (fun _ _ => true)).row HO3.out fun _ _ => rfl); clear hx f1 f2 f3 f4 f5 f6; obtain ⟨f1, f2, f3, f4, f5, f6⟩ := HF.out _ HX4.out)
    | (at_builtin; refine wpList_append_any rfl _ _ 35 rfl W2.heap.size 9 i0 (.string ⟨#[]⟩) 1 16 Tryd.underlying35 hi0 hz0 hz1 hz2 rfl (by decide) (.slice (some ⟨W2.heap.size, 0, none⟩) 1 1) 1 (rowV sL [wdE 1]) rfl (((Ext.one w4 (.cells #[.string ⟨(Lib.itoa a).toArray⟩] 9 (0, 0))).kept (fun _ _ => true)).row HR4.out fun _ _ => rfl) (.slice (some ⟨w4.heap.size, 0, none⟩) 1 1) 1 [sL (Lib.itoa a)] rfl rfl (.inr ⟨_, _, rfl, World.news_of_block (World.alloc_heap_new w4 _)⟩) (by simp [Value.oneCell', sL]) (by unfold maxLen; omega) (by omega) (by have := HX4.out.size; simp; omega) 2 rfl (rowV sL [wdE 1, Lib.itoa a]) rfl ?_; intro A5 c5 w5 hown hgrow hat; have HX5 := Lib.hid (grown_ext (HX4.out.trans (Ext.one w4 (.cells #[.string ⟨(Lib.itoa a).toArray⟩] 9 (0, 0)))) hgrow fun b hb => own_base HR4.out b hb); have HO5 := Lib.hid hown; clear hown hgrow hat f1 f2 f3 f4 f5 f6; obtain ⟨f1, f2, f3, f4, f5, f6⟩ := HF.out _ HX5.out))
  have HJ := Lib.hid (join_ok (ws := [wdE 1, Lib.itoa a]) HO5.out (by simp) (by simp) HLL.out)
  clear f1 f2 f3 f4 f5 f6
  obtain ⟨f1, f2, f3, f4, f5, f6⟩ := HF.out _ HX5.out
  go_wp2_with (go_at_call 57; refine HJ.out.mono ?_; rintro e wj ⟨rfl, hxj⟩; have HXJ := Lib.hid hxj; clear hxj)
  go_ret
  exact ⟨rfl, HX1.out.trans (HK2.out.trans (HX5.out.trans HXJ.out))⟩
set_option maxHeartbeats 2000000 in
set_option maxRecDepth 100000 in
theorem line_2 (hT : TabA w) {a n : Int} (ha : i64 a) (hn : i64 n) : Calls Tryd.prog 36 #[.agg #[.int .i64 2, .int .i64 a, .int .i64 n]] w fun r w' => r = .returned (.string ⟨(lnE ⟨2, a, n⟩).toArray⟩) ∧ Ext w w' := by
  obtain ⟨i0, hi0, hz0, hz1, hz2⟩ := infoParts infoStr
  obtain ⟨W1, hW1⟩ : ∃ W1, W1 = w.alloc (En.o ⟨2, a, n⟩) := ⟨_, rfl⟩
  have hx1 : Ext w W1 := by rw [hW1]; exact Ext.one _ _
  have hb1 : W1.heap[w.heap.size]? = some (En.o ⟨2, a, n⟩) := by rw [hW1]; exact World.alloc_heap_new _ _
  obtain ⟨x0, x1, x2, xl⟩ := En.o_cells hb1
  have hT1 := hT.ext hx1
  obtain ⟨s0, s1, s2⟩ := hT1.s.k2
  have sl := hT1.s.lt
  dsimp only at x0 x1 x2
  have HX1 := Lib.hid hx1
  have HB1 := Lib.hid hb1
  have HT := Lib.hid (fun v (k : Ext W1 v) => hT1.ext k)
  have HW := Lib.hid hW1
  have HA := Lib.hid ha
  have HN := Lib.hid hn
  have la := itoa_len ha
  have ln := itoa_len hn
  have HLL := Lib.hid (show (Lib.join [wdE 2, Lib.itoa a] [32]).length ≤ 1000 by rw [Lib.join_length]; simp [Lib.lens, wdE]; omega)
  clear hx1 hb1 hW1 hT hT1 ha hn la ln
  go_enter Tryd.func36, Tryd.ntmps36
  go_upto_region 1 with (fail)
  change Code.wp _ _ _ _ (w.alloc (En.o ⟨2, a, n⟩))
  rw [← HW.out]
  generalize hbx : w.heap.size = bx at *
  clear HW
  obtain ⟨W2, hW2⟩ : ∃ W2, W2 = W1.alloc (.cells #[.string ⟨#[119, 111, 114, 107]⟩, .bool true, .bool false] 92 (0, 0)) := ⟨_, rfl⟩
  have hx2 : Ext W1 W2 := by rw [hW2]; exact Ext.one _ _
  have hz2' : W2.heap.size = W1.heap.size + 1 := by rw [hW2]; simp
  have HF := Lib.hid (fun (v : World) (k : Ext W2 v) => show v.cell? ⟨W1.heap.size, 1, none⟩ = some (.bool true) ∧ v.cell? ⟨W1.heap.size, 2, none⟩ = some (.bool false) ∧ v.cell? ⟨bx, 1, none⟩ = some (.int .i64 a) ∧ v.cell? ⟨bx, 2, none⟩ = some (.int .i64 n) ∧ W1.heap.size < v.heap.size ∧ bx < v.heap.size by
    have kk := (k.kept (fun _ _ => true))
    have k2 := (hx2.trans k).kept (fun _ _ => true)
    have hb2 : W2.heap[W1.heap.size]? = some (.cells #[.string ⟨#[119, 111, 114, 107]⟩, .bool true, .bool false] 92 (0, 0)) := by rw [hW2]; exact World.alloc_heap_new _ _
    have hz := k.size
    refine ⟨kk.cell (by simp [World.cell?, hb2]) fun _ _ => rfl, kk.cell (by simp [World.cell?, hb2]) fun _ _ => rfl, k2.cell x1 fun _ _ => rfl, k2.cell x2 fun _ _ => rfl, by omega, by omega⟩)
  obtain ⟨W3, hW3⟩ : ∃ W3, W3 = W2.alloc (.cells #[.string ⟨#[119, 111, 114, 107]⟩] 9 (0, 0)) := ⟨_, rfl⟩
  have hx3 : Ext W2 W3 := by rw [hW3]; exact Ext.one _ _
  have hr3 : W3.heap[W2.heap.size]? = some (.cells #[sL (wdE 2)] 9 (0, 0)) := by rw [hW3]; exact World.alloc_heap_new _ _
  have ho3 : W3.ownsRow W2.heap.size 9 1 (.slice (some ⟨W2.heap.size, 0, none⟩) 1 1) 1 (rowV sL [wdE 2]) := own_new1 hr3 (Nat.le_refl _)
  have HX3 := Lib.hid hx3
  have HK2 := Lib.hid hx2
  have HO3 := Lib.hid ho3
  have HZ2 := Lib.hid hz2'
  have HW3 := Lib.hid (show W3 = (W1.alloc (.cells #[.string ⟨#[119, 111, 114, 107]⟩, .bool true, .bool false] 92 (0, 0))).alloc (.cells #[.string ⟨#[119, 111, 114, 107]⟩] 9 (0, 0)) by rw [hW3, hW2])
  clear hx2 hz2' hW2 hW3 hx3 hr3 ho3
  go_upto_region 3 with (fail)
  change Code.wp _ _ _ _ ((W1.alloc (.cells #[.string ⟨#[119, 111, 114, 107]⟩, .bool true, .bool false] 92 (0, 0))).alloc (.cells #[.string ⟨#[119, 111, 114, 107]⟩] 9 (0, 0)))
  rw [← HW3.out]
  have ez := HZ2.out
  rw [← ez]
  clear s0 s1 s2 sl x0 x1 x2 xl HW3 ez
  obtain ⟨f1, f2, f3, f4, f5, f6⟩ := HF.out _ HX3.out
  go_upto_region 5 with (first
    | (go_at_call 51; refine (itoa_ok (HT.out _ (HK2.out.trans HX3.out)) HA.out).mono ?_; rintro e w4 ⟨rfl, hx⟩; have HX4 := Lib.hid (HX3.out.trans hx); have HR4 := Lib.hid ((hx.kept (fun _ _ => true)).row HO3.out fun _ _ => rfl); clear hx f1 f2 f3 f4 f5 f6; obtain ⟨f1, f2, f3, f4, f5, f6⟩ := HF.out _ HX4.out)
    | (at_builtin; refine wpList_append_any rfl _ _ 35 rfl W2.heap.size 9 i0 (.string ⟨#[]⟩) 1 16 Tryd.underlying35 hi0 hz0 hz1 hz2 rfl (by decide) (.slice (some ⟨W2.heap.size, 0, none⟩) 1 1) 1 (rowV sL [wdE 2]) rfl (((Ext.one w4 (.cells #[.string ⟨(Lib.itoa a).toArray⟩] 9 (0, 0))).kept (fun _ _ => true)).row HR4.out fun _ _ => rfl) (.slice (some ⟨w4.heap.size, 0, none⟩) 1 1) 1 [sL (Lib.itoa a)] rfl rfl (.inr ⟨_, _, rfl, World.news_of_block (World.alloc_heap_new w4 _)⟩) (by simp [Value.oneCell', sL]) (by unfold maxLen; omega) (by omega) (by have := HX4.out.size; simp; omega) 2 rfl (rowV sL [wdE 2, Lib.itoa a]) rfl ?_; intro A5 c5 w5 hown hgrow hat; have HX5 := Lib.hid (grown_ext (HX4.out.trans (Ext.one w4 (.cells #[.string ⟨(Lib.itoa a).toArray⟩] 9 (0, 0)))) hgrow fun b hb => own_base HR4.out b hb); have HO5 := Lib.hid hown; clear hown hgrow hat f1 f2 f3 f4 f5 f6; obtain ⟨f1, f2, f3, f4, f5, f6⟩ := HF.out _ HX5.out))
  have HJ := Lib.hid (join_ok (ws := [wdE 2, Lib.itoa a]) HO5.out (by simp) (by simp) HLL.out)
  clear f1 f2 f3 f4 f5 f6
  obtain ⟨f1, f2, f3, f4, f5, f6⟩ := HF.out _ HX5.out
  go_wp2_with (go_at_call 57; refine HJ.out.mono ?_; rintro e wj ⟨rfl, hxj⟩; have HXJ := Lib.hid hxj; clear hxj)
  go_ret
  exact ⟨rfl, HX1.out.trans (HK2.out.trans (HX5.out.trans HXJ.out))⟩
set_option maxHeartbeats 2000000 in
set_option maxRecDepth 100000 in
theorem line_3 (hT : TabA w) {a n : Int} (ha : i64 a) (hn : i64 n) : Calls Tryd.prog 36 #[.agg #[.int .i64 3, .int .i64 a, .int .i64 n]] w fun r w' => r = .returned (.string ⟨(lnE ⟨3, a, n⟩).toArray⟩) ∧ Ext w w' := by
  obtain ⟨i0, hi0, hz0, hz1, hz2⟩ := infoParts infoStr
  obtain ⟨W1, hW1⟩ : ∃ W1, W1 = w.alloc (En.o ⟨3, a, n⟩) := ⟨_, rfl⟩
  have hx1 : Ext w W1 := by rw [hW1]; exact Ext.one _ _
  have hb1 : W1.heap[w.heap.size]? = some (En.o ⟨3, a, n⟩) := by rw [hW1]; exact World.alloc_heap_new _ _
  obtain ⟨x0, x1, x2, xl⟩ := En.o_cells hb1
  have hT1 := hT.ext hx1
  obtain ⟨s0, s1, s2⟩ := hT1.s.k3
  have sl := hT1.s.lt
  dsimp only at x0 x1 x2
  have HX1 := Lib.hid hx1
  have HB1 := Lib.hid hb1
  have HT := Lib.hid (fun v (k : Ext W1 v) => hT1.ext k)
  have HW := Lib.hid hW1
  have HA := Lib.hid ha
  have HN := Lib.hid hn
  have la := itoa_len ha
  have ln := itoa_len hn
  have HLL := Lib.hid (show (Lib.join [wdE 3, Lib.itoa n] [32]).length ≤ 1000 by rw [Lib.join_length]; simp [Lib.lens, wdE]; omega)
  clear hx1 hb1 hW1 hT hT1 ha hn la ln
  go_enter Tryd.func36, Tryd.ntmps36
  go_upto_region 1 with (fail)
  change Code.wp _ _ _ _ (w.alloc (En.o ⟨3, a, n⟩))
  rw [← HW.out]
  generalize hbx : w.heap.size = bx at *
  clear HW
  obtain ⟨W2, hW2⟩ : ∃ W2, W2 = W1.alloc (.cells #[.string ⟨#[116, 105, 99, 107]⟩, .bool false, .bool true] 92 (0, 0)) := ⟨_, rfl⟩
  have hx2 : Ext W1 W2 := by rw [hW2]; exact Ext.one _ _
  have hz2' : W2.heap.size = W1.heap.size + 1 := by rw [hW2]; simp
  have HF := Lib.hid (fun (v : World) (k : Ext W2 v) => show v.cell? ⟨W1.heap.size, 1, none⟩ = some (.bool false) ∧ v.cell? ⟨W1.heap.size, 2, none⟩ = some (.bool true) ∧ v.cell? ⟨bx, 1, none⟩ = some (.int .i64 a) ∧ v.cell? ⟨bx, 2, none⟩ = some (.int .i64 n) ∧ W1.heap.size < v.heap.size ∧ bx < v.heap.size by
    have kk := (k.kept (fun _ _ => true))
    have k2 := (hx2.trans k).kept (fun _ _ => true)
    have hb2 : W2.heap[W1.heap.size]? = some (.cells #[.string ⟨#[116, 105, 99, 107]⟩, .bool false, .bool true] 92 (0, 0)) := by rw [hW2]; exact World.alloc_heap_new _ _
    have hz := k.size
    refine ⟨kk.cell (by simp [World.cell?, hb2]) fun _ _ => rfl, kk.cell (by simp [World.cell?, hb2]) fun _ _ => rfl, k2.cell x1 fun _ _ => rfl, k2.cell x2 fun _ _ => rfl, by omega, by omega⟩)
  obtain ⟨W3, hW3⟩ : ∃ W3, W3 = W2.alloc (.cells #[.string ⟨#[116, 105, 99, 107]⟩] 9 (0, 0)) := ⟨_, rfl⟩
  have hx3 : Ext W2 W3 := by rw [hW3]; exact Ext.one _ _
  have hr3 : W3.heap[W2.heap.size]? = some (.cells #[sL (wdE 3)] 9 (0, 0)) := by rw [hW3]; exact World.alloc_heap_new _ _
  have ho3 : W3.ownsRow W2.heap.size 9 1 (.slice (some ⟨W2.heap.size, 0, none⟩) 1 1) 1 (rowV sL [wdE 3]) := own_new1 hr3 (Nat.le_refl _)
  have HX3 := Lib.hid hx3
  have HK2 := Lib.hid hx2
  have HO3 := Lib.hid ho3
  have HZ2 := Lib.hid hz2'
  have HW3 := Lib.hid (show W3 = (W1.alloc (.cells #[.string ⟨#[116, 105, 99, 107]⟩, .bool false, .bool true] 92 (0, 0))).alloc (.cells #[.string ⟨#[116, 105, 99, 107]⟩] 9 (0, 0)) by rw [hW3, hW2])
  clear hx2 hz2' hW2 hW3 hx3 hr3 ho3
  go_upto_region 3 with (fail)
  change Code.wp _ _ _ _ ((W1.alloc (.cells #[.string ⟨#[116, 105, 99, 107]⟩, .bool false, .bool true] 92 (0, 0))).alloc (.cells #[.string ⟨#[116, 105, 99, 107]⟩] 9 (0, 0)))
  rw [← HW3.out]
  have ez := HZ2.out
  rw [← ez]
  clear s0 s1 s2 sl x0 x1 x2 xl HW3 ez
  obtain ⟨f1, f2, f3, f4, f5, f6⟩ := HF.out _ HX3.out
  go_upto_region 7 with (first
    | (go_at_call 56; refine (fmt_ok (HT.out _ (HK2.out.trans HX3.out)) HN.out).mono ?_; rintro e w4 ⟨rfl, hx⟩; have HX4 := Lib.hid (HX3.out.trans hx); have HR4 := Lib.hid ((hx.kept (fun _ _ => true)).row HO3.out fun _ _ => rfl); clear hx f1 f2 f3 f4 f5 f6; obtain ⟨f1, f2, f3, f4, f5, f6⟩ := HF.out _ HX4.out)
    | (at_builtin; refine wpList_append_any rfl _ _ 35 rfl W2.heap.size 9 i0 (.string ⟨#[]⟩) 1 16 Tryd.underlying35 hi0 hz0 hz1 hz2 rfl (by decide) (.slice (some ⟨W2.heap.size, 0, none⟩) 1 1) 1 (rowV sL [wdE 3]) rfl (((Ext.one w4 (.cells #[.string ⟨(Lib.itoa n).toArray⟩] 9 (0, 0))).kept (fun _ _ => true)).row HR4.out fun _ _ => rfl) (.slice (some ⟨w4.heap.size, 0, none⟩) 1 1) 1 [sL (Lib.itoa n)] rfl rfl (.inr ⟨_, _, rfl, World.news_of_block (World.alloc_heap_new w4 _)⟩) (by simp [Value.oneCell', sL]) (by unfold maxLen; omega) (by omega) (by have := HX4.out.size; simp; omega) 2 rfl (rowV sL [wdE 3, Lib.itoa n]) rfl ?_; intro A5 c5 w5 hown hgrow hat; have HX5 := Lib.hid (grown_ext (HX4.out.trans (Ext.one w4 (.cells #[.string ⟨(Lib.itoa n).toArray⟩] 9 (0, 0)))) hgrow fun b hb => own_base HR4.out b hb); have HO5 := Lib.hid hown; clear hown hgrow hat f1 f2 f3 f4 f5 f6; obtain ⟨f1, f2, f3, f4, f5, f6⟩ := HF.out _ HX5.out))
  have HJ := Lib.hid (join_ok (ws := [wdE 3, Lib.itoa n]) HO5.out (by simp) (by simp) HLL.out)
  clear f1 f2 f3 f4 f5 f6
  obtain ⟨f1, f2, f3, f4, f5, f6⟩ := HF.out _ HX5.out
  go_wp2_with (go_at_call 57; refine HJ.out.mono ?_; rintro e wj ⟨rfl, hxj⟩; have HXJ := Lib.hid hxj; clear hxj)
  go_ret
  exact ⟨rfl, HX1.out.trans (HK2.out.trans (HX5.out.trans HXJ.out))⟩
set_option maxHeartbeats 2000000 in
set_option maxRecDepth 100000 in
theorem line_4 (hT : TabA w) {a n : Int} (ha : i64 a) (hn : i64 n) : Calls Tryd.prog 36 #[.agg #[.int .i64 4, .int .i64 a, .int .i64 n]] w fun r w' => r = .returned (.string ⟨(lnE ⟨4, a, n⟩).toArray⟩) ∧ Ext w w' := by
  obtain ⟨i0, hi0, hz0, hz1, hz2⟩ := infoParts infoStr
  obtain ⟨W1, hW1⟩ : ∃ W1, W1 = w.alloc (En.o ⟨4, a, n⟩) := ⟨_, rfl⟩
  have hx1 : Ext w W1 := by rw [hW1]; exact Ext.one _ _
  have hb1 : W1.heap[w.heap.size]? = some (En.o ⟨4, a, n⟩) := by rw [hW1]; exact World.alloc_heap_new _ _
  obtain ⟨x0, x1, x2, xl⟩ := En.o_cells hb1
  have hT1 := hT.ext hx1
  obtain ⟨s0, s1, s2⟩ := hT1.s.k4
  have sl := hT1.s.lt
  dsimp only at x0 x1 x2
  have HX1 := Lib.hid hx1
  have HB1 := Lib.hid hb1
  have HT := Lib.hid (fun v (k : Ext W1 v) => hT1.ext k)
  have HW := Lib.hid hW1
  have HA := Lib.hid ha
  have HN := Lib.hid hn
  have la := itoa_len ha
  have ln := itoa_len hn
  have HLL := Lib.hid (show (Lib.join [wdE 4, Lib.itoa a, Lib.itoa n] [32]).length ≤ 1000 by rw [Lib.join_length]; simp [Lib.lens, wdE]; omega)
  clear hx1 hb1 hW1 hT hT1 ha hn la ln
  go_enter Tryd.func36, Tryd.ntmps36
  go_upto_region 1 with (fail)
  change Code.wp _ _ _ _ (w.alloc (En.o ⟨4, a, n⟩))
  rw [← HW.out]
  generalize hbx : w.heap.size = bx at *
  clear HW
  obtain ⟨W2, hW2⟩ : ∃ W2, W2 = W1.alloc (.cells #[.string ⟨#[105, 110, 106, 101, 99, 116]⟩, .bool true, .bool true] 92 (0, 0)) := ⟨_, rfl⟩
  have hx2 : Ext W1 W2 := by rw [hW2]; exact Ext.one _ _
  have hz2' : W2.heap.size = W1.heap.size + 1 := by rw [hW2]; simp
  have HF := Lib.hid (fun (v : World) (k : Ext W2 v) => show v.cell? ⟨W1.heap.size, 1, none⟩ = some (.bool true) ∧ v.cell? ⟨W1.heap.size, 2, none⟩ = some (.bool true) ∧ v.cell? ⟨bx, 1, none⟩ = some (.int .i64 a) ∧ v.cell? ⟨bx, 2, none⟩ = some (.int .i64 n) ∧ W1.heap.size < v.heap.size ∧ bx < v.heap.size by
    have kk := (k.kept (fun _ _ => true))
    have k2 := (hx2.trans k).kept (fun _ _ => true)
    have hb2 : W2.heap[W1.heap.size]? = some (.cells #[.string ⟨#[105, 110, 106, 101, 99, 116]⟩, .bool true, .bool true] 92 (0, 0)) := by rw [hW2]; exact World.alloc_heap_new _ _
    have hz := k.size
    refine ⟨kk.cell (by simp [World.cell?, hb2]) fun _ _ => rfl, kk.cell (by simp [World.cell?, hb2]) fun _ _ => rfl, k2.cell x1 fun _ _ => rfl, k2.cell x2 fun _ _ => rfl, by omega, by omega⟩)
  obtain ⟨W3, hW3⟩ : ∃ W3, W3 = W2.alloc (.cells #[.string ⟨#[105, 110, 106, 101, 99, 116]⟩] 9 (0, 0)) := ⟨_, rfl⟩
  have hx3 : Ext W2 W3 := by rw [hW3]; exact Ext.one _ _
  have hr3 : W3.heap[W2.heap.size]? = some (.cells #[sL (wdE 4)] 9 (0, 0)) := by rw [hW3]; exact World.alloc_heap_new _ _
  have ho3 : W3.ownsRow W2.heap.size 9 1 (.slice (some ⟨W2.heap.size, 0, none⟩) 1 1) 1 (rowV sL [wdE 4]) := own_new1 hr3 (Nat.le_refl _)
  have HX3 := Lib.hid hx3
  have HK2 := Lib.hid hx2
  have HO3 := Lib.hid ho3
  have HZ2 := Lib.hid hz2'
  have HW3 := Lib.hid (show W3 = (W1.alloc (.cells #[.string ⟨#[105, 110, 106, 101, 99, 116]⟩, .bool true, .bool true] 92 (0, 0))).alloc (.cells #[.string ⟨#[105, 110, 106, 101, 99, 116]⟩] 9 (0, 0)) by rw [hW3, hW2])
  clear hx2 hz2' hW2 hW3 hx3 hr3 ho3
  go_upto_region 3 with (fail)
  change Code.wp _ _ _ _ ((W1.alloc (.cells #[.string ⟨#[105, 110, 106, 101, 99, 116]⟩, .bool true, .bool true] 92 (0, 0))).alloc (.cells #[.string ⟨#[105, 110, 106, 101, 99, 116]⟩] 9 (0, 0)))
  rw [← HW3.out]
  have ez := HZ2.out
  rw [← ez]
  clear s0 s1 s2 sl x0 x1 x2 xl HW3 ez
  obtain ⟨f1, f2, f3, f4, f5, f6⟩ := HF.out _ HX3.out
  go_upto_region 5 with (first
    | (go_at_call 51; refine (itoa_ok (HT.out _ (HK2.out.trans HX3.out)) HA.out).mono ?_; rintro e w4 ⟨rfl, hx⟩; have HX4 := Lib.hid (HX3.out.trans hx); have HR4 := Lib.hid ((hx.kept (fun _ _ => true)).row HO3.out fun _ _ => rfl); clear hx f1 f2 f3 f4 f5 f6; obtain ⟨f1, f2, f3, f4, f5, f6⟩ := HF.out _ HX4.out)
    | (at_builtin; refine wpList_append_any rfl _ _ 35 rfl W2.heap.size 9 i0 (.string ⟨#[]⟩) 1 16 Tryd.underlying35 hi0 hz0 hz1 hz2 rfl (by decide) (.slice (some ⟨W2.heap.size, 0, none⟩) 1 1) 1 (rowV sL [wdE 4]) rfl (((Ext.one w4 (.cells #[.string ⟨(Lib.itoa a).toArray⟩] 9 (0, 0))).kept (fun _ _ => true)).row HR4.out fun _ _ => rfl) (.slice (some ⟨w4.heap.size, 0, none⟩) 1 1) 1 [sL (Lib.itoa a)] rfl rfl (.inr ⟨_, _, rfl, World.news_of_block (World.alloc_heap_new w4 _)⟩) (by simp [Value.oneCell', sL]) (by unfold maxLen; omega) (by omega) (by have := HX4.out.size; simp; omega) 2 rfl (rowV sL [wdE 4, Lib.itoa a]) rfl ?_; intro A5 c5 w5 hown hgrow hat; have HX5 := Lib.hid (grown_ext (HX4.out.trans (Ext.one w4 (.cells #[.string ⟨(Lib.itoa a).toArray⟩] 9 (0, 0)))) hgrow fun b hb => own_base HR4.out b hb); have HO5 := Lib.hid hown; clear hown hgrow hat f1 f2 f3 f4 f5 f6; obtain ⟨f1, f2, f3, f4, f5, f6⟩ := HF.out _ HX5.out))
  go_upto_region 7 with (first
    | (go_at_call 56; refine (fmt_ok (HT.out _ (HK2.out.trans HX5.out)) HN.out).mono ?_; rintro e w6 ⟨rfl, hx⟩; have HX6 := Lib.hid (HX5.out.trans hx); have HR6 := Lib.hid ((hx.kept (fun _ _ => true)).row HO5.out fun _ _ => rfl); clear hx f1 f2 f3 f4 f5 f6; obtain ⟨f1, f2, f3, f4, f5, f6⟩ := HF.out _ HX6.out)
    | (at_builtin; refine wpList_append_any rfl _ _ 35 rfl W2.heap.size 9 i0 (.string ⟨#[]⟩) 1 16 Tryd.underlying35 hi0 hz0 hz1 hz2 rfl (by decide) (.slice A5 2 c5) 2 (rowV sL [wdE 4, Lib.itoa a]) rfl (((Ext.one w6 (.cells #[.string ⟨(Lib.itoa n).toArray⟩] 9 (0, 0))).kept (fun _ _ => true)).row HR6.out fun _ _ => rfl) (.slice (some ⟨w6.heap.size, 0, none⟩) 1 1) 1 [sL (Lib.itoa n)] rfl rfl (.inr ⟨_, _, rfl, World.news_of_block (World.alloc_heap_new w6 _)⟩) (by simp [Value.oneCell', sL]) (by unfold maxLen; omega) (by omega) (by have := HX6.out.size; simp; omega) 3 rfl (rowV sL [wdE 4, Lib.itoa a, Lib.itoa n]) rfl ?_; intro A7 c7 w7 hown hgrow hat; have HX7 := Lib.hid (grown_ext (HX6.out.trans (Ext.one w6 (.cells #[.string ⟨(Lib.itoa n).toArray⟩] 9 (0, 0)))) hgrow fun b hb => own_base HR6.out b hb); have HO7 := Lib.hid hown; clear hown hgrow hat f1 f2 f3 f4 f5 f6; obtain ⟨f1, f2, f3, f4, f5, f6⟩ := HF.out _ HX7.out))
  have HJ := Lib.hid (join_ok (ws := [wdE 4, Lib.itoa a, Lib.itoa n]) HO7.out (by simp) (by simp) HLL.out)
  clear f1 f2 f3 f4 f5 f6
  obtain ⟨f1, f2, f3, f4, f5, f6⟩ := HF.out _ HX7.out
  go_wp2_with (go_at_call 57; refine HJ.out.mono ?_; rintro e wj ⟨rfl, hxj⟩; have HXJ := Lib.hid hxj; clear hxj)
  go_ret
  exact ⟨rfl, HX1.out.trans (HK2.out.trans (HX7.out.trans HXJ.out))⟩
set_option maxHeartbeats 2000000 in
set_option maxRecDepth 100000 in
theorem line_5 (hT : TabA w) {a n : Int} (ha : i64 a) (hn : i64 n) : Calls Tryd.prog 36 #[.agg #[.int .i64 5, .int .i64 a, .int .i64 n]] w fun r w' => r = .returned (.string ⟨(lnE ⟨5, a, n⟩).toArray⟩) ∧ Ext w w' := by
  obtain ⟨i0, hi0, hz0, hz1, hz2⟩ := infoParts infoStr
  obtain ⟨W1, hW1⟩ : ∃ W1, W1 = w.alloc (En.o ⟨5, a, n⟩) := ⟨_, rfl⟩
  have hx1 : Ext w W1 := by rw [hW1]; exact Ext.one _ _
  have hb1 : W1.heap[w.heap.size]? = some (En.o ⟨5, a, n⟩) := by rw [hW1]; exact World.alloc_heap_new _ _
  obtain ⟨x0, x1, x2, xl⟩ := En.o_cells hb1
  have hT1 := hT.ext hx1
  obtain ⟨s0, s1, s2⟩ := hT1.s.k5
  have sl := hT1.s.lt
  dsimp only at x0 x1 x2
  have HX1 := Lib.hid hx1
  have HB1 := Lib.hid hb1
  have HT := Lib.hid (fun v (k : Ext W1 v) => hT1.ext k)
  have HW := Lib.hid hW1
  have HA := Lib.hid ha
  have HN := Lib.hid hn
  have la := itoa_len ha
  have ln := itoa_len hn
  have HLL := Lib.hid (show (Lib.join [wdE 5, Lib.itoa a, Lib.itoa n] [32]).length ≤ 1000 by rw [Lib.join_length]; simp [Lib.lens, wdE]; omega)
  clear hx1 hb1 hW1 hT hT1 ha hn la ln
  go_enter Tryd.func36, Tryd.ntmps36
  go_upto_region 1 with (fail)
  change Code.wp _ _ _ _ (w.alloc (En.o ⟨5, a, n⟩))
  rw [← HW.out]
  generalize hbx : w.heap.size = bx at *
  clear HW
  obtain ⟨W2, hW2⟩ : ∃ W2, W2 = W1.alloc (.cells #[.string ⟨#[108, 105, 102, 101]⟩, .bool true, .bool true] 92 (0, 0)) := ⟨_, rfl⟩
  have hx2 : Ext W1 W2 := by rw [hW2]; exact Ext.one _ _
  have hz2' : W2.heap.size = W1.heap.size + 1 := by rw [hW2]; simp
  have HF := Lib.hid (fun (v : World) (k : Ext W2 v) => show v.cell? ⟨W1.heap.size, 1, none⟩ = some (.bool true) ∧ v.cell? ⟨W1.heap.size, 2, none⟩ = some (.bool true) ∧ v.cell? ⟨bx, 1, none⟩ = some (.int .i64 a) ∧ v.cell? ⟨bx, 2, none⟩ = some (.int .i64 n) ∧ W1.heap.size < v.heap.size ∧ bx < v.heap.size by
    have kk := (k.kept (fun _ _ => true))
    have k2 := (hx2.trans k).kept (fun _ _ => true)
    have hb2 : W2.heap[W1.heap.size]? = some (.cells #[.string ⟨#[108, 105, 102, 101]⟩, .bool true, .bool true] 92 (0, 0)) := by rw [hW2]; exact World.alloc_heap_new _ _
    have hz := k.size
    refine ⟨kk.cell (by simp [World.cell?, hb2]) fun _ _ => rfl, kk.cell (by simp [World.cell?, hb2]) fun _ _ => rfl, k2.cell x1 fun _ _ => rfl, k2.cell x2 fun _ _ => rfl, by omega, by omega⟩)
  obtain ⟨W3, hW3⟩ : ∃ W3, W3 = W2.alloc (.cells #[.string ⟨#[108, 105, 102, 101]⟩] 9 (0, 0)) := ⟨_, rfl⟩
  have hx3 : Ext W2 W3 := by rw [hW3]; exact Ext.one _ _
  have hr3 : W3.heap[W2.heap.size]? = some (.cells #[sL (wdE 5)] 9 (0, 0)) := by rw [hW3]; exact World.alloc_heap_new _ _
  have ho3 : W3.ownsRow W2.heap.size 9 1 (.slice (some ⟨W2.heap.size, 0, none⟩) 1 1) 1 (rowV sL [wdE 5]) := own_new1 hr3 (Nat.le_refl _)
  have HX3 := Lib.hid hx3
  have HK2 := Lib.hid hx2
  have HO3 := Lib.hid ho3
  have HZ2 := Lib.hid hz2'
  have HW3 := Lib.hid (show W3 = (W1.alloc (.cells #[.string ⟨#[108, 105, 102, 101]⟩, .bool true, .bool true] 92 (0, 0))).alloc (.cells #[.string ⟨#[108, 105, 102, 101]⟩] 9 (0, 0)) by rw [hW3, hW2])
  clear hx2 hz2' hW2 hW3 hx3 hr3 ho3
  go_upto_region 3 with (fail)
  change Code.wp _ _ _ _ ((W1.alloc (.cells #[.string ⟨#[108, 105, 102, 101]⟩, .bool true, .bool true] 92 (0, 0))).alloc (.cells #[.string ⟨#[108, 105, 102, 101]⟩] 9 (0, 0)))
  rw [← HW3.out]
  have ez := HZ2.out
  rw [← ez]
  clear s0 s1 s2 sl x0 x1 x2 xl HW3 ez
  obtain ⟨f1, f2, f3, f4, f5, f6⟩ := HF.out _ HX3.out
  go_upto_region 5 with (first
    | (go_at_call 51; refine (itoa_ok (HT.out _ (HK2.out.trans HX3.out)) HA.out).mono ?_; rintro e w4 ⟨rfl, hx⟩; have HX4 := Lib.hid (HX3.out.trans hx); have HR4 := Lib.hid ((hx.kept (fun _ _ => true)).row HO3.out fun _ _ => rfl); clear hx f1 f2 f3 f4 f5 f6; obtain ⟨f1, f2, f3, f4, f5, f6⟩ := HF.out _ HX4.out)
    | (at_builtin; refine wpList_append_any rfl _ _ 35 rfl W2.heap.size 9 i0 (.string ⟨#[]⟩) 1 16 Tryd.underlying35 hi0 hz0 hz1 hz2 rfl (by decide) (.slice (some ⟨W2.heap.size, 0, none⟩) 1 1) 1 (rowV sL [wdE 5]) rfl (((Ext.one w4 (.cells #[.string ⟨(Lib.itoa a).toArray⟩] 9 (0, 0))).kept (fun _ _ => true)).row HR4.out fun _ _ => rfl) (.slice (some ⟨w4.heap.size, 0, none⟩) 1 1) 1 [sL (Lib.itoa a)] rfl rfl (.inr ⟨_, _, rfl, World.news_of_block (World.alloc_heap_new w4 _)⟩) (by simp [Value.oneCell', sL]) (by unfold maxLen; omega) (by omega) (by have := HX4.out.size; simp; omega) 2 rfl (rowV sL [wdE 5, Lib.itoa a]) rfl ?_; intro A5 c5 w5 hown hgrow hat; have HX5 := Lib.hid (grown_ext (HX4.out.trans (Ext.one w4 (.cells #[.string ⟨(Lib.itoa a).toArray⟩] 9 (0, 0)))) hgrow fun b hb => own_base HR4.out b hb); have HO5 := Lib.hid hown; clear hown hgrow hat f1 f2 f3 f4 f5 f6; obtain ⟨f1, f2, f3, f4, f5, f6⟩ := HF.out _ HX5.out))
  go_upto_region 7 with (first
    | (go_at_call 56; refine (fmt_ok (HT.out _ (HK2.out.trans HX5.out)) HN.out).mono ?_; rintro e w6 ⟨rfl, hx⟩; have HX6 := Lib.hid (HX5.out.trans hx); have HR6 := Lib.hid ((hx.kept (fun _ _ => true)).row HO5.out fun _ _ => rfl); clear hx f1 f2 f3 f4 f5 f6; obtain ⟨f1, f2, f3, f4, f5, f6⟩ := HF.out _ HX6.out)
    | (at_builtin; refine wpList_append_any rfl _ _ 35 rfl W2.heap.size 9 i0 (.string ⟨#[]⟩) 1 16 Tryd.underlying35 hi0 hz0 hz1 hz2 rfl (by decide) (.slice A5 2 c5) 2 (rowV sL [wdE 5, Lib.itoa a]) rfl (((Ext.one w6 (.cells #[.string ⟨(Lib.itoa n).toArray⟩] 9 (0, 0))).kept (fun _ _ => true)).row HR6.out fun _ _ => rfl) (.slice (some ⟨w6.heap.size, 0, none⟩) 1 1) 1 [sL (Lib.itoa n)] rfl rfl (.inr ⟨_, _, rfl, World.news_of_block (World.alloc_heap_new w6 _)⟩) (by simp [Value.oneCell', sL]) (by unfold maxLen; omega) (by omega) (by have := HX6.out.size; simp; omega) 3 rfl (rowV sL [wdE 5, Lib.itoa a, Lib.itoa n]) rfl ?_; intro A7 c7 w7 hown hgrow hat; have HX7 := Lib.hid (grown_ext (HX6.out.trans (Ext.one w6 (.cells #[.string ⟨(Lib.itoa n).toArray⟩] 9 (0, 0)))) hgrow fun b hb => own_base HR6.out b hb); have HO7 := Lib.hid hown; clear hown hgrow hat f1 f2 f3 f4 f5 f6; obtain ⟨f1, f2, f3, f4, f5, f6⟩ := HF.out _ HX7.out))
  have HJ := Lib.hid (join_ok (ws := [wdE 5, Lib.itoa a, Lib.itoa n]) HO7.out (by simp) (by simp) HLL.out)
  clear f1 f2 f3 f4 f5 f6
  obtain ⟨f1, f2, f3, f4, f5, f6⟩ := HF.out _ HX7.out
  go_wp2_with (go_at_call 57; refine HJ.out.mono ?_; rintro e wj ⟨rfl, hxj⟩; have HXJ := Lib.hid hxj; clear hxj)
  go_ret
  exact ⟨rfl, HX1.out.trans (HK2.out.trans (HX7.out.trans HXJ.out))⟩
theorem line_ok (hT : TabA w) {e : En} (ok : e.ok) (hk : 1 ≤ e.k ∧ e.k ≤ 5) : Calls Tryd.prog 36 #[e.v] w fun r w' => r = .returned (.string ⟨(lnE e).toArray⟩) ∧ Ext w w' := by
  obtain ⟨k, a, n⟩ := e
  obtain ⟨_, ha, hn⟩ := ok
  dsimp only at hk ha hn
  obtain rfl | rfl | rfl | rfl | rfl : k = 1 ∨ k = 2 ∨ k = 3 ∨ k = 4 ∨ k = 5 := by omega
  · exact line_1 hT ha hn
  · exact line_2 hT ha hn
  · exact line_3 hT ha hn
  · exact line_4 hT ha hn
  · exact line_5 hT ha hn
end
end Go.Proofs.YtkljdpjdlccidaaDoor
