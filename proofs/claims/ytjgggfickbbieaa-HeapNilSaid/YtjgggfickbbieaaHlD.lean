/- The law's do: Object. -/
import Derived.Test.YtjgggfickbbieaaHlC
namespace Go.Proofs.Ytjgggfickbbieaa
open Go.RowKit Go.Shelf
attribute [local go_sem] Oper.semAt_some
theorem sameOb_self {x y : Ob} (h : x.key = y.key) : sameOb x y = true := decide_eq_true h
section
variable {oP oR : Nat → Bool} {bh bw : Nat} {ps : List Nat} {L M : List Ob} {W : World}
set_option maxHeartbeats 4000000 in
set_option maxRecDepth 100000 in
theorem do_obj_no (h : Both oP oR bh bw ps L M W) (a : ActD) (hk : a.k = 6) (hn : hasO L a.id = false) :
    Calls Try.prog 10 (argsD bh bw a) W fun e W' => e = .returned (.bool true) ∧ Next2 oP oR bh bw W W' := by
  unfold argsD
  obtain ⟨k, wh, oo, sz, si, bb, id, aa, n, A, m, c⟩ := a
  dsimp only at hk hn ⊢
  subst hk
  obtain ⟨a, ha⟩ : ∃ a : ActD, a = ⟨6, wh, oo, sz, si, bb, id, aa, n, A, m, c⟩ := ⟨_, rfl⟩
  obtain ⟨W1, hW1⟩ : ∃ W1, W1 = W.alloc (acto a) := ⟨_, rfl⟩
  have hE1 : Ext W W1 := by rw [hW1]; exact Ext.one _ _
  have hr1 : W1.heap[W.heap.size]? = some (acto a) := by rw [hW1]; exact World.alloc_heap_new _ _
  have h1 := h.ext hE1
  obtain ⟨x0, _, _, _, _, _, x6, _, _, _, xl⟩ := acto_cells hr1
  rw [ha] at x0 x6
  have HOB := Lib.hid (Object_no h1.p hn)
  have HE1 := Lib.hid hE1
  have HR1 := Lib.hid hr1
  have HW := Lib.hid hW1
  have HH := Lib.hid h
  have HA := Lib.hid ha
  rw [hasO_eq h.key] at hn
  have HN := Lib.hid hn
  clear h h1 hE1 hr1 hW1 ha hn
  dsimp only at x0 x6
  go_enter Try.func10, Try.ntmps10
  go_upto_region 1 with (fail)
  change Code.wp _ _ _ _ (W.alloc (acto ⟨6, wh, oo, sz, si, bb, id, aa, n, A, m, c⟩))
  rw [← HA.out, ← HW.out]
  go_upto_region 25 with (go_at_call 17; refine HOB.out.mono ?_; rintro e w3 ⟨rfl, hx3⟩; have HX3 := Lib.hid hx3; clear hx3 x0 x6)
  obtain ⟨w4, hw4⟩ : ∃ w4, w4 = w3.alloc zeroO := ⟨_, rfl⟩
  change Code.wp _ _ _ _ (w3.alloc zeroO)
  rw [← hw4]
  have hx4 : Ext w3 w4 := by rw [hw4]; exact Ext.one _ _
  have hb4 : w4.heap[w3.heap.size]? = some (obo ⟨0, 0, .slice none 0 0, [], 0, 0, 0⟩ 0) := by rw [hw4]; exact World.alloc_heap_new _ _
  have hxx := (HE1.out.trans HX3.out).trans hx4
  have hr4 := ((HX3.out.trans hx4).kept (fun _ _ => true)).same _ _ HR1.out rfl
  obtain ⟨_, _, _, _, _, _, x6, _, _, _, xl⟩ := acto_cells hr4
  rw [HA.out] at x6
  dsimp only at x6
  obtain ⟨⟨z0, z1, z2, z3, z4, z5⟩, zf, zl⟩ := obo_cells hb4
  dsimp only at z0 z1 z2 z3 z4 z5
  have hhas := refHas_ok (HH.out.r.ext hxx) id
  rw [HN.out] at hhas
  have HHAS := Lib.hid hhas
  have HSO := Lib.hid (refSameOb_ok (W := w4) ⟨0, 0, .slice none 0 0, [], 0, 0, 0⟩ ⟨0, 0, .slice none 0 0, [], 0, 0, 0⟩ (B1 := 0) (B2 := 0) (World.ownsRow_nil _ _ _ _) (World.ownsRow_nil _ _ _ _) (by simp) (by simp))
  rw [sameOb_self rfl] at HSO
  have HXX := Lib.hid hxx
  clear hw4 hx4 hb4 hxx hr4 hhas
  go_wp2_with (first
    | (go_at_call 31; refine HHAS.out.mono ?_; rintro e w5 ⟨rfl, rfl⟩)
    | (go_at_call 32; refine HSO.out.mono ?_; rintro e w6 ⟨rfl, hx6⟩; have HX6 := Lib.hid hx6; clear hx6))
  go_ret
  exact ⟨rfl, HH.out.same (HXX.out.trans HX6.out)⟩
set_option maxHeartbeats 4000000 in
set_option maxRecDepth 100000 in
theorem do_obj_yes (h : Both oP oR bh bw ps L M W) (a : ActD) (hk : a.k = 6) (hn : hasO L a.id = true) :
    Calls Try.prog 10 (argsD bh bw a) W fun e W' => e = .returned (.bool true) ∧ Next2 oP oR bh bw W W' := by
  unfold argsD
  obtain ⟨k, wh, oo, sz, si, bb, id, aa, n, A, m, c⟩ := a
  dsimp only at hk hn ⊢
  subst hk
  have hn2 := hn
  rw [hasO_eq h.key] at hn2
  obtain ⟨i, hi, rfl, _⟩ := hasO_true hn
  obtain ⟨a, ha⟩ : ∃ a : ActD, a = ⟨6, wh, oo, sz, si, bb, (i : Int) + 1, aa, n, A, m, c⟩ := ⟨_, rfl⟩
  obtain ⟨W1, hW1⟩ : ∃ W1, W1 = W.alloc (acto a) := ⟨_, rfl⟩
  have hE1 : Ext W W1 := by rw [hW1]; exact Ext.one _ _
  have hr1 : W1.heap[W.heap.size]? = some (acto a) := by rw [hW1]; exact World.alloc_heap_new _ _
  have h1 := h.ext hE1
  obtain ⟨x0, _, _, _, _, _, x6, _, _, _, xl⟩ := acto_cells hr1
  rw [ha] at x0 x6
  have hiM : i < M.length := by rw [← key_len h.key]; exact hi
  have hlM := h.r.len
  have HOB := Lib.hid (Object_yes h1.p hi)
  have hkey := key_nt h.key i
  have HE1 := Lib.hid hE1
  have HR1 := Lib.hid hr1
  have HW := Lib.hid hW1
  have HH := Lib.hid h
  have HA := Lib.hid ha
  have HN := Lib.hid hn2
  have HKEY := Lib.hid hkey
  have hwd := h.p.wid i hi
  clear h h1 hE1 hr1 hW1 ha hn hn2 hkey
  dsimp only at x0 x6
  generalize hx : nt L i = x at *
  clear hx
  go_enter Try.func10, Try.ntmps10
  go_upto_region 1 with (fail)
  change Code.wp _ _ _ _ (W.alloc (acto ⟨6, wh, oo, sz, si, bb, (i : Int) + 1, aa, n, A, m, c⟩))
  rw [← HA.out, ← HW.out]
  go_upto_region 25 with (go_at_call 17; refine HOB.out.mono ?_; rintro e w3 ⟨A3, c3, rfl, hx3, ho3⟩; have HX3 := Lib.hid hx3; have HO3 := Lib.hid ho3; clear hx3 ho3 x0 x6)
  obtain ⟨w4, hw4⟩ : ∃ w4, w4 = w3.alloc (obo { x with v := .slice A3 x.vals.length c3 } x.nth) := ⟨_, rfl⟩
  change Code.wp _ _ _ _ (w3.alloc (obo { x with v := .slice A3 x.vals.length c3 } x.nth))
  rw [← hw4]
  have hx4 : Ext w3 w4 := by rw [hw4]; exact Ext.one _ _
  have hb4 : w4.heap[w3.heap.size]? = some (obo { x with v := .slice A3 x.vals.length c3 } x.nth) := by rw [hw4]; exact World.alloc_heap_new _ _
  have ho4 := (hx4.kept (fun _ _ => true)).row HO3.out fun _ _ => rfl
  have hxx := (HE1.out.trans HX3.out).trans hx4
  have hr4 := ((HX3.out.trans hx4).kept (fun _ _ => true)).same _ _ HR1.out rfl
  obtain ⟨_, _, _, _, _, _, x6, _, _, _, xl⟩ := acto_cells hr4
  rw [HA.out] at x6
  dsimp only at x6
  obtain ⟨⟨z0, z1, z2, z3, z4, z5⟩, zf, zl⟩ := obo_cells hb4
  dsimp only at z0 z1 z2 z3 z4 z5
  have hR4 := HH.out.r.ext hxx
  have hhas := refHas_ok hR4 ((i : Int) + 1)
  rw [HN.out] at hhas
  obtain ⟨vM, e1, e2, _⟩ := hR4.ex
  obtain ⟨g, cM, rfl, d0, d1, d2, d3, d4, d5⟩ := own6_cells e2 hiM
  obtain ⟨A6, c6, hv6⟩ := own_slice3 (hR4.vs i hiM)
  have b0 : w4.cell? ⟨bw, 0, none⟩ = some (.slice (some ⟨g, 0, none⟩) M.length cM) := by simp [World.cell?, e1]
  have lb := (Array.getElem?_eq_some_iff.1 e1).1
  have hso := refSameOb_ok (W := w4.drew) { x with v := .slice A3 x.vals.length c3 } (nt M i) ho4.drew (((Ext.drew w4).kept (fun _ _ => true)).row (hR4.vs i hiM) fun _ _ => rfl) hwd (hR4.wid i hiM)
  rw [sameOb_self (show ({ x with v := .slice A3 x.vals.length c3 } : Ob).key = (nt M i).key from HKEY.out)] at hso
  dsimp only at hso
  rw [hv6] at d2 hso
  have hil : (i : Int) < (M.length : Int) := by omega
  have hsz4 : W.heap.size ≤ w3.heap.size := (HE1.out.trans HX3.out).size
  have hs1 := HE1.out.size
  have HHAS := Lib.hid hhas
  have HSO := Lib.hid hso
  have HXX := Lib.hid hxx
  have HO4 := Lib.hid ho4
  have HB4 := Lib.hid hb4
  clear hw4 hx4 hb4 hxx hr4 hhas hso hR4 e1 e2 hv6 ho4
  go_upto_region 27 with (go_at_call 31; refine HHAS.out.mono ?_; rintro e w5 ⟨rfl, rfl⟩)
  have hl0 : (0 : Int) ≤ (i : Int) := by omega
  have hw1 : IntKind.i64.wrap ((i : Int) + 1 - 1) = (i : Int) := by rw [IntKind.wrap_i64]; omega
  have hw2 : IntKind.i64.wrap (i : Int) = (i : Int) := by rw [IntKind.wrap_i64]; omega
  go_still_tail 13, (by kernel_rfl)
  clear hw1 hw2
  change wpList _ _ _ _ _ w5.drew
  go_wp2_with (go_at_call 32; refine HSO.out.mono ?_; rintro e w6 ⟨rfl, hx6⟩; have HX6 := Lib.hid ((Ext.drew w5).trans hx6); clear hx6 z0 z1 z2 z3 z4 z5 zf zl x6 d0 d1 d2 d3 d4 d5 b0 xl lb)
  go_loopg [24] x.vals.length (fun k v24 wr => ∃ (j : Nat) (l' : List Int), j + k = x.vals.length ∧ v24 = .int .i64 j ∧ l'.length = x.vals.length ∧ wr.ownsRow W1.heap.size 2 1 (.slice A3 x.vals.length c3) x.vals.length (rowI l') ∧ wr.heap[w3.heap.size]? = some (obo { x with v := .slice A3 x.vals.length c3 } x.nth) ∧ Kept (pOld W.heap.size) W wr)
  case atStart => exact ⟨0, x.vals, by omega, rfl, rfl, (HX6.out.kept (fun _ _ => true)).row HO4.out fun _ _ => rfl, (HX6.out.kept (fun _ _ => true)).same _ _ HB4.out rfl, HXX.out.trans HX6.out⟩
  case round =>
    obtain ⟨j, l', hjk, rfl, hl', hrow, hbx, hkp⟩ := hrel
    obtain ⟨⟨_, _, z2, _⟩, zf, zl⟩ := obo_cells hbx
    dsimp only at z2
    have HJK := Lib.hid hjk
    have HBX := Lib.hid hbx
    have HKP := Lib.hid hkp
    clear hjk hbx hkp
    by_cases hj : j < x.vals.length
    · rw [← hl'] at hrow
      obtain ⟨g5, c5, e5, hset, hfz, hg5, ⟨o5, hto, hta⟩, hk5⟩ := ownI_set hrow (show j < l'.length by omega) (wrap64 (l'[j]?.getD 0 + 1))
      obtain ⟨g6, c6', e6, dj⟩ := ownI_cell hrow (show j < l'.length by omega)
      rw [e5] at e6
      injection e6 with e6 _ e8
      injection e6 with e6
      injection e6 with e6
      subst e6 e8
      injection e5 with e5 _ e7
      subst e5 e7
      rw [hl'] at hset
      have hge := own_base hrow g5 rfl
      have hjl : (j : Int) < (x.vals.length : Int) := by omega
      have hne : w3.heap.size ≠ g5 := fun e => by
        have := HBX.out
        rw [e, hto] at this; cases this; simp [tag, obo] at hta
      have HSET := Lib.hid hset
      have HK5 := Lib.hid hk5
      have HNE := Lib.hid hne
      have HL := Lib.hid hl'
      clear hrow hset hk5 hl' hto hta hne
      go_wp2_with fail
      go_roundg (gk - 1)
      case measure => have := HJK.out; omega
      case rel => exact ⟨j + 1, _, by have := HJK.out; omega, by go_num, by simp [HL.out], HSET.out, HK5.out.same _ _ HBX.out (by simpa using HNE.out), HKP.out.trans (HK5.out.mono fun b t _ hp => by simp [pOld] at hp; simp; omega)⟩
    · have hjl : ¬ (j : Int) < (x.vals.length : Int) := by omega
      clear hrow hl'
      go_wp2_with fail
      go_ret
      exact ⟨rfl, HH.out.same HKP.out⟩
end
end Go.Proofs.Ytjgggfickbbieaa
