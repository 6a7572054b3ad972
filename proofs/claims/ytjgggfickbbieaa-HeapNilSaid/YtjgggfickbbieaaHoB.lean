/- HeapNil's walk. -/
import Derived.Test.YtjgggfickbbieaaHoA
namespace Go.Proofs.Ytjgggfickbbieaa
open Go.RowKit Go.Shelf
attribute [local go_sem] Oper.semAt_some
theorem nil_keys {L : List Ob} (h : L.map Ob.key = [newK [] 4 3 6 7 [4, 5]]) : getO L 1 1 = (5, 0) ∧ setE L 1 0 = 13 := by
  obtain ⟨x, rfl⟩ : ∃ x, L = [x] := List.length_eq_one_iff.1 (by have := congrArg List.length h; simpa using this)
  obtain ⟨k, o, v, vals, si, b, n⟩ := x
  simp [Ob.key, newK] at h
  obtain ⟨rfl, rfl, rfl, rfl, rfl, rfl⟩ := h
  exact ⟨by simp [getO, lenO, hasO, atO, nt], by simp [setE, lenO, hasO, atO, nt]⟩
set_option maxHeartbeats 4000000 in
set_option maxRecDepth 100000 in
theorem nil_walk (W : World) : Calls Try.prog 6 #[] W fun e W' => e = .returned (.bool true) ∧ Ext W W' := by
  refine (callsIn_wide (n := 3)).1 (callsIn_of_wp_marks (F := Fence.wide) Try.func6 rfl trivial ?_ rfl)
  simp only [Try.ntmps6, List.size_toArray, List.length_nil, Nat.reduceSub, Array.replicate_succ, Array.replicate_zero, List.push_toArray, List.append_toArray, List.nil_append, List.cons_append]
  refine wpIn_wide.2 ?_
  refine wp_mono (Q := noPanic (bodyPostM Fence.wide 3 Try.prog _ _)) ?_ noPanic_le
  generalize hQ : bodyPostM Fence.wide 3 Try.prog _ _ = Q
  have HQ := Lib.hid hQ
  clear hQ
  go_upto_region 1 with (fail)
  obtain ⟨W1, hW1⟩ : ∃ W1, W1 = W.alloc (.cells #[.bool false] 4) := ⟨_, rfl⟩
  rw [← hW1]
  have hE1 : Ext W W1 := by rw [hW1]; exact Ext.one _ _
  have h0 : W1.heap[W.heap.size]? = some (.cells #[.bool false] 4 (0, 0)) := by rw [hW1]; exact World.alloc_heap_new _ _
  have HX1 := Lib.hid hE1
  have H0 := Lib.hid h0
  clear hE1 h0 hW1
  go_upto_region 8 with (first
    | (go_at_call 14; have hs := HN2; refine (someNil _ _).mono ?_; rintro e w9 ⟨rfl, hw⟩; rw [hw]; clear hs hw)
    | (go_at_call 9; have hs := HS2; refine (New_ok _).mono ?_; rintro e w7 ⟨rfl, hx7, _⟩; have HN2 := Lib.hid (HN1.out.trans hx7); clear hx7 hs)
    | (go_at_call 14; have hs := HN1; refine (nilSome _ _).mono ?_; rintro e w9 ⟨rfl, hw⟩; rw [hw]; have HS2 := Lib.hid True.intro; clear hs hw)
    | (go_at_call 9; refine (New_ok _).mono ?_; rintro e w6 ⟨rfl, hx6, _⟩; have HN1 := Lib.hid ((HX2.out.trans (Ext.one _ _)).trans hx6); clear hx6)
    | (go_at_call 14; refine (nilSame _).mono ?_; rintro e w9 ⟨rfl, hw⟩; rw [hw]; clear hw)
    | (go_at_call 12; refine (nilCopy _).mono ?_; rintro e w9 ⟨rfl, hw⟩; rw [hw]; clear hw)
    | (go_at_call 18; refine (nilCount _).mono ?_; rintro e w9 ⟨rfl, hw⟩; rw [hw]; clear hw)
    | (go_at_call 23; refine (nilLen _ _).mono ?_; rintro e w9 ⟨rfl, hw⟩; rw [hw]; clear hw)
    | (go_at_call 22; refine (nilIs _ _ _).mono ?_; rintro e w9 ⟨rfl, hw⟩; rw [hw]; clear hw)
    | (go_at_call 21; refine (nilSet _ _ _ _).mono ?_; rintro e w9 ⟨rfl, hw⟩; rw [hw]; clear hw)
    | (go_at_call 17; refine (nilObject _ _).mono ?_; rintro e w2 ⟨rfl, hx2⟩; have HX2 := Lib.hid hx2; clear hx2)
    | (go_at_call 20; refine (nilGet _ _ _).mono ?_; rintro e w9 ⟨rfl, hw⟩; rw [hw]; clear hw)
    | (go_at_call 19; refine (nilClosure _ _ _ _ _ _ _).mono ?_; rintro e w9 ⟨rfl, hw⟩; rw [hw]; clear hw)
    | (go_at_call 16; refine (nilMake _ _ _ _ _ _).mono ?_; rintro e w9 ⟨rfl, hw⟩; rw [hw]; clear hw))
  clear HN1 HS2 HX2
  go_upto_region 10 with (go_at_call 24; refine (All_ok _ _).mono ?_; rintro e w8 ⟨rfl, hw⟩; have HX8 := Lib.hid (show Ext w7 w8 by rw [hw]; exact Ext.one _ _); clear hw)
  go_wp2_with (go_at_call 24; refine (All_ok _ _).mono ?_; rintro e w9 ⟨rfl, hw⟩; have HB9 := Lib.hid (show w9.heap[w8.heap.size]? = some (.cells #[.pointer none] 25 (0, 0)) by rw [hw]; exact World.alloc_heap_new _ _); have HX9 := Lib.hid (show Ext w8 w9 by rw [hw]; exact Ext.one _ _); clear hw)
  rename_i K9 hK9
  have HX19 := Lib.hid ((HN2.out.trans HX8.out).trans HX9.out)
  have HK9 := Lib.hid hK9
  clear HN2 HX8 hK9
  refine wpIn_wide.1 (range_q (n := 3) (gf := 43) (lb := #[.pointer (some ⟨w8.heap.size, 0, none⟩)]) rfl egAll (all_nil (enc := fun _ x _ => x.size = 2) (K := fun _ _ _ => true) HB9.out) (fun k x W' hx => hx)
    (fun k W' => Kept (pR w9.heap.size) w9 W')
    (fun c k W' => False)
    (fun s X Y h k => h.trans k)
    (fun c s X Y h k => h.elim)
    (Kept.refl _ _)
    (fun k x a' W' => True)
    (fun k x a' X Y h _ => h)
    (fun l k x W C hk => absurd hk (Nat.not_lt_zero _)) (fun l k x a' W hl hk => absurd hk (Nat.not_lt_zero _)) ?done (fun c k W' hk => absurd hk (Nat.not_lt_zero _)))
  case done =>
    intro Wr hkr hD
    simp only [Exit.inBlock, Exit.then]
    refine HK9.out _ _ ?_
    have hxr : Ext W1 Wr := Kept.trans HX19.out (hkr.mono fun b t hb _ => by simp [pR, hb])
    have HXR := Lib.hid (HX1.out.trans hxr)
    have HB0 := Lib.hid ((hxr.kept (fun _ _ => true)).same _ _ H0.out rfl)
    have HD := Lib.hid hD
    have hlt0 : W.heap.size < Wr.heap.size := (Array.getElem?_eq_some_iff.1 HB0.out).1
    have HL0 := Lib.hid hlt0
    have HX9L := Lib.hid (show W.heap.size ≤ w9.heap.size from (HX1.out.trans HX19.out).size)
    clear hkr hxr hD HX19 HX1 H0 HB9 HX9 HK9 hlt0
    go_upto_region 13 with (fail)
    obtain ⟨wz, hwz⟩ : ∃ wz, wz = Wr.alloc (.cells #[.slice none 0 0, .map none] 62) := ⟨_, rfl⟩
    change Code.wp _ _ _ _ (Wr.alloc (.cells #[.slice none 0 0, .map none] 62))
    rw [← hwz]
    have hxz : Ext Wr wz := by rw [hwz]; exact Ext.one _ _
    have hpz : PH (oneB Wr.heap.size) Wr.heap.size [] [] wz := by rw [hwz]; exact PH.zero (World.alloc_heap_new _ _)
    have HXZ := Lib.hid hxz
    have HPZ := Lib.hid hpz
    clear hwz hxz hpz
    go_upto_region 15 with (first
      | (go_at_call 9; refine (New_ok _).mono ?_; rintro e wn ⟨rfl, hxn, hpn⟩; have hsn := Same_ok (HPZ.out.ext hxn) hpn; have HSN := Lib.hid hsn; have HXN := Lib.hid hxn; clear hxn hpn hsn)
      | (go_at_call 14; refine HSN.out.mono ?_; rintro e ws ⟨he, n, hws⟩; obtain rfl : e = .returned (.bool true) := he; have HXS := Lib.hid (show Ext wz ws by rw [hws]; exact HXN.out.trans (Ext.drewN _ _)); clear hws))
    have hxw := HXZ.out.trans HXS.out
    have hpw := HPZ.out.ext HXS.out
    obtain ⟨wl, hwl⟩ : ∃ wl, wl = ws.alloc (.cells #[.int .i64 4, .int .i64 5] 2) := ⟨_, rfl⟩
    have hxl : Ext ws wl := by rw [hwl]; exact Ext.one _ _
    have hbl : wl.heap[ws.heap.size]? = some (.cells #[.int .i64 4, .int .i64 5] 2 (0, 0)) := by rw [hwl]; exact World.alloc_heap_new _ _
    have hsrc : Src wl (.slice (some ⟨ws.heap.size, 0, none⟩) 2 2) 2 (rowI [4, 5]) := .inr ⟨_, _, rfl, fun j u hj => by
      match j with
      | 0 => simp [rowI] at hj; subst hj; simp [World.cell?, Addr.add, hbl]
      | 1 => simp [rowI] at hj; subst hj; simp [World.cell?, Addr.add, hbl]
      | j + 2 => simp [rowI] at hj⟩
    have hcl : Calls Try.prog 19 #[.pointer (some ⟨Wr.heap.size, 0, none⟩), .int .i64 3, .slice (some ⟨ws.heap.size, 0, none⟩) 2 2, .int .i64 6, .int .i64 7] wl fun e W' => e = .returned (.tuple #[.int .i64 1, .int .i64 0]) ∧ StepP (oneB Wr.heap.size) Wr.heap.size (clK [] 3 6 7 [4, 5]) wl W' := Closure_all (hpw.ext hxl) 3 6 7 [4, 5] _ 2 hsrc (by decide)
    have HCL := Lib.hid hcl
    have HXL := Lib.hid (hxw.trans hxl)
    have HWL := Lib.hid hwl
    clear hxw hpw hwl hxl hbl hsrc hcl HXZ HPZ HXN HSN HXS
    go_upto_region 16 with (go_at_call 19; (change Calls _ _ _ (ws.alloc (.cells #[.int .i64 4, .int .i64 5] 2)) _); rw [← HWL.out]; refine HCL.out.mono ?_; rintro e w2 ⟨rfl, own2, ps2, L2, hp2, hk2, hq2, ho2⟩; have HP2 := Lib.hid hp2; have HK2 := Lib.hid hk2; have HQ2 := Lib.hid hq2; have HO2 := Lib.hid ho2; clear hp2 hk2 hq2 ho2)
    obtain ⟨k1, k2⟩ := nil_keys (L := L2) (by rw [HK2.out]; rfl)
    have hg := Get_ok HP2.out 1 1
    have hs := Set_ok HP2.out 1 0 1
    rw [k1] at hg
    rw [k2] at hs
    have hge : ∀ b, oneB Wr.heap.size b = true → Wr.heap.size ≤ b := fun b hb => by simp [oneB] at hb; omega
    have HX2 := Lib.hid (keptSince HXL.out hge HQ2.out)
    have HGE := Lib.hid (ownSince HXL.out hge HO2.out)
    have HG := Lib.hid hg
    have HST := Lib.hid hs
    clear k1 k2 hg hs hge HCL HXL HWL HP2 HK2 HQ2 HO2
    go_wp2_with (first
      | (go_at_call 20; refine HG.out.mono ?_; rintro e wg ⟨rfl, hw⟩; rw [hw]; clear hw)
      | (go_at_call 21; refine HST.out.mono ?_; rintro e w4 ⟨rfl, _, hk4⟩; have HX4 := Lib.hid (keptSince HX2.out HGE.out hk4); clear hk4)
      | (go_at_call 8; refine (known_ok _).mono ?_; rintro e w5 ⟨rfl, hx5⟩; have hc0 := ((HX4.out.trans hx5).kept (fun _ _ => true)).same _ _ HB0.out rfl; have c0 : w5.cell? ⟨W.heap.size, 0, none⟩ = some (.bool false) := (by simp [World.cell?, hc0]); have f0 := frozen_of_row w5 W.heap.size 0 _ _ hc0; have l0 := (Array.getElem?_eq_some_iff.1 hc0).1; have HX5 := Lib.hid (HX4.out.trans hx5); have HC0 := Lib.hid hc0; clear hx5 hc0))
    show Q _ _ _
    rw [← HQ.out]
    obtain ⟨s1, s2⟩ := sto1 HC0.out (.bool true)
    have hk := s2 (fun b _ => b != W.heap.size) (by simp)
    have hne : w9.heap.size ≠ W.heap.size := fun e => by
      have h1 := HD.out
      rw [e, HB0.out] at h1
      cases h1
    have hD5 := hk.same _ _ ((HX5.out.kept (fun _ _ => true)).same _ _ HD.out rfl) (by simpa using hne)
    have hge9 : W.heap.size ≤ w9.heap.size := HX9L.out
    have hc1 : ((w5.setCell ⟨W.heap.size, 0, none⟩ (.bool true)).putObj w9.heap.size (.deferred none)).heap[W.heap.size]? = some (.cells #[.bool true] 4 (0, 0)) := (World.putObj_heap_other (Ne.symm hne)).trans s1
    have c1 : ((w5.setCell ⟨W.heap.size, 0, none⟩ (.bool true)).putObj w9.heap.size (.deferred none)).cell? ⟨W.heap.size, 0, none⟩ = some (.bool true) := by simp [World.cell?, hc1]
    refine leave1 hD5 ⟨.bool true, by simp [results, Try.results6, go_sem, c1], rfl, ?_⟩
    exact Kept.trans (HXR.out.trans HX5.out) ((hk.mono fun b t _ hp => by simp [pOld] at hp; simp; omega).trans (Kept.putObj fun o ho => by simp [pOld]; omega))
end Go.Proofs.Ytjgggfickbbieaa
