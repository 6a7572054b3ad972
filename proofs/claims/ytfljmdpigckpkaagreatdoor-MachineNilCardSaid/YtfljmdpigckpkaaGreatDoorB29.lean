/- The first task's instruction, if it is OpStore. Written by genMcM.py; What OpStore does; do: the first task's instruction, and its end, if it is over; goOn of it; Run of a looper, by whom it is of and what a step of that answers. Written by genMcP.py. -/
import Derived.Test.YtfljmdpigckpkaaGreatDoorB28
namespace Go.Proofs.YtfljmdpigckpkaaGreatDoor
open Go.RowKit Go.Shelf
attribute [local go_sem] Oper.semAt_some
section
variable {W3 w w' : World} {L : Lay} {s : Sta}
set_option maxHeartbeats 8000000
set_option maxRecDepth 100000
theorem instr_sto (a : MA W3 L s w) (hth : s.th = .pointer (some ⟨L.bt, 0, none⟩)) {d : Nat} (hd : w.heap[d]? = some (dv0 L).o) (hld : W3.heap.size ≤ d) {s1 : Sta} {si n v l : Int} {s2 s3 : Sta} {TH : World → Prop}
    (hst : ∀ w', Ext w w' → Calls Tryz.prog 65 #[.pointer (some ⟨L.bt, 0, none⟩), .pointer (some ⟨L.bh, 0, none⟩), .int .i64 1, .int .i64 0] w' fun e w2 => e = .returned (.tuple #[.agg #[.int .i64 10, .int .i64 si, .int .i64 n, .int .i64 v, .int .i64 l, .slice none 0 0], .int .i64 0]) ∧ MA W3 L s1 w2 ∧ TH w2 ∧ Kept pD w' w2) (hs1 : s1.th = s.th)
    (hTx : ∀ w w', TH w → Kept (ne' d) w w' → TH w') (htr : ∀ w, TH w → Calls Tryz.prog 305 #[.pointer (some ⟨L.bt, 0, none⟩)] w fun e w' => e = .returned (.int .i64 0) ∧ w' = w)
    (hdeed : ∀ w, MA W3 L s1 w → w.heap[d]? = some (dv1 L 10 si n v l).o → Calls Tryz.prog 139 #[.pointer (some ⟨d, 0, none⟩)] w fun e w' => e = .returned (.tuple #[]) ∧ MA W3 L s2 w' ∧ Kept pD w w') (hs2 : s2.th = s1.th)
    (hdone : ∀ w, MA W3 L s2 w → Calls Tryz.prog 306 #[.pointer (some ⟨L.bt, 0, none⟩), .int .i64 0] w fun e w' => e = .returned (.int .i64 0) ∧ MA W3 L s3 w' ∧ Kept pD w w') :
    Calls Tryz.prog 261 #[.pointer (some ⟨d, 0, none⟩)] w fun e w' => e = .returned (.tuple #[]) ∧ MA W3 L s3 w' ∧ w'.heap[d]? = some (dv1 L 10 si n v l).o := by
  obtain ⟨W1, hW1⟩ : ∃ W1, W1 = w.alloc (.cells #[.pointer (some ⟨d, 0, none⟩)] 255) := ⟨_, rfl⟩
  have hx1 : Ext w W1 := by rw [hW1]; exact Ext.one _ _
  have hb1 : W1.heap[w.heap.size]? = some (.cells #[.pointer (some ⟨d, 0, none⟩)] 255 (0, 0)) := by rw [hW1]; exact World.alloc_heap_new _ _
  have hdl := (Array.getElem?_eq_some_iff.1 hd).1
  have a1 := a.ext hx1
  have hd1 := (hx1.kept (fun _ _ => true)).same _ _ hd rfl
  have hb0 : W1.cell? ⟨w.heap.size, 0, none⟩ = some (.pointer (some ⟨d, 0, none⟩)) := by simp [World.cell?, hb1]
  have hbl := (Array.getElem?_eq_some_iff.1 hb1).1
  obtain ⟨lv, mv, m1, _⟩ := a1.m
  obtain ⟨c0, c9, c10, c11, c12, c15, c16, c17, c18, c19, c20, cl, cz⟩ := mv_cells m1
  obtain ⟨t0, t4, t10, t11, t12, t15, tl, tz⟩ := a1.tcells
  rw [hth] at t15
  have ct := a1.task
  obtain ⟨l1, l2⟩ := a1.lts
  obtain ⟨d0, d1, d2, d3, d4, d5, d6, d7, d8, d9, d10, dl, dz⟩ := DV.cells hd1
  dsimp only [dv0] at d0 d1
  have HX1 := Lib.hid hx1
  have HB1 := Lib.hid hb1
  have HW := Lib.hid hW1
  have HA1 := Lib.hid a1
  have HD1 := Lib.hid hd1
  have HDL := Lib.hid hdl
  have HLD := Lib.hid hld
  have HST := Lib.hid hst
  have HDE := Lib.hid hdeed
  have HDO := Lib.hid hdone
  have HS2 := Lib.hid (hs2.trans (hs1.trans hth))
  have HTX := Lib.hid hTx
  have HTR := Lib.hid htr
  have HS1 := Lib.hid (hs1.trans hth)
  have HTH := Lib.hid hth
  clear hdeed hdone hs2 a hd a1 hd1 hx1 hb1 hW1 m1 hdl hld hst hTx htr hs1 hth
  go_enter_defers Tryz.func261, Tryz.ntmps261
  go_upto_region 1 with (fail)
  change Code.wp _ _ _ _ (w.alloc (.cells #[.pointer (some ⟨d, 0, none⟩)] 255))
  rw [← HW.out]
  generalize hr : w.heap.size = r at *
  go_upto_region 2 with (fail)
  go_quiet (fail)
  clear c0 c9 c10 c11 c12 c15 c16 c17 c18 c19 c20 cl cz t0 t4 t10 t11 t12 t15 tl tz ct l1 l2 d0 d1 d2 d3 d4 d5 d6 d7 d8 d9 d10 dl dz hb0 hbl
  have HX2 := Lib.hid (HX1.out.trans (Ext.drewN W1 nq))
  have HA2 := Lib.hid (HA1.out.ext (Ext.drewN W1 nq))
  have HB2 := Lib.hid (((Ext.drewN W1 nq).kept (fun _ _ => true)).same _ _ HB1.out rfl)
  have HD2 := Lib.hid (((Ext.drewN W1 nq).kept (fun _ _ => true)).same _ _ HD1.out rfl)
  clear HW
  generalize W1.drewN nq = W2 at *
  have hmc : ∀ (w : World) (s : Sta), MA W3 L s w → w.cell? ⟨L.bm, 10, none⟩ = some (.pointer (some ⟨L.bh, 0, none⟩)) := fun _ _ a => by
    obtain ⟨lv, mv, m1, _⟩ := a.m
    exact (mv_cells m1).2.2.1
  have HMC := Lib.hid hmc
  clear hmc
  go_upto_region 3 with (fail)
  have x1 : W2.cell? ⟨r, 0, none⟩ = some (.pointer (some ⟨d, 0, none⟩)) := by simp [World.cell?, HB2.out]
  have x2 : W2.cell? ⟨L.b1, 15, none⟩ = some (.pointer (some ⟨L.bt, 0, none⟩)) := by
    obtain ⟨-, -, -, -, -, t15, -⟩ := HA2.out.tcells
    rw [t15]; exact congrArg some HTH.out
  have x3 : W2.cell? ⟨d, 0, none⟩ = some (.pointer (some ⟨L.bm, 0, none⟩)) := (DV.cells HD2.out).1
  have x4 : W2.cell? ⟨L.bm, 10, none⟩ = some (.pointer (some ⟨L.bh, 0, none⟩)) := HMC.out _ _ HA2.out
  have x5 : W2.cell? ⟨d, 1, none⟩ = some (.int .i64 1) := (DV.cells HD2.out).2.1
  have x6 : W2.cell? ⟨L.b1, 10, none⟩ = some (.int .i64 0) := by
    obtain ⟨-, -, t10, -, -, -, -⟩ := HA2.out.tcells
    exact t10
  go_region_held3 (fun w' => w'.cell? ⟨r, 0, none⟩ = some (.pointer (some ⟨d, 0, none⟩)) ∧ w'.cell? ⟨L.b1, 15, none⟩ = some (.pointer (some ⟨L.bt, 0, none⟩)) ∧ w'.cell? ⟨d, 0, none⟩ = some (.pointer (some ⟨L.bm, 0, none⟩)) ∧ w'.cell? ⟨L.bm, 10, none⟩ = some (.pointer (some ⟨L.bh, 0, none⟩)) ∧ w'.cell? ⟨d, 1, none⟩ = some (.int .i64 1) ∧ w'.cell? ⟨L.b1, 10, none⟩ = some (.int .i64 0)) (first | go_keep | with_reducible exact ⟨x1, x2, x3, x4, x5, x6⟩ | with_reducible exact ⟨y1, y2, y3, y4, y5, y6⟩ | with_reducible exact ⟨z1, z2, z3, z4, z5, z6⟩ | with_reducible exact ⟨v1, v2, v3, v4, v5, v6⟩) (first
    | (go_at_call 65; refine (HST.out _ (HX2.out.trans (Ext.drew _))).mono ?_; rintro e w5 ⟨rfl, a5, th5, k5⟩; have hb5 := k5.same _ _ HB2.out rfl; have hd5 := k5.same _ _ HD2.out rfl; obtain ⟨e0, e1, e2, e3, e4, e5, e6, e7, e8, e9, e10, el, ez⟩ := DV.cells hd5; dsimp only [dv0] at e0 e1; have y1 : w5.cell? ⟨r, 0, none⟩ = some (.pointer (some ⟨d, 0, none⟩)) := (by simp [World.cell?, hb5]); have y2 : w5.cell? ⟨L.b1, 15, none⟩ = some (.pointer (some ⟨L.bt, 0, none⟩)) := (by have q := a5.tcells.2.2.2.2.2.1; rw [HS1.out] at q; exact q); have y3 := e0; have y4 := HMC.out _ _ a5; have y5 := e1; have y6 := a5.tcells.2.2.1; obtain ⟨u1, u2⟩ := dset_ok hd5 10 si n v l; have hrd : r ≠ d := (by have := HDL.out; omega); have hmd : L.bm ≠ d := (by obtain ⟨lv, mv, m1, _⟩ := a5.m; exact tags_ne m1 hd5 (by rw [MV.tag, DV.tag]; decide)); have htd : L.b1 ≠ d := tags_ne a5.t hd5 (by rw [TV.tag, DV.tag]; decide); have z1 := u2.cell y1 (fun _ _ => by simp [ne', hrd]); have z2 := u2.cell y2 (fun _ _ => by simp [ne', htd]); have z3 := (DV.cells u1).1; have z4 := u2.cell y4 (fun _ _ => by simp [ne', hmd]); have z5 := (DV.cells u1).2.1; have z6 := u2.cell y6 (fun _ _ => by simp [ne', htd]); dsimp only [dv1] at z3 z5; have zz := (DV.cells u1).2.2.2.2.2.2.2.2.2.1; have zf := (DV.cells u1).2.2.2.2.2.2.2.2.2.2.2.2; dsimp only [dv1] at zz; have u3 := Kept.one d (dset w5 d 10 si n v l) 9 (.int .i64 0); have v1 := u3.cell z1 (fun _ _ => by simp [ne', hrd]); have v2 := u3.cell z2 (fun _ _ => by simp [ne', htd]); have v3 := (DV.cells (DV.set_err u1 0)).1; have v4 := u3.cell z4 (fun _ _ => by simp [ne', hmd]); have v5 := (DV.cells (DV.set_err u1 0)).2.1; have v6 := u3.cell z6 (fun _ _ => by simp [ne', htd]); dsimp only [dv1] at v3 v5; unfold dset at z1 z2 z3 z4 z5 z6 zz zf v1 v2 v3 v4 v5 v6; have HF := Lib.hid (And.intro a5 (And.intro th5 (And.intro hb5 (And.intro hd5 (And.intro hrd (And.intro u1 u2)))))); clear a5 th5 hb5 hd5 k5 u1 u2 hrd hmd htd))
  obtain ⟨a5, th5, hb5, hd5, hrd, u1, u2⟩ := HF.out
  have k6 := u2.trans (Kept.one d (dset w5 d 10 si n v l) 9 (.int .i64 0))
  have hd6 := DV.set_err u1 0
  replace hd6 : ((dset w5 d 10 si n v l).setCell ⟨d, 9, none⟩ (.int .i64 0)).heap[d]? = some (dv1 L 10 si n v l).o := hd6
  have a6 := a5.other hd5 k6 (.inl (DV.tag _)) HLD.out
  have th6 := HTX.out _ _ th5 k6
  have hb6 := k6.same _ _ hb5 (by simp [ne', hrd])
  clear x1 x2 x3 x4 x5 x6 y1 y2 y3 y4 y5 y6 z1 z2 z3 z4 z5 z6 v1 v2 v3 v4 v5 v6 zz zf e0 e1 e2 e3 e4 e5 e6 e7 e8 e9 e10 el ez a5 th5 hb5 hd5 u1 u2 k6 u3
  rename_i hh
  clear hh
  change Exit.then _ _ _ _ ((dset w5 d 10 si n v l).setCell ⟨d, 9, none⟩ (.int .i64 0))
  have HA6 := Lib.hid a6
  have HD6 := Lib.hid hd6
  have HT6 := Lib.hid th6
  have HB6 := Lib.hid hb6
  clear a6 hd6 th6 hb6 HF
  generalize (dset w5 d 10 si n v l).setCell _ _ = w6 at *
  have x1 : w6.cell? ⟨r, 0, none⟩ = some (.pointer (some ⟨d, 0, none⟩)) := by simp [World.cell?, HB6.out]
  have x2 : w6.cell? ⟨L.b1, 15, none⟩ = some (.pointer (some ⟨L.bt, 0, none⟩)) := by
    obtain ⟨-, -, -, -, -, t15, -⟩ := HA6.out.tcells
    rw [t15]; exact congrArg some HS1.out
  have HTQ := Lib.hid (fun k => HTR.out (w6.drewN k) (HTX.out _ _ HT6.out ((Ext.drewN w6 k).kept _)))
  go_upto_region 4 with (fail)
  go_quiet (first
    | (go_at_call 305; exact Calls.quiet_of_same (HTQ.out _))
    | (go_at_call 248; exact Calls.quiet_of_same (must_yes _ _)))
  clear x1 x2
  have HA7 := Lib.hid (HA6.out.ext (Ext.drewN w6 nq))
  have HD7 := Lib.hid (((Ext.drewN w6 nq).kept (fun _ _ => true)).same _ _ HD6.out rfl)
  have HT7 := Lib.hid (HTX.out _ _ HT6.out ((Ext.drewN w6 nq).kept _))
  have HB7 := Lib.hid (((Ext.drewN w6 nq).kept (fun _ _ => true)).same _ _ HB6.out rfl)
  generalize w6.drewN nq = w7 at *
  have x1 : w7.cell? ⟨r, 0, none⟩ = some (.pointer (some ⟨d, 0, none⟩)) := by simp [World.cell?, HB7.out]
  obtain ⟨e0, e1, e2, e3, e4, e5, e6, e7, e8, e9, e10, el, ez⟩ := DV.cells HD7.out
  dsimp only [dv1] at e0 e1 e2 e7
  obtain ⟨lv7, mv7, m7, _⟩ := HA7.out.m
  obtain ⟨-, c9, -, -, -, -, -, -, -, -, -, -, -⟩ := mv_cells m7
  clear m7
  go_upto_region 6 with (fail)
  go_rounds 1
  have hlk := fun k => look_store (w7.drewN k) L.bd HA7.out.d
  go_upto_region 10 with (fail)
  go_quiet (fail)
  clear hlk x1 e0 e1 e2 e3 e4 e5 e6 e7 e8 e9 e10 el ez c9
  have HA8 := Lib.hid (HA7.out.ext (Ext.drewN w7 nq))
  have HD8 := Lib.hid (((Ext.drewN w7 nq).kept (fun _ _ => true)).same _ _ HD7.out rfl)
  have HB8 := Lib.hid (((Ext.drewN w7 nq).kept (fun _ _ => true)).same _ _ HB7.out rfl)
  generalize w7.drewN nq = w8 at *
  have x1 : w8.cell? ⟨r, 0, none⟩ = some (.pointer (some ⟨d, 0, none⟩)) := by simp [World.cell?, HB8.out]
  have hcl : ∀ w, (callFunc 139 #[.pointer (some ⟨d, 0, none⟩)]).run Tryz.prog w = .ok (.enter 139 #[.pointer (some ⟨d, 0, none⟩)]) w := fun w => by kernel_rfl
  go_wp2_with fail
  refine (HDE.out w8 HA8.out HD8.out).mono ?_
  rintro e w9 ⟨rfl, a9, k9⟩
  have hb9 := k9.same _ _ HB8.out rfl
  have hd9 := k9.same _ _ HD8.out rfl
  clear x1 hcl
  have x1 : w9.cell? ⟨r, 0, none⟩ = some (.pointer (some ⟨d, 0, none⟩)) := by simp [World.cell?, hb9]
  obtain ⟨e0, e1, e2, e3, e4, e5, e6, e7, e8, e9, e10, el, ez⟩ := DV.cells hd9
  dsimp only [dv1] at e8 e9
  have x2 : w9.cell? ⟨L.b1, 15, none⟩ = some (.pointer (some ⟨L.bt, 0, none⟩)) := by
    obtain ⟨-, -, -, -, -, t15, -⟩ := a9.tcells
    rw [t15]; exact congrArg some HS2.out
  have HA9 := Lib.hid a9
  have HD9 := Lib.hid hd9
  clear a9 hd9 hb9 k9
  go_upto_region 14 with (fail)
  go_still_tail 8, (by kernel_rfl)
  clear x1 x2 e0 e1 e2 e3 e4 e5 e6 e7 e8 e9 e10 el ez
  go_wp2_with fail
  refine (HDO.out w9.drew (HA9.out.ext (Ext.drew w9))).mono ?_
  rintro e w10 ⟨rfl, a10, k10⟩
  have HFIN := Lib.hid (And.intro a10 (k10.same _ _ (((Ext.drew w9).kept (fun _ _ => true)).same _ _ HD9.out rfl) rfl))
  clear a10 k10
  go_wp2_with fail
  refine leaves_cons (f := 304) (args := #[.pointer (some ⟨r, 0, none⟩)]) (by simp) (by simp [go_sem]) ?_
  refine (catchM_idle r _).mono ?_
  rintro e u' w'' ⟨rfl, rfl, rfl⟩
  simp [Leaves, settle, results, Tryz.results261, go_sem]
  exact HFIN.out
end
end Go.Proofs.YtfljmdpigckpkaaGreatDoor

namespace Go.Proofs.YtfljmdpigckpkaaGreatDoor
open Go.RowKit Go.Shelf
attribute [local go_sem] Oper.semAt_some
section
variable {W3 w w' : World} {L : Lay} {s : Sta}
set_option maxHeartbeats 8000000
set_option maxRecDepth 100000
theorem store_m (a : MA W3 L s w) {d : Nat} {si v l : Int} {j : Nat} (hj : j < s.G.length) (hd : w.heap[d]? = some (dv1 L 10 si j v l).o) (hM : s.M.length ≤ 100000) : Calls Tryz.prog 139 #[.pointer (some ⟨d, 0, none⟩)] w fun e w' => e = .returned (.tuple #[]) ∧ MA W3 L { s with M := s.M ++ [⟨3, 1, 0, si, 1, j, 0, true⟩], G := s.G.set j v } w' ∧ Kept pD w w' := by
  have HC := Lib.hid (daccess_m a hd rfl 1 j true hM)
  obtain ⟨e0, e1, e2, e3, e4, e5, e6, e7, e8, e9, e10, el, ez⟩ := DV.cells hd
  dsimp only [dv1] at e0 e4 e5
  have HD := Lib.hid hd
  have HJ := Lib.hid hj
  have z0 : (j : Int) < (s.G.length : Int) := by omega
  clear a hd hj hM
  go_enter Tryz.func139, Tryz.ntmps139
  go_upto_region 1 with (go_at_call 246; refine HC.out.mono ?_; rintro e w2 ⟨rfl, a2, k2⟩; have hd2 := k2.same _ _ HD.out rfl; have HA2 := Lib.hid a2; have HD2 := Lib.hid hd2; have HK2 := Lib.hid k2; clear a2 k2 hd2)
  clear e0 e1 e2 e3 e4 e5 e6 e7 e8 e9 e10 el ez
  obtain ⟨e0, e1, e2, e3, e4, e5, e6, e7, e8, e9, e10, el, ez⟩ := DV.cells HD2.out
  dsimp only [dv1] at e0 e4 e5
  obtain ⟨lv, mv, m1, _⟩ := HA2.out.m
  obtain ⟨-, -, -, c11, -, -, -, -, -, -, -, cl, -⟩ := mv_cells m1
  dsimp only at c11
  clear m1
  go_still_tail 18, (by kernel_rfl)
  have h2 := HA2.out.ext (Ext.drew w2)
  obtain ⟨a3, g1, ⟨u, g2⟩, g3⟩ := h2.setG (i := j) HJ.out v
  have g4 := g1 j
  have HK := Lib.hid (HK2.out.trans (((Ext.drew w2).kept pD).trans (Kept.setCell (a := ⟨L.gG, j, none⟩) (.int .i64 v) fun o ho => by
    obtain ⟨oG, q1, q2⟩ := own_is h2.G L.gG rfl
    rw [q1] at ho; cases ho; rw [q2]; rfl)))
  have HA3 := Lib.hid a3
  clear a3 g1 h2 e0 e1 e2 e3 e4 e5 e6 e7 e8 e9 e10 el ez c11 cl
  go_wp2_with fail
  go_end0
  exact ⟨rfl, HA3.out, HK.out⟩
theorem done_m (a : MA W3 L s w) {Q : Prg} {k : Nat} {R : List Int} {n : Int} (ht : s.thr = some (k, R)) (hc : Cod L.bc Q W3) (hi : 0 < Q.fns.length) (hk : k < Q.fns[0].code.length) (hop : Q.fns[0].code[k].op = 10 ∨ Q.fns[0].code[k].op = 30) (hks : k ≤ 1000) :
    Calls Tryz.prog 306 #[.pointer (some ⟨L.bt, 0, none⟩), .int .i64 n] w fun e w' => e = .returned (.int .i64 0) ∧ MA W3 L { s with thr := some (k + 1, R) } w' ∧ Kept pD w w' := by
  obtain ⟨t1, t2, t3⟩ := a.th k R ht
  refine (Done_th t1 t2 (hc.ext a.x3) hi hk rfl hop hks).mono ?_
  rintro e w' ⟨rfl, h1, h2⟩
  refine ⟨rfl, a.setTh ht (h2.mono fun b t _ hp => by simp [nF] at hp; simp [ne', hp.2]) (by exact_mod_cast h1), h2.to fun b o hb hq => ?_⟩
  simp only [ne', bne_iff_ne]
  refine tags_ne hb t1.f ?_
  intro e
  rw [e] at hq
  simp [pD, tag] at hq
/-- do, where the thread is not over behind the instruction. -/
theorem do_on (a : MA W3 L s w) {s1 : Sta} {TH : World → Prop}
    (hin : ∀ w' d, Ext w w' → w'.heap[d]? = some (dv0 L).o → W3.heap.size ≤ d → Calls Tryz.prog 261 #[.pointer (some ⟨d, 0, none⟩)] w' fun e w2 => e = .returned (.tuple #[]) ∧ MA W3 L s1 w2 ∧ TH w2 ∧ ∃ o si n v l, w2.heap[d]? = some (dv1 L o si n v l).o)
    (hs1 : s1.th = .pointer (some ⟨L.bt, 0, none⟩)) (hov : ∀ w', MA W3 L s1 w' → TH w' → Calls Tryz.prog 184 #[.pointer (some ⟨L.bt, 0, none⟩)] w' fun e w2 => e = .returned (.bool false) ∧ w2 = w') :
    Calls Tryz.prog 160 #[.pointer (some ⟨L.bm, 0, none⟩), .int .i64 1] w fun e w' => e = .returned (.int .i64 0) ∧ MA W3 L s1 w' := by
  obtain ⟨W1, hW1⟩ : ∃ W1, W1 = w.alloc (dv0 L).o := ⟨_, rfl⟩
  have hx1 : Ext w W1 := by rw [hW1]; exact Ext.one _ _
  have hb1 : W1.heap[w.heap.size]? = some (dv0 L).o := by rw [hW1]; exact World.alloc_heap_new _ _
  have HI := Lib.hid (hin W1 w.heap.size hx1 hb1 a.x3.size)
  have HOV := Lib.hid hov
  have HS1 := Lib.hid hs1
  have HW := Lib.hid hW1
  clear a hx1 hb1 hW1 hin hov hs1
  go_enter Tryz.func160, Tryz.ntmps160
  go_upto_region 2 with (fail)
  change Code.wp _ _ _ _ (w.alloc (dv0 L).o)
  rw [← HW.out]
  generalize w.heap.size = d at *
  go_upto_region 3 with (go_at_call 261; refine HI.out.mono ?_; rintro e w2 ⟨rfl, a2, th2, o, si, n, v, l, hd2⟩; have HA2 := Lib.hid a2; have HT2 := Lib.hid th2; have HD2 := Lib.hid hd2; clear a2 th2 hd2)
  obtain ⟨e0, e1, e2, e3, e4, e5, e6, e7, e8, e9, e10, el, ez⟩ := DV.cells HD2.out
  dsimp only [dv1] at e9 e10
  obtain ⟨lv, mv, m1, _⟩ := HA2.out.m
  obtain ⟨-, -, -, -, -, c15, -, -, -, -, -, cl, -⟩ := mv_cells m1
  have ct := HA2.out.task
  obtain ⟨l1, l2⟩ := HA2.out.lts
  have x2 : w2.cell? ⟨L.b1, 15, none⟩ = some (.pointer (some ⟨L.bt, 0, none⟩)) := by
    obtain ⟨-, -, -, -, -, t15, -⟩ := HA2.out.tcells
    rw [t15]; exact congrArg some HS1.out
  clear m1
  go_wp2_with (go_at_call 184; refine (HOV.out _ HA2.out HT2.out).mono ?_; rintro e w3 ⟨rfl, hw⟩; rw [hw]; clear hw)
  go_ret
  exact ⟨rfl, HA2.out⟩
/-- do, where the thread is over behind the instruction. -/
theorem do_off (a : MA W3 L s w) {s1 : Sta} {TH : World → Prop}
    (hin : ∀ w' d, Ext w w' → w'.heap[d]? = some (dv0 L).o → W3.heap.size ≤ d → Calls Tryz.prog 261 #[.pointer (some ⟨d, 0, none⟩)] w' fun e w2 => e = .returned (.tuple #[]) ∧ MA W3 L s1 w2 ∧ TH w2 ∧ ∃ o si n v l, w2.heap[d]? = some (dv1 L o si n v l).o)
    (hs1 : s1.th = .pointer (some ⟨L.bt, 0, none⟩)) (hM : s1.M.length ≤ 100000) (hov : ∀ w', MA W3 L s1 w' → TH w' → Calls Tryz.prog 184 #[.pointer (some ⟨L.bt, 0, none⟩)] w' fun e w2 => e = .returned (.bool true) ∧ w2 = w') :
    Calls Tryz.prog 160 #[.pointer (some ⟨L.bm, 0, none⟩), .int .i64 1] w fun e w' => e = .returned (.int .i64 0) ∧ MA W3 L { s1 with state := 3, trap := 0, th := .pointer none, runs := 0, M := s1.M ++ [⟨2, 1, 0, 0, 0, 0, 0, false⟩] } w' := by
  obtain ⟨W1, hW1⟩ : ∃ W1, W1 = w.alloc (dv0 L).o := ⟨_, rfl⟩
  have hx1 : Ext w W1 := by rw [hW1]; exact Ext.one _ _
  have hb1 : W1.heap[w.heap.size]? = some (dv0 L).o := by rw [hW1]; exact World.alloc_heap_new _ _
  have HI := Lib.hid (hin W1 w.heap.size hx1 hb1 a.x3.size)
  have HOV := Lib.hid hov
  have HS1 := Lib.hid hs1
  have HM := Lib.hid hM
  have HW := Lib.hid hW1
  clear a hx1 hb1 hW1 hin hov hs1 hM
  go_enter Tryz.func160, Tryz.ntmps160
  go_upto_region 2 with (fail)
  change Code.wp _ _ _ _ (w.alloc (dv0 L).o)
  rw [← HW.out]
  generalize w.heap.size = d at *
  go_upto_region 3 with (go_at_call 261; refine HI.out.mono ?_; rintro e w2 ⟨rfl, a2, th2, o, si, n, v, l, hd2⟩; have HA2 := Lib.hid a2; have HT2 := Lib.hid th2; have HD2 := Lib.hid hd2; clear a2 th2 hd2)
  obtain ⟨e0, e1, e2, e3, e4, e5, e6, e7, e8, e9, e10, el, ez⟩ := DV.cells HD2.out
  dsimp only [dv1] at e9 e10
  obtain ⟨lv, mv, m1, _⟩ := HA2.out.m
  obtain ⟨-, -, -, -, -, c15, -, -, -, -, -, cl, -⟩ := mv_cells m1
  have ct := HA2.out.task
  obtain ⟨l1, l2⟩ := HA2.out.lts
  have x2 : w2.cell? ⟨L.b1, 15, none⟩ = some (.pointer (some ⟨L.bt, 0, none⟩)) := by
    obtain ⟨-, -, -, -, -, t15, -⟩ := HA2.out.tcells
    rw [t15]; exact congrArg some HS1.out
  clear m1
  have HE := Lib.hid (end_m HA2.out 0 HM.out)
  go_upto_region 5 with (first
    | (go_at_call 184; refine (HOV.out _ HA2.out HT2.out).mono ?_; rintro e w3 ⟨rfl, hw⟩; rw [hw]; clear hw)
    | (go_at_call 262; refine HE.out.mono ?_; rintro e w4 ⟨rfl, a4, k4⟩; have hd4 := k4.same _ _ HD2.out rfl; have HA4 := Lib.hid a4; clear e0 e1 e2 e3 e4 e5 e6 e7 e8 e9 e10 el ez; obtain ⟨e0, e1, e2, e3, e4, e5, e6, e7, e8, e9, e10, el, ez⟩ := DV.cells hd4; clear a4 k4 hd4))
  dsimp only [dv1] at e9
  go_wp2_with fail
  go_ret
  exact ⟨rfl, HA4.out⟩
theorem goOn_do (a : MA W3 L s w) (hs : s.state = 2) (h20 : s.steps ≠ 20000) (hst : 0 ≤ s.steps ∧ s.steps ≤ 20000) {s1 : Sta} (hs1 : s1.steps = s.steps)
    (hdo : Calls Tryz.prog 160 #[.pointer (some ⟨L.bm, 0, none⟩), .int .i64 1] w fun e w' => e = .returned (.int .i64 0) ∧ MA W3 L s1 w') :
    Calls Tryz.prog 100 #[.pointer (some ⟨L.bm, 0, none⟩), .int .i64 1] w fun e w' => e = .returned (.int .i64 0) ∧ MA W3 L { s1 with steps := s.steps + 1 } w' := by
  obtain ⟨lv, mv, m1, _⟩ := a.m
  obtain ⟨c0, c9, c10, c11, c12, c15, c16, c17, c18, c19, c20, cl, cz⟩ := mv_cells m1
  obtain ⟨t0, t4, t10, t11, t12, t15, tl, tz⟩ := a.tcells
  rw [hs] at t11
  have ct := a.task
  obtain ⟨l1, l2⟩ := a.lts
  have HB := Lib.hid hdo
  have h20' : (s.steps == 20000) = false := by simpa using h20
  have hwr : IntKind.i64.wrap (s.steps + 1) = s.steps + 1 := by rw [IntKind.wrap_i64]; omega
  have HS1 := Lib.hid hs1
  clear a m1 hs h20 hst hs1 hdo
  go_enter Tryz.func100, Tryz.ntmps100
  go_upto_region 9 with (go_at_call 160; refine HB.out.mono ?_; rintro e w2 ⟨rfl, a2⟩; have HA2 := Lib.hid a2; clear a2)
  clear c0 c9 c10 c11 c12 c15 c16 c17 c18 c19 c20 cl cz t0 t4 t10 t11 t12 t15 tl tz ct l1 l2
  obtain ⟨lv2, mv2, m2, _⟩ := HA2.out.m
  obtain ⟨c0, c9, c10, c11, c12, c15, c16, c17, c18, c19, c20, cl, cz⟩ := mv_cells m2
  rw [HS1.out] at c19
  clear m2
  go_wp2_with fail
  go_ret
  exact ⟨rfl, HA2.out.setSteps _⟩
end
end Go.Proofs.YtfljmdpigckpkaaGreatDoor

namespace Go.Proofs.YtfljmdpigckpkaaGreatDoor
open Go.RowKit Go.Shelf
attribute [local go_sem] Oper.semAt_some
def GRn (bm : Nat) (i t : Int) : Nat → Value → World → Prop
  | 0, u, _ => u = .pointer (some ⟨bm, 0, none⟩)
  | 1, u, _ => u = .pointer (some ⟨bm, 0, none⟩)
  | 2, u, _ => u = .int .i64 i
  | 3, u, _ => u = .int .i64 t
  | _ + 4, _, _ => True
theorem GRn.mono {bm : Nat} {i t : Int} : ∀ (_ : Bool) (j : Nat) (u : Value) (w w' : World), GRn bm i t j u w → Ext w w' → GRn bm i t j u w' := by
  intro f j u w w' h k
  have kk := k.kept (fun _ _ => true)
  match j with
  | 0 => exact h
  | 1 => exact h
  | 2 => exact h
  | 3 => exact h
  | _ + 4 => exact h
theorem list8 (l0 : List Value) (h0 : l0.length = 8) : ∃ x0 x1 x2 x3 x4 x5 x6 x7, l0 = [x0, x1, x2, x3, x4, x5, x6, x7] := by
  obtain ⟨x0, l1, e0, h1⟩ := cutS h0
  obtain ⟨x1, l2, e1, h2⟩ := cutS h1
  obtain ⟨x2, l3, e2, h3⟩ := cutS h2
  obtain ⟨x3, l4, e3, h4⟩ := cutS h3
  obtain ⟨x4, l5, e4, h5⟩ := cutS h4
  obtain ⟨x5, l6, e5, h6⟩ := cutS h5
  obtain ⟨x6, l7, e6, h7⟩ := cutS h6
  obtain ⟨x7, l8, e7, h8⟩ := cutS h7
  obtain rfl := List.eq_nil_of_length_eq_zero h8
  refine ⟨x0, x1, x2, x3, x4, x5, x6, x7, ?_⟩
  rw [e0, e1, e2, e3, e4, e5, e6, e7]
section
variable {W3 w w' : World} {L : Lay} {s : Sta}
set_option maxHeartbeats 4000000
set_option maxRecDepth 100000
theorem Run1_m {bm r1 r2 : Nat} {i t v : Int} {X : World → Prop} (h1 : w.heap[r1]? = some (.cells #[.pointer (some ⟨bm, 0, none⟩)] 37 (0, 0))) (h2 : w.heap[r2]? = some (.cells #[.int .i64 i] 3 (0, 0)))
    (hof : ∀ w', Ext w w' → Calls Tryz.prog 41 #[.pointer (some ⟨bm, 0, none⟩), .int .i64 i] w' fun e w2 => e = .returned (.int .i64 t) ∧ Ext w' w2)
    (hst : ∀ w', Ext w w' → Calls Tryz.prog 40 #[.pointer (some ⟨bm, 0, none⟩), .int .i64 t] w' fun e w2 => e = .returned (.int .i64 v) ∧ X w2) :
    Calls Tryz.prog 39 #[.pointer (some ⟨r1, 0, none⟩), .pointer (some ⟨r2, 0, none⟩)] w fun e w' => e = .returned (.int .i64 v) ∧ X w' := by
  have H1 := Lib.hid h1
  have H2 := Lib.hid h2
  have HOF := Lib.hid hof
  have HST := Lib.hid hst
  clear h1 h2 hof hst
  go_enter Tryz.func39, Tryz.ntmps39
  go_upto_region 1 with (fail)
  refine region_grow (n := 4) (s := 4) (by kernel_rfl) (fun _ => GRn bm i t) (fun _ w' => Ext w w') rfl (Ext.drew _) (RgOps.of (z := 8) (by kernel_rfl) rfl GRn.mono extS ?op (fun _ h => absurd h (Nat.lt_irrefl _))) ?fin
  case op =>
    intro j o hj hs' ho f a' w' hF hX hD K hK
    have e0 : a'.tmps.getD 0 undef = .pointer (some ⟨r1, 0, none⟩) := hF.2.2 0 (by kernel_rfl)
    have e1 : a'.tmps.getD 1 undef = .pointer (some ⟨r2, 0, none⟩) := hF.2.2 1 (by kernel_rfl)
    have b1 := (hX.kept (fun _ _ => true)).same _ _ H1.out rfl
    have b2 := (hX.kept (fun _ _ => true)).same _ _ H2.out rfl
    have q1 : w'.cell? ⟨r1, 0, none⟩ = some (.pointer (some ⟨bm, 0, none⟩)) := by simp [World.cell?, b1]
    have q2 : w'.cell? ⟨r2, 0, none⟩ = some (.int .i64 i) := by simp [World.cell?, b2]
    have q3 := (Array.getElem?_eq_some_iff.1 b1).1
    have q4 := (Array.getElem?_eq_some_iff.1 b2).1
    clear b1 b2
    match j, hj with
    | m + 4, h => exact absurd h (by omega)
    | 0, _ =>
      obtain rfl := Option.some.inj (show some _ = some o from ho)
      clear ho hD
      go_simp
      exact hK _ _ rfl (Ext.refl _)
    | 1, _ =>
      obtain rfl := Option.some.inj (show some _ = some o from ho)
      clear ho hD
      go_simp
      exact hK _ _ rfl (Ext.refl _)
    | 2, _ =>
      obtain rfl := Option.some.inj (show some _ = some o from ho)
      clear ho hD
      go_simp
      exact hK _ _ rfl (Ext.refl _)
    | 3, _ =>
      obtain rfl := Option.some.inj (show some _ = some o from ho)
      obtain ⟨d, hd, hG1⟩ := hD _ (Array.mem_of_getElem? (i := 0) rfl) rfl
      cases hd
      replace hG1 : a'.tmps.getD 4 undef = .pointer (some ⟨bm, 0, none⟩) := hG1
      obtain ⟨d, hd, hG2⟩ := hD _ (Array.mem_of_getElem? (i := 1) rfl) rfl
      cases hd
      replace hG2 : a'.tmps.getD 5 undef = .int .i64 i := hG2
      clear ho hD
      go_simp
      refine (HOF.out _ hX).mono ?_
      rintro e w5 ⟨rfl, hx5⟩
      exact hK _ _ rfl hx5
  case fin =>
    intro a' w' hF hX hG
    obtain ⟨⟨ls⟩, df⟩ := a'
    obtain ⟨f1, f2, f3⟩ := hF
    replace f1 : df = [] := f1
    replace f2 : ls.length = 8 := f2
    subst f1
    obtain ⟨d, hd, g0⟩ := hG 0 (by omega)
    cases hd
    obtain ⟨d, hd, g1⟩ := hG 1 (by omega)
    cases hd
    obtain ⟨d, hd, g2⟩ := hG 2 (by omega)
    cases hd
    obtain ⟨d, hd, g3⟩ := hG 3 (by omega)
    cases hd
    obtain ⟨z0, z1, z2, z3, z4, z5, z6, z7, rfl⟩ := list8 ls f2
    replace g0 : z3 = .pointer (some ⟨bm, 0, none⟩) := g0
    replace g1 : z4 = .pointer (some ⟨bm, 0, none⟩) := g1
    replace g2 : z5 = .int .i64 i := g2
    replace g3 : z6 = .int .i64 t := g3
    subst g0 g1 g2 g3
    clear f2 f3 hG
    simp only [List.drop_succ_cons, List.drop_zero]
    have HX := Lib.hid hX
    clear hX
    go_wp2_with (go_at_call 40; refine (HST.out _ HX.out).mono ?_; rintro e w5 ⟨rfl, x5⟩; have HX5 := Lib.hid x5; clear x5)
    go_ret
    exact ⟨rfl, HX5.out⟩
theorem enter_m (a : MA W3 L s w) (hf : s.full = false) {s1 : Sta} {v : Int} (hv : v ≠ 11) (hs1 : s1.full = false) {r1 r2 : Nat}
    (hcl : Calls Tryz.prog 39 #[.pointer (some ⟨r1, 0, none⟩), .pointer (some ⟨r2, 0, none⟩)] w fun e w' => e = .returned (.int .i64 v) ∧ MA W3 L s1 w') :
    Calls Tryz.prog 38 #[.pointer (some ⟨L.bm, 0, none⟩), .func (.func 39) #[] #[.pointer (some ⟨r1, 0, none⟩), .pointer (some ⟨r2, 0, none⟩)]] w fun e w' => e = .returned (.int .i64 v) ∧ MA W3 L s1 w' := by
  obtain ⟨lv, mv, m1, _⟩ := a.m
  obtain ⟨c0, c9, c10, c11, c12, c15, c16, c17, c18, c19, c20, cl, cz⟩ := mv_cells m1
  rw [hf] at c20
  have HN := Lib.hid (isNone_m a)
  have HC := Lib.hid hcl
  have hv' : (v == 11) = false := by simpa using hv
  have HS := Lib.hid hs1
  have hcf : ∀ w, (callFunc 39 #[.pointer (some ⟨r1, 0, none⟩), .pointer (some ⟨r2, 0, none⟩)]).run Tryz.prog w = .ok (.enter 39 #[.pointer (some ⟨r1, 0, none⟩), .pointer (some ⟨r2, 0, none⟩)]) w := fun w => by kernel_rfl
  clear a m1 hf hcl hv hs1
  go_enter Tryz.func38, Tryz.ntmps38
  go_upto_region 6 with (first
    | (go_at_call 51; refine HN.out.mono ?_; rintro e w2 ⟨rfl, hw⟩; rw [hw]; clear hw)
    | (refine HC.out.mono ?_; rintro e w3 ⟨rfl, a3⟩; have HA3 := Lib.hid a3; clear a3))
  clear c0 c9 c10 c11 c12 c15 c16 c17 c18 c19 c20 cl cz hcf
  obtain ⟨lv2, mv2, m2, _⟩ := HA3.out.m
  obtain ⟨c0, c9, c10, c11, c12, c15, c16, c17, c18, c19, c20, cl, cz⟩ := mv_cells m2
  clear m2
  have ha4 := HA3.out.setFull false
  have he : ({ s1 with full := false } : Sta) = s1 := by rw [← HS.out]
  rw [he] at ha4
  have HA4 := Lib.hid ha4
  clear ha4 he
  go_wp2_with fail
  go_ret
  exact ⟨rfl, HA4.out⟩
theorem Run_m (a : MA W3 L s w) (hf : s.full = false) {s1 : Sta} {i t v : Int} (hv : v ≠ 11) (hs1 : s1.full = false)
    (hof : ∀ w', Ext w w' → Calls Tryz.prog 41 #[.pointer (some ⟨L.bm, 0, none⟩), .int .i64 i] w' fun e w2 => e = .returned (.int .i64 t) ∧ Ext w' w2)
    (hst : ∀ w', Ext w w' → Calls Tryz.prog 40 #[.pointer (some ⟨L.bm, 0, none⟩), .int .i64 t] w' fun e w2 => e = .returned (.int .i64 v) ∧ MA W3 L s1 w2) :
    Calls Tryz.prog 8 #[.pointer (some ⟨L.bm, 0, none⟩), .int .i64 i] w fun e w' => e = .returned (.int .i64 v) ∧ MA W3 L s1 w' := by
  obtain ⟨W1, hW1⟩ : ∃ W1, W1 = (w.alloc (.cells #[.pointer (some ⟨L.bm, 0, none⟩)] 37)).alloc (.cells #[.int .i64 i] 3) := ⟨_, rfl⟩
  have hx1 : Ext w W1 := by rw [hW1]; exact Ext.two _ _ _
  have hb1 : W1.heap[w.heap.size]? = some (.cells #[.pointer (some ⟨L.bm, 0, none⟩)] 37 (0, 0)) := by rw [hW1]; exact (Below.heap_alloc _ _ _ (by simp)).trans (World.alloc_heap_new _ _)
  have hb2 : W1.heap[w.heap.size + 1]? = some (.cells #[.int .i64 i] 3 (0, 0)) := by
    rw [hW1]
    have := World.alloc_heap_new (w.alloc (.cells #[.pointer (some ⟨L.bm, 0, none⟩)] 37)) (.cells #[.int .i64 i] 3)
    rwa [World.size_alloc] at this
  have HE := Lib.hid (enter_m (a.ext hx1) hf hv hs1 (Run1_m hb1 hb2 (fun w' k => hof w' (hx1.trans k)) (fun w' k => hst w' (hx1.trans k))))
  have q1 : W1.cell? ⟨w.heap.size, 0, none⟩ = some (.pointer (some ⟨L.bm, 0, none⟩)) := by simp [World.cell?, hb1]
  have q3 := (Array.getElem?_eq_some_iff.1 hb1).1
  have HW := Lib.hid hW1
  clear a hx1 hb1 hb2 hW1 hf hv hs1 hof hst
  have hmf : ∀ (fn : _root_.Go.Fn) (first cap : Array Value) (w : World), (Instr.makeFunc fn first cap).run Tryz.prog w = .ok (.func fn first cap) w := fun _ _ _ _ => rfl
  go_enter Tryz.func8, Tryz.ntmps8
  go_upto_region 1 with (fail)
  change Code.wp _ _ _ _ ((w.alloc (.cells #[.pointer (some ⟨L.bm, 0, none⟩)] 37)).alloc (.cells #[.int .i64 i] 3))
  rw [← HW.out]
  generalize w.heap.size = r1 at *
  go_wp2_with (go_at_call 38; refine HE.out.mono ?_; rintro e w3 ⟨rfl, a3⟩; have HA3 := Lib.hid a3; clear a3)
  go_ret
  exact ⟨rfl, HA3.out⟩
end
end Go.Proofs.YtfljmdpigckpkaaGreatDoor
