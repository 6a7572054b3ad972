/- The program's copied: a program that is alike and lies apart. Written by genVL.py. -/
import Derived.Test.YtfljmdpigckpkaaGreatDoorSvM
namespace Go.Proofs.YtfljmdpigckpkaaGreatDoor
open Go.RowKit Go.Shelf
attribute [local go_sem] Oper.semAt_some
/-- So much that copies do not burst. -/
structure SmallP (P : Prg) : Prop where
  n0 : P.loops.length ≤ 1000
  n1 : P.clss.length ≤ 1000
  n2 : P.glbs.length ≤ 1000
  n3 : P.fns.length ≤ 1000
  n4 : P.cmps.length ≤ 1000
  n5 : P.evts.length ≤ 1000
  n7 : P.sits.length ≤ 1000
  cls : ∀ (i : Nat) (y : Cls), P.clss[i]? = some y → y.names.length ≤ 1000 ∧ y.flds.length ≤ 1000
  fn : ∀ (i : Nat) (f : Fn), P.fns[i]? = some f → f.code.length ≤ 1000 ∧ ∀ (k : Nat) (x : Ins), f.code[k]? = some x → x.l.length ≤ 1000
set_option maxHeartbeats 16000000 in
set_option maxRecDepth 100000 in
theorem copied_ok {P : Prg} {W : World} (h : P.In W) (hz : SmallP P) : Calls Tryz.prog 136 #[P.v] W fun e W' => ∃ Q, e = .returned Q.v ∧ PrgLike P Q ∧ Q.In W' ∧ Ext W W' := by
  unfold Prg.v
  have HP := Lib.hid (fun (w : World) (k : Ext W w) => h.kept k)
  have HZ := Lib.hid hz
  clear h hz
  obtain ⟨B, hB⟩ : ∃ B, B = W.heap.size := ⟨_, rfl⟩
  go_enter Tryz.func136, Tryz.ntmps136
  go_upto_region 1 with (fail)
  obtain ⟨W2, hW2⟩ : ∃ W2, W2 = (W.alloc P.o).alloc (bxo (.slice none 0 0) (.slice none 0 0) (.slice none 0 0) (.slice none 0 0) (.slice none 0 0) (.slice none 0 0) (.int .i64 0) (.slice none 0 0)) := ⟨_, rfl⟩
  change Code.wp _ _ _ _ ((W.alloc P.o).alloc (bxo (.slice none 0 0) (.slice none 0 0) (.slice none 0 0) (.slice none 0 0) (.slice none 0 0) (.slice none 0 0) (.int .i64 0) (.slice none 0 0)))
  rw [← hW2, ← hB]
  have hx : Ext W W2 := by rw [hW2]; exact (Ext.one _ _).trans (Ext.one _ _)
  have hb : W2.heap[B]? = some (bxo (.slice P.loopsA P.loops.length P.loopsC) (.slice P.clssA P.clss.length P.clssC) (.slice P.glbsA P.glbs.length P.glbsC) (.slice P.fnsA P.fns.length P.fnsC) (.slice P.cmpsA P.cmps.length P.cmpsC) (.slice P.evtsA P.evts.length P.evtsC) (.int .i64 P.main) (.slice P.sitsA P.sits.length P.sitsC)) := by
    rw [hW2, hB]
    exact ((Ext.one _ _).kept (fun _ _ => true)).same _ _ (World.alloc_heap_new _ _) rfl
  have HR2 := Lib.hid (show W2.heap[B + 1]? = some (bxo (.slice none 0 0) (.slice none 0 0) (.slice none 0 0) (.slice none 0 0) (.slice none 0 0) (.slice none 0 0) (.int .i64 0) (.slice none 0 0)) by
    rw [hW2, hB]
    have := World.alloc_heap_new (W.alloc P.o) (bxo (.slice none 0 0) (.slice none 0 0) (.slice none 0 0) (.slice none 0 0) (.slice none 0 0) (.slice none 0 0) (.int .i64 0) (.slice none 0 0))
    rwa [World.size_alloc] at this)
  have HWB := Lib.hid (show W.heap.size ≤ B by omega)
  have HX := Lib.hid hx
  have HB := Lib.hid hb
  have HA := Lib.hid (ExtB.refl B W2)
  clear hW2 hB
  obtain ⟨x0, x1, x2, x3, x4, x5, x6, x7, xl, xf⟩ := bxo_cells hb
  have HD := Lib.hid (show Dn B W2 (fun _ => True) from fun _ _ => trivial)
  clear hx hb
  have HC := Lib.hid (cloneStrs_ok _ _ _ (HP.out _ HX.out).loops.src (by have := HZ.out.n0; omega))
  have HBL := Lib.hid (Nat.lt_of_lt_of_le (Array.getElem?_eq_some_iff.1 HR2.out).1 HA.out.size)
  go_upto_region 2 with (go_at_call 202; refine HC.out.mono ?_; rintro e u0 ⟨A0, c0, rfl, hx2, hown⟩; have HX2 := Lib.hid hx2; have HO := Lib.hid hown; have hb2 := (hx2.kept (fun _ _ => true)).same _ _ HB.out rfl; have HB2 := Lib.hid hb2; obtain ⟨y0, y1, y2, y3, y4, y5, y6, y7, yl, yf⟩ := bxo_cells hb2; clear hx2 hown hb2)
  clear x0 x1 x2 x3 x4 x5 x6 x7 xl xf y0 y1 y2 y3 y4 y5 y6 y7 yl yf HC
  have hkp : Kept (ne' B) u0 (u0.setCell ⟨B, 0, none⟩ (.slice A0 P.loops.length c0)) := Kept.setCell _ fun o ho => by simp [ne']
  have hb3 := bxo_set0 HB2.out (.slice A0 P.loops.length c0)
  generalize u0.setCell ⟨B, 0, none⟩ (.slice A0 P.loops.length c0) = w0 at *
  have HST := Lib.hid ((HX2.out.toB B).box hkp)
  have HX3 := Lib.hid (ext_ne (HX.out.trans HX2.out) hkp HWB.out)
  have HA3 := Lib.hid (HA.out.trans HST.out)
  have HD3 := Lib.hid (show Dn B w0 (fun w => (Row1 sV w A0 P.loops.length c0 P.loops) ∧ (True)) from fun w' q => ⟨own_row1 (Dn.own HO.out HBL.out w' (((ExtB.refl B _).box hkp).thenC q)), HD.out w' (HST.out.thenC q)⟩)
  have HB3 := Lib.hid hb3
  obtain ⟨x0, x1, x2, x3, x4, x5, x6, x7, xl, xf⟩ := bxo_cells hb3
  clear hkp hb3 HX HA HB HD HX2 HB2 HST HO HBL
  have HX := HX3
  clear HX3
  have HA := HA3
  clear HA3
  have HB := HB3
  clear HB3
  have HD := HD3
  clear HD3
  have HC := Lib.hid (cloneClss_ok _ _ _ ((HP.out _ HX.out).clss.src (fun _ => rfl) (by omega)) (by have := HZ.out.n1; omega))
  have HBL := Lib.hid (Nat.lt_of_lt_of_le (Array.getElem?_eq_some_iff.1 HR2.out).1 HA.out.size)
  go_upto_region 3 with (go_at_call 203; refine HC.out.mono ?_; rintro e u1 ⟨A1, c1, rfl, hx2, hown⟩; have HX2 := Lib.hid hx2; have HO := Lib.hid hown; have hb2 := (hx2.kept (fun _ _ => true)).same _ _ HB.out rfl; have HB2 := Lib.hid hb2; obtain ⟨y0, y1, y2, y3, y4, y5, y6, y7, yl, yf⟩ := bxo_cells hb2; clear hx2 hown hb2)
  clear x0 x1 x2 x3 x4 x5 x6 x7 xl xf y0 y1 y2 y3 y4 y5 y6 y7 yl yf HC
  have hkp : Kept (ne' B) u1 (u1.setCell ⟨B, 1, none⟩ (.slice A1 P.clss.length c1)) := Kept.setCell _ fun o ho => by simp [ne']
  have hb3 := bxo_set1 HB2.out (.slice A1 P.clss.length c1)
  generalize u1.setCell ⟨B, 1, none⟩ (.slice A1 P.clss.length c1) = w1 at *
  have HST := Lib.hid ((HX2.out.toB B).box hkp)
  have HX3 := Lib.hid (ext_ne (HX.out.trans HX2.out) hkp HWB.out)
  have HA3 := Lib.hid (HA.out.trans HST.out)
  have HROW := Lib.hid (Dn.own HO.out HBL.out w1 ((ExtB.refl B _).box hkp).toC)
  have HB3 := Lib.hid hb3
  obtain ⟨x0, x1, x2, x3, x4, x5, x6, x7, xl, xf⟩ := bxo_cells hb3
  clear hkp hb3 HX HA3 HB HX2 HB2 HO
  have HX := HX3
  clear HX3
  have HB := HB3
  clear HB3
  obtain ⟨g1, hg1⟩ : ∃ g, W.heap.size ≤ g ∧ (0 < P.clss.length → A1 = some ⟨g, 0, none⟩ ∧ w0.heap.size ≤ g) := by
    rcases Nat.eq_zero_or_pos P.clss.length with h0 | h0
    · exact ⟨B, HWB.out, fun q => absurd q (by omega)⟩
    · obtain ⟨g, q1, q2, _⟩ := own_some HROW.out h0
      have := HBL.out
      have := HWB.out
      exact ⟨g, by omega, fun _ => ⟨q1, q2⟩⟩
  have HG1 := Lib.hid hg1
  have HIN := Lib.hid (show R2 g1 B w1 (fun w => ∀ y ∈ P.clss, Cls.In w y) from R2.old (fun w k y hy => by
    obtain ⟨i, hi, rfl⟩ := List.getElem_of_mem hy
    obtain ⟨_, _, _, _, q, _⟩ := Prg.cls_all (HP.out w k) hi
    exact q) HX.out hg1.1 HWB.out)
  clear hg1
  go_wp2_with fail
  clear x0 x1 x2 x3 x4 x5 x6 x7 xl xf
  go_loopg [19] P.clss.length (fun k v19 wr => ∃ (i : Nat) (T : List Cls), i + k = P.clss.length ∧ v19 = .int .i64 i ∧ allLike Cls.like P.clss T ∧ Ext W wr ∧ ExtB B w0 wr ∧ wr.heap[B]? = some (bxo (.slice A0 P.loops.length c0) (.slice A1 P.clss.length c1) (.slice P.glbsA P.glbs.length P.glbsC) (.slice P.fnsA P.fns.length P.fnsC) (.slice P.cmpsA P.cmps.length P.cmpsC) (.slice P.evtsA P.evts.length P.evtsC) (.int .i64 P.main) (.slice P.sitsA P.sits.length P.sitsC)) ∧ wr.ownsRow w0.heap.size 319 3 (.slice A1 P.clss.length c1) P.clss.length (T.flatMap Cls.cells) ∧ R2 g1 B wr (fun w => ∀ y ∈ T, Cls.In w y))
  case atStart => exact ⟨0, P.clss, by omega, rfl, .refl Cls.like.refl _, HX.out, HST.out, HB.out, HROW.out, HIN.out⟩
  case round =>
    clear HX HST HB HROW HIN
    obtain ⟨i, T, hik, rfl, hlk, hx, hst, hb, hrow, hin⟩ := hrel
    have HX := Lib.hid hx
    have HST := Lib.hid hst
    have HB := Lib.hid hb
    have HROW := Lib.hid hrow
    have HIN := Lib.hid hin
    have HLK := Lib.hid hlk
    have hn1 := HZ.out.n1
    rcases Nat.lt_or_ge i P.clss.length with hi | hi
    · have z0 : (i : Int) < (P.clss.length : Int) := by omega
      obtain ⟨hA, hg0⟩ := HG1.out.2 (by omega)
      obtain ⟨y, hy⟩ : ∃ y, T[i]? = some y := ⟨T[i]'(by rw [hlk.1]; exact hi), List.getElem?_eq_getElem _⟩
      obtain ⟨p, hp⟩ : ∃ p, P.clss[i]? = some p := ⟨P.clss[i], List.getElem?_eq_getElem _⟩
      have hlike := hlk.2 i p y hp hy
      have hsz := HZ.out.cls i p hp
      subst hA
      have hc := own_cells (f := Cls.cells) (s := 3) (fun _ => rfl) hrow hy
      have d0 : wr.cell? ⟨g1, i * 3, none⟩ = some (.string y.name) := hc 0 _ rfl
      have d1 : wr.cell? ⟨g1, i * 3 + 1, none⟩ = some (.slice y.namesA y.names.length y.namesC) := hc 1 _ rfl
      have d2 : wr.cell? ⟨g1, i * 3 + 2, none⟩ = some (.slice y.fldsA y.flds.length y.fldsC) := hc 2 _ rfl
      have hyI := hin.here y (List.mem_of_getElem? hy)
      have hny : y.names.length ≤ 100000 := by
        rw [hlike.2.1]
        have := hsz.1
        omega
      have hfy : y.flds.length ≤ 100000 := by
        rw [hlike.2.2]
        have := hsz.2
        omega
      have HC0 := Lib.hid (fun (w : World) (k : Ext wr w) => cloneStrs_ok y.names y.namesA y.namesC (hyI.kept k).names.src hny)
      have HC2 := Lib.hid (fun (w : World) (k : Ext wr w) => cloneTyps_ok y.flds y.fldsA y.fldsC (hyI.kept k).flds.src hfy)
      have HD0 := Lib.hid (And.intro d1 d2)
      have HL := Lib.hid hlike
      have HY := Lib.hid (And.intro hy hp)
      have HHI := Lib.hid hi
      have HIK := Lib.hid hik
      obtain ⟨k1, hk1⟩ : ∃ k1, k1 = i * 3 + 1 := ⟨_, rfl⟩
      obtain ⟨k2, hk2⟩ : ∃ k2, k2 = i * 3 + 2 := ⟨_, rfl⟩
      have HLEN := Lib.hid (show (T.flatMap Cls.cells).length = P.clss.length * 3 by rw [flat_len (s := 3) fun _ => rfl, hlk.1])
      obtain ⟨x0, x1, x2, x3, x4, x5, x6, x7, xl, xf⟩ := bxo_cells hb
      clear hx hst hb hrow hin hlk hc hyI hlike hsz hk1 hk2 hny hfy
      go_upto_region 7 with (fail)
      have hg1l : g1 < wr.heap.size := (own_some HROW.out (by omega)).elim fun g q => by
        obtain ⟨q1, _, q2⟩ := q
        injection q1 with q1
        injection q1 with q1
        omega
      clear x0 x1 x2 x3 x4 x5 x6 x7 xl xf d0 hik hi hy hp hg0
      go_region_with (first
        | (go_at_call 204; refine (HC2.out _ HX4.out).mono ?_; rintro e w6 ⟨D2, e2, rfl, hx6, hown6⟩; have HX6 := Lib.hid (HX4.out.trans hx6); have HX46 := Lib.hid hx6; have HO6 := Lib.hid hown6; obtain ⟨gg, cc, he, _, hfr, hc1, hgl, _, _⟩ := ownN_set ((HX6.out.kept (fun _ _ => true)).row HROW.out fun _ _ => rfl) (k := i * 3 + 1) (by rw [HLEN.out]; have := HHI.out; omega) undef; obtain ⟨rfl⟩ : g1 = gg := (by injection he with he; injection he with he; injection he with he); have f1 := (HX6.out.kept (fun _ _ => true)).cell HD0.out.1 fun _ _ => rfl; have f2 := (HX6.out.kept (fun _ _ => true)).cell HD0.out.2 fun _ _ => rfl; clear hx6 hown6 he hc1)
        | (go_at_call 202; refine (HC0.out _ (Ext.drew _)).mono ?_; rintro e w4 ⟨D1, e1, rfl, hx4, hown4⟩; have HX4 := Lib.hid ((Ext.drew wr).trans hx4); have HO4 := Lib.hid hown4; have e2' := (HX4.out.kept (fun _ _ => true)).cell HD0.out.2 fun _ _ => rfl; have gl4 := Nat.lt_of_lt_of_le hg1l HX4.out.size; clear hx4 hown4))
      all_goals
        obtain ⟨Wf, hWf, q1, q2, q3, q4, q5, q6⟩ := cls_step HX.out HST.out HB.out HROW.out HIN.out HLK.out HY.out.1 HY.out.2 HL.out HG1.out.1 (HG1.out.2 (by have := HHI.out; omega)).2 HBL.out hg1l HX6.out HX46.out HO4.out (Nat.le_refl _) HO6.out HX4.out.size
        rw [← hWf]
        have HF := Lib.hid (And.intro q1 (And.intro q2 (And.intro q3 (And.intro q4 (And.intro q5 q6)))))
        have hik := HIK.out
        clear q1 q2 q3 q4 q5 q6 hWf d1 d2 e2' gl4 f1 f2 hfr hgl HX6 HX46 HO4 HO6 HX4
        have z0 : (i : Int) < (P.clss.length : Int) := by have := HHI.out; omega
        go_wp2_with fail
        go_roundg (gk - 1)
        case measure => omega
        case rel => exact ⟨i + 1, _, by omega, by go_num, HF.out.2.2.2.2.2, HF.out.1, HF.out.2.1, HF.out.2.2.1, HF.out.2.2.2.1, HF.out.2.2.2.2.1⟩
    · have z0 : ¬ (i : Int) < (P.clss.length : Int) := by omega
      have hdn : Dn B wr (fun w => RowN Cls.cells 3 (Cls.In w) w A1 T.length c1 T) := fun w' q => own_rowN (fun _ => rfl) (by rw [hlk.1]; exact Dn.own hrow HBL.out w' q) fun y hy => hin.dn w' q y hy
      have HDC := Lib.hid hdn
      have HD3 := Lib.hid (HD.out.go hst)
      have HA3 := Lib.hid (HA.out.trans hst)
      have HLK1 := Lib.hid hlk
      obtain ⟨wc, rfl⟩ : ∃ y, y = wr := ⟨_, rfl⟩
      obtain ⟨T1, rfl⟩ : ∃ y, y = T := ⟨_, rfl⟩
      have HDN := Lib.hid (show Dn B wc (fun w => (RowN Cls.cells 3 (Cls.In w) w A1 T1.length c1 T1) ∧ ((Row1 sV w A0 P.loops.length c0 P.loops) ∧ (True))) from fun w' q => ⟨HDC.out w' q, HD3.out w' q⟩)
      clear HD HA HDC HD3 HST HROW HIN HLK hx hst hb hrow hin hlk hdn hi hik hn1 HBL HG1
      have HD := HDN
      have HA := HA3
      clear HDN HA3
      obtain ⟨x0, x1, x2, x3, x4, x5, x6, x7, xl, xf⟩ := bxo_cells HB.out
      go_upto_region 9 with (fail)
      have HC := Lib.hid (cloneGlbs_ok _ _ _ ((HP.out _ HX.out).glbs.src (fun _ => rfl) (by omega)) (by have := HZ.out.n2; omega))
      have HBL := Lib.hid (Nat.lt_of_lt_of_le (Array.getElem?_eq_some_iff.1 HR2.out).1 HA.out.size)
      go_upto_region 10 with (go_at_call 205; refine HC.out.mono ?_; rintro e u2 ⟨A2, c2, rfl, hx2, hown⟩; have HX2 := Lib.hid hx2; have HO := Lib.hid hown; have hb2 := (hx2.kept (fun _ _ => true)).same _ _ HB.out rfl; have HB2 := Lib.hid hb2; obtain ⟨y0, y1, y2, y3, y4, y5, y6, y7, yl, yf⟩ := bxo_cells hb2; clear hx2 hown hb2)
      clear x0 x1 x2 x3 x4 x5 x6 x7 xl xf y0 y1 y2 y3 y4 y5 y6 y7 yl yf HC
      have hkp : Kept (ne' B) u2 (u2.setCell ⟨B, 2, none⟩ (.slice A2 P.glbs.length c2)) := Kept.setCell _ fun o ho => by simp [ne']
      have hb3 := bxo_set2 HB2.out (.slice A2 P.glbs.length c2)
      generalize u2.setCell ⟨B, 2, none⟩ (.slice A2 P.glbs.length c2) = w2 at *
      have HST := Lib.hid ((HX2.out.toB B).box hkp)
      have HX3 := Lib.hid (ext_ne (HX.out.trans HX2.out) hkp HWB.out)
      have HA3 := Lib.hid (HA.out.trans HST.out)
      have HD3 := Lib.hid (show Dn B w2 (fun w => (RowN Glb.cells 2 (fun _ => True) w A2 P.glbs.length c2 P.glbs) ∧ ((RowN Cls.cells 3 (Cls.In w) w A1 T1.length c1 T1) ∧ ((Row1 sV w A0 P.loops.length c0 P.loops) ∧ (True)))) from fun w' q => ⟨own_rowN (fun _ => rfl) (Dn.own HO.out HBL.out w' (((ExtB.refl B _).box hkp).thenC q)) fun _ _ => trivial, HD.out w' (HST.out.thenC q)⟩)
      have HB3 := Lib.hid hb3
      obtain ⟨x0, x1, x2, x3, x4, x5, x6, x7, xl, xf⟩ := bxo_cells hb3
      clear hkp hb3 HX HA HB HD HX2 HB2 HST HO HBL
      have HX := HX3
      clear HX3
      have HA := HA3
      clear HA3
      have HB := HB3
      clear HB3
      have HD := HD3
      clear HD3
      have HC := Lib.hid (cloneFns_ok _ _ _ ((HP.out _ HX.out).fns.src (fun _ => rfl) (by omega)) (by have := HZ.out.n3; omega))
      have HBL := Lib.hid (Nat.lt_of_lt_of_le (Array.getElem?_eq_some_iff.1 HR2.out).1 HA.out.size)
      go_upto_region 11 with (go_at_call 206; refine HC.out.mono ?_; rintro e u3 ⟨A3, c3, rfl, hx2, hown⟩; have HX2 := Lib.hid hx2; have HO := Lib.hid hown; have hb2 := (hx2.kept (fun _ _ => true)).same _ _ HB.out rfl; have HB2 := Lib.hid hb2; obtain ⟨y0, y1, y2, y3, y4, y5, y6, y7, yl, yf⟩ := bxo_cells hb2; clear hx2 hown hb2)
      clear x0 x1 x2 x3 x4 x5 x6 x7 xl xf y0 y1 y2 y3 y4 y5 y6 y7 yl yf HC
      have hkp : Kept (ne' B) u3 (u3.setCell ⟨B, 3, none⟩ (.slice A3 P.fns.length c3)) := Kept.setCell _ fun o ho => by simp [ne']
      have hb3 := bxo_set3 HB2.out (.slice A3 P.fns.length c3)
      generalize u3.setCell ⟨B, 3, none⟩ (.slice A3 P.fns.length c3) = w3 at *
      have HST := Lib.hid ((HX2.out.toB B).box hkp)
      have HX3 := Lib.hid (ext_ne (HX.out.trans HX2.out) hkp HWB.out)
      have HA3 := Lib.hid (HA.out.trans HST.out)
      have HROW := Lib.hid (Dn.own HO.out HBL.out w3 ((ExtB.refl B _).box hkp).toC)
      have HB3 := Lib.hid hb3
      obtain ⟨x0, x1, x2, x3, x4, x5, x6, x7, xl, xf⟩ := bxo_cells hb3
      clear hkp hb3 HX HA3 HB HX2 HB2 HO
      have HX := HX3
      clear HX3
      have HB := HB3
      clear HB3
      obtain ⟨g3, hg3⟩ : ∃ g, W.heap.size ≤ g ∧ (0 < P.fns.length → A3 = some ⟨g, 0, none⟩ ∧ w2.heap.size ≤ g) := by
        rcases Nat.eq_zero_or_pos P.fns.length with h0 | h0
        · exact ⟨B, HWB.out, fun q => absurd q (by omega)⟩
        · obtain ⟨g, q1, q2, _⟩ := own_some HROW.out h0
          have := HBL.out
          have := HWB.out
          exact ⟨g, by omega, fun _ => ⟨q1, q2⟩⟩
      have HG3 := Lib.hid hg3
      have HIN := Lib.hid (show R2 g3 B w3 (fun w => ∀ y ∈ P.fns, Fn.In w y) from R2.old (fun w k y hy => by
        obtain ⟨i, hi, rfl⟩ := List.getElem_of_mem hy
        exact Prg.fn_in (HP.out w k) hi) HX.out hg3.1 HWB.out)
      clear hg3
      go_wp2_with fail
      clear x0 x1 x2 x3 x4 x5 x6 x7 xl xf
      go_loopg [54] P.fns.length (fun k v54 wr => ∃ (i : Nat) (T : List Fn), i + k = P.fns.length ∧ v54 = .int .i64 i ∧ allLike Fn.like P.fns T ∧ Ext W wr ∧ ExtB B w2 wr ∧ wr.heap[B]? = some (bxo (.slice A0 P.loops.length c0) (.slice A1 P.clss.length c1) (.slice A2 P.glbs.length c2) (.slice A3 P.fns.length c3) (.slice P.cmpsA P.cmps.length P.cmpsC) (.slice P.evtsA P.evts.length P.evtsC) (.int .i64 P.main) (.slice P.sitsA P.sits.length P.sitsC)) ∧ wr.ownsRow w2.heap.size 92 4 (.slice A3 P.fns.length c3) P.fns.length (T.flatMap Fn.cells) ∧ R2 g3 B wr (fun w => ∀ y ∈ T, Fn.In w y))
      case atStart => exact ⟨0, P.fns, by omega, rfl, .refl Fn.like.refl _, HX.out, HST.out, HB.out, HROW.out, HIN.out⟩
      case round =>
        clear HX HST HB HROW HIN
        obtain ⟨i, T, hik, rfl, hlk, hx, hst, hb, hrow, hin⟩ := hrel
        obtain ⟨wq, rfl⟩ : ∃ y, y = wr := ⟨_, rfl⟩
        have HX := Lib.hid hx
        have HST := Lib.hid hst
        have HB := Lib.hid hb
        have HROW := Lib.hid hrow
        have HIN := Lib.hid hin
        have HLK := Lib.hid hlk
        have hn3 := HZ.out.n3
        rcases Nat.lt_or_ge i P.fns.length with hi | hi
        · have z0 : (i : Int) < (P.fns.length : Int) := by omega
          obtain ⟨hA, hg0⟩ := HG3.out.2 (by omega)
          obtain ⟨y, hy⟩ : ∃ y, T[i]? = some y := ⟨T[i]'(by rw [hlk.1]; exact hi), List.getElem?_eq_getElem _⟩
          obtain ⟨p, hp⟩ : ∃ p, P.fns[i]? = some p := ⟨P.fns[i], List.getElem?_eq_getElem _⟩
          have hlike := hlk.2 i p y hp hy
          have hsz := HZ.out.fn i p hp
          subst hA
          have hc := own_cells (f := Fn.cells) (s := 4) (fun _ => rfl) hrow hy
          have d3 : wq.cell? ⟨g3, i * 4 + 3, none⟩ = some (.slice y.codeA y.code.length y.codeC) := hc 3 _ rfl
          have hyI := hin.here y (List.mem_of_getElem? hy)
          have hcl : y.code.length ≤ 100000 := by
            have h1 := hlike.2.2.2.1
            have h2 := hsz.1
            omega
          have HC := Lib.hid (cloneInss_ok y.code y.codeA y.codeC (hyI.code.src (fun _ => rfl) (by omega)) hcl)
          have hgl : g3 < wq.heap.size := (own_some hrow (by omega)).elim fun g q => by
            obtain ⟨q1, _, q2⟩ := q
            injection q1 with q1
            injection q1 with q1
            omega
          have HLI := Lib.hid (show ∀ (k : Nat) (x : Ins), y.code[k]? = some x → x.l.length ≤ 100000 by
            intro k x hk
            have hkl : k < p.code.length := by
              rw [← hlike.2.2.2.1]
              exact (List.getElem?_eq_some_iff.1 hk).1
            have h1 := hlike.2.2.2.2 k _ x (List.getElem?_eq_getElem hkl) hk
            have h2 := hsz.2 k _ (List.getElem?_eq_getElem hkl)
            rw [h1.2.2.2.2.2.1]
            omega)
          have HL := Lib.hid hlike
          have HY := Lib.hid (And.intro hy hp)
          have HHI := Lib.hid hi
          have HIK := Lib.hid hik
          have HLEN := Lib.hid (show (T.flatMap Fn.cells).length = P.fns.length * 4 by rw [flat_len (s := 4) fun _ => rfl, hlk.1])
          obtain ⟨G, hG⟩ : ∃ G, G = gk := ⟨_, rfl⟩
          have HGK := Lib.hid hG
          have HCL := Lib.hid hcl
          obtain ⟨x0, x1, x2, x3, x4, x5, x6, x7, xl, xf⟩ := bxo_cells hb
          clear hx hst hb hrow hin hlk hc hyI hlike hsz hG
          go_upto_region 16 with (go_at_call 207; refine HC.out.mono ?_; rintro e u5 ⟨E5, e5, rfl, hx5, hown5⟩; have HX5 := Lib.hid hx5; have HO5 := Lib.hid hown5; obtain ⟨gg, cc, he, _, hfr, hc1, hgl5, _, _⟩ := ownN_set ((hx5.kept (fun _ _ => true)).row HROW.out fun _ _ => rfl) (k := i * 4 + 3) (by rw [HLEN.out]; have := HHI.out; omega) undef; obtain ⟨rfl⟩ : g3 = gg := (by injection he with he; injection he with he; injection he with he); have f3 := (hx5.kept (fun _ _ => true)).cell d3 fun _ _ => rfl; clear hx5 hown5 he hc1)
          obtain ⟨gk5, hk5, hk6⟩ : ∃ g, wq.heap.size ≤ g ∧ (0 < y.code.length → E5 = some ⟨g, 0, none⟩) := by
            rcases Nat.eq_zero_or_pos y.code.length with h0 | h0
            · exact ⟨wq.heap.size, Nat.le_refl _, fun q => absurd q (by omega)⟩
            · obtain ⟨g, q1, q2, _⟩ := own_some HO5.out h0
              exact ⟨g, q2, fun _ => q1⟩
          obtain ⟨Wf, hWf, hF⟩ := fn_store HX.out HST.out HB.out HROW.out HIN.out HY.out.1 HG3.out.1 hg0 HBL.out hgl rfl HX5.out HO5.out (Nat.le_refl _) hk5
          rw [← hWf]
          obtain ⟨p3, pl⟩ := hF.ptr (by rw [HLK.out.1]; exact HHI.out) rfl
          have HF := Lib.hid hF
          have HK5 := Lib.hid (And.intro hk5 hk6)
          have HGL := Lib.hid (And.intro hgl hg0)
          clear d3 f3 hfr hgl5 hgl hg0 HX5 HO5 hF hWf hk5 hk6 x0 x1 x2 x3 x4 x5 x6 x7 xl xf z0 hi hik hcl hy hp HC
          go_wp2_with fail
          clear p3 pl
          go_loopg [74] y.code.length (fun k v74 wz => ∃ (n : Nat) (C : List Ins), n + k = y.code.length ∧ v74 = .int .i64 n ∧ InR B g3 c3 P.fns.length i y.code.length E5 e5 gk5 wq.heap.size W w2 wq (bxo (.slice A0 P.loops.length c0) (.slice A1 P.clss.length c1) (.slice A2 P.glbs.length c2) (.slice (some ⟨g3, 0, none⟩) P.fns.length c3) (.slice P.cmpsA P.cmps.length P.cmpsC) (.slice P.evtsA P.evts.length P.evtsC) (.int .i64 P.main) (.slice P.sitsA P.sits.length P.sitsC)) T y C wz)
          case atStart => exact ⟨0, y.code, by omega, rfl, HF.out⟩
          case round =>
            clear HF
            obtain ⟨n, C, hnk, rfl, hF⟩ := hrel
            have HF := Lib.hid hF
            rcases Nat.lt_or_ge n y.code.length with hn | hn
            · have z1 : (n : Int) < (y.code.length : Int) := by omega
              have hE := HK5.out.2 (by omega)
              subst hE
              have hcl := HCL.out
              obtain ⟨x, hcx⟩ : ∃ x, C[n]? = some x := ⟨C[n]'(by rw [hF.like.1]; exact hn), List.getElem?_eq_getElem _⟩
              obtain ⟨z, hyz⟩ : ∃ z, y.code[n]? = some z := ⟨y.code[n], List.getElem?_eq_getElem _⟩
              have hlz := hF.like.2 n z x hyz hcx
              have hxl : x.l.length ≤ 100000 := by
                rw [hlz.2.2.2.2.2.1]
                exact HLI.out n z hyz
              obtain ⟨p3, pl⟩ := hF.ptr (by rw [HLK.out.1]; exact HHI.out) rfl
              have p5 : wr.cell? ⟨gk5, n * 8 + 5, none⟩ = some (.slice x.lA x.l.length x.lC) := own_cells (f := Ins.cells) (s := 8) (fun _ => rfl) hF.code hcx 5 _ rfl
              have p5l := World.block_lt_of_cell? _ _ p5
              have hxI := hF.ins.here x (List.mem_of_getElem? hcx)
              have HCI := Lib.hid (fun (w : World) (k : Ext wr w) => cloneInts_ok x.l x.lA x.lC (hxI.l.kept k).src hxl)
              have HCX := Lib.hid (And.intro hcx (And.intro hyz hlz))
              have HCODE := Lib.hid hF.code
              have HLEN2 := Lib.hid (show (C.flatMap Ins.cells).length = y.code.length * 8 by rw [flat_len (s := 8) fun _ => rfl, hF.like.1])
              have HN := Lib.hid (And.intro hn hnk)
              clear hnk hcx hyz hlz hxI hxl hF
              go_upto_region 19 with (fail)
              go_region_with (first
                | (go_at_call 69; refine (HCI.out _ (Ext.drew _)).mono ?_; rintro e u7 ⟨D7, d7, rfl, hx7, hown7⟩; have HX7 := Lib.hid ((Ext.drew wr).trans hx7); have HO7 := Lib.hid hown7; obtain ⟨gg, cc, he, _, hfr, hc1, hgl7, _, _⟩ := ownN_set ((HX7.out.kept (fun _ _ => true)).row HCODE.out fun _ _ => rfl) (k := n * 8 + 5) (by rw [HLEN2.out]; have := HN.out.1; omega) undef; obtain ⟨rfl⟩ : gk5 = gg := (by injection he with he; injection he with he; injection he with he); have f3 := (HX7.out.kept (fun _ _ => true)).cell p3 fun _ _ => rfl; have f5 := (HX7.out.kept (fun _ _ => true)).cell p5 fun _ _ => rfl; have f6 := Nat.lt_of_lt_of_le pl HX7.out.size; clear hx7 hown7 he hc1))
              all_goals
                obtain ⟨Wg, hWg, hG⟩ := ins_step HF.out rfl HCX.out.2.1 HCX.out.1 HCX.out.2.2 HX.out.size HGL.out.1 HST.out.size HBL.out HK5.out.1 p5l HX7.out HO7.out (Nat.le_refl _)
                rw [← hWg]
                have HF2 := Lib.hid hG
                have hn := HN.out.1
                have hnk := HN.out.2
                clear hG hWg p3 pl p5 p5l f3 f5 f6 hfr hgl7 HX7 HO7
                go_wp2_with fail
                go_roundg (gk - 1)
                case measure => omega
                case rel => exact ⟨n + 1, _, by omega, by go_num, HF2.out⟩
            · have z1 : ¬ (n : Int) < (y.code.length : Int) := by omega
              have hFE := fn_end hF HIN.out HLK.out HY.out.1 HY.out.2 rfl HL.out HGL.out.1 (Nat.lt_of_lt_of_le HBL.out HST.out.size)
              have HFE := Lib.hid hFE
              have hn3 := HZ.out.n3
              have hi := HHI.out
              have z0 : (i : Int) < (P.fns.length : Int) := by omega
              clear hnk hn hF hFE
              go_wp2_with fail
              have hg := HGK.out
              have hik := HIK.out
              go_roundg (G - 1)
              case measure => omega
              case rel => exact ⟨i + 1, _, by omega, by go_num, HFE.out.2.2.2.2.2, HFE.out.1, HFE.out.2.1, HFE.out.2.2.1, HFE.out.2.2.2.1, HFE.out.2.2.2.2.1⟩
        · have z0 : ¬ (i : Int) < (P.fns.length : Int) := by omega
          have hdn : Dn B wq (fun w => RowN Fn.cells 4 (Fn.In w) w A3 T.length c3 T) := fun w' q => own_rowN (fun _ => rfl) (by rw [hlk.1]; exact Dn.own hrow HBL.out w' q) fun y hy => hin.dn w' q y hy
          have HDC := Lib.hid hdn
          have HD3 := Lib.hid (HD.out.go hst)
          have HA3 := Lib.hid (HA.out.trans hst)
          have HLK3 := Lib.hid hlk
          obtain ⟨T3, rfl⟩ : ∃ y, y = T := ⟨_, rfl⟩
          have HDN := Lib.hid (show Dn B wq (fun w => (RowN Fn.cells 4 (Fn.In w) w A3 T3.length c3 T3) ∧ ((RowN Glb.cells 2 (fun _ => True) w A2 P.glbs.length c2 P.glbs) ∧ ((RowN Cls.cells 3 (Cls.In w) w A1 T1.length c1 T1) ∧ ((Row1 sV w A0 P.loops.length c0 P.loops) ∧ (True))))) from fun w' q => ⟨HDC.out w' q, HD3.out w' q⟩)
          clear HD HA HDC HD3 HST HROW HIN HLK hx hst hb hrow hin hlk hdn hi hik hn3 HBL HG3
          have HD := HDN
          have HA := HA3
          clear HDN HA3
          obtain ⟨x0, x1, x2, x3, x4, x5, x6, x7, xl, xf⟩ := bxo_cells HB.out
          go_upto_region 22 with (fail)
          have HC := Lib.hid (cloneCmps_ok _ _ _ ((HP.out _ HX.out).cmps.src (fun _ => rfl) (by omega)) (by have := HZ.out.n4; omega))
          have HBL := Lib.hid (Nat.lt_of_lt_of_le (Array.getElem?_eq_some_iff.1 HR2.out).1 HA.out.size)
          go_upto_region 23 with (go_at_call 208; refine HC.out.mono ?_; rintro e u4 ⟨A4, c4, rfl, hx2, hown⟩; have HX2 := Lib.hid hx2; have HO := Lib.hid hown; have hb2 := (hx2.kept (fun _ _ => true)).same _ _ HB.out rfl; have HB2 := Lib.hid hb2; obtain ⟨y0, y1, y2, y3, y4, y5, y6, y7, yl, yf⟩ := bxo_cells hb2; clear hx2 hown hb2)
          clear x0 x1 x2 x3 x4 x5 x6 x7 xl xf y0 y1 y2 y3 y4 y5 y6 y7 yl yf HC
          have hkp : Kept (ne' B) u4 (u4.setCell ⟨B, 4, none⟩ (.slice A4 P.cmps.length c4)) := Kept.setCell _ fun o ho => by simp [ne']
          have hb3 := bxo_set4 HB2.out (.slice A4 P.cmps.length c4)
          generalize u4.setCell ⟨B, 4, none⟩ (.slice A4 P.cmps.length c4) = w4 at *
          have HST := Lib.hid ((HX2.out.toB B).box hkp)
          have HX3 := Lib.hid (ext_ne (HX.out.trans HX2.out) hkp HWB.out)
          have HA3 := Lib.hid (HA.out.trans HST.out)
          have HD3 := Lib.hid (show Dn B w4 (fun w => (RowN Cmp.cells 6 (fun _ => True) w A4 P.cmps.length c4 P.cmps) ∧ ((RowN Fn.cells 4 (Fn.In w) w A3 T3.length c3 T3) ∧ ((RowN Glb.cells 2 (fun _ => True) w A2 P.glbs.length c2 P.glbs) ∧ ((RowN Cls.cells 3 (Cls.In w) w A1 T1.length c1 T1) ∧ ((Row1 sV w A0 P.loops.length c0 P.loops) ∧ (True)))))) from fun w' q => ⟨own_rowN (fun _ => rfl) (Dn.own HO.out HBL.out w' (((ExtB.refl B _).box hkp).thenC q)) fun _ _ => trivial, HD.out w' (HST.out.thenC q)⟩)
          have HB3 := Lib.hid hb3
          obtain ⟨x0, x1, x2, x3, x4, x5, x6, x7, xl, xf⟩ := bxo_cells hb3
          clear hkp hb3 HX HA HB HD HX2 HB2 HST HO HBL
          have HX := HX3
          clear HX3
          have HA := HA3
          clear HA3
          have HB := HB3
          clear HB3
          have HD := HD3
          clear HD3
          have HC := Lib.hid (cloneEvts_ok _ _ _ ((HP.out _ HX.out).evts.src (fun _ => rfl) (by omega)) (by have := HZ.out.n5; omega))
          have HBL := Lib.hid (Nat.lt_of_lt_of_le (Array.getElem?_eq_some_iff.1 HR2.out).1 HA.out.size)
          go_upto_region 24 with (go_at_call 209; refine HC.out.mono ?_; rintro e u5 ⟨A5, c5, rfl, hx2, hown⟩; have HX2 := Lib.hid hx2; have HO := Lib.hid hown; have hb2 := (hx2.kept (fun _ _ => true)).same _ _ HB.out rfl; have HB2 := Lib.hid hb2; obtain ⟨y0, y1, y2, y3, y4, y5, y6, y7, yl, yf⟩ := bxo_cells hb2; clear hx2 hown hb2)
          clear x0 x1 x2 x3 x4 x5 x6 x7 xl xf y0 y1 y2 y3 y4 y5 y6 y7 yl yf HC
          have hkp : Kept (ne' B) u5 (u5.setCell ⟨B, 5, none⟩ (.slice A5 P.evts.length c5)) := Kept.setCell _ fun o ho => by simp [ne']
          have hb3 := bxo_set5 HB2.out (.slice A5 P.evts.length c5)
          generalize u5.setCell ⟨B, 5, none⟩ (.slice A5 P.evts.length c5) = w5 at *
          have HST := Lib.hid ((HX2.out.toB B).box hkp)
          have HX3 := Lib.hid (ext_ne (HX.out.trans HX2.out) hkp HWB.out)
          have HA3 := Lib.hid (HA.out.trans HST.out)
          have HD3 := Lib.hid (show Dn B w5 (fun w => (RowN Evt.cells 4 (fun _ => True) w A5 P.evts.length c5 P.evts) ∧ ((RowN Cmp.cells 6 (fun _ => True) w A4 P.cmps.length c4 P.cmps) ∧ ((RowN Fn.cells 4 (Fn.In w) w A3 T3.length c3 T3) ∧ ((RowN Glb.cells 2 (fun _ => True) w A2 P.glbs.length c2 P.glbs) ∧ ((RowN Cls.cells 3 (Cls.In w) w A1 T1.length c1 T1) ∧ ((Row1 sV w A0 P.loops.length c0 P.loops) ∧ (True))))))) from fun w' q => ⟨own_rowN (fun _ => rfl) (Dn.own HO.out HBL.out w' (((ExtB.refl B _).box hkp).thenC q)) fun _ _ => trivial, HD.out w' (HST.out.thenC q)⟩)
          have HB3 := Lib.hid hb3
          obtain ⟨x0, x1, x2, x3, x4, x5, x6, x7, xl, xf⟩ := bxo_cells hb3
          clear hkp hb3 HX HA HB HD HX2 HB2 HST HO HBL
          have HX := HX3
          clear HX3
          have HA := HA3
          clear HA3
          have HB := HB3
          clear HB3
          have HD := HD3
          clear HD3
          have HC := Lib.hid (cloneSits_ok _ _ _ ((HP.out _ HX.out).sits.src (fun _ => rfl) (by omega)) (by have := HZ.out.n7; omega))
          have HBL := Lib.hid (Nat.lt_of_lt_of_le (Array.getElem?_eq_some_iff.1 HR2.out).1 HA.out.size)
          go_upto_region 25 with (go_at_call 210; refine HC.out.mono ?_; rintro e u7 ⟨A7, c7, rfl, hx2, hown⟩; have HX2 := Lib.hid hx2; have HO := Lib.hid hown; have hb2 := (hx2.kept (fun _ _ => true)).same _ _ HB.out rfl; have HB2 := Lib.hid hb2; obtain ⟨y0, y1, y2, y3, y4, y5, y6, y7, yl, yf⟩ := bxo_cells hb2; clear hx2 hown hb2)
          clear x0 x1 x2 x3 x4 x5 x6 x7 xl xf y0 y1 y2 y3 y4 y5 y6 y7 yl yf HC
          have hkp : Kept (ne' B) u7 (u7.setCell ⟨B, 7, none⟩ (.slice A7 P.sits.length c7)) := Kept.setCell _ fun o ho => by simp [ne']
          have hb3 := bxo_set7 HB2.out (.slice A7 P.sits.length c7)
          generalize u7.setCell ⟨B, 7, none⟩ (.slice A7 P.sits.length c7) = w7 at *
          have HST := Lib.hid ((HX2.out.toB B).box hkp)
          have HX3 := Lib.hid (ext_ne (HX.out.trans HX2.out) hkp HWB.out)
          have HA3 := Lib.hid (HA.out.trans HST.out)
          have HD3 := Lib.hid (show Dn B w7 (fun w => (RowN Sit.cells 2 (fun _ => True) w A7 P.sits.length c7 P.sits) ∧ ((RowN Evt.cells 4 (fun _ => True) w A5 P.evts.length c5 P.evts) ∧ ((RowN Cmp.cells 6 (fun _ => True) w A4 P.cmps.length c4 P.cmps) ∧ ((RowN Fn.cells 4 (Fn.In w) w A3 T3.length c3 T3) ∧ ((RowN Glb.cells 2 (fun _ => True) w A2 P.glbs.length c2 P.glbs) ∧ ((RowN Cls.cells 3 (Cls.In w) w A1 T1.length c1 T1) ∧ ((Row1 sV w A0 P.loops.length c0 P.loops) ∧ (True)))))))) from fun w' q => ⟨own_rowN (fun _ => rfl) (Dn.own HO.out HBL.out w' (((ExtB.refl B _).box hkp).thenC q)) fun _ _ => trivial, HD.out w' (HST.out.thenC q)⟩)
          have HB3 := Lib.hid hb3
          obtain ⟨x0, x1, x2, x3, x4, x5, x6, x7, xl, xf⟩ := bxo_cells hb3
          clear hkp hb3 HX HA HB HD HX2 HB2 HST HO HBL
          have HX := HX3
          clear HX3
          have HA := HA3
          clear HA3
          have HB := HB3
          clear HB3
          have HD := HD3
          clear HD3
          have hr := HA.out.same _ _ HR2.out (by have := (Array.getElem?_eq_some_iff.1 HR2.out).1; simp [this])
          obtain ⟨z0, z1, z2, z3, z4, z5, z6, z7, zl, zf⟩ := bxo_cells hr
          have HRR := Lib.hid hr
          clear hr
          go_wp2_with fail
          clear x0 x1 x2 x3 x4 x5 x6 x7 xl xf z0 z1 z2 z3 z4 z5 z6 z7 zl zf
          have hb0 := bxo_set0 HRR.out (.slice A0 P.loops.length c0)
          have hk0 : Kept (ne' (B + 1)) (w7) ((w7).setCell ⟨B + 1, 0, none⟩ (.slice A0 P.loops.length c0)) := Kept.setCell _ fun o ho => by simp [ne']
          have hb1 := bxo_set1 hb0 (.slice A1 P.clss.length c1)
          have hk1 : Kept (ne' (B + 1)) ((w7).setCell ⟨B + 1, 0, none⟩ (.slice A0 P.loops.length c0)) (((w7).setCell ⟨B + 1, 0, none⟩ (.slice A0 P.loops.length c0)).setCell ⟨B + 1, 1, none⟩ (.slice A1 P.clss.length c1)) := Kept.setCell _ fun o ho => by simp [ne']
          have hb2 := bxo_set2 hb1 (.slice A2 P.glbs.length c2)
          have hk2 : Kept (ne' (B + 1)) (((w7).setCell ⟨B + 1, 0, none⟩ (.slice A0 P.loops.length c0)).setCell ⟨B + 1, 1, none⟩ (.slice A1 P.clss.length c1)) ((((w7).setCell ⟨B + 1, 0, none⟩ (.slice A0 P.loops.length c0)).setCell ⟨B + 1, 1, none⟩ (.slice A1 P.clss.length c1)).setCell ⟨B + 1, 2, none⟩ (.slice A2 P.glbs.length c2)) := Kept.setCell _ fun o ho => by simp [ne']
          have hb3 := bxo_set3 hb2 (.slice A3 P.fns.length c3)
          have hk3 : Kept (ne' (B + 1)) ((((w7).setCell ⟨B + 1, 0, none⟩ (.slice A0 P.loops.length c0)).setCell ⟨B + 1, 1, none⟩ (.slice A1 P.clss.length c1)).setCell ⟨B + 1, 2, none⟩ (.slice A2 P.glbs.length c2)) (((((w7).setCell ⟨B + 1, 0, none⟩ (.slice A0 P.loops.length c0)).setCell ⟨B + 1, 1, none⟩ (.slice A1 P.clss.length c1)).setCell ⟨B + 1, 2, none⟩ (.slice A2 P.glbs.length c2)).setCell ⟨B + 1, 3, none⟩ (.slice A3 P.fns.length c3)) := Kept.setCell _ fun o ho => by simp [ne']
          have hb4 := bxo_set4 hb3 (.slice A4 P.cmps.length c4)
          have hk4 : Kept (ne' (B + 1)) (((((w7).setCell ⟨B + 1, 0, none⟩ (.slice A0 P.loops.length c0)).setCell ⟨B + 1, 1, none⟩ (.slice A1 P.clss.length c1)).setCell ⟨B + 1, 2, none⟩ (.slice A2 P.glbs.length c2)).setCell ⟨B + 1, 3, none⟩ (.slice A3 P.fns.length c3)) ((((((w7).setCell ⟨B + 1, 0, none⟩ (.slice A0 P.loops.length c0)).setCell ⟨B + 1, 1, none⟩ (.slice A1 P.clss.length c1)).setCell ⟨B + 1, 2, none⟩ (.slice A2 P.glbs.length c2)).setCell ⟨B + 1, 3, none⟩ (.slice A3 P.fns.length c3)).setCell ⟨B + 1, 4, none⟩ (.slice A4 P.cmps.length c4)) := Kept.setCell _ fun o ho => by simp [ne']
          have hb5 := bxo_set5 hb4 (.slice A5 P.evts.length c5)
          have hk5 : Kept (ne' (B + 1)) ((((((w7).setCell ⟨B + 1, 0, none⟩ (.slice A0 P.loops.length c0)).setCell ⟨B + 1, 1, none⟩ (.slice A1 P.clss.length c1)).setCell ⟨B + 1, 2, none⟩ (.slice A2 P.glbs.length c2)).setCell ⟨B + 1, 3, none⟩ (.slice A3 P.fns.length c3)).setCell ⟨B + 1, 4, none⟩ (.slice A4 P.cmps.length c4)) (((((((w7).setCell ⟨B + 1, 0, none⟩ (.slice A0 P.loops.length c0)).setCell ⟨B + 1, 1, none⟩ (.slice A1 P.clss.length c1)).setCell ⟨B + 1, 2, none⟩ (.slice A2 P.glbs.length c2)).setCell ⟨B + 1, 3, none⟩ (.slice A3 P.fns.length c3)).setCell ⟨B + 1, 4, none⟩ (.slice A4 P.cmps.length c4)).setCell ⟨B + 1, 5, none⟩ (.slice A5 P.evts.length c5)) := Kept.setCell _ fun o ho => by simp [ne']
          have hb6 := bxo_set6 hb5 (.int .i64 P.main)
          have hk6 : Kept (ne' (B + 1)) (((((((w7).setCell ⟨B + 1, 0, none⟩ (.slice A0 P.loops.length c0)).setCell ⟨B + 1, 1, none⟩ (.slice A1 P.clss.length c1)).setCell ⟨B + 1, 2, none⟩ (.slice A2 P.glbs.length c2)).setCell ⟨B + 1, 3, none⟩ (.slice A3 P.fns.length c3)).setCell ⟨B + 1, 4, none⟩ (.slice A4 P.cmps.length c4)).setCell ⟨B + 1, 5, none⟩ (.slice A5 P.evts.length c5)) ((((((((w7).setCell ⟨B + 1, 0, none⟩ (.slice A0 P.loops.length c0)).setCell ⟨B + 1, 1, none⟩ (.slice A1 P.clss.length c1)).setCell ⟨B + 1, 2, none⟩ (.slice A2 P.glbs.length c2)).setCell ⟨B + 1, 3, none⟩ (.slice A3 P.fns.length c3)).setCell ⟨B + 1, 4, none⟩ (.slice A4 P.cmps.length c4)).setCell ⟨B + 1, 5, none⟩ (.slice A5 P.evts.length c5)).setCell ⟨B + 1, 6, none⟩ (.int .i64 P.main)) := Kept.setCell _ fun o ho => by simp [ne']
          have hb7 := bxo_set7 hb6 (.slice A7 P.sits.length c7)
          have hk7 : Kept (ne' (B + 1)) ((((((((w7).setCell ⟨B + 1, 0, none⟩ (.slice A0 P.loops.length c0)).setCell ⟨B + 1, 1, none⟩ (.slice A1 P.clss.length c1)).setCell ⟨B + 1, 2, none⟩ (.slice A2 P.glbs.length c2)).setCell ⟨B + 1, 3, none⟩ (.slice A3 P.fns.length c3)).setCell ⟨B + 1, 4, none⟩ (.slice A4 P.cmps.length c4)).setCell ⟨B + 1, 5, none⟩ (.slice A5 P.evts.length c5)).setCell ⟨B + 1, 6, none⟩ (.int .i64 P.main)) (((((((((w7).setCell ⟨B + 1, 0, none⟩ (.slice A0 P.loops.length c0)).setCell ⟨B + 1, 1, none⟩ (.slice A1 P.clss.length c1)).setCell ⟨B + 1, 2, none⟩ (.slice A2 P.glbs.length c2)).setCell ⟨B + 1, 3, none⟩ (.slice A3 P.fns.length c3)).setCell ⟨B + 1, 4, none⟩ (.slice A4 P.cmps.length c4)).setCell ⟨B + 1, 5, none⟩ (.slice A5 P.evts.length c5)).setCell ⟨B + 1, 6, none⟩ (.int .i64 P.main)).setCell ⟨B + 1, 7, none⟩ (.slice A7 P.sits.length c7)) := Kept.setCell _ fun o ho => by simp [ne']
          have hkk := (((((((hk0.trans hk1).trans hk2).trans hk3).trans hk4).trans hk5).trans hk6).trans hk7)
          generalize ((((((((w7).setCell ⟨B + 1, 0, none⟩ (.slice A0 P.loops.length c0)).setCell ⟨B + 1, 1, none⟩ (.slice A1 P.clss.length c1)).setCell ⟨B + 1, 2, none⟩ (.slice A2 P.glbs.length c2)).setCell ⟨B + 1, 3, none⟩ (.slice A3 P.fns.length c3)).setCell ⟨B + 1, 4, none⟩ (.slice A4 P.cmps.length c4)).setCell ⟨B + 1, 5, none⟩ (.slice A5 P.evts.length c5)).setCell ⟨B + 1, 6, none⟩ (.int .i64 P.main)).setCell ⟨B + 1, 7, none⟩ (.slice A7 P.sits.length c7) = wz at *
          clear hb0 hb1 hb2 hb3 hb4 hb5 hb6 hk0 hk1 hk2 hk3 hk4 hk5 hk6 hk7
          obtain ⟨z0, z1, z2, z3, z4, z5, z6, z7, zl, zf⟩ := bxo_cells hb7
          have hx8 := ext_ne HX.out hkk (by have := HWB.out; omega)
          have hd := HD.out wz (ExtC.at1 hkk)
          obtain ⟨e7, e5, e4, e3, e2, e1, e0, _⟩ := hd
          rw [← HLK1.out.1] at z1
          rw [← HLK3.out.1] at z3
          have hP := HP.out _ hx8
          refine bodyPost_ret (v := (⟨A0, c0, P.loops, A1, c1, T1, A2, c2, P.glbs, A3, c3, T3, A4, c4, P.cmps, A5, c5, P.evts, P.main, A7, c7, P.sits⟩ : Prg).v) (by simp [results, Tryz.results136, go_sem, Prg.v, z0, z1, z2, z3, z4, z5, z6, z7]) rfl ⟨⟨A0, c0, P.loops, A1, c1, T1, A2, c2, P.glbs, A3, c3, T3, A4, c4, P.cmps, A5, c5, P.evts, P.main, A7, c7, P.sits⟩, rfl, ⟨rfl, HLK1.out, rfl, HLK3.out, rfl, rfl, rfl, rfl⟩, ⟨e0, e1, e2.mono (Kept.refl _ _) fun _ _ => trivial, e3, e4.mono (Kept.refl _ _) fun _ _ => trivial, e5.mono (Kept.refl _ _) fun _ _ => trivial, e7.mono (Kept.refl _ _) fun _ _ => trivial, hP.loopsL, by rw [HLK1.out.1]; exact hP.clssL, hP.glbsL, by rw [HLK3.out.1]; exact hP.fnsL, hP.cmpsL, hP.evtsL, hP.sitsL⟩, hx8⟩
end Go.Proofs.YtfljmdpigckpkaaGreatDoor
