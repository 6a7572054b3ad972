/- machine.New: the machine it makes. Written by genMcU.py; What is seen of a machine of one task: Ended, Globals, Marks; that it is not as nothing is; What is seen of a machine of one task: its globals, its marks. Written by genMcW.py; Whether a machine whose one task is over can be stepped: it can not. -/
import Derived.Test.YtfljmdpigckpkaaGreatDoorB31
import Derived.Test.YtfljmdpigckpkaaGreatDoorB27
namespace Go.Proofs.YtfljmdpigckpkaaGreatDoor
open Go.RowKit Go.Shelf
attribute [local go_sem] Oper.semAt_some
set_option maxRecDepth 100000 in
set_option maxHeartbeats 8000000 in
theorem New_m {P : Prg} {w : World} (hT : Tab w) (h : P.In w) (hg : GoodP P) (hL : NoL P) (hgl : P.glbs.length = 1) (hev : P.evts.length = 1) (hlo : P.loops.length = 2) (hma : P.main = 0) (hcm : P.cmps.length = 0) (hfn : 0 < P.fns.length) (hca : P.fns[0].caps = 0) (hre : P.fns[0].regs = 4) :
    Calls Tryz.prog 31 #[P.v] w fun e w' => ∃ W3 L, e = .returned (.tuple #[.pointer (some ⟨L.bm, 0, none⟩), .int .i64 0]) ∧ Ext w w' ∧ w.heap.size ≤ W3.heap.size ∧ MA W3 L ⟨1, 0, .pointer (some ⟨L.bt, 0, none⟩), [0], 0, [⟨1, false, 0, 0⟩], [], [], 0, false, some (0, [0, 0, 0, 0])⟩ w' ∧ ∃ Q, Cod L.bc Q W3 ∧ PrgLike P Q := by
  have HN := Lib.hid (fun (w' : World) (k : Ext w w') => New_ok (hT.ext k) (h.kept k) hg hL)
  have HS := Lib.hid (hg.small hL)
  have HF := Lib.hid (show P.glbs.length = 1 ∧ P.evts.length = 1 ∧ P.loops.length = 2 ∧ P.main = 0 from ⟨hgl, hev, hlo, hma⟩)
  have HCM := Lib.hid hcm
  have HF2 := Lib.hid (show ∃ q : 0 < P.fns.length, P.fns[0].caps = 0 ∧ P.fns[0].regs = 4 from ⟨hfn, hca, hre⟩)
  have hx1 : Ext w (w.alloc P.o) := Ext.one _ _
  have hb1 : (w.alloc P.o).heap[w.heap.size]? = some P.o := World.alloc_heap_new _ _
  have HX1 := Lib.hid hx1
  have HB1 := Lib.hid hb1
  clear hT h hg hL hgl hev hlo hma hcm hca hre hfn hx1 hb1
  unfold Prg.v at HN ⊢
  go_enter Tryz.func31, Tryz.ntmps31
  go_upto_region 1 with (fail)
  change Code.wp _ _ _ _ (w.alloc P.o)
  generalize hbb : w.heap.size = b0 at *
  generalize w.alloc P.o = w1 at *
  have x0 : w1.cell? ⟨b0, 0, none⟩ = some (.slice P.loopsA P.loops.length P.loopsC) := by simp [World.cell?, HB1.out, Prg.o]
  have x1 : w1.cell? ⟨b0, 1, none⟩ = some (.slice P.clssA P.clss.length P.clssC) := by simp [World.cell?, HB1.out, Prg.o]
  have x2 : w1.cell? ⟨b0, 2, none⟩ = some (.slice P.glbsA P.glbs.length P.glbsC) := by simp [World.cell?, HB1.out, Prg.o]
  have x3 : w1.cell? ⟨b0, 3, none⟩ = some (.slice P.fnsA P.fns.length P.fnsC) := by simp [World.cell?, HB1.out, Prg.o]
  have x4 : w1.cell? ⟨b0, 4, none⟩ = some (.slice P.cmpsA P.cmps.length P.cmpsC) := by simp [World.cell?, HB1.out, Prg.o]
  have x5 : w1.cell? ⟨b0, 5, none⟩ = some (.slice P.evtsA P.evts.length P.evtsC) := by simp [World.cell?, HB1.out, Prg.o]
  have x6 : w1.cell? ⟨b0, 6, none⟩ = some (.int .i64 P.main) := by simp [World.cell?, HB1.out, Prg.o]
  have x7 : w1.cell? ⟨b0, 7, none⟩ = some (.slice P.sitsA P.sits.length P.sitsC) := by simp [World.cell?, HB1.out, Prg.o]
  have xl := (Array.getElem?_eq_some_iff.1 HB1.out).1
  go_upto_region 2 with (go_at_call 86; refine (HN.out _ HX1.out).mono ?_; rintro e w2 ⟨bc, Q, rfl, hc, hl, hx2, hlc⟩; have HC := Lib.hid hc; have HL := Lib.hid hl; have HX2 := Lib.hid (HX1.out.trans hx2); clear hc hl hx2 hlc)
  clear x0 x1 x2 x3 x4 x5 x6 x7 xl HB1 HN
  go_upto_region 5 with (first
    | (go_at_call 87; refine (Prog_ok HC.out (HS.out.like HL.out)).mono ?_; unfold Prg.v; rintro e w4 ⟨R, rfl, hl, he, hx4⟩; have HLR := Lib.hid hl; have HE := Lib.hid he; have HX4 := Lib.hid hx4; clear hl he hx4)
    | (go_at_call 88; refine (mdeeds_ok _).mono ?_; rintro e w5 ⟨rfl, hw5⟩; have HW5 := Lib.hid hw5; clear hw5)
    | (go_at_call 89; refine (heapNew_ok _).mono ?_; rintro e w6 ⟨rfl, hh6, hx6⟩; have HH6 := Lib.hid hh6; have HX6 := Lib.hid hx6; clear hh6 hx6))
  obtain ⟨mv0, hmv0⟩ : ∃ mv0, mv0 = mvN bc w4.heap.size w5.heap.size R (.slice none 0 0) (.pointer none) (.slice none 0 0) (.slice none 0 0) := ⟨_, rfl⟩
  change Code.wp _ _ _ _ (w6.alloc (mvN bc w4.heap.size w5.heap.size R (.slice none 0 0) (.pointer none) (.slice none 0 0) (.slice none 0 0)).o)
  have hn7 : NW w6 w6.heap.size (mvN bc w4.heap.size w5.heap.size R (.slice none 0 0) (.pointer none) (.slice none 0 0) (.slice none 0 0)) (w6.alloc (mvN bc w4.heap.size w5.heap.size R (.slice none 0 0) (.pointer none) (.slice none 0 0) (.slice none 0 0)).o) := ⟨Ext.one _ _, World.alloc_heap_new _ _, Nat.le_refl _⟩
  have HN7 := Lib.hid hn7
  have hnx : NX w2 bc w4.heap.size w5.heap.size Q R w6 := by
    have e5 := HW5.out
    have q5 : Ext w4 w5 := by rw [e5]; exact Ext.one _ _
    have q6 := HX6.out
    have q46 := q5.trans q6
    refine ⟨HX4.out.trans q46, HC.out.ext (HX4.out.trans q46), (q6.kept (fun _ _ => true)).same _ _ (by rw [e5, ← mdk10]; exact World.alloc_heap_new _ _) rfl, HH6.out, HE.out.kept q46⟩
  have hrl : R.glbs.length = 1 ∧ R.evts.length = 1 ∧ R.loops.length = 2 ∧ R.main = 0 := by
    obtain ⟨_, r2, _, r4, r5, _⟩ := HL.out.trans HLR.out
    have r1 := HLR.out.loops.trans HL.out.loops
    rw [r2, r4, r1, r5]
    exact HF.out
  have HNX := Lib.hid hnx
  have HRL := Lib.hid hrl
  have HRC := Lib.hid (show R.cmps.length = 0 by
    obtain ⟨_, _, r3, _⟩ := HL.out.trans HLR.out
    rw [r3]; exact HCM.out)
  have hbm : w2.heap.size ≤ w6.heap.size := hnx.x3.size
  have HBM := Lib.hid hbm
  clear hn7 hnx hrl hbm hmv0 mv0 HF HE HX4 HW5 HX6 HH6 HX1
  generalize w4.heap.size = bd at *
  generalize w5.heap.size = bh at *
  generalize w6.alloc (mvN bc bd bh R (.slice none 0 0) (.pointer none) (.slice none 0 0) (.slice none 0 0)).o = w7 at *
  generalize hbm : w6.heap.size = bm at *
  have hgl := HRL.out.1
  obtain ⟨i0, hi0, hz0, hz1, hz2⟩ := infoParts infoL
  obtain ⟨w8, hm, how, hgr⟩ := run_makeSlice_full (P := Tryz.prog) (w := w7) w2.heap.size 46 2 i0 (.int .i64 0) 1 Tryz.underlying46 hi0 hz0 hz1 .i64 .i64 1 (by omega) (by rw [hz2]; omega) (by unfold maxLen; omega) (by have := HN7.out.x.size; have := HBM.out; omega)
  rw [zerosL] at how
  have hx8 : Ext w7 w8 := Kept.grown hgr fun j o e => by cases e
  have hm8 : (Instr.makeSlice 46 (.int .i64 1) (.int .i64 1)).run Tryz.prog w7 = .ok (.slice (some ⟨w7.heap.size, 0, none⟩) 1 1) w8 := by simpa using hm
  obtain ⟨-, -, c3, -, -, -, -, -, -, -, -, -, cl, -⟩ := mvn_cells HN7.out.m HRL.out
  have HN8 := Lib.hid (HN7.out.ext hx8)
  obtain ⟨d0, d1, d3, d5, d6, d7, d11, d13, d14, d15, d16, d18, dl, dz⟩ := mvn_cells HN8.out.m HRL.out
  have HG8 := Lib.hid how
  clear hm how hgr hx8 hgl hi0 hz0 hz1 hz2
  go_upto_region 6 with (fail)
  obtain ⟨w9, hw9⟩ : ∃ w9, w9 = w8.setCell ⟨bm, 11, none⟩ (.slice (some ⟨w7.heap.size, 0, none⟩) 1 1) := ⟨_, rfl⟩
  have hgm : w7.heap.size ≠ bm := by omega
  have hn9 : NW w6 bm (mvN bc bd bh R (.slice (some ⟨w7.heap.size, 0, none⟩) 1 1) (.pointer none) (.slice none 0 0) (.slice none 0 0)) w9 := by rw [hw9]; exact HN8.out.set (MV.set_globals HN8.out.m _)
  have hg9 : w9.ownsRow w2.heap.size 2 1 (.slice (some ⟨w7.heap.size, 0, none⟩) 1 1) 1 (rowV iV [0]) := by rw [hw9]; exact row_set HG8.out fun b hb => by simp [Value.ownBlock] at hb; omega
  have HN9 := Lib.hid hn9
  have HG9 := Lib.hid hg9
  have HGM := Lib.hid hgm
  change Code.wp _ _ _ _ (w8.setCell ⟨bm, 11, none⟩ (.slice (some ⟨w7.heap.size, 0, none⟩) 1 1))
  rw [← hw9]
  clear HN8 HG8 HN7 hw9 hn9 hg9 hgm hm8 c3 cl d0 d1 d3 d5 d6 d7 d11 d13 d14 d15 d16 d18 dl dz
  generalize w7.heap.size = gG at *
  obtain ⟨d0, d1, d3, d5, d6, d7, d11, d13, d14, d15, d16, d18, dl, dz⟩ := mvn_cells HN9.out.m HRL.out
  obtain ⟨ev, hev⟩ : ∃ ev, R.evts[0]? = some ev := ⟨_, List.getElem?_eq_getElem (by have := HRL.out.2.1; omega)⟩
  obtain ⟨ge, oe, he1, he2, -, he3⟩ := (HNX.out.e.kept HN9.out.x) 0 ev hev
  have HEA := Lib.hid (And.intro he1 he2)
  rw [he1] at d6
  have e0 : w9.cell? ⟨ge, oe, none⟩ = some (sV ev.name) := by simpa using he3 0 _ rfl
  have e1 : w9.cell? ⟨ge, oe + 1, none⟩ = some (iV ev.loop) := by simpa using he3 1 _ rfl
  have e2 : w9.cell? ⟨ge, oe + 2, none⟩ = some (bV ev.on) := by simpa using he3 2 _ rfl
  have e3 : w9.cell? ⟨ge, oe + 3, none⟩ = some (iV ev.fn) := by simpa using he3 3 _ rfl
  unfold sV at e0
  unfold iV at e1 e3
  unfold bV at e2
  clear he1 he2 he3 hev
  go_upto_region 8 with (fail)
  clear d0 d1 d3 d5 d6 d7 d11 d13 d14 d15 d16 d18 dl dz
  have HE0 := Lib.hid (And.intro e0 (And.intro e1 (And.intro e2 e3)))
  clear e0 e1 e2 e3
  go_loopg [7, 41] 1 (fun k v7 v41 wr => (k = 1 ∧ v7 = .slice none 0 0 ∧ v41 = .int .i64 0 ∧ wr = w9) ∨ (k = 0 ∧ ∃ Ak ck tu, v7 = .slice Ak 1 ck ∧ v41 = .int .i64 1 ∧ NW w6 bm (mvN bc bd bh R (.slice (some ⟨gG, 0, none⟩) 1 1) (.pointer none) tu (.slice none 0 0)) wr ∧ wr.ownsRow w2.heap.size 2 1 (.slice (some ⟨gG, 0, none⟩) 1 1) 1 (rowV iV [0]) ∧ wr.ownsRow 0 4 1 (.slice Ak 1 ck) 1 [.bool ev.on]))
  case atStart => exact .inl ⟨rfl, rfl, rfl, rfl⟩
  case round =>
    rcases hrel with ⟨rfl, rfl, rfl, rfl⟩ | ⟨rfl, Ak, ck, tu, rfl, rfl, hn, hg, hk⟩
    · obtain ⟨e0, e1, e2, e3⟩ := HE0.out
      obtain ⟨d0, d1, d3, d5, d6, d7, d11, d13, d14, d15, d16, d18, dl, dz⟩ := mvn_cells HN9.out.m HRL.out
      obtain ⟨he1, hee⟩ := HEA.out
      rw [he1] at d6
      go_upto_region 10 with (fail)
      obtain ⟨hb10, hx10⟩ := evb_ok wr ev
      change Code.wp _ _ _ _ (evb wr ev)
      generalize wr.heap.size = be at *
      clear e0 e1 e2 e3 d0 d1 d3 d5 d6 d7 d11 d13 d14 d15 d16 d18 dl dz he1
      have HN10 := Lib.hid (HN9.out.ext hx10)
      have HG10 := Lib.hid ((hx10.kept (fun _ _ => true)).row HG9.out fun _ _ => rfl)
      have y2 : (evb wr ev).cell? ⟨be, 2, none⟩ = some (.bool ev.on) := by simp [World.cell?, hb10]
      have yl := (Array.getElem?_eq_some_iff.1 hb10).1
      clear hb10 hx10
      generalize evb wr ev = w10 at *
      obtain ⟨i1, hi1, hy0, hy1, hy2⟩ := infoParts infoBool
      have hs1 : Src (w10.alloc (.cells #[.bool ev.on] 4)) (.slice (some ⟨w10.heap.size, 0, none⟩) 1 1) 1 [.bool ev.on] := src_one (World.alloc_heap_new _ _)
      go_upto_region 11 with (at_builtin; refine wpList_append_any rfl _ _ 169 rfl 0 4 i1 (.bool false) 1 1 Tryz.underlying169 hi1 hy0 hy1 hy2 rfl (by decide) (.slice none 0 0) 0 [] rfl (World.ownsRow_nil _ _ _ _) (.slice (some ⟨w10.heap.size, 0, none⟩) 1 1) 1 [.bool ev.on] rfl rfl hs1 (by simp [Value.oneCell']) (by unfold maxLen; omega) (by omega) (Nat.zero_le _) 1 rfl [.bool ev.on] rfl ?_; intro A1 c1 w11 hown1 hgrow1 hat1; have HX11 := Lib.hid (grown_ext (Ext.one w10 (.cells #[.bool ev.on] 4)) hgrow1 (by intro b hb; simp [Value.ownBlock] at hb)); have HO11 := Lib.hid hown1; clear hown1 hgrow1 hat1 y2 yl)
      have HN11 := Lib.hid (HN10.out.ext HX11.out)
      have HG11 := Lib.hid ((HX11.out.kept (fun _ _ => true)).row HG10.out fun _ _ => rfl)
      clear hs1 hi1 hy0 hy1 hy2 HN10 HG10 HX11
      obtain ⟨x0, x1, x3, x5, x6, x7, x11, x13, x14, x15, x16, x18, xl, xz⟩ := mvn_cells HN11.out.m HRL.out
      obtain ⟨i2, hi2, ha0, ha1, ha2⟩ := infoParts infoInt
      have hs2 : Src (w11.alloc (.cells #[.int .i64 (-1)] 3)) (.slice (some ⟨w11.heap.size, 0, none⟩) 1 1) 1 [.int .i64 (-1)] := src_one (World.alloc_heap_new _ _)
      go_upto_region 12 with (at_builtin; refine wpList_append_any rfl _ _ 23 rfl 0 3 i2 (.int .i64 0) 1 8 Tryz.underlying23 hi2 ha0 ha1 ha2 rfl (by decide) (.slice none 0 0) 0 [] rfl (World.ownsRow_nil _ _ _ _) (.slice (some ⟨w11.heap.size, 0, none⟩) 1 1) 1 [.int .i64 (-1)] rfl rfl hs2 (by simp [Value.oneCell']) (by unfold maxLen; omega) (by omega) (Nat.zero_le _) 1 rfl [.int .i64 (-1)] rfl ?_; intro A2 c2 w12 hown2 hgrow2 hat2; have hx12 := grown_ext (Ext.one w11 (.cells #[.int .i64 (-1)] 3)) hgrow2 (by intro b hb; simp [Value.ownBlock] at hb); have HN12 := Lib.hid (HN11.out.ext hx12); have HG12 := Lib.hid ((hx12.kept (fun _ _ => true)).row HG11.out fun _ _ => rfl); have HO12 := Lib.hid ((hx12.kept (fun _ _ => true)).row HO11.out fun _ _ => rfl); clear hown2 hgrow2 hat2 hx12 x0 x1 x3 x5 x6 x7 x11 x13 x14 x15 x16 x18 xl xz; obtain ⟨x0, x1, x3, x5, x6, x7, x11, x13, x14, x15, x16, x18, xl, xz⟩ := mvn_cells HN12.out.m HRL.out)
      go_upto_region 12 with (fail)
      have hn13 := HN12.out.set (MV.set_turned HN12.out.m (.slice A2 1 c2))
      replace hn13 : NW w6 bm (mvN bc bd bh R (.slice (some ⟨gG, 0, none⟩) 1 1) (.pointer none) (.slice A2 1 c2) (.slice none 0 0)) (w12.setCell ⟨bm, 14, none⟩ (.slice A2 1 c2)) := hn13
      have k13 := Kept.one bm w12 14 (.slice A2 1 c2)
      have hg13 := row_of k13 HN12.out.m HG12.out (by rw [MV.tag]; decide)
      have ho13 := row_of k13 HN12.out.m HO12.out (by rw [MV.tag]; decide)
      clear x0 x1 x3 x5 x6 x7 x11 x13 x14 x15 x16 x18 xl xz k13 HN12 HG12 HO12 HN11 HG11 HO11 hs2 hi2 ha0 ha1 ha2
      generalize w12.setCell ⟨bm, 14, none⟩ (.slice A2 1 c2) = w13 at *
      go_wp2_with fail
      go_roundg 0
      case measure => omega
      case rel => exact .inr ⟨rfl, _, _, _, rfl, rfl, hn13, hg13, ho13⟩
    · clear HN9 HG9 HE0 HEA
      have HN13 := Lib.hid hn
      have HG13 := Lib.hid hg
      have HK13 := Lib.hid (Src.of hk rfl)
      clear hn hg hk
      obtain ⟨x0, x1, x3, x5, x6, x7, x11, x13, x14, x15, x16, x18, xl, xz⟩ := mvn_cells HN13.out.m HRL.out
      rw [HRC.out] at x5
      go_upto_region 14 with (go_at_call 90; go_loud (refine (lifeNew_ok [ev.on] Ak ck _ HK13.out (by simp)).mono ?_; rintro e w14 ⟨bl, rfl, hx14⟩; have HN14 := Lib.hid (HN13.out.ext hx14); have HG14 := Lib.hid ((hx14.kept (fun _ _ => true)).row HG13.out fun _ _ => rfl); clear hx14 x0 x1 x3 x5 x6 x7 x11 x13 x14 x15 x16 x18 xl xz; obtain ⟨x0, x1, x3, x5, x6, x7, x11, x13, x14, x15, x16, x18, xl, xz⟩ := mvn_cells HN14.out.m HRL.out))
      have hn15 := HN14.out.set (MV.set_lives HN14.out.m (.pointer (some ⟨bl, 0, none⟩)))
      replace hn15 : NW w6 bm (mvN bc bd bh R (.slice (some ⟨gG, 0, none⟩) 1 1) (.pointer (some ⟨bl, 0, none⟩)) tu (.slice none 0 0)) (w14.setCell ⟨bm, 13, none⟩ (.pointer (some ⟨bl, 0, none⟩))) := hn15
      have hg15 := row_of (Kept.one bm w14 13 (.pointer (some ⟨bl, 0, none⟩))) HN14.out.m HG14.out (by rw [MV.tag]; decide)
      have hlp : LP w2 w6 bm bc bd bh gG R (.pointer (some ⟨bl, 0, none⟩)) tu (.slice none 0 0) [] none 0 (w14.setCell ⟨bm, 13, none⟩ (.pointer (some ⟨bl, 0, none⟩))) := ⟨hn15, hg15, World.ownsRow_nil _ _ _ _, by simp, by simp⟩
      have HLP := Lib.hid hlp
      clear x0 x1 x3 x5 x6 x7 x11 x13 x14 x15 x16 x18 xl xz HN14 HG14 HN13 HG13 HK13 hn15 hg15 hlp
      generalize w14.setCell ⟨bm, 13, none⟩ (.pointer (some ⟨bl, 0, none⟩)) = w15 at *
      obtain ⟨x0, x1, x3, x5, x6, x7, x11, x13, x14, x15, x16, x18, xl, xz⟩ := mvn_cells HLP.out.n.m HRL.out
      go_upto_region 15 with (fail)
      clear x0 x1 x3 x5 x6 x7 x11 x13 x14 x15 x16 x18 xl xz
      go_loopg [77] 2 (fun k v77 wr => ∃ (ls : List (Nat × Nat)) (Ap : Option Addr) (cp : Nat), ls.length + k = 2 ∧ v77 = .int .i64 ls.length ∧ LP w2 w6 bm bc bd bh gG R (.pointer (some ⟨bl, 0, none⟩)) tu (.slice Ap ls.length cp) ls Ap cp wr)
      case atStart => exact ⟨[], _, _, rfl, rfl, HLP.out⟩
      case round =>
        clear HLP
        obtain ⟨ls, Ap, cp, hlk, rfl, hlp⟩ := hrel
        have HLP := Lib.hid hlp
        clear hlp
        by_cases hi : (ls.length : Int) < 2
        · go_upto_region 16 with (fail)
          have hi2 : ls.length < 2 := by omega
          obtain ⟨i0, hi0, hz0, hz1, hz2⟩ := infoParts infoLp
          obtain ⟨x0, x1, x3, x5, x6, x7, x11, x13, x14, x15, x16, x18, xl, xz⟩ := mvn_cells HLP.out.n.m HRL.out
          have hlt : ∀ x ∈ ls, x.1 < wr.heap.size ∧ x.2 < wr.heap.size := fun x hx => ⟨(Array.getElem?_eq_some_iff.1 (HLP.out.o x hx).1).1, (Array.getElem?_eq_some_iff.1 (HLP.out.o x hx).2.1).1⟩
          have HLT := Lib.hid hlt
          clear hlt
          clear x0 x1 x3 x5 x6 x7 x11 x13 x14 x15 x18 xz
          refine region_grow (n := 10) (s := 9) (by kernel_rfl) (GLp bm (.slice Ap ls.length cp) wr (fun x A c w => LP w2 w6 bm bc bd bh gG R (.pointer (some ⟨bl, 0, none⟩)) tu (.slice Ap ls.length cp) (ls ++ [x]) A c w) (ls.length + 1)) (ILp bm wr (.slice Ap ls.length cp)) rfl ⟨x16, xl, Nat.le_refl _, fun _ => Ext.drew _⟩ (RgOps.of (z := 101) (by kernel_rfl) rfl (GLp.mono fun _ _ _ _ _ h k => h.ext k) ILp.mono ?op ?sp) ?fin
          case op =>
            intro j o hj hs' ho f a' w' hF hX hD K hK
            have e6 : a'.tmps.getD 6 undef = .pointer (some ⟨bm, 0, none⟩) := hF.2.2 6 (by kernel_rfl)
            have q1 := hX.1
            have q2 := hX.2.1
            match j, hj with
            | m + 10, h => exact absurd h (by omega)
            | 0, _ =>
              obtain rfl := Option.some.inj (show some _ = some o from ho)
              clear ho hD
              go_simp
              exact hK _ _ rfl (Ext.refl _)
            | 1, _ =>
              obtain rfl := Option.some.inj (show some _ = some o from ho)
              clear ho hD
              go_simp
              exact hK _ _ rfl (Ext.refl _)
            | 2, _ =>
              obtain rfl := Option.some.inj (show some _ = some o from ho)
              obtain ⟨d, hd, hG1⟩ := hD _ (Array.mem_of_getElem? (i := 0) rfl) rfl
              cases hd
              replace hG1 : a'.tmps.getD 80 undef = .pointer (some ⟨bm, 0, none⟩) := hG1
              clear ho hD
              go_simp
              exact hK _ _ rfl (Ext.refl _)
            | 3, _ =>
              obtain rfl := Option.some.inj (show some _ = some o from ho)
              obtain ⟨d, hd, hG2⟩ := hD _ (Array.mem_of_getElem? (i := 0) rfl) rfl
              cases hd
              replace hG2 : a'.tmps.getD 81 undef = .pointer (some ⟨bm, 0, none⟩) := hG2
              clear ho hD
              go_simp
              exact hK _ _ rfl (Ext.refl _)
            | 4, _ =>
              obtain rfl := Option.some.inj (show some _ = some o from ho)
              obtain ⟨d, hd, hG3⟩ := hD _ (Array.mem_of_getElem? (i := 0) rfl) rfl
              cases hd
              replace hG3 : a'.tmps.getD 82 undef = .pointer (some ⟨bm, 16, none⟩) := hG3
              clear ho hD
              go_simp
              exact hK _ _ rfl (Ext.refl _)
            | 5, _ =>
              obtain rfl := Option.some.inj (show some _ = some o from ho)
              clear ho hD
              go_simp
              refine (queueNew_ok _).mono ?_
              rintro e w5 ⟨rfl, hx5, hb5, hl5⟩
              exact hK _ _ ⟨_, rfl, hb5, hX.2.2.1⟩ hx5
            | 6, _ =>
              obtain rfl := Option.some.inj (show some _ = some o from ho)
              obtain ⟨d, hd, hG5⟩ := hD _ (Array.mem_of_getElem? (i := 0) rfl) rfl
              cases hd
              clear ho hD
              obtain ⟨q, hq, hqb, hql⟩ := hG5
              replace hq : a'.tmps.getD 84 undef = .pointer (some ⟨q, 0, none⟩) := hq
              have hq' : a'.tmps[84]?.getD undef = .pointer (some ⟨q, 0, none⟩) := by simpa using hq
              go_simp
              exact hK _ _ ⟨q, rfl, hqb, hql⟩ (Ext.refl _)
            | 7, _ =>
              obtain rfl := Option.some.inj (show some _ = some o from ho)
              obtain ⟨d, hd, hG6⟩ := hD _ (Array.mem_of_getElem? (i := 0) rfl) rfl
              cases hd
              clear ho hD
              obtain ⟨q, hq, hqb, hql⟩ := hG6
              replace hq : a'.tmps.getD 85 undef = .agg #[.int .i64 0, .pointer (some ⟨q, 0, none⟩)] := hq
              go_simp
              exact hK _ _ ⟨_, q, rfl, World.alloc_heap_new _ _, ((Ext.one _ _).kept (fun _ _ => true)).same _ _ hqb rfl, hX.2.2.1, hql⟩ (Ext.one _ _)
            | 8, _ =>
              obtain rfl := Option.some.inj (show some _ = some o from ho)
              obtain ⟨d, hd, hG7⟩ := hD _ (Array.mem_of_getElem? (i := 0) rfl) rfl
              cases hd
              clear ho hD
              obtain ⟨l, q, hq, hlb, hqb, hll, hql⟩ := hG7
              replace hq : a'.tmps.getD 86 undef = .pointer (some ⟨l, 0, none⟩) := hq
              have hq' : a'.tmps[86]?.getD undef = .pointer (some ⟨l, 0, none⟩) := by simpa using hq
              go_simp
              exact hK _ _ (fun _ => ⟨_, l, q, rfl, World.alloc_heap_new _ _, ((Ext.one _ _).kept (fun _ _ => true)).same _ _ hlb rfl, ((Ext.one _ _).kept (fun _ _ => true)).same _ _ hqb rfl, hll, hql⟩) (Ext.one _ _)
            | 9, _ => exact absurd rfl hs'
          case sp =>
            intro o hs ho a' w' hF hX hD K hK
            obtain rfl := Option.some.inj (show some _ = some o from ho)
            obtain ⟨d, hd, hG4⟩ := hD _ (Array.mem_of_getElem? (i := 0) rfl) rfl
            cases hd
            replace hG4 : a'.tmps.getD 83 undef = .slice Ap ls.length cp := hG4
            obtain ⟨d, hd, hG8⟩ := hD _ (Array.mem_of_getElem? (i := 1) rfl) rfl
            cases hd
            obtain ⟨b, l, q, e8, hb, hl, hq, l1, q1⟩ := hG8 rfl
            replace e8 : a'.tmps.getD 87 undef = .slice (some ⟨b, 0, none⟩) 1 1 := e8
            obtain ⟨i1, i2, i3, i5⟩ := hX
            have hlp := HLP.out.ext (i5 rfl)
            have hs6 : w6.heap.size ≤ w'.heap.size := hlp.n.x.size
            have hs0 : w6.heap.size ≤ wr.heap.size := HLP.out.n.x.size
            refine wp_append_any _ _ 68 rfl w6.heap.size 153 i0 (.pointer none) 1 8 Tryz.underlying68 hi0 hz0 hz1 hz2 rfl (by omega) (.slice Ap ls.length cp) ls.length (ptrs ls) hG4 hlp.r (.slice (some ⟨b, 0, none⟩) 1 1) 1 [.pointer (some ⟨l, 0, none⟩)] e8 rfl (.inr ⟨_, _, rfl, World.news_of_block hb⟩) (by simp [Value.oneCell']) (by unfold maxLen; omega) (by omega) hs6 (ls.length + 1) rfl (ptrs ls ++ [.pointer (some ⟨l, 0, none⟩)]) rfl ?_
            intro A8 c8 w8 hown8 hgrow8 _
            have hne : ∀ x ∈ ls, x.1 ≠ l ∧ x.2 ≠ q := fun x hx => by
              obtain ⟨a1, a2⟩ := HLT.out x hx
              exact ⟨by omega, by omega⟩
            have hq8 := hlp.app hgrow8 hown8 rfl hl hq (by omega) (by omega) hne
            refine hK _ _ ⟨A8, c8, (l, q), rfl, hq8⟩ ⟨by obtain ⟨-, -, -, -, -, -, -, -, -, -, y16, -⟩ := mvn_cells hq8.n.m HRL.out; exact y16, Nat.lt_of_lt_of_le i2 hgrow8.size, Nat.le_trans i3 hgrow8.size, fun h => by cases h⟩ fun j u hj h => ?_
            match j with
            | 0 => exact h
            | 1 => exact h
            | 2 => exact h
            | 3 => exact h
            | 4 => exact h
            | 5 => obtain ⟨q, h1, h2, h3⟩ := h; exact ⟨q, h1, grown_other hgrow8 hlp.r h2 (by decide), h3⟩
            | 6 => obtain ⟨q, h1, h2, h3⟩ := h; exact ⟨q, h1, grown_other hgrow8 hlp.r h2 (by decide), h3⟩
            | 7 => obtain ⟨l, q, h1, h2, h3, h4⟩ := h; exact ⟨l, q, h1, grown_other hgrow8 hlp.r h2 (by rw [LV.tag]; decide), grown_other hgrow8 hlp.r h3 (by decide), h4⟩
            | 8 => exact fun h => by cases h
            | 9 => exact absurd rfl hj
            | n + 10 => exact h
          case fin =>
            intro a' w' hF hX hG
            obtain ⟨u, rfl, hu⟩ := hF.puts hG [79, 80, 81, 82, 83, 84, 85, 86, 87, 88] (by kernel_rfl) (z := 101) rfl (by decide)
            obtain ⟨d, hd, g0⟩ := hu 0 (by omega)
            cases hd
            replace g0 : u 79 = .pointer (some ⟨bm, 0, none⟩) := g0
            obtain ⟨d, hd, A2, c2, x, g9, hlp2⟩ := hu 9 (by omega)
            cases hd
            replace g9 : u 88 = .slice A2 (ls.length + 1) c2 := g9
            clear hu hG hF hX x16 xl hi0 hz0 hz1 hz2
            simp only [List.drop_succ_cons, List.drop_zero, List.foldl_cons, List.foldl_nil, g0, g9]
            generalize u 80 = v80
            generalize u 81 = v81
            generalize u 82 = v82
            generalize u 83 = v83
            generalize u 84 = v84
            generalize u 85 = v85
            generalize u 86 = v86
            generalize u 87 = v87
            clear g0 g9
            obtain ⟨x0, x1, x3, x5, x6, x7, x11, x13, x14, x15, x16, x18, xl, xz⟩ := mvn_cells hlp2.n.m HRL.out
            have HLP2 := Lib.hid hlp2
            clear hlp2
            go_upto_region 17 with (fail)
            have hlp3 := HLP2.out.sto (v := .slice A2 (ls.length + 1) c2)
            clear x0 x1 x3 x5 x6 x7 x11 x13 x14 x15 x16 x18 xl xz HLP2 HLP HLT
            generalize w'.setCell ⟨bm, 16, none⟩ (.slice A2 (ls.length + 1) c2) = w17 at *
            go_wp2_with fail
            go_roundg (gk - 1)
            case measure => omega
            case rel => exact ⟨ls ++ [x], A2, c2, by simp; omega, by simp, by simpa using hlp3⟩
        · obtain ⟨⟨l0, q0⟩, ⟨l1, q1⟩, rfl⟩ : ∃ a b, ls = [a, b] := by
            match ls, hlk, hi with
            | [], _, h => simp at h
            | [_], _, h => simp at h
            | [a, b], _, _ => exact ⟨a, b, rfl⟩
            | _ :: _ :: _ :: _, h, _ => simp at h; omega
          obtain ⟨hf0, hf1, hf2⟩ := HF2.out
          have hql := HL.out.fns.1
          have hf0' : 0 < Q.fns.length := by rw [hql]; exact hf0
          have hfl := HL.out.fns.2 0 _ _ (List.getElem?_eq_getElem hf0) (List.getElem?_eq_getElem hf0')
          have HADD := Lib.hid (add_m HLP.out HRL.out HNX.out hf0' (hfl.2.1.trans hf1) (hfl.2.2.1.trans hf2))
          unfold tav at HADD
          obtain ⟨x0, x1, x3, x5, x6, x7, x11, x13, x14, x15, x16, x18, xl, xz⟩ := mvn_cells HLP.out.n.m HRL.out
          clear hf0 hf1 hf2 hql hf0' hfl
          go_upto_region 18 with (fail)
          go_wp2_with (go_at_call 60; refine HADD.out.mono ?_; rintro e w18 ⟨rfl, hx18, L, e1, e2, hma⟩; have HMA := Lib.hid (And.intro hx18 (And.intro e1 (And.intro e2 hma))); clear hx18 e1 e2 hma x0 x1 x3 x5 x6 x7 x11 x13 x14 x15 x16 x18 xl xz)
          go_ret2
          obtain ⟨hx18, e1, e2, hma⟩ := HMA.out
          have hfin := HX2.out.trans (HNX.out.x3.trans hx18)
          have hcod := HC.out
          rw [← e1]
          rw [← e2] at hcod
          exact ⟨w2, L, rfl, hfin, HX2.out.size, hma, Q, hcod, HL.out⟩
end Go.Proofs.YtfljmdpigckpkaaGreatDoor

namespace Go.Proofs.YtfljmdpigckpkaaGreatDoor
open Go.RowKit Go.Shelf
attribute [local go_sem] Oper.semAt_some
section
variable {W3 w w' : World} {L : Lay} {s : Sta}
set_option maxHeartbeats 4000000
set_option maxRecDepth 100000
theorem ended1_m (a : MA W3 L s w) (h3 : s.state = 3) : Calls Tryz.prog 53 #[.pointer (some ⟨L.b1, 0, none⟩)] w fun e w' => e = .returned (.bool false) ∧ ∃ n, w' = w.drewN n := by
  obtain ⟨t0, t4, t10, t11, t12, t15, tl, tz⟩ := a.tcells
  rw [h3] at t11
  clear a
  go_enter Tryz.func53, Tryz.ntmps53
  go_wp2_with fail
  go_ret
  exact ⟨rfl, 0, rfl⟩
theorem Same_mn (a : MA W3 L s w) {v : Value} (h : NoM v w) : Calls Tryz.prog 30 #[.pointer (some ⟨L.bm, 0, none⟩), v] w fun e w' => e = .returned (.bool false) ∧ w' = w := by
  have H := Lib.hid (isNone_m a)
  have H0 := Lib.hid (isNone_m a)
  have H' := Lib.hid (isNone_no h)
  clear a h
  go_enter Tryz.func30, Tryz.ntmps30
  go_upto_region 2 with (first
    | (go_at_call 51; refine H.out.mono ?_; rintro e w2 ⟨rfl, hw⟩; rw [hw]; clear hw H)
    | (go_at_call 51; refine H'.out.mono ?_; rintro e w2 ⟨rfl, hw⟩; rw [hw]; clear hw H'))
  go_wp2_with (go_at_call 51; refine H0.out.mono ?_; rintro e w2 ⟨rfl, hw⟩; rw [hw]; clear hw)
  go_ret
  exact ⟨rfl, rfl⟩
theorem Same_nm (a : MA W3 L s w) {v : Value} (h : NoM v w) : Calls Tryz.prog 30 #[v, .pointer (some ⟨L.bm, 0, none⟩)] w fun e w' => e = .returned (.bool false) ∧ w' = w := by
  have H := Lib.hid (isNone_m a)
  have H' := Lib.hid (isNone_no h)
  have H0 := Lib.hid (isNone_no h)
  clear a h
  go_enter Tryz.func30, Tryz.ntmps30
  go_upto_region 2 with (go_at_call 51; refine H0.out.mono ?_; rintro e w2 ⟨rfl, hw⟩; rw [hw]; clear hw H0)
  go_wp2_with (first
    | (go_at_call 51; refine H'.out.mono ?_; rintro e w2 ⟨rfl, hw⟩; rw [hw]; clear hw H')
    | (go_at_call 51; refine H.out.mono ?_; rintro e w2 ⟨rfl, hw⟩; rw [hw]; clear hw))
  go_ret
  exact ⟨rfl, rfl⟩
theorem index_m (a : MA W3 L s w) (h3 : s.state = 3) : Calls Tryz.prog 110 #[.slice (some ⟨L.gT, 0, none⟩) 1 L.cT, .func (.func 53) #[] #[]] w fun e w' => e = .returned (.int .i64 (-1)) ∧ w' = w := by
  obtain ⟨t0, t4, t10, t11, t12, t15, tl, tz⟩ := a.tcells
  rw [h3] at t11
  have ct := a.task
  obtain ⟨l1, l2⟩ := a.lts
  clear a h3
  go_enter Tryz.func110, Tryz.ntmps110
  go_upto_region 2 with (fail)
  go_rounds 2
  go_ret
  exact ⟨rfl, rfl⟩
theorem contains_m (a : MA W3 L s w) (h3 : s.state = 3) : Calls Tryz.prog 52 #[.slice (some ⟨L.gT, 0, none⟩) 1 L.cT, .func (.func 53) #[] #[]] w fun e w' => e = .returned (.bool false) ∧ w' = w := by
  have H := Lib.hid (index_m a h3)
  clear a h3
  go_enter Tryz.func52, Tryz.ntmps52
  go_wp2_with (go_at_call 110; refine H.out.mono ?_; rintro e w2 ⟨rfl, hw⟩; rw [hw]; clear hw)
  go_ret
  exact ⟨rfl, rfl⟩
/-- All tasks are over. -/
theorem Ended_m (a : MA W3 L s w) (h3 : s.state = 3) (hf : s.full = false) : Calls Tryz.prog 12 #[.pointer (some ⟨L.bm, 0, none⟩)] w fun e w' => e = .returned (.bool true) ∧ w' = w := by
  have H := Lib.hid (isNone_m a)
  have HC := Lib.hid (contains_m a h3)
  obtain ⟨lv, mv, m1, _⟩ := a.m
  obtain ⟨c0, c9, c10, c11, c12, c15, c16, c17, c18, c19, c20, cl, cz⟩ := mv_cells m1
  rw [hf] at c20
  clear a h3 m1 hf
  go_enter Tryz.func12, Tryz.ntmps12
  go_wp2_with (first
    | (go_at_call 51; refine H.out.mono ?_; rintro e w2 ⟨rfl, hw⟩; rw [hw]; clear hw)
    | (go_at_call 52; refine HC.out.mono ?_; rintro e w2 ⟨rfl, hw⟩; rw [hw]; clear hw))
  go_ret
  exact ⟨rfl, rfl⟩
end
end Go.Proofs.YtfljmdpigckpkaaGreatDoor

namespace Go.Proofs.YtfljmdpigckpkaaGreatDoor
open Go.RowKit Go.Shelf
attribute [local go_sem] Oper.semAt_some
@[go_sem] theorem eqnilI64_some (ad : Addr) (n c : Nat) (w : World) : (binOp .eql 46 (.slice (some ad) n c) (.slice none 0 0)).run Tryz.prog w = .ok (.bool false) w := by kernel_rfl
set_option maxHeartbeats 1000000 in
set_option maxRecDepth 100000 in
theorem cloneI64_ok {W : World} (l : List Int) (ad : Addr) (c : Nat) (hs : Src W (.slice (some ad) l.length c) l.length (rowV iV l)) (hl : l.length ≤ 100000) :
    Calls Tryz.prog 55 #[.slice (some ad) l.length c] W fun e W' => ∃ A' c', e = .returned (.slice A' l.length c') ∧ Ext W W' ∧ W'.ownsRow W.heap.size 2 1 (.slice A' l.length c') l.length (rowV iV l) := by
  obtain ⟨i0, hi0, hz0, hz1, hz2⟩ := infoParts infoL
  have hn : (W.alloc (.cells #[] 2 (0, 0))).ownsRow W.heap.size 2 1 (.slice (some ⟨W.heap.size, 0, none⟩) 0 0) 0 [] := ⟨rfl, .inr ⟨W.heap.size, 0, #[], rfl, Nat.le_refl _, World.alloc_heap_new _ _, Nat.le_refl _, by unfold maxLen; omega, rfl, rfl⟩⟩
  have HN := Lib.hid hn
  have HS := Lib.hid (hs.ext (Ext.one W (.cells #[] 2 (0, 0))))
  have HONE := Lib.hid (rowV_one (f := iV) (l := l) fun _ => rfl)
  have HLEN := Lib.hid (rowV_len (f := iV) (l := l))
  clear hs hn
  go_enter Tryz.func55, Tryz.ntmps55
  go_wp2_with (at_builtin; refine wpList_append_any rfl _ _ 46 rfl W.heap.size 2 i0 (.int .i64 0) 1 8 Tryz.underlying46 hi0 hz0 hz1 hz2 rfl (by decide) (.slice (some ⟨W.heap.size, 0, none⟩) 0 0) 0 [] rfl HN.out (.slice (some ad) l.length c) l.length (rowV iV l) rfl HLEN.out HS.out HONE.out (by unfold maxLen; omega) (by omega) (by simp) l.length (by omega) (rowV iV l) (by simp) ?_; intro A1 c1 w1 hown1 hgrow1 hat1; have HX1 := Lib.hid (grown_ext (Ext.one W (.cells #[] 2 (0, 0))) hgrow1 (by intro b hb; simp [Value.ownBlock] at hb; omega)); have HO1 := Lib.hid hown1; clear hown1 hgrow1 hat1)
  go_ret
  exact ⟨A1, c1, rfl, HX1.out, HO1.out⟩
@[go_sem] theorem eqnilMk_some (ad : Addr) (n c : Nat) (w : World) : (binOp .eql 47 (.slice (some ad) n c) (.slice none 0 0)).run Tryz.prog w = .ok (.bool false) w := by kernel_rfl
theorem mk_len (M : List Mk) : (M.flatMap Mk.cells).length = M.length * 8 := by
  induction M with
  | nil => rfl
  | cons x M ih => simp only [List.flatMap_cons, List.length_append, ih, List.length_cons]; simp [Mk.cells]; omega
theorem mk_one (M : List Mk) : ∀ u ∈ M.flatMap Mk.cells, u.oneCell' = true := by
  intro u hu
  obtain ⟨x, _, hx⟩ := List.mem_flatMap.1 hu
  simp [Mk.cells] at hx
  rcases hx with rfl | rfl | rfl | rfl | rfl | rfl | rfl | rfl <;> rfl
set_option maxHeartbeats 1000000 in
set_option maxRecDepth 100000 in
theorem cloneMk_ok {W : World} (l : List Mk) (ad : Addr) (c : Nat) (hs : Src W (.slice (some ad) l.length c) l.length (l.flatMap Mk.cells)) (hl : l.length ≤ 100000) :
    Calls Tryz.prog 54 #[.slice (some ad) l.length c] W fun e W' => ∃ A' c', e = .returned (.slice A' l.length c') ∧ Ext W W' ∧ W'.ownsRow W.heap.size 130 8 (.slice A' l.length c') l.length (l.flatMap Mk.cells) := by
  obtain ⟨i0, hi0, hz0, hz1, hz2⟩ := infoParts infoMk
  have hn : (W.alloc (.cells #[] 130 (0, 0))).ownsRow W.heap.size 130 8 (.slice (some ⟨W.heap.size, 0, none⟩) 0 0) 0 [] := ⟨rfl, .inr ⟨W.heap.size, 0, #[], rfl, Nat.le_refl _, World.alloc_heap_new _ _, Nat.le_refl _, by unfold maxLen; omega, rfl, rfl⟩⟩
  have HN := Lib.hid hn
  have HS := Lib.hid (hs.ext (Ext.one W (.cells #[] 130 (0, 0))))
  have HONE := Lib.hid (mk_one l)
  have HLEN := Lib.hid (mk_len l)
  clear hs hn
  go_enter Tryz.func54, Tryz.ntmps54
  go_wp2_with (at_builtin; refine wpList_append_any rfl _ _ 47 rfl W.heap.size 130 i0 (.agg #[.int .i64 0, .int .i64 0, .int .i64 0, .int .i64 0, .int .i64 0, .int .i64 0, .int .i64 0, .bool false]) 8 64 Tryz.underlying47 hi0 hz0 hz1 hz2 rfl (by decide) (.slice (some ⟨W.heap.size, 0, none⟩) 0 0) 0 [] rfl HN.out (.slice (some ad) l.length c) l.length (l.flatMap Mk.cells) rfl HLEN.out HS.out HONE.out (by unfold maxLen; omega) (by omega) (by simp) l.length (by omega) (l.flatMap Mk.cells) (by simp) ?_; intro A1 c1 w1 hown1 hgrow1 hat1; have HX1 := Lib.hid (grown_ext (Ext.one W (.cells #[] 130 (0, 0))) hgrow1 (by intro b hb; simp [Value.ownBlock] at hb; omega)); have HO1 := Lib.hid hown1; clear hown1 hgrow1 hat1)
  go_ret
  exact ⟨A1, c1, rfl, HX1.out, HO1.out⟩
section
variable {W3 w w' : World} {L : Lay} {s : Sta}
set_option maxHeartbeats 4000000
set_option maxRecDepth 100000
theorem Globals_m (a : MA W3 L s w) (hl : s.G.length ≤ 100000) : Calls Tryz.prog 26 #[.pointer (some ⟨L.bm, 0, none⟩)] w fun e w' => ∃ A c, e = .returned (.slice A s.G.length c) ∧ Ext w w' ∧ w'.ownsRow w.heap.size 2 1 (.slice A s.G.length c) s.G.length (rowV iV s.G) := by
  have H := Lib.hid (there_m L.bm w)
  have HC := Lib.hid (cloneI64_ok s.G ⟨L.gG, 0, none⟩ L.cG (Src.of a.G rowV_len) hl)
  obtain ⟨lv, mv, m1, _⟩ := a.m
  obtain ⟨c0, c9, c10, c11, c12, c15, c16, c17, c18, c19, c20, cl, cz⟩ := mv_cells m1
  clear a m1
  go_enter Tryz.func26, Tryz.ntmps26
  go_wp2_with (first
    | (go_at_call 48; refine H.out.mono ?_; rintro e w2 ⟨rfl, hw⟩; rw [hw]; clear hw)
    | (go_at_call 55; refine HC.out.mono ?_; rintro e w2 ⟨A, c, rfl, hx, ho⟩; have HX := Lib.hid (And.intro hx ho); clear hx ho c0 c9 c10 c11 c12 c15 c16 c17 c18 c19 c20 cl cz))
  go_ret
  exact ⟨_, _, rfl, HX.out.1, HX.out.2⟩
theorem Marks_m (a : MA W3 L s w) (hl : s.M.length ≤ 100000) (hp : 0 < s.M.length) : Calls Tryz.prog 16 #[.pointer (some ⟨L.bm, 0, none⟩), .int .i64 0] w fun e w' => ∃ A c, e = .returned (.slice A s.M.length c) ∧ Ext w w' ∧ w'.ownsRow w.heap.size 130 8 (.slice A s.M.length c) s.M.length (s.M.flatMap Mk.cells) := by
  have H := Lib.hid (there_m L.bm w)
  obtain ⟨lv, mv, m1, m2, _⟩ := a.m
  obtain ⟨c0, c9, c10, c11, c12, c15, c16, c17, c18, c19, c20, cl, cz⟩ := mv_cells m1
  obtain ⟨A, c, rfl⟩ := own_slice3 m2
  obtain ⟨g, rfl⟩ := own_at m2 hp
  have HC := Lib.hid (cloneMk_ok s.M ⟨g, 0, none⟩ c (Src.of m2 (mk_len _)) hl)
  have hg1 : ¬ (0 : Int) ≥ (s.M.length : Int) := by omega
  have HM2 := Lib.hid m2
  clear a m1 m2
  have hne : ¬ s.M = [] := fun e => by rw [e] at hp; cases hp
  have zne : decide (s.M = []) = false := decide_eq_false hne
  go_enter Tryz.func16, Tryz.ntmps16
  go_wp2_with (first
    | (go_at_call 48; refine H.out.mono ?_; rintro e w2 ⟨rfl, hw⟩; rw [hw]; clear hw)
    | (go_at_call 54; refine HC.out.mono ?_; rintro e w2 ⟨A, c, rfl, hx, ho⟩; have HX := Lib.hid (And.intro hx ho); clear hx ho c0 c9 c10 c11 c12 c15 c16 c17 c18 c19 c20 cl cz))
  go_ret
  exact ⟨_, _, rfl, HX.out.1, HX.out.2⟩
end
end Go.Proofs.YtfljmdpigckpkaaGreatDoor

namespace Go.Proofs.YtfljmdpigckpkaaGreatDoor
open Go.RowKit Go.Shelf Go.Conc
attribute [local go_sem] Oper.semAt_some
section
variable {W3 w w' : World} {L : Lay} {s : Sta}
set_option maxHeartbeats 4000000
set_option maxRecDepth 100000
theorem next_z3 (v : Value) {g c : Nat} (h0 : w.cell? ⟨g, 0, none⟩ = some (.int .i64 0)) (h1 : w.cell? ⟨g, 1, none⟩ = some (.int .i64 0)) (h2 : w.cell? ⟨g, 2, none⟩ = some (.int .i64 0)) : Calls Tryz.prog 50 #[v, .slice (some ⟨g, 0, none⟩) 3 c] w fun e w' => ∃ b, e = .returned (.chan (some b)) ∧ w'.heap[b]? = some cho ∧ Ext w w' := by
  have hmc := mkCh
  have HX := Lib.hid (Ext.one w cho)
  have HB := Lib.hid (show (w.alloc cho).heap[w.heap.size]? = some cho from World.alloc_heap_new _ _)
  have hlt := World.block_lt_of_cell? w _ h0
  go_enter Tryz.func50, Tryz.ntmps50
  go_upto_region 3 with (fail)
  go_rounds 4
  go_ret
  exact ⟨_, rfl, HB.out, HX.out⟩
theorem run_skip1 (a : MA W3 L s w) : Calls Tryz.prog 41 #[.pointer (some ⟨L.bm, 0, none⟩), .int .i64 1] w fun e w' => e = .returned (.int .i64 0) ∧ Ext w w' := by
  obtain ⟨o0, o1, p0, p1, q1, q2, q3, q4⟩ := a.q
  exact ofLooper_due a (i := 1) (by decide) a.loop1 a.l1 (ti := 0) (fr := false) (du := 0) (is := false) fun w2 x2 => due_nil ▸ due_ok (q2.ext (extDn x2)) (by intro i j k hi; simp at hi)
theorem of_z (a : MA W3 L s w) (hr : s.runs = 0) (he : s.e0 = []) {i : Nat} (hi : i < 2) : Calls Tryz.prog 41 #[.pointer (some ⟨L.bm, 0, none⟩), .int .i64 i] w fun e w' => e = .returned (.int .i64 0) ∧ Ext w w' := by
  match i, hi with
  | 0, _ => exact run_skip0 a hr he
  | 1, _ => exact run_skip1 a
def zs (i : Nat) : List Value := List.replicate i (.int .i64 0)
theorem zs_snoc (i : Nat) : zs i ++ [.int .i64 0] = zs (i + 1) := by simp [zs, List.replicate_succ']
theorem Can_m (a : MA W3 L s w) (hf : s.full = false) (hr : s.runs = 0) (he : s.e0 = []) : Calls Tryz.prog 11 #[.pointer (some ⟨L.bm, 0, none⟩)] w fun e w' => e = .returned (.bool false) ∧ Ext w w' := by
  have H := Lib.hid (there_m L.bm w)
  have HM := Lib.hid (fun w' (k : Ext w w') => a.ext k)
  have HR := Lib.hid (And.intro hr he)
  obtain ⟨lv, mv, m1, _⟩ := a.m
  obtain ⟨c0, c9, c10, c11, c12, c15, c16, c17, c18, c19, c20, cl, cz⟩ := mv_cells m1
  rw [hf] at c20
  obtain ⟨i0, hi0, hz0, hz1, hz2⟩ := infoParts infoInt
  clear a m1 hf hr he
  refine calls_of_wpN Tryz.func11 rfl ?_
  simp only [Tryz.ntmps11, List.size_toArray, List.length_cons, List.length_nil, Nat.reduceAdd, Nat.reduceSub, Array.replicate_succ, Array.replicate_zero, List.push_toArray, List.append_toArray, List.nil_append, List.cons_append]
  generalize hQ : bodyPost _ _ _ = Q
  have HQ := Lib.hid hQ
  clear hQ
  refine wpN_first_k fun K hK => ?_
  go_wp2_with fail
  refine wpN_first_k fun K hK => ?_
  go_wp2_with (go_at_call 48; refine H.out.mono ?_; rintro e w2 ⟨rfl, hw⟩; rw [hw]; clear hw)
  refine wpN_first_k fun K hK => ?_
  go_wp2_with fail
  refine wpN_first_k fun K hK => ?_
  go_wp2_with fail
  refine wpN_first_k fun K hK => ?_
  go_upto_region 6 with (fail)
  go_loopg [3, 17] 2 (fun k v3 v17 wr => ∃ (i : Nat) (A : Option Addr) (c : Nat), i + k = 2 ∧ v17 = .int .i64 i ∧ v3 = .slice A i c ∧ wr.ownsRow w.heap.size 3 1 (.slice A i c) i (zs i) ∧ Ext w wr)
  case atStart => exact ⟨0, none, 0, rfl, rfl, rfl, World.ownsRow_nil _ _ _ _, Ext.refl _⟩
  case round =>
    clear c0 c9 c10 c11 c12 c15 c16 c17 c18 c19 c20 cl cz
    obtain ⟨i, A, c, hik, rfl, rfl, hrow, hx⟩ := hrel
    have HX := Lib.hid hx
    have HROW := Lib.hid hrow
    clear hx hrow
    by_cases hi : (i : Int) < 2
    · have HOF := Lib.hid (of_z (HM.out _ HX.out) HR.out.1 HR.out.2 (i := i) (by omega))
      go_wp2_with (first
        | (go_at_call 41; refine HOF.out.mono ?_; rintro e w2 ⟨rfl, hx2⟩; have HX2 := Lib.hid hx2; clear hx2; have HSR := Lib.hid (src_one (c := 1) (World.alloc_heap_new w2 (.cells #[.int .i64 0] 3 (0, 0)))))
        | (at_builtin; refine wpList_append_any rfl _ _ 23 rfl w.heap.size 3 i0 (.int .i64 0) 1 8 Tryz.underlying23 hi0 hz0 hz1 hz2 rfl (by decide) (.slice A i c) i (zs i) rfl (((HX2.out.trans (Ext.one w2 (.cells #[.int .i64 0] 3 (0, 0)))).kept (fun _ _ => true)).row HROW.out fun _ _ => rfl) (.slice (some ⟨w2.heap.size, 0, none⟩) 1 1) 1 [.int .i64 0] rfl rfl HSR.out (by simp [Value.oneCell']) (by unfold maxLen; omega) (by omega) (by have := HX.out.size; have := HX2.out.size; simp; omega) (i + 1) rfl (zs (i + 1)) (zs_snoc i) ?_; intro A1 c1 w1 hown1 hgrow1 hat1; have HX3 := Lib.hid (grown_ext (HX.out.trans (HX2.out.trans (Ext.one w2 (.cells #[.int .i64 0] 3 (0, 0))))) hgrow1 fun b hb => own_base HROW.out b hb); have HO1 := Lib.hid hown1; clear hown1 hgrow1 hat1))
      go_roundg (gk - 1)
      case measure => omega
      case rel => exact ⟨i + 1, A1, c1, by omega, by go_num, rfl, HO1.out, HX3.out⟩
    · obtain rfl : i = 2 := by omega
      obtain ⟨lv, mv, m1, _⟩ := (HM.out _ HX.out).m
      obtain ⟨c0, c9, c10, c11, c12, c15, c16, c17, c18, c19, c20, cl, cz⟩ := mv_cells m1
      clear m1
      go_wp2_with fail
      refine wpN_first_k fun K hK => ?_
      go_upto_region 11 with (fail)
      clear c0 c9 c10 c11 c12 c15 c16 c17 c18 c19 c20 cl cz
      go_loopg [3, 32] 1 (fun k v3 v32 w5 => (k = 1 ∧ v3 = .slice A 2 c ∧ v32 = .int .i64 0 ∧ w5 = wr) ∨ (k = 0 ∧ ∃ A c, v3 = .slice A 3 c ∧ v32 = .int .i64 1 ∧ w5.ownsRow w.heap.size 3 1 (.slice A 3 c) 3 (zs 3) ∧ Ext w w5))
      case atStart => exact .inl ⟨rfl, rfl, rfl, rfl⟩
      case round =>
        rcases hrel with ⟨rfl, rfl, rfl, rfl⟩ | ⟨rfl, A3, c3, rfl, rfl, hrow, hx⟩
        · have HOF := Lib.hid (ofWorker_m (HM.out _ HX.out))
          have HSR := Lib.hid (src_one (c := 1) (World.alloc_heap_new wr (.cells #[.int .i64 0] 3 (0, 0))))
          go_wp2_with (first
            | (go_at_call 49; refine HOF.out.mono ?_; rintro e w2 ⟨rfl, hw⟩; rw [hw]; clear hw)
            | (at_builtin; refine wpList_append_any rfl _ _ 23 rfl w.heap.size 3 i0 (.int .i64 0) 1 8 Tryz.underlying23 hi0 hz0 hz1 hz2 rfl (by decide) (.slice A 2 c) 2 (zs 2) rfl (((Ext.one wr (.cells #[.int .i64 0] 3 (0, 0))).kept (fun _ _ => true)).row HROW.out fun _ _ => rfl) (.slice (some ⟨wr.heap.size, 0, none⟩) 1 1) 1 [.int .i64 0] rfl rfl HSR.out (by simp [Value.oneCell']) (by unfold maxLen; omega) (by omega) (by have := HX.out.size; simp; omega) 3 rfl (zs 3) (zs_snoc 2) ?_; intro A1 c1 w1 hown1 hgrow1 hat1; have HX3 := Lib.hid (grown_ext (HX.out.trans (Ext.one wr (.cells #[.int .i64 0] 3 (0, 0)))) hgrow1 fun b hb => own_base HROW.out b hb); have HO1 := Lib.hid hown1; clear hown1 hgrow1 hat1))
          go_roundg 0
          case measure => omega
          case rel => exact .inr ⟨rfl, A1, c1, rfl, rfl, HO1.out, HX3.out⟩
        · have HX5 := Lib.hid hx
          obtain ⟨g3, rfl⟩ := own_at hrow (by omega)
          have HN := Lib.hid (next_z3 (.pointer (some ⟨L.bm, 0, none⟩)) (c := c3) (hrow.cells (g := g3) rfl 0 _ rfl) (hrow.cells (g := g3) rfl 1 _ rfl) (hrow.cells (g := g3) rfl 2 _ rfl))
          clear hrow hx
          go_wp2_with fail
          refine wpN_first_k fun K hK => ?_
          go_wp2_with (go_at_call 50; refine HN.out.mono ?_; rintro e w7 ⟨b3, rfl, hb3, hx3⟩; have HX3 := Lib.hid (HX5.out.trans hx3); have HB3 := Lib.hid hb3; clear hb3 hx3)
          refine wpN_sel_none (c := b3) (z := .int .i64 0) (w1 := w7) (s := 0) (r := 0) rfl (by simp [go_sem, execOp, rcase, Act.eval]) HB3.out fun K hK => ?_
          go_wp2_with fail
          refine wpN_block ?_
          refine wpN_cond (t := false) rfl ?_
          simp only [Bool.false_eq_true, if_false]
          refine wpN_of ?_
          rw [← HQ.out]
          go_wp2_with fail
          go_ret
          exact ⟨rfl, HX3.out⟩
end
end Go.Proofs.YtfljmdpigckpkaaGreatDoor
