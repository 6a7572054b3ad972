/- parse.lay. -/
import Derived.Test.YtehdljcmeimbcaaGreatB16
import Derived.Deep.LoopGhost
import Derived.Deep.RegionLaw
import Derived.Deep.RegionHeld3
import Derived.Deep.AppendLies
import Derived.Maps.OwnIn
import Derived.Deep.DeepCutAuto
import Derived.Deep.CutRange
import Derived.Deep.CutBlock
import Derived.Maps.AppendAt
namespace Go.Proofs.YtehdljcmeimbcaaGreat
open Go.RowKit Go.Shelf
attribute [local go_sem] Oper.semAt_some
theorem ob {g n c x : Nat} (h : (Value.slice (some ⟨g, 0, none⟩) n c).ownBlock = some x) : g = x := by simpa [Value.ownBlock] using h
/-- No panic. -/
def noPanic (Q : Exit → Act → World → Prop) : Exit → Act → World → Prop
  | .panic _, _, _ => False
  | .normal, a, w => Q .normal a w
  | .ret, a, w => Q .ret a w
  | .exit i, a, w => Q (.exit i) a w
  | .goto i, a, w => Q (.goto i) a w
  | .outgrown, a, w => Q .outgrown a w
theorem noPanic_le {Q : Exit → Act → World → Prop} : ∀ e a w, noPanic Q e a w → Q e a w
  | .panic _, _, _, h => h.elim
  | .normal, _, _, h => h
  | .ret, _, _, h => h
  | .exit _, _, _, h => h
  | .goto _, _, _, h => h
  | .outgrown, _, _, h => h
theorem infoI : (Tryz.prog.info? 3).map (fun i => (i.zero, i.size, i.bytes)) = some (some (.int .i64 0), 1, 8) := by kernel_rfl
def LI (w : World) (tw Fin : List Tw) (vA : Option Addr) (vn vc : Nat) (n₀ : Nat) (n : Nat) (a : Act) (wr : World) : Prop :=
  ∃ (lv : Value) (L : List Tw) (ks : List Value) (sb : Nat) (sv : Value) (S : List Pd) (Ds : List Nat) (j1 j5 j6 j7 j8 j9 j10 j11 j12 j13 j14 j15 j16 j17 j18 j19 j20 j21 j22 j23 j24 j25 j26 j27 j28 j29 j30 j31 j32 j33 j34 j35 j36 j37 j38 j39 j40 j41 j42 j43 j44 j45 j46 j47 j48 j49 j50 j51 j52 j53 j54 j55 j56 j57 j58 j59 j60 j61 j62 j63 j64 j65 j66 j67 j68 j69 j70 j71 j72 j73 : Value),
    a = ⟨#[(.slice vA vn vc), j1, (.pointer (some ⟨n₀, 0, none⟩)), lv, (.pointer (some ⟨sb, 0, none⟩)), j5, j6, j7, j8, j9, j10, j11, j12, j13, j14, j15, j16, j17, j18, j19, j20, j21, j22, j23, j24, j25, j26, j27, j28, j29, j30, j31, j32, j33, j34, j35, j36, j37, j38, j39, j40, j41, j42, j43, j44, j45, j46, j47, j48, j49, j50, j51, j52, j53, j54, j55, j56, j57, j58, j59, j60, j61, j62, j63, j64, j65, j66, j67, j68, j69, j70, j71, j72, j73], Ds.map mark⟩ ∧ LS n₀ lv L ks sb sv S Ds wr ∧ Below n₀ w wr ∧ LP tw Fin n L S
set_option maxRecDepth 100000 in
set_option maxHeartbeats 8000000 in
theorem lay_ok (w : World) (X : List Nat) (d : Nd) (k : Fo) (vA : Option Addr) (vn vc base : Nat) (xs : List Value) (ho : w.ownsRow base 39 6 (.slice vA vn vc) ((one d k).post 0).length xs) (ht : Tws w X ((one d k).post 0) xs) (hn : vn = k.size + 1) (hlen : vn ≤ 2000001) :
    Calls Tryz.prog 28 #[.slice vA vn vc] w (RetL w.heap.size w ((one d k).flat 0)) := by
  obtain ⟨i0, hi0, hz0, hz1, hz2⟩ := info_parts infoTwig
  obtain ⟨i1, hi1, hy0, hy1, hy2⟩ := info_parts infoPd
  have HO := Lib.hid ho
  have HT := Lib.hid ht
  have HN := Lib.hid hn
  clear ho ht hn
  refine (callsIn_wide (n := 3)).1 (callsIn_of_wp_marks (F := Fence.wide) Tryz.func28 rfl trivial ?_ rfl)
  refine wpIn_wide.2 ?_
  refine wp_mono (Q := noPanic (bodyPostM Fence.wide 3 Tryz.prog _ _)) ?_ noPanic_le
  generalize hQ : bodyPostM Fence.wide 3 Tryz.prog _ _ = Q
  have HQ := Lib.hid hQ
  clear hQ
  simp only [Tryz.ntmps28, List.size_toArray, List.length_cons, List.length_nil, Nat.reduceAdd, Nat.reduceSub, Array.replicate_succ, Array.replicate_zero, List.push_toArray, List.append_toArray, List.nil_append, List.cons_append]
  go_wp2_with (at_make; refine wpList_make_own _ rfl _ _ 24 rfl w.heap.size 39 i0 (.agg #[.int .i64 0, .string ⟨#[]⟩, .int .i64 0, .int .i64 0, .int .i64 0, .slice none 0 0]) 6 Tryz.underlying24 hi0 hz0 hz1 .i64 .i64 _ vn rfl rfl rfl (by rw [hz2]; omega) (by unfold maxLen; omega) (by simp) ?_; intro w1 hown1 hgrow1)
  refine wp_loop_ghost_k (LI w ((one d k).post 0) ((one d k).flat 0) vA vn vc w.heap.size) (k.size + 1) ?_ ?_
  · have hbg := LS.begin w w1 vn d k HN.out hown1 hgrow1
    exact ⟨_, [], [], _, _, [⟨d, k, k.size, -1⟩], [], _, _, _, _, _, _, _, _, _, _, _, _, _, _, _, _, _, _, _, _, _, _, _, _, _, _, _, _, _, _, _, _, _, _, _, _, _, _, _, _, _, _, _, _, _, _, _, _, _, _, _, _, _, _, _, _, _, _, _, _, _, _, _, _, _, _, _, _, _, _, rfl, hbg.1, hbg.2, LP.first d k _ rfl⟩
  · rintro n a wr ⟨lv, L, ks, sb, sv, S, Ds, j1, j5, j6, j7, j8, j9, j10, j11, j12, j13, j14, j15, j16, j17, j18, j19, j20, j21, j22, j23, j24, j25, j26, j27, j28, j29, j30, j31, j32, j33, j34, j35, j36, j37, j38, j39, j40, j41, j42, j43, j44, j45, j46, j47, j48, j49, j50, j51, j52, j53, j54, j55, j56, j57, j58, j59, j60, j61, j62, j63, j64, j65, j66, j67, j68, j69, j70, j71, j72, j73, rfl, hls, hbw, hlp⟩ J K hJ hK
    generalize hds : Ds.map mark = ds
    have HDS := Lib.hid hds
    clear hds
    have HLP := Lib.hid hlp
    have HBW := Lib.hid hbw
    have hsb := (hls.bnd (.inl rfl)).2
    have hn0 := (hls.bnd (.inr (.inl rfl))).2
    have fn0 := free_of_one hls.res
    have cn0 := cell_of_one hls.res
    obtain ⟨lA, lc, rfl⟩ := own_form hls.laid.row
    cases S with
    | nil =>
      have c4 : wr.cell? ⟨sb, 0, none⟩ = some sv := cell_of_one hls.box
      obtain ⟨A, cap, rfl⟩ := own_form hls.st
      simp only [List.length_nil] at c4
      have HLS := Lib.hid hls
      clear hls hlp hbw
      go_wp2_with fail
      show Q _ _ _
      rw [← HQ.out]
      show LeavesInM Fence.wide 3 Tryz.prog _ _ _ ds .returning _
      rw [← HDS.out]
      refine leaves_marks Ds _ HLS.out.nodup (fun D hD => ?_) fun w' h1 h2 h3 h4 h5 => ?_
      · exact (set_other _ _ _ _ _ fun e => by have h1 := (HLS.out.marks D hD).2; rw [e, HLS.out.res] at h1; cases h1).trans (HLS.out.marks D hD).2
      · obtain ⟨e1, e2, e3⟩ := lay_end HLS.out HBW.out rfl _ h1 h2 h3 (by rw [h4]; simp [World.setCell]) h5
        have hcl := cell_of_one e3
        refine ⟨.agg #[.slice lA L.length lc], by simp [results, Tryz.results28, go_sem, hcl], .slice lA L.length lc, ks, rfl, ?_, e2⟩
        rw [← HLP.out.fin, layS_nil]
        exact e1
    | cons p S =>
      obtain ⟨g, cap, rfl, hgs, hcap, hcm⟩ := hls.form
      have c4 : wr.cell? ⟨sb, 0, none⟩ = some (.slice (some ⟨g, 0, none⟩) (S.length + 1) cap) := cell_of_one hls.box
      have f4 := free_of_one hls.box
      obtain ⟨t0, t1⟩ := hls.top
      unfold maxLen at hcm
      have HLS := Lib.hid hls
      clear hls hlp hbw
      go_upto_if 36 with (fail)
      go_cut [] from 18 to 71 (fun wx => CutR w lA lc L sb (.slice (some ⟨g, 0, none⟩) S.length cap) p S Ds wr.heap.size wx)
      case first =>
        have hlc2 := HLP.out.kb
        have hLn : L.length ≤ 2000001 := by
          have h1 := HLP.out.len
          rw [Fo.post_len, one_size] at h1
          have h2 := HN.out
          omega
        have hcb := fun W => cut_base (W := W) HLS.out HBW.out (by omega) (L.length : Int)
        by_cases hup : 0 ≤ p.up
        · have hil := HLP.out.ups p (.head _) hup
          obtain ⟨t, hLt⟩ : ∃ t, L[p.up.toNat]? = some t := ⟨_, List.getElem?_eq_getElem hil⟩
          obtain ⟨gl, kA, kc, rfl, hglt, hks, hkc, hkf, hkr⟩ := HLS.out.laid.kcell hLt
          have hkn : t.kids.length ≤ L.length := hlc2 _ (List.mem_of_getElem? hLt)
          have hupl : p.up < (L.length : Int) := by omega
          have hWE := hcb _ rfl
          have hWs : (((wr.setCell ⟨sb, 0, none⟩ (.slice (some ⟨g, 0, none⟩) S.length cap)).alloc (.cells #[.int .i64 (p.i : Int), .int .i64 p.up] 97)).alloc (.cells #[.int .i64 (L.length : Int)] 3)).heap.size = wr.heap.size + 2 := by simp [World.setCell]
          have HHLP := HLP
          generalize hW : ((wr.setCell ⟨sb, 0, none⟩ (.slice (some ⟨g, 0, none⟩) S.length cap)).alloc (.cells #[.int .i64 (p.i : Int), .int .i64 p.up] 97)).alloc (.cells #[.int .i64 (L.length : Int)] 3) = W at hWE hWs ⊢
          obtain ⟨hls2, l5, l6, hb2⟩ := hWE
          obtain ⟨gl', kA', kc', hgl', hglt', hks', hkc', hkf', hkr'⟩ := hls2.laid.kcell hLt
          injection hgl' with hgl'; injection hgl' with hgl'
          subst hgl'
          have hkv : ks[p.up.toNat]? = some (.slice kA t.kids.length kc) := hks
          rw [hks'] at hks
          injection hks with hks; injection hks with e1 _ e3
          subst e1 e3
          have c51 : W.cell? ⟨wr.heap.size, 1, none⟩ = some (.int .i64 p.up) := by simp [World.cell?, l5.is]
          have c60 : W.cell? ⟨wr.heap.size + 1, 0, none⟩ = some (.int .i64 (L.length : Int)) := cell_of_one l6.is
          have fk := hkf' (p.up.toNat * 6 + 5)
          have hklt := hkr'.lt
          obtain ⟨i2, hi2, hx0, hx1, hx2⟩ := info_parts infoI
          have hkne : (Value.slice kA' t.kids.length kc').ownBlock ≠ some gl := fun e => kindsO hls2.laid.row hkr' (by decide) gl rfl e
          have hwW : w.heap.size ≤ W.heap.size := hb2.size
          have HL2 := Lib.hid hls2
          have H5 := Lib.hid l5
          have H6 := Lib.hid l6
          have HB2 := Lib.hid hb2
          have HKR := Lib.hid hkr'
          have HKNE := Lib.hid hkne
          have HKV := Lib.hid hkv
          have HKS := Lib.hid hks'
          have HLT := Lib.hid hLt
          clear hls2 l5 l6 hb2 hkr hkr' hkne hkf hkf' hkc hglt t0 t1 c4 f4 hklt hlc2 hcb hks' hkv hW hLt hWs
          have h5W := lt_of_block H5.out.is
          have hk5 : (Value.slice kA' t.kids.length kc').ownBlock ≠ some wr.heap.size := kinds H5.out.is HKR.out fun cur e => by injection e with _ e _; exact absurd e (by decide)
          have HK5 := Lib.hid hk5
          have hka : (W.alloc (.cells #[.int .i64 (L.length : Int)] 3)).cell? ⟨gl, p.up.toNat * 6 + 5, none⟩ = some (.slice kA' t.kids.length kc') := (World.cell?_alloc_past _ _ _ hglt').trans hkc'
          have h5a : (W.alloc (.cells #[.int .i64 (L.length : Int)] 3)).cell? ⟨wr.heap.size, 1, none⟩ = some (.int .i64 p.up) := (World.cell?_alloc_past _ _ _ h5W).trans c51
          have h6a : (W.alloc (.cells #[.int .i64 (L.length : Int)] 3)).cell? ⟨wr.heap.size + 1, 0, none⟩ = some (.int .i64 (L.length : Int)) := (World.cell?_alloc_past _ _ _ (lt_of_block H6.out.is)).trans c60
          clear hk5
          go_wp2_with fail
          go_region_law ((refine step_append_lies _ (by rfl) _ _ _ (by rfl) w.heap.size 3 i2 (.int .i64 0) 1 8 Tryz.underlying37 hi2 hx0 hx1 hx2 rfl (by omega) (.slice kA' t.kids.length kc') t.kids.length _ (by rfl) ((HKR.out.alloc _).drew) ⟨W.heap.size, 0, none⟩ 1 1 [.int .i64 (L.length : Int)] (by rfl) (by rfl) (World.news_of_block (cs := #[.int .i64 (L.length : Int)]) (t := 3) (fr := (0, 0)) (heap_alloc_new W _)) (by simp [Value.oneCell']) (by omega) (by unfold maxLen; omega) (by omega) (by simp; omega) (W.heap.size + 1) (by simp) ?_; intro gg cap2 w1 hown1 hgrow hat hlt; have q3 := (hgrow.cell_far ⟨gl, p.up.toNat * 6 + 5, none⟩ (by simp; omega) (Ne.symm HKNE.out)).trans ((World.cell?_alloc_past _ _ _ hglt').trans hkc'); have q3f := (hgrow.frozen_far ⟨gl, p.up.toNat * 6 + 5, none⟩ (by simp; omega) (Ne.symm HKNE.out)).trans ((World.frozen?_alloc_past _ _ _ hglt').trans fk); have q5 := (hgrow.cell_far ⟨wr.heap.size, 1, none⟩ (by simp; omega) (Ne.symm HK5.out)).trans ((World.cell?_alloc_past _ _ _ h5W).trans c51)))
          all_goals
            have hst := HL2.out.kid (x := (L.length : Int)) HLT.out HKV.out ((Below.refl _ _).alloc (Nat.le_refl _) _).drew hgrow hown1 (fun x hx => hat.imp (fun e => e.trans (congrArg some (ob hx))) fun e => (by have h1 := ob hx; omega))
            have HST := Lib.hid hst
            clear hst hown1 hgrow hat q3 q3f q5 hka h5a h6a
            go_wp2_with fail
            go_meet
            have hup2 : ((p.up.toNat : Nat) : Int) = p.up := Int.toNat_of_nonneg hup
            rw [hup2] at HST
            exact ⟨_, HST.out.1, H5.out.step HST.out.2, H6.out.step HST.out.2, HST.out.2.low HB2.out (fun b hb => (HL2.out.bnd hb).1) hwW⟩
        · go_wp2_with fail
          go_meet
          obtain ⟨h1, h2, h3, h4⟩ := hcb _ rfl
          exact ⟨ks, by rw [addK_neg _ _ _ (by omega)]; exact h1, h2, h3, h4⟩
      case rest =>
        obtain ⟨ks', hls', ho5, ho6, hb2⟩ := hcut
        have hp1 := HLP.out.ins p (.head _)
        obtain ⟨hvn, hiv, gA, kv, rfl, hgA, hir, hcs⟩ := tw_src HO.out HT.out hp1.2.1
        have cc := fun o u h => (hb2.cell (p := ⟨gA, p.i * 6 + o, none⟩) hgA).trans (hcs o u h)
        have q0 := cc 0 _ rfl
        have q1 := cc 1 _ rfl
        have q2 := cc 2 _ rfl
        have q3 := cc 3 _ rfl
        have q4 := cc 4 _ rfl
        have q5 := cc 5 _ rfl
        rw [Nat.add_zero] at q0
        have c50 : wc.cell? ⟨wr.heap.size, 0, none⟩ = some (.int .i64 (p.i : Int)) := by simp [World.cell?, ho5.is]
        have c60 : wc.cell? ⟨wr.heap.size + 1, 0, none⟩ = some (.int .i64 (L.length : Int)) := cell_of_one ho6.is
        simp only [Nd.tw] at q0 q1 q2 q3 q4 q5 hir
        have hzlen : (p.k.ids (p.i - p.k.size)).length ≤ 2000001 := by
          have h1 := HLP.out.step
          obtain ⟨n', _, h2⟩ := h1
          have h3 := len_todo (p.k.pds L.length (p.i - p.k.size) ++ S)
          have h4 := h2.cnt
          have h5 := h2.len
          rw [ids_pds p.k L.length]
          simp only [List.length_append] at h3 h5
          simp only [List.length_map, List.length_cons, List.length_nil] at h5 ⊢
          omega
        have hslen : S.length + (p.k.ids (p.i - p.k.size)).length ≤ 2000001 := by
          have h1 := HLP.out.step
          obtain ⟨n', _, h2⟩ := h1
          have h3 := len_todo (p.k.pds L.length (p.i - p.k.size) ++ S)
          have h4 := h2.cnt
          have h5 := h2.len
          rw [ids_pds p.k L.length]
          simp only [List.length_append] at h3 h5
          simp only [List.length_map, List.length_cons, List.length_nil] at h5 ⊢
          omega
        have hpush := push_all p.k (p.i - p.k.size) S L.length
        have HPUSH := Lib.hid hpush
        clear hpush
        generalize p.k.ids (p.i - p.k.size) = zs at hir q5 hzlen hslen HPUSH
        obtain ⟨kA, kc, rfl, hir2⟩ := id hir
        have hlsW := (hls'.after ((Below.refl _ wc).alloc (Nat.le_refl _) (.cells #[.int .i64 p.d.kind, .string ⟨p.d.text.toArray⟩, .int .i64 p.d.n, .int .i64 p.d.line, .int .i64 p.d.col, .slice kA zs.length kc] 39)))
        have ho7 := hls'.lo (.cells #[.int .i64 p.d.kind, .string ⟨p.d.text.toArray⟩, .int .i64 p.d.n, .int .i64 p.d.line, .int .i64 p.d.col, .slice kA zs.length kc] 39) _ rfl
        have s7 : Stp w.heap.size (Mine w.heap.size (.slice lA L.length lc) ks' sb (.slice (some ⟨g, 0, none⟩) S.length cap) Ds) wc (Mine w.heap.size (.slice lA L.length lc) ks' sb (.slice (some ⟨g, 0, none⟩) S.length cap) Ds) (wc.alloc (.cells #[.int .i64 p.d.kind, .string ⟨p.d.text.toArray⟩, .int .i64 p.d.n, .int .i64 p.d.line, .int .i64 p.d.col, .slice kA zs.length kc] 39)) := .of ((Below.refl _ wc).alloc (Nat.le_refl _) _)
        have hb7 := hb2.alloc hb2.size (.cells #[.int .i64 p.d.kind, .string ⟨p.d.text.toArray⟩, .int .i64 p.d.n, .int .i64 p.d.line, .int .i64 p.d.col, .slice kA zs.length kc] 39)
        have ho6' := ho6.step s7
        generalize hw7 : wc.alloc (.cells #[.int .i64 p.d.kind, .string ⟨p.d.text.toArray⟩, .int .i64 p.d.n, .int .i64 p.d.line, .int .i64 p.d.col, .slice kA zs.length kc] 39) = w7 at hlsW ho7 s7 hb7 ho6'
        have hls8 := hlsW.after ((Below.refl _ w7).alloc (Nat.le_refl _) (.cells #[.slice kA zs.length kc] 37))
        have ho8 := hlsW.lo (.cells #[.slice kA zs.length kc] 37) _ rfl
        have s8 : Stp w.heap.size (Mine w.heap.size (.slice lA L.length lc) ks' sb (.slice (some ⟨g, 0, none⟩) S.length cap) Ds) w7 (Mine w.heap.size (.slice lA L.length lc) ks' sb (.slice (some ⟨g, 0, none⟩) S.length cap) Ds) (w7.alloc (.cells #[.slice kA zs.length kc] 37)) := .of ((Below.refl _ w7).alloc (Nat.le_refl _) _)
        have hb8 := hb7.alloc hb7.size (.cells #[.slice kA zs.length kc] 37)
        have ho68 := ho6'.step s8
        have ho78 := ho7.step s8
        have hir8 : IntRow (w7.alloc (.cells #[.slice kA zs.length kc] 37)) X (.slice kA zs.length kc) zs := hir.keep fun g cs m hg => hb8.block g (lt_of_block hg)
        have HW7 := Lib.hid hw7
        have hsz7 : w7.heap.size = wc.heap.size + 1 := by rw [← hw7]; simp
        have HLS' := Lib.hid hls8
        have HO6 := Lib.hid ho68
        have HO7 := Lib.hid ho78
        have HO8 := Lib.hid ho8
        have HB8 := Lib.hid hb8
        have hwcs := hb2.size
        have HIR := Lib.hid hir8
        have HVN := Lib.hid hvn
        have HSZ := Lib.hid hsz7
        clear hls' ho5 ho6 hb2 hir hir2 cc hcs hp1 t0 t1 c4 f4 hvn hlsW ho7 s7 hb7 ho6' hls8 ho8 s8 hb8 ho68 ho78 hir8 hw7 hsz7 c60
        go_wp2_with (go_at_call 55; refine (backward_ok _ _ _ _).mono ?_; rintro e w' ⟨rfl, rfl⟩)
        rw [HW7.out]
        have hsz8 : (w7.alloc (.cells #[.slice kA zs.length kc] 37)).heap.size = wc.heap.size + 2 := by simp [HSZ.out]
        have e8 : w7.heap.size = wc.heap.size + 1 := HSZ.out
        rw [e8] at HO8
        generalize w7.alloc (.cells #[.slice kA zs.length kc] 37) = W0 at HLS' HO6 HO7 HO8 HB8 HIR hsz8 ⊢
        obtain ⟨gK, ⟨cK, tK, mK, hgK, htK⟩, hrowK, hstops⟩ := backward_stops Fence.wide (3 - 1) trivial rfl (by omega) (wc.heap.size + 1) (.slice kA zs.length kc) zs X hzlen W0 HO8.out.is HIR.out
        have hgKl := lt_of_block hgK
        have hB8l := lt_of_block HO8.out.is
        have hsbl := lt_of_block HLS'.out.box
        have hgk1 : gK ≠ sb := fun e => by
          have h := HLS'.out.box
          rw [← e, hgK] at h
          injection h with h; injection h with _ h _
          rcases htK with rfl | rfl <;> exact absurd h (by decide)
        have hgk2 : (Value.slice (some ⟨g, 0, none⟩) S.length cap).ownBlock ≠ some gK := kinds hgK HLS'.out.st fun cur e => by
          injection e with _ e _
          rcases htK with rfl | rfl <;> exact absurd e (by decide)
        have htk1 : tK ≠ 98 := by rcases htK with rfl | rfl <;> decide
        have htk2 : tK ≠ 97 := by rcases htK with rfl | rfl <;> decide
        clear htK
        refine wpIn_wide.1 (wpIn_rangeFunc_ownF (F := Fence.wide) (n := 3) rfl (by omega) (gf := 77) (lb := #[.pointer (some ⟨wc.heap.size + 1, 0, none⟩)]) rfl trivial (enters_of Tryz.func77 (by kernel_rfl) rfl)
          hstops (fun h k => h.trans k) (fun W l o o' hl ho _ _ => ⟨World.putObj_heap_other (by omega), World.putObj_heap_other (by omega)⟩) (Below.refl _ _) (fun _ => rfl)
          (PushI w.heap.size sb (.slice (some ⟨g, 0, none⟩) S.length cap) (pdCells S.reverse) S.length (L.length : Int) W0) (fun _ _ _ => False) pushI_own (fun _ _ _ _ _ hs _ _ => hs) (pushI_nil HLS'.out _) ?a1 ?assign ?body ?done ?stop)
        case stop =>
          rintro D c pre W _ _ h _
          exact h.elim
        case assign =>
          intro l x W K' hK'
          have HK' := Lib.hid hK'
          clear hK'
          gi_wp2
          exact HK'.out
        case body =>
          rintro l pre x W hI hlt
          obtain ⟨sv', hbx, hrow, hk⟩ := hI
          obtain ⟨A', cap', rfl⟩ := own_form hrow
          have c4 := cell_of_one hbx
          have f4 := free_of_one hbx
          have b6 : W.heap[wr.heap.size + 1]? = some (.cells #[.int .i64 (L.length : Int)] 3 (0, 0)) := (hk.block _ (lt_of_block HO6.out.is) (fun e => HO6.out.not (.inl e)) fun e => HO6.out.not (.inr (.inr (.inl e)))).trans HO6.out.is
          have c6 := cell_of_one b6
          have hsz := hk.size
          have hsbW := lt_of_block hbx
          have h6W := lt_of_block b6
          have hn0W : w.heap.size ≤ W.heap.size := Nat.le_trans HB8.out.size hsz
          have HBX := Lib.hid hbx
          have HROW := Lib.hid hrow
          have HKP := Lib.hid hk
          have HGK := Lib.hid hgK
          clear hbx hrow hk b6 hgK hrowK hstops q0 q1 q2 q3 q4 q5 c50
          gi_wp2_with (gi_at_builtin; go_loud (refine wpListIn_append_own_at _ rfl _ _ 98 rfl w.heap.size 97 i1 (.agg #[.int .i64 0, .int .i64 0]) 2 16 Tryz.underlying98 hi1 hy0 hy1 hy2 rfl (by decide) _ _ _ rfl (HROW.out.alloc _) ⟨W.heap.size, 0, none⟩ 1 1 [.int .i64 x.2, .int .i64 (L.length : Int)] rfl rfl (cell_two_new _ _ _ _) (by simp [Value.oneCell']) (by unfold maxLen; omega) (by omega) (by simp; omega) ?_; intro v' w1 hown' hgrow hnn hat; obtain ⟨g', cap2, rfl⟩ := ownsRow_succ hown'; have hst := PushI.step (x := x) hsbl HBX.out HKP.out HROW.out ((Below.refl _ W).alloc (Nat.le_refl _) _) (KeepsOthers.alloc _ _) hgrow hown' (fun g hg => hat.elim (fun e => .inl (e.symm.trans hg)) fun e => .inr (by rw [e] at hg; simp at hg; omega)); have c41 : w1.cell? ⟨sb, 0, none⟩ = some _ := (World.cell?_of_block (a := ⟨sb, 0, none⟩) (hgrow.block sb (by simp; omega) (kinds HBX.out HROW.out fun cur e => by injection e with _ e _; exact absurd e (by decide)).symm)).trans ((World.cell?_alloc_past _ _ _ hsbW).trans c4); have f41 : w1.frozen? ⟨sb, 0, none⟩ = false := (World.frozen?_of_block (a := ⟨sb, 0, none⟩) (hgrow.block sb (by simp; omega) (kinds HBX.out HROW.out fun cur e => by injection e with _ e _; exact absurd e (by decide)).symm)).trans ((World.frozen?_alloc_past _ _ _ hsbW).trans f4); have HST := Lib.hid hst; clear hst hown' hgrow hnn hat))
          have hgW := (HKP.out.block gK hgKl hgk1 hgk2).trans HGK.out
          have hBW := (HKP.out.block _ hB8l (fun e => HO8.out.not (.inl e)) fun e => HO8.out.not (.inr (.inr (.inl e)))).trans HO8.out.is
          exact ⟨HST.out.2.1, ⟨HST.out.2.2 gK cK tK mK hgW htk1 htk2, HST.out.2.2 _ _ _ _ hBW (by decide) (by decide)⟩, HST.out.1⟩
        case done =>
          rintro D ys W hD rfl ⟨sv', hbx, hrow, hk⟩ hKD
          rw [HPUSH.out.1, HPUSH.out.2] at hrow
          obtain ⟨hls9, s9⟩ := HLS'.out.push hk hbx hrow hKD hD
          have ho79 := HO7.out.step s9
          have hb9 : Below w.heap.size w W := s9.low HB8.out (fun b hb => (HLS'.out.bnd hb).1) HB8.out.size
          have b7 := ho79.is
          have r0 : W.cell? ⟨wc.heap.size, 0, none⟩ = some (.int .i64 p.d.kind) := by simp [World.cell?, b7]
          have r1 : W.cell? ⟨wc.heap.size, 1, none⟩ = some (.string ⟨p.d.text.toArray⟩) := by simp [World.cell?, b7]
          have r2 : W.cell? ⟨wc.heap.size, 2, none⟩ = some (.int .i64 p.d.n) := by simp [World.cell?, b7]
          have r3 : W.cell? ⟨wc.heap.size, 3, none⟩ = some (.int .i64 p.d.line) := by simp [World.cell?, b7]
          have r4 : W.cell? ⟨wc.heap.size, 4, none⟩ = some (.int .i64 p.d.col) := by simp [World.cell?, b7]
          have r5 : W.cell? ⟨wc.heap.size, 5, none⟩ = some (.slice kA zs.length kc) := by simp [World.cell?, b7]
          have f7 : ∀ i, W.frozen? ⟨wc.heap.size, i, none⟩ = false := fun i => by simp [World.frozen?, b7]
          have f75 := f7 5
          have hl7 := lt_of_block b7
          have hls10 := hls9.setLo ho79.not 5 (.slice none 0 0)
          have hb10 : Below w.heap.size w (W.setCell ⟨wc.heap.size, 5, none⟩ (.slice none 0 0)) := hb9.setCell (p := ⟨wc.heap.size, 5, none⟩) hwcs _
          have hrow10 := hls10.laid.row
          rw [addK_len] at hrow10
          have hLn : L.length ≤ 2000001 := by
            obtain ⟨n', _, h2⟩ := HLP.out.step
            have h5 := h2.len
            simp [addK_len] at h5
            have := HVN.out
            omega
          have HLS9 := Lib.hid hls10
          have HB10 := Lib.hid hb10
          have HROW := Lib.hid hrow10
          clear hls9 s9 ho79 hb9 b7 f7 hls10 hb10 hrow10 hbx hrow hk hKD hgK hrowK hstops q0 q1 q2 q3 q4 q5 c50
          have hWs : (W.setCell ⟨wc.heap.size, 5, none⟩ (.slice none 0 0)).heap.size = W.heap.size := by simp [World.setCell]
          have hwW : w.heap.size ≤ W.heap.size := by have := HB10.out.size; omega
          have HWS := Lib.hid hWs
          clear hWs
          go_wp2_with (at_builtin; go_loud (refine wpList_append_lies _ rfl _ _ 24 rfl w.heap.size 39 i0 (.agg #[.int .i64 0, .string ⟨#[]⟩, .int .i64 0, .int .i64 0, .int .i64 0, .slice none 0 0]) 6 72 Tryz.underlying24 hi0 hz0 hz1 hz2 rfl (by decide) (.slice lA L.length lc) L.length _ rfl (HROW.out.alloc _) ⟨W.heap.size, 0, none⟩ 1 1 [.int .i64 p.d.kind, .string ⟨p.d.text.toArray⟩, .int .i64 p.d.n, .int .i64 p.d.line, .int .i64 p.d.col, .slice none 0 0] rfl rfl (by have h1 := World.news_of_block (cs := #[.int .i64 p.d.kind, .string ⟨p.d.text.toArray⟩, .int .i64 p.d.n, .int .i64 p.d.line, .int .i64 p.d.col, .slice none 0 0]) (t := 39) (fr := (0, 0)) (heap_alloc_new (W.setCell ⟨wc.heap.size, 5, none⟩ (.slice none 0 0)) _); rw [HWS.out] at h1; exact h1) (by simp [Value.oneCell']) (by omega) (by unfold maxLen; omega) (by omega) (by simp; omega) (W.heap.size + 1) (by simp) ?_; intro gg cap2 w9 hown9 hgrow9 hat9 hlt9; have hst := HLS9.out.lay (t := p.d.tw []) ((Below.refl _ _).alloc (Nat.le_refl _) _) hgrow9 (by rw [addK_len]; exact hown9) (fun x hx => hat9.imp (fun e => e.trans (congrArg some (ob hx))) fun e => (by have h1 := ob hx; rw [HWS.out]; omega)) rfl; have HST := Lib.hid hst; clear hst hown9 hgrow9 hat9))
          obtain ⟨n', hn', hlp'⟩ := HLP.out.step
          have hb11 := HST.out.2.low HB10.out (fun b hb => (HLS9.out.bnd hb).1) HB10.out.size
          refine Handed.intro n' hn' (hJ _ _ _ ?_)
          have hds' : ({ target := .collected D, args := #[] } : Deferred) :: ds = (D :: Ds).map mark := by rw [← HDS.out]; rfl
          rw [hds']
          exact ⟨_, _, _, _, _, _, _, _, _, _, _, _, _, _, _, _, _, _, _, _, _, _, _, _, _, _, _, _, _, _, _, _, _, _, _, _, _, _, _, _, _, _, _, _, _, _, _, _, _, _, _, _, _, _, _, _, _, _, _, _, _, _, _, _, _, _, _, _, _, _, _, _, _, _, _, _, _, rfl, HST.out.1, hb11, hlp'⟩
end Go.Proofs.YtehdljcmeimbcaaGreat
