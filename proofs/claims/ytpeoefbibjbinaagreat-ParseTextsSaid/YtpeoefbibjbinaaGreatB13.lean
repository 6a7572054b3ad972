/- post of the document's parser (written by gen_r7.py); branch of the document's parser (written by gen_r8.py); The map of lives' words. -/
import Derived.Test.YtpeoefbibjbinaaGreatB12
import Derived.Test.YtpeoefbibjbinaaGreatB01
namespace Go.Proofs.YtpeoefbibjbinaaGreat
open Go.RowKit

set_option maxRecDepth 100000 in
set_option maxHeartbeats 2000000 in
theorem post3_ok (n : Nat) (HT : Hid (Ct3 98 n .term)) (HV : Hid (Ct3 114 n .var)) : Ct3 99 (n + 1) .post := by
  intro C w m σ x h hQ
  rw [Q] at hQ
  obtain ⟨i0, hi0, hz0, hz1, hz2⟩ := info_parts infoW
  have HS0 := Lib.hid (S3.start h)
  have hpw := h.lt
  have HA := Lib.hid (ahead_ok C w m σ h)
  clear h
  have hk2 : isKd C.T 2 σ = true := by
    cases hk : isKd C.T 2 σ
    · rw [hk, if_pos rfl] at hQ
      cases hQ
    · rfl
  rw [hk2, if_neg (by decide)] at hQ
  have HLT := Lib.hid (isKd_lt (by decide) hk2)
  clear hk2
  unfold Rx.ptr at *
  have HQ := Lib.hid hQ
  clear hQ
  generalize hd (rest C.T σ) = t at *
  go_enter Tryz.func99, Tryz.ntmps99
  go_wp2_with fail
  refine HA.out.mono ?_
  rintro e w1 ⟨rfl, hb⟩
  have HS1 := Lib.hid ((HS0.out.below hb).var w1.heap.size rfl (tokO t))
  clear hb HA HS0
  unfold tokV
  go_upto_region 2 with (fail)
  change Code.wp _ _ _ _ (w1.alloc (tokO t))
  generalize w1.alloc (tokO t) = wA at HS1 ⊢
  generalize w1.heap.size = b at *
  obtain ⟨_, c1, _, _, _⟩ := HS1.out.rs.cells
  have f1 := HS1.out.rs.free 1
  have hp1 := HS1.out.rs.lt
  have hbig := HS1.out.rs.big
  have hlt' := HLT.out.2
  have HS3 := Lib.hid (HS1.out.skip hlt')
  clear HS1
  go_upto_region 3 with (fail)
  clear c1 f1 hp1 hbig hlt'
  generalize wA.setCell ⟨C.p, 1, none⟩ (.int .i64 ((σ.k : Int) + 1)) = W at HS3 ⊢
  obtain ⟨a0, a1, a2, a3, a4⟩ := HS3.out.tok (.head _)
  clear HLT
  by_cases hw : t.text = [112, 111, 115, 116]
  · have hQ := HQ.out
    rw [if_pos hw] at hQ
    obtain ⟨⟨X1, σ1⟩, q1, hQ1⟩ := Option.bind_eq_some_iff.1 hQ
    dsimp only at hQ1
    have pb : (t.text == [112, 111, 115, 116]) = true := by simp [hw]
    have HQT := Lib.hid q1
    have HQ1 := Lib.hid hQ1
    clear hQ hQ1 q1 hw HQ
    have HQ := HQ1
    clear HQ1
    have HKD : Hid (Calls _ _ _ _ (Took3 C W m (knd C.T 1 (skp σ)))) := Lib.hid (kind3_ok C W m _ 1 HS3.out.rs (by decide))
    unfold Rx.ptr at HKD
    have hfd := field1
    go_wp2_with fail
    refine HKD.out.mono ?_
    rintro e w3 ⟨rfl, hs, hk⟩
    have HS2 := Lib.hid (HS3.out.call hs hk)
    clear hs hk HKD HS3 a0 a1 a2 a3 a4
    have HS3 := HS2
    clear HS2
    unfold tokV
    generalize (knd C.T 1 (skp σ)).1.text = s1 at *
    have HC := Lib.hid (HT.out C w3 m _ _ HS3.out.rs HQT.out)
    unfold Rx.ptr at HC
    go_wp2_with fail
    refine HC.out.mono ?_
    rintro e w4 ⟨g1, n1, rfl, hr, hs, hk⟩
    dsimp only at hs hr ⊢
    have HS4 := Lib.hid ((HS3.out.call hs hk).add hr)
    clear hr hs hk HC HS3
    have hsz4 : w.heap.size ≤ w4.heap.size := HS4.out.kr.size
    have HO5 : Hid ((w4.alloc (.cells #[.slice (some ⟨g1, 0, none⟩) X1.length n1] 76)).ownsRow w.heap.size 76 1 (.slice (some ⟨w4.heap.size, 0, none⟩) 1 1) 1 [.slice (some ⟨g1, 0, none⟩) X1.length n1]) := Lib.hid (World.ownsRow_lit w4 #[.slice (some ⟨g1, 0, none⟩) X1.length n1] 1 hsz4 (by decide) rfl)
    have HS5 := Lib.hid (HS4.out.al (.cells #[.slice (some ⟨g1, 0, none⟩) X1.length n1] 76))
    clear HS4 hsz4
    go_upto_region 8 with (fail)
    generalize w4.alloc (.cells #[.slice (some ⟨g1, 0, none⟩) X1.length n1] 76) = w5 at HO5 HS5 ⊢
    generalize w4.heap.size = bl at *
    clear hfd HQT pb
    have HI1 := Lib.hid fun (w2 : World) (h : RS w2 C m σ1) => is3_ok C w2 m σ1 97 [102, 116, 101, 114] h
    have HI2 := Lib.hid fun (w2 : World) (h : RS w2 C m σ1) => is3_ok C w2 m σ1 102 [114, 111, 110, 116] h
    unfold Rx.ptr at *
    go_wp2_with fail
    refine (HI1.out _ HS5.out.rs).mono ?_
    rintro e w6 ⟨rfl, hb⟩
    have HS6 := Lib.hid (HS5.out.below hb)
    have HO6 := Lib.hid (own_after HO5.out hb)
    clear hb HI1 HS5 HO5
    go_upto_if 31 with (fail)
    go_cut [6] (fun v6 wx => v6 = .int .i64 (postA C.T σ1).1 ∧ S3 C w wx m (postA C.T σ1).2 [(b, tokO t)] [(.slice (some ⟨g1, 0, none⟩) X1.length n1, X1)] ∧ wx.ownsRow w.heap.size 76 1 (.slice (some ⟨bl, 0, none⟩) 1 1) 1 [.slice (some ⟨g1, 0, none⟩) X1.length n1])
    case first =>
      cases ha : isT C.T [97, 102, 116, 101, 114] σ1
      · go_wp2_with fail
        refine (HI2.out _ HS6.out.rs).mono ?_
        rintro e w7 ⟨rfl, hb⟩
        have HS7 := Lib.hid (HS6.out.below hb)
        have HO7 := Lib.hid (own_after HO6.out hb)
        clear hb HI2 HS6 HO6
        cases hf : isT C.T [102, 114, 111, 110, 116] σ1
        · have hp : postA C.T σ1 = (0, σ1) := by unfold postA; rw [ha, if_neg (by decide), hf, if_neg (by decide)]
          have HP := Lib.hid hp
          clear ha hf hp
          go_wp2_with fail
          go_meet
          rw [HP.out]
          exact ⟨rfl, HS7.out, HO7.out⟩
        · have hp : postA C.T σ1 = (-1, skp σ1) := by unfold postA; rw [ha, if_neg (by decide), hf, if_pos rfl]
          have HP := Lib.hid hp
          have hlt := (isT_lt hf).2
          clear ha hf hp
          have HO8 := Lib.hid (own_kr HO7.out (.set C.p _ 1 (.int .i64 ((σ1.k : Int) + 1))) hpw)
          obtain ⟨_, c1, _, _, _⟩ := HS7.out.rs.cells
          have f1 := HS7.out.rs.free 1
          have hp1 := HS7.out.rs.lt
          have hbig := HS7.out.rs.big
          have hlt' := hlt
          have HS8 := Lib.hid (HS7.out.skip hlt')
          clear HS7
          go_upto_region 13 with (fail)
          clear c1 f1 hp1 hbig hlt'
          generalize w7.setCell ⟨C.p, 1, none⟩ (.int .i64 ((σ1.k : Int) + 1)) = W7 at HS8 HO8 ⊢
          clear HO7
          go_wp2_with fail
          go_meet
          rw [HP.out]
          exact ⟨rfl, HS8.out, HO8.out⟩
      · have hp : postA C.T σ1 = ((knd C.T 3 (skp σ1)).1.n, (knd C.T 3 (skp σ1)).2) := by unfold postA; rw [ha, if_pos rfl]
        have HP := Lib.hid hp
        have hlt := (isT_lt ha).2
        clear ha hp HI2
        have HO8 := Lib.hid (own_kr HO6.out (.set C.p _ 1 (.int .i64 ((σ1.k : Int) + 1))) hpw)
        obtain ⟨_, c1, _, _, _⟩ := HS6.out.rs.cells
        have f1 := HS6.out.rs.free 1
        have hp1 := HS6.out.rs.lt
        have hbig := HS6.out.rs.big
        have hlt' := hlt
        have HS8 := Lib.hid (HS6.out.skip hlt')
        clear HS6
        go_upto_region 10 with (fail)
        clear c1 f1 hp1 hbig hlt'
        generalize w6.setCell ⟨C.p, 1, none⟩ (.int .i64 ((σ1.k : Int) + 1)) = W7 at HS8 HO8 ⊢
        clear HO6
        have HKD : Hid (Calls _ _ _ _ (Took3 C W7 m (knd C.T 3 (skp σ1)))) := Lib.hid (kind3_ok C W7 m _ 3 HS8.out.rs (by decide))
        unfold Rx.ptr at HKD
        have hfd := field2
        go_wp2_with fail
        refine HKD.out.mono ?_
        rintro e w8 ⟨rfl, hs, hk⟩
        have HS9 := Lib.hid (HS8.out.call hs hk)
        have HO9 := Lib.hid (own_kr HO8.out hk hpw)
        clear hs hk HKD HS8 HO8
        unfold tokV
        go_wp2_with fail
        go_meet
        rw [HP.out]
        exact ⟨rfl, HS9.out, HO9.out⟩
    case rest =>
      obtain ⟨rfl, hS6, hO6⟩ := hcut
      clear HS6 HO6 HI2
      have HS6 := Lib.hid hS6
      have HO6 := Lib.hid hO6
      clear hS6 hO6
      generalize postA C.T σ1 = pa at *
      obtain ⟨nn, σ4⟩ := pa
      dsimp only at HS6 HQ ⊢
      obtain ⟨a0, a1, a2, a3, a4⟩ := HS6.out.tok (.head _)
      have HIT := Lib.hid (is3_ok C wc m σ4 116 [111] HS6.out.rs)
      unfold Rx.ptr at HIT
      clear a0 a1 a2 a3 a4
      go_wp2_with fail
      refine HIT.out.mono ?_
      rintro e w6 ⟨rfl, hb⟩
      have HS7 := Lib.hid (HS6.out.below hb)
      have HO7 := Lib.hid (own_after HO6.out hb)
      clear hb HIT HS6 HO6
      cases hto : isT C.T [116, 111] σ4
      · have hQ := HQ.out
        rw [hto, if_neg (by decide)] at hQ
        obtain ⟨hsz, rfl⟩ := tq_some hQ
        have HSZ := Lib.hid hsz
        clear hQ HQ hsz hto
        obtain ⟨a0, a1, a2, a3, a4⟩ := HS7.out.tok (.head _)
        go_wp2_with fail
        refine (twig_own 19 s1 (nn) t [(.slice (some ⟨g1, 0, none⟩) X1.length n1, X1)] _ (some ⟨bl, 0, none⟩) 1 1 _ rfl HO7.out HS7.out.row HSZ.out).mono ?_
        rintro e w9 ⟨g9, c9, rfl, hr, hb⟩
        have HR := Lib.hid ((HS7.out.below hb).ret hr)
        clear hr hb HS7 HO7
        go_wp2_with fail
        go_ret
        exact HR.out
      · have hQ := HQ.out
        rw [hto, if_pos rfl] at hQ
        obtain ⟨⟨X2, σ5⟩, q5, hQ5⟩ := Option.bind_eq_some_iff.1 hQ
        obtain ⟨hsz, rfl⟩ := tq_some hQ5
        dsimp only at hsz
        have HSZ := Lib.hid hsz
        have HQ5 := Lib.hid q5
        have hlt := (isT_lt hto).2
        clear hQ HQ hsz hto hQ5 q5
        have HO8 := Lib.hid (own_kr HO7.out (.set C.p _ 1 (.int .i64 (((σ4).k : Int) + 1))) hpw)
        clear HO7
        obtain ⟨_, c1, _, _, _⟩ := HS7.out.rs.cells
        have f1 := HS7.out.rs.free 1
        have hp1 := HS7.out.rs.lt
        have hbig := HS7.out.rs.big
        have hlt' := hlt
        have HS8 := Lib.hid (HS7.out.skip hlt')
        clear HS7
        go_upto_region 16 with (fail)
        clear c1 f1 hp1 hbig hlt'
        generalize w6.setCell ⟨C.p, 1, none⟩ (.int .i64 ((σ4.k : Int) + 1)) = W at HS8 HO8 ⊢
        have HC := Lib.hid (HV.out C W m _ _ HS8.out.rs HQ5.out)
        unfold Rx.ptr at HC
        clear hlt
        go_wp2_with fail
        refine HC.out.mono ?_
        rintro e w7 ⟨g2, n2, rfl, hr, hs, hk⟩
        dsimp only at hs hr ⊢
        have HS9 := Lib.hid ((HS8.out.call hs hk).add hr)
        have HO9 := Lib.hid (own_kr HO8.out hk hpw)
        have hsz7 : w.heap.size ≤ w7.heap.size := HS9.out.kr.size
        clear hr hs hk HS8 HO8 HC
        go_wp2_with (at_builtin; refine wpList_append_lies _ rfl _ _ 75 rfl w.heap.size 76 i0 (.slice none 0 0) 1 24 Tryz.underlying75 hi0 hz0 hz1 hz2 rfl (by decide) (.slice (some ⟨bl, 0, none⟩) 1 1) 1 _ rfl (HO9.out.alloc _) ⟨w7.heap.size, 0, none⟩ 1 1 [.slice (some ⟨g2, 0, none⟩) X2.length n2] rfl rfl (World.news_of_block (cs := #[.slice (some ⟨g2, 0, none⟩) X2.length n2]) (t := 76) (fr := (0, 0)) (heap_alloc_new w7 _)) (by simp [Value.oneCell']) (by decide) (by unfold maxLen; omega) (by omega) (by simp; omega) (w7.heap.size + 1) (by simp) ?_; intro gg cap w8 hown hgrow hat hltg; obtain ⟨a0, a1, a2, a3, a4⟩ := ((HS9.out.al _).grown (HO9.out.alloc _) hgrow hpw (by intro y hy cs; simp at hy; subst hy; intro e; injection e with _ e _; exact absurd e (by decide))).tok (.head _))
        have HS4 := Lib.hid ((HS9.out.al _).grown (HO9.out.alloc _) hgrow hpw (by intro y hy cs; simp at hy; subst hy; intro e; injection e with _ e _; exact absurd e (by decide)))
        have HO4 := Lib.hid hown
        have HS3 : Hid (S3 C w w8 m σ5 [(b, tokO t)] [(.slice (some ⟨g1, 0, none⟩) X1.length n1, X1), (.slice (some ⟨g2, 0, none⟩) X2.length n2, X2)]) := Lib.hid ⟨HS4.out.rs, HS4.out.kr, HS4.out.loc, fun y hy => HS4.out.row y (by simp at hy ⊢; exact hy.symm)⟩
        clear hown hgrow hat HS9 HO9 HS4
        refine (twig_own 19 s1 (nn) t [(.slice (some ⟨g1, 0, none⟩) X1.length n1, X1), (.slice (some ⟨g2, 0, none⟩) X2.length n2, X2)] _ (some ⟨gg, 0, none⟩) cap 2 _ rfl HO4.out HS3.out.row HSZ.out).mono ?_
        rintro e w9 ⟨g9, c9, rfl, hr, hb⟩
        have HR := Lib.hid ((HS3.out.below hb).ret hr)
        clear hr hb HS3 HO4
        go_wp2_with fail
        go_ret
        exact HR.out
  · have hQ := HQ.out
    rw [if_neg hw] at hQ
    obtain ⟨⟨X1, σ1⟩, q1, hQ1⟩ := Option.bind_eq_some_iff.1 hQ
    dsimp only at hQ1
    have pb : (t.text == [112, 111, 115, 116]) = false := by simp [hw]
    have HQT := Lib.hid q1
    have HQ1 := Lib.hid hQ1
    clear hQ hQ1 q1 hw HQ
    have HQ := HQ1
    clear HQ1
    have HC := Lib.hid (HT.out C W m _ _ HS3.out.rs HQT.out)
    unfold Rx.ptr at HC
    go_wp2_with fail
    refine HC.out.mono ?_
    rintro e w4 ⟨g1, n1, rfl, hr, hs, hk⟩
    dsimp only at hs hr ⊢
    have HS4 := Lib.hid ((HS3.out.call hs hk).add hr)
    clear hr hs hk HC HS3
    have hsz4 : w.heap.size ≤ w4.heap.size := HS4.out.kr.size
    have HO5 : Hid ((w4.alloc (.cells #[.slice (some ⟨g1, 0, none⟩) X1.length n1] 76)).ownsRow w.heap.size 76 1 (.slice (some ⟨w4.heap.size, 0, none⟩) 1 1) 1 [.slice (some ⟨g1, 0, none⟩) X1.length n1]) := Lib.hid (World.ownsRow_lit w4 #[.slice (some ⟨g1, 0, none⟩) X1.length n1] 1 hsz4 (by decide) rfl)
    have HS5 := Lib.hid (HS4.out.al (.cells #[.slice (some ⟨g1, 0, none⟩) X1.length n1] 76))
    clear HS4 hsz4
    go_upto_region 8 with (fail)
    generalize w4.alloc (.cells #[.slice (some ⟨g1, 0, none⟩) X1.length n1] 76) = w5 at HO5 HS5 ⊢
    generalize w4.heap.size = bl at *
    clear HQT pb a0 a1 a2 a3 a4
    go_upto_region 14 with (fail)
    have HS6 := HS5
    have HO6 := HO5
    clear HS5 HO5
    obtain ⟨wc, rfl⟩ : ∃ y, y = w5 := ⟨w5, rfl⟩
    obtain ⟨a0, a1, a2, a3, a4⟩ := HS6.out.tok (.head _)
    have HIT := Lib.hid (is3_ok C wc m σ1 116 [111] HS6.out.rs)
    unfold Rx.ptr at HIT
    clear a0 a1 a2 a3 a4
    go_wp2_with fail
    refine HIT.out.mono ?_
    rintro e w6 ⟨rfl, hb⟩
    have HS7 := Lib.hid (HS6.out.below hb)
    have HO7 := Lib.hid (own_after HO6.out hb)
    clear hb HIT HS6 HO6
    cases hto : isT C.T [116, 111] σ1
    · have hQ := HQ.out
      rw [hto, if_neg (by decide)] at hQ
      obtain ⟨hsz, rfl⟩ := tq_some hQ
      have HSZ := Lib.hid hsz
      clear hQ HQ hsz hto
      obtain ⟨a0, a1, a2, a3, a4⟩ := HS7.out.tok (.head _)
      go_wp2_with fail
      refine (twig_own 20 [] (0) t [(.slice (some ⟨g1, 0, none⟩) X1.length n1, X1)] _ (some ⟨bl, 0, none⟩) 1 1 _ rfl HO7.out HS7.out.row HSZ.out).mono ?_
      rintro e w9 ⟨g9, c9, rfl, hr, hb⟩
      have HR := Lib.hid ((HS7.out.below hb).ret hr)
      clear hr hb HS7 HO7
      go_wp2_with fail
      go_ret
      exact HR.out
    · have hQ := HQ.out
      rw [hto, if_pos rfl] at hQ
      obtain ⟨⟨X2, σ5⟩, q5, hQ5⟩ := Option.bind_eq_some_iff.1 hQ
      obtain ⟨hsz, rfl⟩ := tq_some hQ5
      dsimp only at hsz
      have HSZ := Lib.hid hsz
      have HQ5 := Lib.hid q5
      have hlt := (isT_lt hto).2
      clear hQ HQ hsz hto hQ5 q5
      have HO8 := Lib.hid (own_kr HO7.out (.set C.p _ 1 (.int .i64 (((σ1).k : Int) + 1))) hpw)
      clear HO7
      obtain ⟨_, c1, _, _, _⟩ := HS7.out.rs.cells
      have f1 := HS7.out.rs.free 1
      have hp1 := HS7.out.rs.lt
      have hbig := HS7.out.rs.big
      have hlt' := hlt
      have HS8 := Lib.hid (HS7.out.skip hlt')
      clear HS7
      go_upto_region 16 with (fail)
      clear c1 f1 hp1 hbig hlt'
      generalize w6.setCell ⟨C.p, 1, none⟩ (.int .i64 ((σ1.k : Int) + 1)) = W at HS8 HO8 ⊢
      have HC := Lib.hid (HV.out C W m _ _ HS8.out.rs HQ5.out)
      unfold Rx.ptr at HC
      clear hlt
      go_wp2_with fail
      refine HC.out.mono ?_
      rintro e w7 ⟨g2, n2, rfl, hr, hs, hk⟩
      dsimp only at hs hr ⊢
      have HS9 := Lib.hid ((HS8.out.call hs hk).add hr)
      have HO9 := Lib.hid (own_kr HO8.out hk hpw)
      have hsz7 : w.heap.size ≤ w7.heap.size := HS9.out.kr.size
      clear hr hs hk HS8 HO8 HC
      go_wp2_with (at_builtin; refine wpList_append_lies _ rfl _ _ 75 rfl w.heap.size 76 i0 (.slice none 0 0) 1 24 Tryz.underlying75 hi0 hz0 hz1 hz2 rfl (by decide) (.slice (some ⟨bl, 0, none⟩) 1 1) 1 _ rfl (HO9.out.alloc _) ⟨w7.heap.size, 0, none⟩ 1 1 [.slice (some ⟨g2, 0, none⟩) X2.length n2] rfl rfl (World.news_of_block (cs := #[.slice (some ⟨g2, 0, none⟩) X2.length n2]) (t := 76) (fr := (0, 0)) (heap_alloc_new w7 _)) (by simp [Value.oneCell']) (by decide) (by unfold maxLen; omega) (by omega) (by simp; omega) (w7.heap.size + 1) (by simp) ?_; intro gg cap w8 hown hgrow hat hltg; obtain ⟨a0, a1, a2, a3, a4⟩ := ((HS9.out.al _).grown (HO9.out.alloc _) hgrow hpw (by intro y hy cs; simp at hy; subst hy; intro e; injection e with _ e _; exact absurd e (by decide))).tok (.head _))
      have HS4 := Lib.hid ((HS9.out.al _).grown (HO9.out.alloc _) hgrow hpw (by intro y hy cs; simp at hy; subst hy; intro e; injection e with _ e _; exact absurd e (by decide)))
      have HO4 := Lib.hid hown
      have HS3 : Hid (S3 C w w8 m σ5 [(b, tokO t)] [(.slice (some ⟨g1, 0, none⟩) X1.length n1, X1), (.slice (some ⟨g2, 0, none⟩) X2.length n2, X2)]) := Lib.hid ⟨HS4.out.rs, HS4.out.kr, HS4.out.loc, fun y hy => HS4.out.row y (by simp at hy ⊢; exact hy.symm)⟩
      clear hown hgrow hat HS9 HO9 HS4
      refine (twig_own 20 [] (0) t [(.slice (some ⟨g1, 0, none⟩) X1.length n1, X1), (.slice (some ⟨g2, 0, none⟩) X2.length n2, X2)] _ (some ⟨gg, 0, none⟩) cap 2 _ rfl HO4.out HS3.out.row HSZ.out).mono ?_
      rintro e w9 ⟨g9, c9, rfl, hr, hb⟩
      have HR := Lib.hid ((HS3.out.below hb).ret hr)
      clear hr hb HS3 HO4
      go_wp2_with fail
      go_ret
      exact HR.out

end Go.Proofs.YtpeoefbibjbinaaGreat

namespace Go.Proofs.YtpeoefbibjbinaaGreat
open Go.RowKit

set_option maxRecDepth 100000 in
set_option maxHeartbeats 6000000 in
theorem branch3_ok (n : Nat) (HT : Hid (Ct3 98 n .term)) (HBL : Hid (Ct3 58 n .block)) : Ct3 97 (n + 1) .branch := by
  intro C w m σ x h hQ
  rw [Q] at hQ
  obtain ⟨i0, hi0, hz0, hz1, hz2⟩ := info_parts infoW
  have HS0 := Lib.hid (S3.start h)
  have hpw := h.lt
  have HA := Lib.hid (ahead_ok C w m σ h)
  clear h
  have hk2 : isKd C.T 2 σ = true := by
    cases hk : isKd C.T 2 σ
    · rw [hk, if_pos rfl] at hQ
      cases hQ
    · rfl
  rw [hk2, if_neg (by decide)] at hQ
  have HLT := Lib.hid (isKd_lt (by decide) hk2)
  obtain ⟨⟨X1, σ1⟩, q1, hQ1⟩ := Option.bind_eq_some_iff.1 hQ
  obtain ⟨⟨X2, σ2⟩, q2, hQ2⟩ := Option.bind_eq_some_iff.1 hQ1
  dsimp only at q2 hQ2
  have HQT := Lib.hid q1
  have HQB := Lib.hid q2
  have HQ := Lib.hid hQ2
  clear hk2 hQ hQ1 hQ2 q1 q2
  unfold Rx.ptr at *
  generalize hd (rest C.T σ) = t at *
  go_enter Tryz.func97, Tryz.ntmps97
  go_wp2_with fail
  refine HA.out.mono ?_
  rintro e w1 ⟨rfl, hb⟩
  have HS1 := Lib.hid ((HS0.out.below hb).var w1.heap.size rfl (tokO t))
  clear hb HA HS0
  unfold tokV
  go_upto_region 2 with (fail)
  change Code.wp _ _ _ _ (w1.alloc (tokO t))
  generalize w1.alloc (tokO t) = wA at HS1 ⊢
  generalize w1.heap.size = b at *
  obtain ⟨_, c1, _, _, _⟩ := HS1.out.rs.cells
  have f1 := HS1.out.rs.free 1
  have hp1 := HS1.out.rs.lt
  have hbig := HS1.out.rs.big
  have hlt' := HLT.out.2
  have HS3 := Lib.hid (HS1.out.skip hlt')
  clear HS1
  go_upto_region 3 with (fail)
  clear c1 f1 hp1 hbig hlt'
  generalize wA.setCell ⟨C.p, 1, none⟩ (.int .i64 ((σ.k : Int) + 1)) = W at HS3 ⊢
  clear HLT
  have HC := Lib.hid (HT.out C W m _ _ HS3.out.rs HQT.out)
  unfold Rx.ptr at HC
  go_wp2_with fail
  refine HC.out.mono ?_
  rintro e w4 ⟨g1, n1, rfl, hr, hs, hk⟩
  dsimp only at hs hr ⊢
  have HS4 := Lib.hid ((HS3.out.call hs hk).add hr)
  clear hr hs hk HC HS3
  have hsz4 : w.heap.size ≤ w4.heap.size := HS4.out.kr.size
  have HO5 : Hid ((w4.alloc (.cells #[.slice (some ⟨g1, 0, none⟩) X1.length n1] 76)).ownsRow w.heap.size 76 1 (.slice (some ⟨w4.heap.size, 0, none⟩) 1 1) 1 [.slice (some ⟨g1, 0, none⟩) X1.length n1]) := Lib.hid (World.ownsRow_lit w4 #[.slice (some ⟨g1, 0, none⟩) X1.length n1] 1 hsz4 (by decide) rfl)
  have HS5 := Lib.hid (HS4.out.al (.cells #[.slice (some ⟨g1, 0, none⟩) X1.length n1] 76))
  clear HS4 hsz4
  go_upto_region 4 with (fail)
  generalize w4.alloc (.cells #[.slice (some ⟨g1, 0, none⟩) X1.length n1] 76) = w5 at HO5 HS5 ⊢
  generalize w4.heap.size = bl at *
  clear HQT
  by_cases hw : t.text = [119, 104, 105, 108, 101]
  · have hQ := HQ.out
    rw [if_pos hw] at hQ
    have pb : (t.text == [119, 104, 105, 108, 101]) = true := by simp [hw]
    obtain ⟨hsz, rfl⟩ := tq_some hQ
    have HSZ := Lib.hid hsz
    clear hQ hsz hw HQ
    have HC2 := Lib.hid (HBL.out C w5 m _ _ HS5.out.rs HQB.out)
    unfold Rx.ptr at HC2
    go_wp2_with fail
    refine HC2.out.mono ?_
    rintro e w6 ⟨g2, n2, rfl, hr, hs, hk⟩
    dsimp only at hs hr ⊢
    have HS6 := Lib.hid ((HS5.out.call hs hk).add hr)
    have HO6 := Lib.hid (own_kr HO5.out hk hpw)
    have hsz6 : w.heap.size ≤ w6.heap.size := HS6.out.kr.size
    clear hr hs hk HS5 HO5 HC2
    go_wp2_with (at_builtin; refine wpList_append_lies _ rfl _ _ 75 rfl w.heap.size 76 i0 (.slice none 0 0) 1 24 Tryz.underlying75 hi0 hz0 hz1 hz2 rfl (by decide) (.slice (some ⟨bl, 0, none⟩) 1 1) 1 _ rfl (HO6.out.alloc _) ⟨w6.heap.size, 0, none⟩ 1 1 [.slice (some ⟨g2, 0, none⟩) X2.length n2] rfl rfl (World.news_of_block (cs := #[.slice (some ⟨g2, 0, none⟩) X2.length n2]) (t := 76) (fr := (0, 0)) (heap_alloc_new w6 _)) (by simp [Value.oneCell']) (by decide) (by unfold maxLen; omega) (by omega) (by simp; omega) (w6.heap.size + 1) (by simp) ?_; intro gg cap w7 hown hgrow hat hltg; obtain ⟨a0, a1, a2, a3, a4⟩ := ((HS6.out.al _).grown (HO6.out.alloc _) hgrow hpw (by intro y hy cs; simp at hy; subst hy; intro e; injection e with _ e _; exact absurd e (by decide))).tok (.head _))
    have HS8 := Lib.hid ((HS6.out.al _).grown (HO6.out.alloc _) hgrow hpw (by intro y hy cs; simp at hy; subst hy; intro e; injection e with _ e _; exact absurd e (by decide)))
    have HO7 := Lib.hid hown
    have HS7 : Hid (S3 C w w7 m σ2 [(b, tokO t)] [(.slice (some ⟨g1, 0, none⟩) X1.length n1, X1), (.slice (some ⟨g2, 0, none⟩) X2.length n2, X2)]) := Lib.hid ⟨HS8.out.rs, HS8.out.kr, HS8.out.loc, fun y hy => HS8.out.row y (by simp at hy ⊢; exact hy.symm)⟩
    clear hown hgrow hat HS6 HO6 HS8 HQB
    refine (twig_own 24 [] 0 t [(.slice (some ⟨g1, 0, none⟩) X1.length n1, X1), (.slice (some ⟨g2, 0, none⟩) X2.length n2, X2)] _ (some ⟨gg, 0, none⟩) cap 2 _ rfl HO7.out HS7.out.row HSZ.out).mono ?_
    rintro e w9 ⟨g9, c9, rfl, hr, hb⟩
    have HR := Lib.hid ((HS7.out.below hb).ret hr)
    clear hr hb HS7 HO7
    go_wp2_with fail
    go_ret
    exact HR.out
  · have hQ := HQ.out
    rw [if_neg hw] at hQ
    have pb : (t.text == [119, 104, 105, 108, 101]) = false := by simp [hw]
    have HQ1 := Lib.hid hQ
    clear hQ hw HQ
    have HQ := HQ1
    clear HQ1
    have HC2 := Lib.hid (HBL.out C w5 m _ _ HS5.out.rs HQB.out)
    unfold Rx.ptr at HC2
    go_wp2_with fail
    refine HC2.out.mono ?_
    rintro e w6 ⟨g2, n2, rfl, hr, hs, hk⟩
    dsimp only at hs hr ⊢
    have HS6 := Lib.hid ((HS5.out.call hs hk).add hr)
    have HO6 := Lib.hid (own_kr HO5.out hk hpw)
    have hsz6 : w.heap.size ≤ w6.heap.size := HS6.out.kr.size
    clear hr hs hk HS5 HO5 HC2
    go_wp2_with (at_builtin; refine wpList_append_lies _ rfl _ _ 75 rfl w.heap.size 76 i0 (.slice none 0 0) 1 24 Tryz.underlying75 hi0 hz0 hz1 hz2 rfl (by decide) (.slice (some ⟨bl, 0, none⟩) 1 1) 1 _ rfl (HO6.out.alloc _) ⟨w6.heap.size, 0, none⟩ 1 1 [.slice (some ⟨g2, 0, none⟩) X2.length n2] rfl rfl (World.news_of_block (cs := #[.slice (some ⟨g2, 0, none⟩) X2.length n2]) (t := 76) (fr := (0, 0)) (heap_alloc_new w6 _)) (by simp [Value.oneCell']) (by decide) (by unfold maxLen; omega) (by omega) (by simp; omega) (w6.heap.size + 1) (by simp) ?_; intro gg cap w7 hown hgrow hat hltg; obtain ⟨a0, a1, a2, a3, a4⟩ := ((HS6.out.al _).grown (HO6.out.alloc _) hgrow hpw (by intro y hy cs; simp at hy; subst hy; intro e; injection e with _ e _; exact absurd e (by decide))).tok (.head _))
    have HS8 := Lib.hid ((HS6.out.al _).grown (HO6.out.alloc _) hgrow hpw (by intro y hy cs; simp at hy; subst hy; intro e; injection e with _ e _; exact absurd e (by decide)))
    have HO7 := Lib.hid hown
    have HS7 : Hid (S3 C w w7 m σ2 [(b, tokO t)] [(.slice (some ⟨g1, 0, none⟩) X1.length n1, X1), (.slice (some ⟨g2, 0, none⟩) X2.length n2, X2)]) := Lib.hid ⟨HS8.out.rs, HS8.out.kr, HS8.out.loc, fun y hy => HS8.out.row y (by simp at hy ⊢; exact hy.symm)⟩
    clear hown hgrow hat HS6 HO6 HS8 HQB
    refine (is3_ok C w7 m σ2 101 [108, 115, 101] HS7.out.rs).mono ?_
    rintro e w8 ⟨rfl, hb⟩
    have HS8 := Lib.hid (HS7.out.below hb)
    have HO8 := Lib.hid (own_after HO7.out hb)
    clear hb HS7 HO7 a0 a1 a2 a3 a4 pb
    cases hel : isT C.T [101, 108, 115, 101] σ2
    · have hQ := HQ.out
      rw [hel, if_neg (by decide)] at hQ
      obtain ⟨hsz, rfl⟩ := tq_some hQ
      have HSZ := Lib.hid hsz
      clear hQ hsz hel HQ
      have HTN := Lib.hid fun (w2 : World) => twig_nil 12 [] 0 t w2
      generalize hY : twL (at_ t 12 [] 0) [] = Y3 at HTN HSZ
      have HY := Lib.hid hY
      clear hY
      go_upto_region 10 with (fail)
      obtain ⟨W, rfl⟩ : ∃ y, y = w8 := ⟨w8, rfl⟩
      obtain ⟨a0, a1, a2, a3, a4⟩ := HS8.out.tok (.head _)
      have HSD := Lib.hid HS8.out.drew
      have HOD := Lib.hid HO8.out.drew
      clear HS8 HO8
      go_region_held3 (fun w' => w'.cell? ⟨b, 0, none⟩ = some (.int .i64 t.kind) ∧ w'.cell? ⟨b, 1, none⟩ = some (.string ⟨t.text.toArray⟩) ∧ w'.cell? ⟨b, 2, none⟩ = some (.int .i64 t.n) ∧ w'.cell? ⟨b, 3, none⟩ = some (.int .i64 t.line) ∧ w'.cell? ⟨b, 4, none⟩ = some (.int .i64 t.col)) (first | go_keep | exact HSX.out.tok (.head _) | exact HSY.out.tok (.head _) | exact HSW.out.tok (.head _)) (first | (go_at_call 35; refine (twig_own 23 [] 0 t [(.slice (some ⟨g1, 0, none⟩) X1.length n1, X1), (.slice (some ⟨g2, 0, none⟩) X2.length n2, X2), (.slice (some ⟨g3, 0, none⟩) Y3.length n3, Y3)] _ (some ⟨gg2, 0, none⟩) cap2 3 _ rfl HOY.out (fun y hy => HSY.out.row y (by simp only [List.mem_cons, List.not_mem_nil, or_false] at hy ⊢; rcases hy with h | h | h <;> simp [h])) HSZ.out).mono ?_; rintro e w10 ⟨g4, n4, rfl, hr, hb⟩; have HSW := Lib.hid ((HSY.out.below hb).add hr); clear hr hb) | (go_at_call 35; refine (HTN.out _).mono ?_; rintro e w8 ⟨g3, n3, rfl, hr, hb⟩; have HSX := Lib.hid ((HSD.out.below hb).add hr); have HOX := Lib.hid (own_after HOD.out hb); clear hr hb) | (refine step_append_lies _ rfl _ _ 75 rfl w.heap.size 76 i0 (.slice none 0 0) 1 24 Tryz.underlying75 hi0 hz0 hz1 hz2 rfl (by decide) (.slice (some ⟨gg, 0, none⟩) 2 cap) 2 _ rfl (HOX.out.alloc _) ⟨w8.heap.size, 0, none⟩ 1 1 [.slice (some ⟨g3, 0, none⟩) Y3.length n3] rfl rfl (World.news_of_block (cs := #[.slice (some ⟨g3, 0, none⟩) Y3.length n3]) (t := 76) (fr := (0, 0)) (heap_alloc_new w8 _)) (by simp [Value.oneCell']) (by decide) (by unfold maxLen; omega) (by omega) (by have := HSX.out.kr.size; simp; omega) (w8.heap.size + 1) (by simp) ?_; intro gg2 cap2 w9 hown hgrow hat hltg; have HSY := Lib.hid ((HSX.out.al _).grown (HOX.out.alloc _) hgrow hpw (by intro y hy cs; simp at hy; subst hy; intro e; injection e with _ e _; exact absurd e (by decide))); have HOY := Lib.hid hown; clear hown hgrow hat hltg))
      all_goals
        have HR := Lib.hid (HSW.out.ret (HSW.out.row _ (.head _)))
        clear HSX HSY HSW HOX HOY HSD HOD
        go_wp2_with fail
        go_ret
        rw [HY.out]
        exact HR.out
    · have hQ := HQ.out
      rw [hel, if_pos rfl] at hQ
      obtain ⟨⟨X3, σ3⟩, q3, hQ3⟩ := Option.bind_eq_some_iff.1 hQ
      obtain ⟨hsz, rfl⟩ := tq_some hQ3
      dsimp only at hsz q3
      have HSZ := Lib.hid hsz
      have HQ3 := Lib.hid q3
      have hlt := (isT_lt hel).2
      clear hQ hsz hel HQ hQ3 q3
      have HO9 := Lib.hid (own_kr HO8.out (.set C.p _ 1 (.int .i64 ((σ2.k : Int) + 1))) hpw)
      clear HO8
      obtain ⟨_, c1, _, _, _⟩ := HS8.out.rs.cells
      have f1 := HS8.out.rs.free 1
      have hp1 := HS8.out.rs.lt
      have hbig := HS8.out.rs.big
      have hlt' := hlt
      have HS9 := Lib.hid (HS8.out.skip hlt')
      clear HS8
      go_upto_region 9 with (fail)
      clear c1 f1 hp1 hbig hlt'
      generalize w8.setCell ⟨C.p, 1, none⟩ (.int .i64 ((σ2.k : Int) + 1)) = W9 at HS9 HO9 ⊢
      obtain ⟨a0, a1, a2, a3, a4⟩ := HS9.out.tok (.head _)
      have HSD := Lib.hid HS9.out.drew
      have HOD := Lib.hid HO9.out.drew
      clear HS9 HO9 hlt
      go_region_held3 (fun w' => w'.cell? ⟨b, 0, none⟩ = some (.int .i64 t.kind) ∧ w'.cell? ⟨b, 1, none⟩ = some (.string ⟨t.text.toArray⟩) ∧ w'.cell? ⟨b, 2, none⟩ = some (.int .i64 t.n) ∧ w'.cell? ⟨b, 3, none⟩ = some (.int .i64 t.line) ∧ w'.cell? ⟨b, 4, none⟩ = some (.int .i64 t.col)) (first | go_keep | exact HSX.out.tok (.head _) | exact HSY.out.tok (.head _) | exact HSW.out.tok (.head _)) (first | (go_at_call 35; refine (twig_own 23 [] 0 t [(.slice (some ⟨g1, 0, none⟩) X1.length n1, X1), (.slice (some ⟨g2, 0, none⟩) X2.length n2, X2), (.slice (some ⟨g3, 0, none⟩) X3.length n3, X3)] _ (some ⟨gg2, 0, none⟩) cap2 3 _ rfl HOY.out (fun y hy => HSY.out.row y (by simp only [List.mem_cons, List.not_mem_nil, or_false] at hy ⊢; rcases hy with h | h | h <;> simp [h])) HSZ.out).mono ?_; rintro e w10 ⟨g4, n4, rfl, hr, hb⟩; have HSW := Lib.hid ((HSY.out.below hb).add hr); clear hr hb) | (go_at_call 58; refine (HBL.out C _ m _ _ HSD.out.rs HQ3.out).mono ?_; rintro e w8 ⟨g3, n3, rfl, hr, hs, hk⟩; have HSX := Lib.hid ((HSD.out.call hs hk).add hr); have HOX := Lib.hid (own_kr HOD.out hk hpw); clear hr hs hk) | (refine step_append_lies _ rfl _ _ 75 rfl w.heap.size 76 i0 (.slice none 0 0) 1 24 Tryz.underlying75 hi0 hz0 hz1 hz2 rfl (by decide) (.slice (some ⟨gg, 0, none⟩) 2 cap) 2 _ rfl (HOX.out.alloc _) ⟨w8.heap.size, 0, none⟩ 1 1 [.slice (some ⟨g3, 0, none⟩) X3.length n3] rfl rfl (World.news_of_block (cs := #[.slice (some ⟨g3, 0, none⟩) X3.length n3]) (t := 76) (fr := (0, 0)) (heap_alloc_new w8 _)) (by simp [Value.oneCell']) (by decide) (by unfold maxLen; omega) (by omega) (by have := HSX.out.kr.size; simp; omega) (w8.heap.size + 1) (by simp) ?_; intro gg2 cap2 w9 hown hgrow hat hltg; have HSY := Lib.hid ((HSX.out.al _).grown (HOX.out.alloc _) hgrow hpw (by intro y hy cs; simp at hy; subst hy; intro e; injection e with _ e _; exact absurd e (by decide))); have HOY := Lib.hid hown; clear hown hgrow hat hltg))
      all_goals
        have HR := Lib.hid (HSW.out.ret (HSW.out.row _ (.head _)))
        clear HSX HSY HSW HOX HOY HSD HOD
        go_wp2_with fail
        go_ret
        exact HR.out

end Go.Proofs.YtpeoefbibjbinaaGreat

namespace Go.Proofs.YtpeoefbibjbinaaGreat
open Go.RowKit Go.Maps Go.ChangeMaps

def lent : Nat → List (List UInt8 × Int) → List MapEntry
  | _, [] => []
  | n, s :: r => ⟨.string ⟨s.1.toArray⟩, .int .i64 s.2, n⟩ :: lent (n + 1) r
def lobj (ws : List (List UInt8 × Int)) : Obj := .map (lent 0 ws).toArray ws.length
def lifeL : List (List UInt8 × Int) := [([99, 114, 101, 97, 116, 101], 0), ([115, 116, 97, 114, 116], 1), ([115, 116, 111, 112], 2), ([100, 101, 115, 116, 114, 111, 121], 3)]
theorem lent_snoc : ∀ (ws : List (List UInt8 × Int)) (n : Nat) (s : List UInt8 × Int), lent n (ws ++ [s]) = lent n ws ++ [⟨.string ⟨s.1.toArray⟩, .int .i64 s.2, n + ws.length⟩]
  | [], n, s => by simp [lent]
  | x :: r, n, s => by
    simp only [List.cons_append, lent, lent_snoc r (n + 1) s, List.length_cons]
    congr 4
    omega
theorem find_none (l : List UInt8) : ∀ (ws : List (List UInt8 × Int)) (n i : Nat), (ws.all fun p => !(l == p.1)) = true → Instr.findNow .string (.string ⟨l.toArray⟩) (lent n ws) i = some none
  | [], _, _, _ => by simp [lent, Instr.findNow]
  | s :: r, n, i, h => by
    simp only [List.all_cons, Bool.and_eq_true, Bool.not_eq_true'] at h
    simp only [lent, Instr.findNow, Instr.sameNow, bytes_beq, h.1]
    exact find_none l r (n + 1) (i + 1) h.2
theorem lupd_run (w : World) (es : Array MapEntry) (n : Nat) (s : ByteArray) (v : Value) (h : Instr.findNow .string (.string s) es.toList 0 = some none) :
    (Instr.mapUpdate 106 (.map (some w.heap.size)) (.string s) v).run Tryz.prog (w.alloc (.map es n)) = .ok () (w.alloc (.map (es.push ⟨.string s, v, n⟩) (n + 1))) := by
  have hb : (w.alloc (.map es n)).heap[w.heap.size]? = some (.map es n) := heap_alloc_new w _
  have hc : ∀ m W, (Instr.checkKey false (m + 1) 9 (.string s)).run Tryz.prog W = .ok () W := fun m W => MapKept.run_checkKey (k := .string s) Tryz.underlying9 trivial false m
  have hset : ∀ o, (setObj w.heap.size o).run Tryz.prog (w.alloc (.map es n)) = .ok () (w.alloc o) := fun o => by
    rw [MapKept.run_setObj_map o hb]
    simp [World.alloc, -World.alloc_eq, push_set]
  simp [Instr.mapUpdate, run_underlying Tryz.underlying106, MapKept.run_getObj_map hb, hc, Instr.findKey, run_underlying Tryz.underlying9, h, Result.andThen, hset]
theorem lins_run (w : World) (ws : List (List UInt8 × Int)) (s : List UInt8) (v : Int) (h : (ws.all fun p => !(s == p.1)) = true) :
    (Instr.mapUpdate 106 (.map (some w.heap.size)) (.string ⟨s.toArray⟩) (.int .i64 v)).run Tryz.prog (w.alloc (lobj ws)) = .ok () (w.alloc (lobj (ws ++ [(s, v)]))) := by
  have := lupd_run w (lent 0 ws).toArray ws.length ⟨s.toArray⟩ (.int .i64 v) (by simpa using find_none s ws 0 0 h)
  unfold lobj
  rw [this, lent_snoc, List.length_append]
  simp
set_option maxRecDepth 100000 in
theorem llook_run (w : World) (b : Nat) (l : List UInt8) (hb : w.heap[b]? = some (lobj lifeL)) :
    (Instr.lookup 106 (.map (some b)) (.string ⟨l.toArray⟩) false).run Tryz.prog w = .ok (.int .i64 (lifeN l)) w := by
  have hc : ∀ e m W, (Instr.checkKey e (m + 1) 9 (.string ⟨l.toArray⟩)).run Tryz.prog W = .ok () W := fun e m W => MapKept.run_checkKey (k := .string ⟨l.toArray⟩) Tryz.underlying9 trivial e m
  have hz : ∀ W, (zeroValue 2).run Tryz.prog W = .ok (.int .i64 0) W := fun W => by kernel_rfl
  have hf : (∃ j, Instr.findNow .string (.string ⟨l.toArray⟩) (lent 0 lifeL) 0 = some (some (j, .int .i64 (lifeN l)))) ∨ (Instr.findNow .string (.string ⟨l.toArray⟩) (lent 0 lifeL) 0 = some none ∧ lifeN l = 0) := by
    by_cases h0 : l = [99, 114, 101, 97, 116, 101]
    · subst h0; exact .inl ⟨0, by simp only [lifeL, lent, Instr.findNow, Instr.sameNow, bytes_beq]; rfl⟩
    by_cases h1 : l = [115, 116, 97, 114, 116]
    · subst h1; exact .inl ⟨1, by simp only [lifeL, lent, Instr.findNow, Instr.sameNow, bytes_beq]; rfl⟩
    by_cases h2 : l = [115, 116, 111, 112]
    · subst h2; exact .inl ⟨2, by simp only [lifeL, lent, Instr.findNow, Instr.sameNow, bytes_beq]; rfl⟩
    by_cases h3 : l = [100, 101, 115, 116, 114, 111, 121]
    · subst h3; exact .inl ⟨3, by simp only [lifeL, lent, Instr.findNow, Instr.sameNow, bytes_beq]; rfl⟩
    refine .inr ⟨find_none l lifeL 0 0 (by simp [lifeL, h0, h1, h2, h3]), ?_⟩
    unfold lifeN
    rw [if_neg h1, if_neg h2, if_neg h3]
  unfold lobj at hb
  rcases hf with ⟨j, hj⟩ | ⟨hj, h0⟩
  · simp [Instr.lookup, run_underlying Tryz.underlying106, MapKept.run_getObj_map hb, hc, Instr.findKey, run_underlying Tryz.underlying9, hj, Result.andThen]
  · rw [h0]
    simp [Instr.lookup, run_underlying Tryz.underlying106, MapKept.run_getObj_map hb, hc, Instr.findKey, run_underlying Tryz.underlying9, hj, Result.andThen, hz]
end Go.Proofs.YtpeoefbibjbinaaGreat
