/- Declaration of the document's parser (written by gen_r9.py). -/
import Derived.Test.YtpeoefbibjbinaaGreatB13
namespace Go.Proofs.YtpeoefbibjbinaaGreat
open Go.RowKit

set_option maxRecDepth 100000 in
set_option maxHeartbeats 6000000 in
theorem declaration3_ok (n : Nat) (HBL : Hid (∀ i, i ≤ n → Ct3 58 i .block)) : Ct3 34 (n + 1) .decl := by
  intro C w m σ x h hQ
  rw [Q] at hQ
  obtain ⟨i0, hi0, hz0, hz1, hz2⟩ := info_parts infoW
  have HS0 := Lib.hid (S3.start h)
  have hpw := h.lt
  have HON : Hid (∀ (w1 : World) (g c : Nat), RS w1 C m σ → Strs w1 g declWords → g < w1.heap.size → Calls _ _ #[C.ptr, .slice (some ⟨g, 0, none⟩) 7 c] w1 (Took3 C w1 m (oneS C.T declWords σ))) := Lib.hid fun w1 g c h1 h2 h3 => one3_ok C w1 m σ declWords g c h1 h2 h3 (by decide) (by decide)
  clear h
  generalize oneS C.T declWords σ = o at hQ HON
  obtain ⟨t, σ1⟩ := o
  dsimp only at hQ
  have HQ := Lib.hid hQ
  clear hQ
  unfold Rx.ptr at *
  go_enter Tryz.func34, Tryz.ntmps34
  go_wp2_with fail
  refine (HON.out _ _ _ (HS0.out.al _).rs (strs_new _ declWords _ rfl _ rfl) (by simp)).mono ?_
  rintro e w1 ⟨rfl, hs, hk⟩
  dsimp only at hs ⊢
  have HS1 := Lib.hid (((HS0.out.al _).call hs hk).var w1.heap.size rfl (tokO t))
  clear hs hk HON HS0
  unfold tokV
  go_upto_region 2 with (fail)
  change Code.wp _ _ _ _ (w1.alloc (tokO t))
  generalize w1.alloc (tokO t) = wA at HS1 ⊢
  generalize w1.heap.size = b at *
  obtain ⟨a0, a1, a2, a3, a4⟩ := HS1.out.tok (.head _)
  by_cases hw : t.text = [109, 97, 105, 110]
  · have hQ := HQ.out
    rw [if_pos hw] at hQ
    have pb : (t.text == [109, 97, 105, 110]) = true := by simp [hw]
    clear hw HQ
    obtain ⟨⟨X2, σ3⟩, q2, hQ2⟩ := Option.bind_eq_some_iff.1 hQ
    obtain ⟨hsz, rfl⟩ := tq_some hQ2
    dsimp only at hsz q2
    have HQ2 := Lib.hid q2
    have HSZ := Lib.hid hsz
    clear hQ hQ2 hsz q2
    go_upto_region 3 with (fail)
    obtain ⟨W, rfl⟩ : ∃ y, y = wA := ⟨wA, rfl⟩
    have HSD := Lib.hid HS1.out.drew
    clear HS1 pb
    go_region_held3 (fun w' => w'.cell? ⟨b, 0, none⟩ = some (.int .i64 t.kind) ∧ w'.cell? ⟨b, 1, none⟩ = some (.string ⟨t.text.toArray⟩) ∧ w'.cell? ⟨b, 2, none⟩ = some (.int .i64 t.n) ∧ w'.cell? ⟨b, 3, none⟩ = some (.int .i64 t.line) ∧ w'.cell? ⟨b, 4, none⟩ = some (.int .i64 t.col)) (first | go_keep | exact HS5.out.tok (.head _) | exact HS6.out.tok (.head _)) (first | (go_at_call 58; refine (HBL.out n (Nat.le_refl _) C _ m _ _ HSD.out.rs HQ2.out).mono ?_; rintro e w5 ⟨g2, n2, rfl, hr, hs, hk⟩; have HS5 := Lib.hid ((HSD.out.call hs hk).add hr); clear hr hs hk) | (go_at_call 35; refine (twig_new 11 [] (0) t [.slice (some ⟨g2, 0, none⟩) X2.length n2] _ rfl _ _ [X2] _ rfl rfl rfl (row1 (HS5.out.row _ (.head _))) HSZ.out).mono ?_; rintro e w6 ⟨g3, n3, rfl, hr, hb⟩; have HS6 := Lib.hid ((HS5.out.below hb).add hr); clear hr hb))
    have HR := Lib.hid (HS6.out.ret (HS6.out.row _ (.head _)))
    clear HS5 HS6 HSD
    go_wp2_with fail
    go_ret
    exact HR.out
  have hQ := HQ.out
  rw [if_neg hw] at hQ
  have nb0 : (t.text == [109, 97, 105, 110]) = false := by simp [hw]
  have HKD : Hid (Calls _ _ _ _ (Took3 C wA m (knd C.T 1 σ1))) := Lib.hid (kind3_ok C wA m σ1 1 HS1.out.rs (by decide))
  unfold Rx.ptr at HKD
  clear hw HQ
  generalize knd C.T 1 σ1 = kq at hQ HKD
  obtain ⟨tn, σ2⟩ := kq
  dsimp only at hQ
  have HQ := Lib.hid hQ
  have hfd := field1
  clear hQ
  go_wp2_with fail
  refine HKD.out.mono ?_
  rintro e w2 ⟨rfl, hs, hk⟩
  dsimp only at hs ⊢
  have HS2 := Lib.hid (HS1.out.call hs hk)
  clear hs hk HKD HS1 a0 a1 a2 a3 a4
  obtain ⟨a0, a1, a2, a3, a4⟩ := HS2.out.tok (.head _)
  unfold tokV
  by_cases hw : t.text = [108, 111, 111, 112, 101, 114]
  · have hQ := HQ.out
    rw [if_pos hw] at hQ
    have pb : (t.text == [108, 111, 111, 112, 101, 114]) = true := by simp [hw]
    clear hw HQ
    obtain ⟨hsz, rfl⟩ := tq_some hQ
    clear hQ hsz a0 a1 a2 a3 a4
    have hat := HS2.out.tok (.head _)
    obtain ⟨a0, a1, a2, a3, a4⟩ := hat
    have HSG : Hid (Calls _ _ _ _ (Took3 C w2 m (sgn C.T [59] σ2))) := Lib.hid (sign3_ok C w2 m σ2 59 [] HS2.out.rs)
    unfold Rx.ptr at HSG
    go_wp2_with fail
    refine HSG.out.mono ?_
    rintro e w4 ⟨rfl, hs, hk⟩
    have HS4 := Lib.hid (HS2.out.call hs hk)
    clear a0 a1 a2 a3 a4
    clear hs hk HSG HS2
    unfold tokV
    obtain ⟨a0, a1, a2, a3, a4⟩ := HS4.out.tok (.head _)
    go_wp2_with fail
    refine (twig_nil 2 tn.text 0 t _).mono ?_
    rintro e w5 ⟨g3, n3, rfl, hr, hb⟩
    have HR := Lib.hid ((HS4.out.below hb).ret hr)
    clear hr hb HS4
    go_wp2_with fail
    go_ret
    exact HR.out
  have nb_looper : (t.text == [108, 111, 111, 112, 101, 114]) = false := by simp [hw]
  have hQ := HQ.out
  rw [if_neg hw] at hQ
  clear HQ hw
  have HQ := Lib.hid hQ
  clear hQ
  by_cases hw : t.text = [118, 97, 114]
  · have hQ := HQ.out
    rw [if_pos hw] at hQ
    have pb : (t.text == [118, 97, 114]) = true := by simp [hw]
    clear hw HQ
    obtain ⟨hsz, rfl⟩ := tq_some hQ
    have HSZ := Lib.hid hsz
    have HTY := Lib.hid (typ3_ok C w2 m σ2 HS2.out.rs)
    unfold Rx.ptr at HTY
    clear hQ hsz
    go_wp2_with fail
    refine HTY.out.mono ?_
    rintro e w3 ⟨g1, n1, rfl, hr, hs, hk⟩
    have HS3 := Lib.hid ((HS2.out.call hs hk).add hr)
    clear hr hs hk HTY HS2 a0 a1 a2 a3 a4
    have HSG : Hid (Calls _ _ _ _ (Took3 C w3 m (sgn C.T [59] (typQ C.T σ2).2))) := Lib.hid (sign3_ok C w3 m (typQ C.T σ2).2 59 [] HS3.out.rs)
    unfold Rx.ptr at HSG
    go_wp2_with fail
    refine HSG.out.mono ?_
    rintro e w4 ⟨rfl, hs, hk⟩
    have HS4 := Lib.hid (HS3.out.call hs hk)
    clear hs hk HSG HS3
    unfold tokV
    obtain ⟨a0, a1, a2, a3, a4⟩ := HS4.out.tok (.head _)
    go_wp2_with fail
    refine (twig_new 6 tn.text 0 t [.slice (some ⟨g1, 0, none⟩) (typQ C.T σ2).1.length n1] _ rfl _ _ [(typQ C.T σ2).1] _ rfl rfl rfl (row1 (HS4.out.row _ (.head _))) HSZ.out).mono ?_
    rintro e w5 ⟨g3, n3, rfl, hr, hb⟩
    have HR := Lib.hid ((HS4.out.below hb).ret hr)
    clear hr hb HS4
    go_wp2_with fail
    go_ret
    exact HR.out
  have nb_var : (t.text == [118, 97, 114]) = false := by simp [hw]
  have hQ := HQ.out
  rw [if_neg hw] at hQ
  clear HQ hw
  have HQ := Lib.hid hQ
  clear hQ
  by_cases hw : t.text = [102, 110]
  · have hQ := HQ.out
    rw [if_pos hw] at hQ
    have pb : (t.text == [102, 110]) = true := by simp [hw]
    clear hw HQ
    obtain ⟨⟨X2, σ3⟩, q2, hQ2⟩ := Option.bind_eq_some_iff.1 hQ
    obtain ⟨hsz, rfl⟩ := tq_some hQ2
    dsimp only at hsz q2
    have HQ2 := Lib.hid q2
    have HSZ := Lib.hid hsz
    clear hQ hQ2 hsz q2
    go_upto_region 14 with (fail)
    obtain ⟨W, rfl⟩ : ∃ y, y = w2 := ⟨w2, rfl⟩
    have HSD := Lib.hid HS2.out.drew
    clear HS2 pb
    go_region_held3 (fun w' => w'.cell? ⟨b, 0, none⟩ = some (.int .i64 t.kind) ∧ w'.cell? ⟨b, 1, none⟩ = some (.string ⟨t.text.toArray⟩) ∧ w'.cell? ⟨b, 2, none⟩ = some (.int .i64 t.n) ∧ w'.cell? ⟨b, 3, none⟩ = some (.int .i64 t.line) ∧ w'.cell? ⟨b, 4, none⟩ = some (.int .i64 t.col)) (first | go_keep | exact HS5.out.tok (.head _) | exact HS6.out.tok (.head _)) (first | (go_at_call 58; refine (HBL.out n (Nat.le_refl _) C _ m _ _ HSD.out.rs HQ2.out).mono ?_; rintro e w5 ⟨g2, n2, rfl, hr, hs, hk⟩; have HS5 := Lib.hid ((HSD.out.call hs hk).add hr); clear hr hs hk) | (go_at_call 35; refine (twig_new 7 tn.text (0) t [.slice (some ⟨g2, 0, none⟩) X2.length n2] _ rfl _ _ [X2] _ rfl rfl rfl (row1 (HS5.out.row _ (.head _))) HSZ.out).mono ?_; rintro e w6 ⟨g3, n3, rfl, hr, hb⟩; have HS6 := Lib.hid ((HS5.out.below hb).add hr); clear hr hb))
    have HR := Lib.hid (HS6.out.ret (HS6.out.row _ (.head _)))
    clear HS5 HS6 HSD
    go_wp2_with fail
    go_ret
    exact HR.out
  have nb_fn : (t.text == [102, 110]) = false := by simp [hw]
  have hQ := HQ.out
  rw [if_neg hw] at hQ
  clear HQ hw
  have HQ := Lib.hid hQ
  clear hQ
  by_cases hw : t.text = [99, 108, 97, 115, 115]
  · have hQ := HQ.out
    rw [if_pos hw] at hQ
    have pb : (t.text == [99, 108, 97, 115, 115]) = true := by simp [hw]
    clear hw HQ
    have HQ0 := Lib.hid hQ
    clear hQ
    have HSG : Hid (Calls _ _ _ _ (Took3 C w2 m (sgn C.T [123] σ2))) := Lib.hid (sign3_ok C w2 m σ2 123 [] HS2.out.rs)
    unfold Rx.ptr at HSG
    go_wp2_with fail
    refine HSG.out.mono ?_
    rintro e w3 ⟨rfl, hs, hk⟩
    have HS3 := Lib.hid (HS2.out.call hs hk)
    clear a0 a1 a2 a3 a4
    clear hs hk HSG HS2
    unfold tokV
    go_wp2_with fail
    go_loopg [6] n (fun i vx wr => ∃ (P : List (Value × List Tw)) (lA : Option Addr) (lc : Nat) (σ' : Sg), i ≤ n ∧ vx = .slice lA P.length lc ∧ S3 C w wr m σ' [(b, tokO t)] P ∧ wr.ownsRow w.heap.size 76 1 (.slice lA P.length lc) P.length (P.map (·.1)) ∧ Q C.T i (.members t tn.text (P.map (·.2))) m σ' = some x)
    case atStart => exact ⟨[], none, 0, _, Nat.le_refl _, rfl, HS3.out, World.ownsRow_nil _ _ _ _, HQ0.out⟩
    case round =>
      clear HS3 HQ0
      obtain ⟨P, lA, lc, σ1, hin, rfl, hS, hO, hQ⟩ := hrel
      have HS1 := Lib.hid hS
      have HO1 := Lib.hid hO
      have HQ1 := Lib.hid hQ
      clear hS hO hQ
      cases gk with
      | zero => have := HQ1.out; rw [Q] at this; cases this
      | succ i =>
      have hQ := HQ1.out
      rw [Q] at hQ
      have HQ := Lib.hid hQ
      clear hQ HQ1
      obtain ⟨_, _, _, c3, _⟩ := HS1.out.rs.cells
      have hpr := HS1.out.rs.lt
      have HI1 := Lib.hid (is3_ok C wr (m) σ1 125 [] HS1.out.rs)
      unfold Rx.ptr at HI1
      go_upto_region 18 with (fail)
      go_cut [68] (fun vx wx => vx = .bool (σ1.er == 0 && !isT C.T [125] σ1) ∧ S3 C w wx (m) σ1 [(b, tokO t)] P ∧ wx.ownsRow w.heap.size 76 1 (.slice lA P.length lc) P.length (P.map (·.1)))
      case first =>
        generalize isT C.T [125] σ1 = b1 at *
        by_cases he : σ1.er = 0
        · have he1 : (σ1.er == 0) = true := by simp [he]
          have HE := Lib.hid he1
          rw [he] at c3
          clear he he1
          go_wp2_with fail
          refine HI1.out.mono ?_
          rintro e w2 ⟨rfl, hb⟩
          have HS2 := Lib.hid (HS1.out.below hb)
          have HO2 := Lib.hid (own_after HO1.out hb)
          clear hb HI1 HS1 HO1
          go_wp2_with fail
          go_meet
          exact ⟨by rw [HE.out]; simp, HS2.out, HO2.out⟩
        · have he1 : (σ1.er == 0) = false := by simpa using he
          have HE := Lib.hid he1
          clear he
          go_wp2_with fail
          go_meet
          exact ⟨by rw [HE.out]; simp, HS1.out, HO1.out⟩
      case rest =>
        obtain ⟨rfl, hS2, hO2⟩ := hcut
        have HS2 := Lib.hid hS2
        have HO2 := Lib.hid hO2
        clear hS2 hO2 HI1 HS1 HO1 c3 hpr
        by_cases hc : σ1.er = 0 ∧ isT C.T [125] σ1 = false
        · have hQ := HQ.out
          rw [if_pos hc] at hQ
          have hb : (σ1.er == 0 && !isT C.T [125] σ1) = true := by simp [hc]
          rw [hb]
          clear hc HQ hb
          obtain ⟨⟨X3, σ3⟩, q3, hQ3⟩ := Option.bind_eq_some_iff.1 hQ
          obtain ⟨hsz, hx3⟩ := tq_some q3
          injection hx3 with hx3 hs3
          subst hx3 hs3
          dsimp only at hQ3
          have HQ3 := Lib.hid hQ3
          have HSZ := Lib.hid hsz
          have HKD : Hid (Calls _ _ _ _ (Took3 C wc m (knd C.T 1 σ1))) := Lib.hid (kind3_ok C wc m σ1 1 HS2.out.rs (by decide))
          clear hQ q3 hsz hQ3
          unfold Rx.ptr at HKD
          generalize knd C.T 1 σ1 = kq at *
          obtain ⟨t7, σ7⟩ := kq
          dsimp only at HSZ HQ3
          go_wp2_with fail
          refine HKD.out.mono ?_
          rintro e w3 ⟨rfl, hs, hk⟩
          dsimp only at hs ⊢
          have HS3 := Lib.hid ((HS2.out.call hs hk).var w3.heap.size rfl (tokO t7))
          have HO3 := Lib.hid (own_after (own_kr HO2.out hk hpw) ((Below.refl _ _).alloc (Nat.le_refl _) (tokO t7)))
          clear hs hk HKD HS2 HO2
          unfold tokV
          go_upto_region 20 with (fail)
          change Code.wp _ _ _ _ (w3.alloc (tokO t7))
          generalize w3.alloc (tokO t7) = w3a at HS3 HO3 ⊢
          generalize w3.heap.size = b7 at *
          have HTY := Lib.hid (typ3_ok C w3a m σ7 HS3.out.rs)
          unfold Rx.ptr at HTY
          go_wp2_with fail
          refine HTY.out.mono ?_
          rintro e w4 ⟨g1, n1, rfl, hr, hs, hk⟩
          have HS4 := Lib.hid ((HS3.out.call hs hk).add hr)
          have HO4 := Lib.hid (own_kr HO3.out hk hpw)
          clear hr hs hk HTY HS3 HO3
          generalize typQ C.T σ7 = tq1 at *
          obtain ⟨X1, σ8⟩ := tq1
          dsimp only at HSZ HQ3 HS4 ⊢
          have HSG : Hid (Calls _ _ _ _ (Took3 C w4 m (sgn C.T [59] σ8))) := Lib.hid (sign3_ok C w4 m σ8 59 [] HS4.out.rs)
          unfold Rx.ptr at HSG
          go_wp2_with fail
          refine HSG.out.mono ?_
          rintro e w5 ⟨rfl, hs, hk⟩
          have HS5 := Lib.hid (HS4.out.call hs hk)
          have HO5 := Lib.hid (own_kr HO4.out hk hpw)
          clear HO4
          clear hs hk HSG HS4
          unfold tokV
          obtain ⟨a0, a1, a2, a3, a4⟩ := HS5.out.tok (.head _)
          go_wp2_with fail
          refine (twig_new 4 t7.text 0 t7 [.slice (some ⟨g1, 0, none⟩) X1.length n1] _ rfl _ _ [X1] _ rfl rfl rfl (row1 (HS5.out.row _ (.head _))) HSZ.out).mono ?_
          rintro e w6 ⟨g3, n3, rfl, hr, hb⟩
          have HS6 := Lib.hid ((HS5.out.below hb).add hr)
          have HO6 := Lib.hid (own_after HO5.out hb)
          generalize hX3 : twL (at_ t7 4 t7.text 0) [X1] = X3 at *
          clear hr hb HS5 HO5 a0 a1 a2 a3 a4 HSZ hX3
          have hsz3 : w.heap.size ≤ w6.heap.size := HS6.out.kr.size
          have hpl : P.length ≤ 100000000 := by
            have := members_len _ _ _ _ _ _ _ _ HQ3.out
            simp at this
            omega
          go_wp2_with (at_builtin; refine wpList_append_lies _ rfl _ _ 75 rfl w.heap.size 76 i0 (.slice none 0 0) 1 24 Tryz.underlying75 hi0 hz0 hz1 hz2 rfl (by decide) (.slice lA P.length lc) P.length _ rfl (HO6.out.alloc _) ⟨w6.heap.size, 0, none⟩ 1 1 [.slice (some ⟨g3, 0, none⟩) X3.length n3] rfl rfl (World.news_of_block (cs := #[.slice (some ⟨g3, 0, none⟩) X3.length n3]) (t := 76) (fr := (0, 0)) (heap_alloc_new w6 _)) (by simp [Value.oneCell']) (by decide) (by unfold maxLen; omega) (by omega) (by simp; omega) (w6.heap.size + 1) (by simp) ?_; intro gg cap w8 hown hgrow hat hltg)
          have HS8 := Lib.hid ((HS6.out.al _).grown (HO6.out.alloc _) hgrow hpw (by intro y hy cs; simp at hy; rcases hy with rfl | rfl <;> (intro e; injection e with _ e _; exact absurd e (by decide))))
          have HO8 := Lib.hid hown
          clear hown hgrow hat HS6 HO6
          go_wp2_with fail
          go_roundg i
          case measure => omega
          case rel =>
            refine ⟨P ++ [(.slice (some ⟨g3, 0, none⟩) X3.length n3, X3)], some ⟨gg, 0, none⟩, cap, _, by omega, by simp, ⟨HS8.out.rs, HS8.out.kr, fun y hy => HS8.out.loc y (by simp at hy ⊢; first | exact hy | exact .inr hy), fun y hy => HS8.out.row y (by simp at hy ⊢; rcases hy with h | h; exact .inr (.inr h); exact .inl h)⟩, ?_, ?_⟩
            · rw [List.length_append, List.map_append]; exact HO8.out
            · rw [List.map_append]; exact HQ3.out
        · have hQ := HQ.out
          rw [if_neg hc] at hQ
          obtain ⟨hsz, rfl⟩ := tq_some hQ
          have HSZ := Lib.hid hsz
          have hb : (σ1.er == 0 && !isT C.T [125] σ1) = false := by
            cases h1 : (σ1.er == 0 && !isT C.T [125] σ1)
            · rfl
            · exact absurd (by simpa using h1) hc
          rw [hb]
          clear hQ hc HQ hb hsz
          have HSG : Hid (Calls _ _ _ _ (Took3 C wc m (sgn C.T [125] σ1))) := Lib.hid (sign3_ok C wc m σ1 125 [] HS2.out.rs)
          unfold Rx.ptr at HSG
          go_wp2_with fail
          refine HSG.out.mono ?_
          rintro e w3 ⟨rfl, hs, hk⟩
          have HS3 := Lib.hid (HS2.out.call hs hk)
          have HO3 := Lib.hid (own_kr HO2.out hk hpw)
          clear HO2
          clear hs hk HSG HS2
          unfold tokV
          obtain ⟨a0, a1, a2, a3, a4⟩ := HS3.out.tok (.head _)
          go_wp2_with fail
          refine (twig_own 3 tn.text 0 t P _ lA lc _ _ rfl HO3.out HS3.out.row HSZ.out).mono ?_
          rintro e w5 ⟨g2, c2, rfl, hr, hb⟩
          have HR := Lib.hid ((HS3.out.below hb).ret hr)
          clear hr hb HS3 HO3
          go_wp2_with fail
          go_ret
          exact HR.out
  have nb_class : (t.text == [99, 108, 97, 115, 115]) = false := by simp [hw]
  have hQ := HQ.out
  rw [if_neg hw] at hQ
  clear HQ hw
  have HQ := Lib.hid hQ
  clear hQ
  have HSG : Hid (Calls _ _ _ _ (Took3 C w2 m (sgn C.T [111, 110] σ2))) := Lib.hid (sign3_ok C w2 m σ2 111 [110] HS2.out.rs)
  unfold Rx.ptr at HSG
  go_wp2_with fail
  refine HSG.out.mono ?_
  rintro e w3 ⟨rfl, hs, hk⟩
  have HS3 := Lib.hid (HS2.out.call hs hk)
  clear a0 a1 a2 a3 a4
  clear hs hk HSG HS2
  unfold tokV
  have HUS := Lib.hid (use3_ok C w3 m (sgn C.T [111, 110] σ2).2 HS3.out.rs)
  unfold Rx.ptr at HUS
  have hQ := HQ.out
  clear HQ
  generalize useQ C.T (sgn C.T [111, 110] σ2).2 = uq at hQ HUS
  obtain ⟨X1, σ4⟩ := uq
  dsimp only at hQ
  have HQ := Lib.hid hQ
  clear hQ
  go_wp2_with fail
  refine HUS.out.mono ?_
  rintro e w4 ⟨g1, n1, rfl, hr, hs, hk⟩
  dsimp only at hs hr ⊢
  have HS4 := Lib.hid ((HS3.out.call hs hk).add hr)
  clear hr hs hk HUS HS3
  have hsz4 : w.heap.size ≤ w4.heap.size := HS4.out.kr.size
  have HO5 : Hid ((w4.alloc (.cells #[.slice (some ⟨g1, 0, none⟩) X1.length n1] 76)).ownsRow w.heap.size 76 1 (.slice (some ⟨w4.heap.size, 0, none⟩) 1 1) 1 [.slice (some ⟨g1, 0, none⟩) X1.length n1]) := Lib.hid (World.ownsRow_lit w4 #[.slice (some ⟨g1, 0, none⟩) X1.length n1] 1 hsz4 (by decide) rfl)
  have HS5 := Lib.hid (HS4.out.al (.cells #[.slice (some ⟨g1, 0, none⟩) X1.length n1] 76))
  clear HS4 hsz4
  go_upto_region 27 with (fail)
  generalize w4.alloc (.cells #[.slice (some ⟨g1, 0, none⟩) X1.length n1] 76) = w5 at HO5 HS5 ⊢
  generalize w4.heap.size = bl at *
  obtain ⟨a0, a1, a2, a3, a4⟩ := HS5.out.tok (.head _)
  by_cases hw : t.text = [101, 118, 101, 110, 116]
  · have hQ := HQ.out
    rw [if_pos hw] at hQ
    have pb : (t.text == [101, 118, 101, 110, 116]) = true := by simp [hw]
    have HON : Hid (∀ (w1 : World) (g c : Nat), RS w1 C m σ4 → Strs w1 g [[111, 110], [111, 102, 102]] → g < w1.heap.size → Calls _ _ #[C.ptr, .slice (some ⟨g, 0, none⟩) 2 c] w1 (Took3 C w1 m (oneS C.T [[111, 110], [111, 102, 102]] σ4))) := Lib.hid fun w1 g c h1 h2 h3 => one3_ok C w1 m σ4 _ g c h1 h2 h3 (by decide) (by decide)
    unfold Rx.ptr at HON
    clear hw HQ
    generalize oneS C.T [[111, 110], [111, 102, 102]] σ4 = kq at hQ HON
    obtain ⟨t7, σ7⟩ := kq
    dsimp only at hQ
    obtain ⟨⟨X2, σ3⟩, q2, hQ2⟩ := Option.bind_eq_some_iff.1 hQ
    have HQ2 := Lib.hid q2
    clear hQ q2
    go_wp2_with fail
    refine (HON.out _ _ _ (HS5.out.al _).rs (strs_new _ [[111, 110], [111, 102, 102]] _ rfl _ rfl) (by simp)).mono ?_
    rintro e w6 ⟨rfl, hs, hk⟩
    dsimp only at hs ⊢
    have HS6 := Lib.hid ((HS5.out.al _).call hs hk)
    have HO6 := Lib.hid (own_kr (HO5.out.alloc _) hk hpw)
    clear hs hk HON HS5 HO5 a0 a1 a2 a3 a4
    obtain ⟨a0, a1, a2, a3, a4⟩ := HS6.out.tok (.head _)
    unfold tokV
    by_cases ho : t7.text = [111, 110]
    · rw [if_pos ho] at hQ2
      have po : (t7.text == [111, 110]) = true := by simp [ho]
      clear ho
      obtain ⟨hsz, rfl⟩ := tq_some hQ2
      have HSZ := Lib.hid hsz
      clear hQ2 hsz
      go_upto_region 31 with (fail)
      obtain ⟨W, rfl⟩ : ∃ y, y = w6 := ⟨w6, rfl⟩
      have HSD := Lib.hid HS6.out.drew
      have HOD := Lib.hid HO6.out.drew
      clear HS6 HO6 pb
      go_region_held3 (fun w' => w'.cell? ⟨b, 0, none⟩ = some (.int .i64 t.kind) ∧ w'.cell? ⟨b, 1, none⟩ = some (.string ⟨t.text.toArray⟩) ∧ w'.cell? ⟨b, 2, none⟩ = some (.int .i64 t.n) ∧ w'.cell? ⟨b, 3, none⟩ = some (.int .i64 t.line) ∧ w'.cell? ⟨b, 4, none⟩ = some (.int .i64 t.col)) (first | go_keep | exact HSX.out.tok (.head _) | exact HSY.out.tok (.head _) | exact HSW.out.tok (.head _)) (first | (go_at_call 35; refine (twig_own 10 tn.text 1 t [(.slice (some ⟨g1, 0, none⟩) X1.length n1, X1), (.slice (some ⟨g2, 0, none⟩) X2.length n2, X2)] _ (some ⟨gg2, 0, none⟩) cap2 2 _ rfl HOY.out (fun y hy => HSY.out.row y (by simp only [List.mem_cons, List.not_mem_nil, or_false] at hy ⊢; rcases hy with h | h <;> simp [h])) HSZ.out).mono ?_; rintro e w10 ⟨g4, n4, rfl, hr, hb⟩; have HSW := Lib.hid ((HSY.out.below hb).add hr); clear hr hb) | (go_at_call 58; refine (HBL.out n (Nat.le_refl _) C _ m _ _ HSD.out.rs HQ2.out).mono ?_; rintro e w8 ⟨g2, n2, rfl, hr, hs, hk⟩; have HSX := Lib.hid ((HSD.out.call hs hk).add hr); have HOX := Lib.hid (own_kr HOD.out hk hpw); clear hr hs hk) | (refine step_append_lies _ rfl _ _ 75 rfl w.heap.size 76 i0 (.slice none 0 0) 1 24 Tryz.underlying75 hi0 hz0 hz1 hz2 rfl (by decide) (.slice (some ⟨bl, 0, none⟩) 1 1) 1 _ rfl (HOX.out.alloc _) ⟨w8.heap.size, 0, none⟩ 1 1 [.slice (some ⟨g2, 0, none⟩) X2.length n2] rfl rfl (World.news_of_block (cs := #[.slice (some ⟨g2, 0, none⟩) X2.length n2]) (t := 76) (fr := (0, 0)) (heap_alloc_new w8 _)) (by simp [Value.oneCell']) (by decide) (by unfold maxLen; omega) (by omega) (by have := HSX.out.kr.size; simp; omega) (w8.heap.size + 1) (by simp) ?_; intro gg2 cap2 w9 hown hgrow hat hltg; have HSY := Lib.hid ((HSX.out.al _).grown (HOX.out.alloc _) hgrow hpw (by intro y hy cs; simp at hy; subst hy; intro e; injection e with _ e _; exact absurd e (by decide))); have HOY := Lib.hid hown; clear hown hgrow hat hltg))
      have HR := Lib.hid (HSW.out.ret (HSW.out.row _ (.head _)))
      clear HSX HSY HSW HOX HOY HSD HOD
      go_wp2_with fail
      go_ret
      exact HR.out
    · rw [if_neg ho] at hQ2
      have po : (t7.text == [111, 110]) = false := by simp [ho]
      clear ho
      obtain ⟨hsz, rfl⟩ := tq_some hQ2
      have HSZ := Lib.hid hsz
      clear hQ2 hsz
      go_upto_region 31 with (fail)
      obtain ⟨W, rfl⟩ : ∃ y, y = w6 := ⟨w6, rfl⟩
      have HSD := Lib.hid HS6.out.drew
      have HOD := Lib.hid HO6.out.drew
      clear HS6 HO6 pb
      go_region_held3 (fun w' => w'.cell? ⟨b, 0, none⟩ = some (.int .i64 t.kind) ∧ w'.cell? ⟨b, 1, none⟩ = some (.string ⟨t.text.toArray⟩) ∧ w'.cell? ⟨b, 2, none⟩ = some (.int .i64 t.n) ∧ w'.cell? ⟨b, 3, none⟩ = some (.int .i64 t.line) ∧ w'.cell? ⟨b, 4, none⟩ = some (.int .i64 t.col)) (first | go_keep | exact HSX.out.tok (.head _) | exact HSY.out.tok (.head _) | exact HSW.out.tok (.head _)) (first | (go_at_call 35; refine (twig_own 10 tn.text 0 t [(.slice (some ⟨g1, 0, none⟩) X1.length n1, X1), (.slice (some ⟨g2, 0, none⟩) X2.length n2, X2)] _ (some ⟨gg2, 0, none⟩) cap2 2 _ rfl HOY.out (fun y hy => HSY.out.row y (by simp only [List.mem_cons, List.not_mem_nil, or_false] at hy ⊢; rcases hy with h | h <;> simp [h])) HSZ.out).mono ?_; rintro e w10 ⟨g4, n4, rfl, hr, hb⟩; have HSW := Lib.hid ((HSY.out.below hb).add hr); clear hr hb) | (go_at_call 58; refine (HBL.out n (Nat.le_refl _) C _ m _ _ HSD.out.rs HQ2.out).mono ?_; rintro e w8 ⟨g2, n2, rfl, hr, hs, hk⟩; have HSX := Lib.hid ((HSD.out.call hs hk).add hr); have HOX := Lib.hid (own_kr HOD.out hk hpw); clear hr hs hk) | (refine step_append_lies _ rfl _ _ 75 rfl w.heap.size 76 i0 (.slice none 0 0) 1 24 Tryz.underlying75 hi0 hz0 hz1 hz2 rfl (by decide) (.slice (some ⟨bl, 0, none⟩) 1 1) 1 _ rfl (HOX.out.alloc _) ⟨w8.heap.size, 0, none⟩ 1 1 [.slice (some ⟨g2, 0, none⟩) X2.length n2] rfl rfl (World.news_of_block (cs := #[.slice (some ⟨g2, 0, none⟩) X2.length n2]) (t := 76) (fr := (0, 0)) (heap_alloc_new w8 _)) (by simp [Value.oneCell']) (by decide) (by unfold maxLen; omega) (by omega) (by have := HSX.out.kr.size; simp; omega) (w8.heap.size + 1) (by simp) ?_; intro gg2 cap2 w9 hown hgrow hat hltg; have HSY := Lib.hid ((HSX.out.al _).grown (HOX.out.alloc _) hgrow hpw (by intro y hy cs; simp at hy; subst hy; intro e; injection e with _ e _; exact absurd e (by decide))); have HOY := Lib.hid hown; clear hown hgrow hat hltg))
      have HR := Lib.hid (HSW.out.ret (HSW.out.row _ (.head _)))
      clear HSX HSY HSW HOX HOY HSD HOD
      go_wp2_with fail
      go_ret
      exact HR.out
  have nb_event : (t.text == [101, 118, 101, 110, 116]) = false := by simp [hw]
  have hQ := HQ.out
  rw [if_neg hw] at hQ
  have HQ0 := Lib.hid hQ
  clear HQ hw hQ
  have HSG : Hid (Calls _ _ _ _ (Took3 C w5 m (sgn C.T [123] σ4))) := Lib.hid (sign3_ok C w5 m σ4 123 [] HS5.out.rs)
  unfold Rx.ptr at HSG
  go_wp2_with fail
  refine HSG.out.mono ?_
  rintro e w6 ⟨rfl, hs, hk⟩
  have HS3 := Lib.hid (HS5.out.call hs hk)
  have HO3 := Lib.hid (own_kr HO5.out hk hpw)
  clear a0 a1 a2 a3 a4 HO5
  clear hs hk HSG HS5
  unfold tokV
  go_wp2_with fail
  go_loopg [9] n (fun i vx wr => ∃ (P : List (Value × List Tw)) (lA : Option Addr) (lc : Nat) (σ' : Sg), i ≤ n ∧ vx = .slice lA P.length lc ∧ S3 C w wr m σ' [(b, tokO t)] P ∧ wr.ownsRow w.heap.size 76 1 (.slice lA P.length lc) P.length (P.map (·.1)) ∧ Q C.T i (.lives t tn.text (P.map (·.2))) m σ' = some x)
  case atStart => exact ⟨[(.slice (some ⟨g1, 0, none⟩) X1.length n1, X1)], some ⟨bl, 0, none⟩, 1, _, Nat.le_refl _, rfl, HS3.out, HO3.out, HQ0.out⟩
  case round =>
    clear HS3 HQ0 HO3
    obtain ⟨P, lA, lc, σ1, hin, rfl, hS, hO, hQ⟩ := hrel
    have HS1 := Lib.hid hS
    have HO1 := Lib.hid hO
    have HQ1 := Lib.hid hQ
    clear hS hO hQ
    cases gk with
    | zero => have := HQ1.out; rw [Q] at this; cases this
    | succ i =>
    have hQ := HQ1.out
    rw [Q] at hQ
    have HQ := Lib.hid hQ
    clear hQ HQ1
    obtain ⟨_, _, _, c3, _⟩ := HS1.out.rs.cells
    have hpr := HS1.out.rs.lt
    have HI1 := Lib.hid (is3_ok C wr (m) σ1 125 [] HS1.out.rs)
    unfold Rx.ptr at HI1
    go_upto_region 33 with (fail)
    go_cut [123] (fun vx wx => vx = .bool (σ1.er == 0 && !isT C.T [125] σ1) ∧ S3 C w wx (m) σ1 [(b, tokO t)] P ∧ wx.ownsRow w.heap.size 76 1 (.slice lA P.length lc) P.length (P.map (·.1)))
    case first =>
      generalize isT C.T [125] σ1 = b1 at *
      by_cases he : σ1.er = 0
      · have he1 : (σ1.er == 0) = true := by simp [he]
        have HE := Lib.hid he1
        rw [he] at c3
        clear he he1
        go_wp2_with fail
        refine HI1.out.mono ?_
        rintro e w2 ⟨rfl, hb⟩
        have HS2 := Lib.hid (HS1.out.below hb)
        have HO2 := Lib.hid (own_after HO1.out hb)
        clear hb HI1 HS1 HO1
        go_wp2_with fail
        go_meet
        exact ⟨by rw [HE.out]; simp, HS2.out, HO2.out⟩
      · have he1 : (σ1.er == 0) = false := by simpa using he
        have HE := Lib.hid he1
        clear he
        go_wp2_with fail
        go_meet
        exact ⟨by rw [HE.out]; simp, HS1.out, HO1.out⟩
    case rest =>
      obtain ⟨rfl, hS2, hO2⟩ := hcut
      have HS2 := Lib.hid hS2
      have HO2 := Lib.hid hO2
      clear hS2 hO2 HI1 HS1 HO1 c3 hpr
      by_cases hc : σ1.er = 0 ∧ isT C.T [125] σ1 = false
      · have hQ := HQ.out
        rw [if_pos hc] at hQ
        have hb : (σ1.er == 0 && !isT C.T [125] σ1) = true := by simp [hc]
        rw [hb]
        clear hc HQ hb
        obtain ⟨⟨X2, σ2⟩, q2, hQ2⟩ := Option.bind_eq_some_iff.1 hQ
        obtain ⟨⟨X3, σ3⟩, q3, hQ3⟩ := Option.bind_eq_some_iff.1 hQ2
        obtain ⟨hsz, hx3⟩ := tq_some q3
        injection hx3 with hx3 hs3
        subst hx3 hs3
        dsimp only at hQ3 q2 hsz
        have HQ2 := Lib.hid q2
        have HQ3 := Lib.hid hQ3
        have HSZ := Lib.hid hsz
        have HON : Hid (∀ (w1 : World) (g c : Nat), RS w1 C m σ1 → Strs w1 g lifeWords → g < w1.heap.size → Calls _ _ #[C.ptr, .slice (some ⟨g, 0, none⟩) 4 c] w1 (Took3 C w1 m (oneS C.T lifeWords σ1))) := Lib.hid fun w1 g c h1 h2 h3 => one3_ok C w1 m σ1 lifeWords g c h1 h2 h3 (by decide) (by decide)
        clear hQ hQ2 q2 q3 hsz hQ3
        unfold Rx.ptr at HON
        generalize oneS C.T lifeWords σ1 = kq at *
        obtain ⟨t7, σ7⟩ := kq
        dsimp only at HSZ HQ3 HQ2
        go_wp2_with fail
        refine (HON.out _ _ _ (HS2.out.al _).rs (strs_new _ lifeWords _ rfl _ rfl) (by simp)).mono ?_
        rintro e w3 ⟨rfl, hs, hk⟩
        dsimp only at hs ⊢
        have HS3 := Lib.hid (((HS2.out.al _).call hs hk).var w3.heap.size rfl (tokO t7))
        have HO3 := Lib.hid (own_after (own_kr (HO2.out.alloc _) hk hpw) ((Below.refl _ _).alloc (Nat.le_refl _) (tokO t7)))
        clear hs hk HON HS2 HO2
        unfold tokV
        go_upto_region 35 with (fail)
        change Code.wp _ _ _ _ (w3.alloc (tokO t7))
        generalize w3.alloc (tokO t7) = w3a at HS3 HO3 ⊢
        generalize w3.heap.size = b7 at *
        obtain ⟨a0, a1, a2, a3, a4⟩ := HS3.out.tok (.head _)
        have hmm : ∀ u : World, (Instr.makeMap 106 none).run Tryz.prog u = .ok (.map (some u.heap.size)) (u.alloc (lobj [])) := fun u => rfl
        have i1 := lins_run w3a [] [99, 114, 101, 97, 116, 101] 0 (by decide)
        have i2 := lins_run w3a [([99, 114, 101, 97, 116, 101], 0)] [115, 116, 97, 114, 116] 1 (by decide)
        have i3 := lins_run w3a [([99, 114, 101, 97, 116, 101], 0), ([115, 116, 97, 114, 116], 1)] [115, 116, 111, 112] 2 (by decide)
        have i4 := lins_run w3a [([99, 114, 101, 97, 116, 101], 0), ([115, 116, 97, 114, 116], 1), ([115, 116, 111, 112], 2)] [100, 101, 115, 116, 114, 111, 121] 3 (by decide)
        have i5 := llook_run (w3a.alloc (lobj lifeL)) w3a.heap.size t7.text (heap_alloc_new w3a _)
        have HS4 := Lib.hid (HS3.out.al (lobj lifeL))
        have HO4 := Lib.hid (own_after HO3.out ((Below.refl _ _).alloc (Nat.le_refl _) (lobj lifeL)))
        have hb7 := lt_of_block (HS3.out.head)
        clear HS3 HO3
        simp only [List.nil_append, List.cons_append] at i1 i2 i3 i4
        rw [show [([99, 114, 101, 97, 116, 101], 0), ([115, 116, 97, 114, 116], 1), ([115, 116, 111, 112], 2), ([100, 101, 115, 116, 114, 111, 121], 3)] = lifeL from rfl] at i4
        go_upto_region 36 with (fail)
        clear hmm i1 i2 i3 i4 i5 a0 a1 a2 a3 a4 hb7
        generalize w3a.alloc (lobj lifeL) = W at HS4 HO4 ⊢
        obtain ⟨a0, a1, a2, a3, a4⟩ := HS4.out.tok (.head _)
        have HSD := Lib.hid HS4.out.drew
        have HOD := Lib.hid HO4.out.drew
        have hpl : P.length ≤ 100000000 := by
          have := lives_len _ _ _ _ _ _ _ _ HQ3.out
          simp at this
          omega
        clear HS4 HO4
        generalize lifeN t7.text = ln at *
        generalize hX3 : twL (at_ t7 9 [] ln) [X2] = X3 at *
        have HX3 := Lib.hid hX3
        clear hX3
        go_region_held3 (fun w' => w'.cell? ⟨b7, 0, none⟩ = some (.int .i64 t7.kind) ∧ w'.cell? ⟨b7, 1, none⟩ = some (.string ⟨t7.text.toArray⟩) ∧ w'.cell? ⟨b7, 2, none⟩ = some (.int .i64 t7.n) ∧ w'.cell? ⟨b7, 3, none⟩ = some (.int .i64 t7.line) ∧ w'.cell? ⟨b7, 4, none⟩ = some (.int .i64 t7.col)) (first | go_keep | exact HS5.out.tok (.head _) | exact HS6.out.tok (.head _) | exact HS8.out.tok (.head _)) (first | (go_at_call 35; refine (twig_new 9 [] ln t7 [.slice (some ⟨g2, 0, none⟩) X2.length n2] _ rfl _ _ [X2] _ rfl rfl rfl (row1 (HS5.out.row _ (.head _))) (by rw [HX3.out]; exact HSZ.out)).mono ?_; rw [HX3.out]; rintro e w6 ⟨g3, n3, rfl, hr, hb⟩; have HS6 := Lib.hid ((HS5.out.below hb).add hr); have HO6 := Lib.hid (own_after HO5.out hb); clear hr hb) | (go_at_call 58; refine (HBL.out i (by omega) C _ m _ _ HSD.out.rs HQ2.out).mono ?_; rintro e w5 ⟨g2, n2, rfl, hr, hs, hk⟩; have HS5 := Lib.hid ((HSD.out.call hs hk).add hr); have HO5 := Lib.hid (own_kr HOD.out hk hpw); clear hr hs hk) | (refine step_append_lies _ rfl _ _ 75 rfl w.heap.size 76 i0 (.slice none 0 0) 1 24 Tryz.underlying75 hi0 hz0 hz1 hz2 rfl (by decide) (.slice lA P.length lc) P.length _ rfl (HO6.out.alloc _) ⟨w6.heap.size, 0, none⟩ 1 1 [.slice (some ⟨g3, 0, none⟩) X3.length n3] rfl rfl (World.news_of_block (cs := #[.slice (some ⟨g3, 0, none⟩) X3.length n3]) (t := 76) (fr := (0, 0)) (heap_alloc_new w6 _)) (by simp [Value.oneCell']) (by decide) (by unfold maxLen; omega) (by omega) (by have := HS6.out.kr.size; simp; omega) (w6.heap.size + 1) (by simp) ?_; intro gg cap w8 hown hgrow hat hltg; have HS8 := Lib.hid ((HS6.out.al _).grown (HO6.out.alloc _) hgrow hpw (by intro y hy cs; simp at hy; rcases hy with rfl | rfl <;> (intro e; injection e with _ e _; exact absurd e (by decide)))); have HO8 := Lib.hid hown; clear hown hgrow hat hltg))
        all_goals
          clear HS5 HS6 HO5 HO6 HSD HOD a0 a1 a2 a3 a4
          go_wp2_with fail
          go_roundg i
          case measure => omega
          case rel =>
            refine ⟨P ++ [(.slice (some ⟨g3, 0, none⟩) X3.length n3, X3)], some ⟨gg, 0, none⟩, cap, _, by omega, by simp, ⟨HS8.out.rs, HS8.out.kr, fun y hy => HS8.out.loc y (by simp at hy ⊢; exact .inr hy), fun y hy => HS8.out.row y (by simp at hy ⊢; rcases hy with h | h; exact .inr (.inr h); exact .inl h)⟩, ?_, ?_⟩
            · rw [List.length_append, List.map_append]; exact HO8.out
            · rw [List.map_append]; exact HQ3.out
      · have hQ := HQ.out
        rw [if_neg hc] at hQ
        obtain ⟨hsz, rfl⟩ := tq_some hQ
        have HSZ := Lib.hid hsz
        have hb : (σ1.er == 0 && !isT C.T [125] σ1) = false := by
          cases h1 : (σ1.er == 0 && !isT C.T [125] σ1)
          · rfl
          · exact absurd (by simpa using h1) hc
        rw [hb]
        clear hQ hc HQ hb hsz
        have HSG : Hid (Calls _ _ _ _ (Took3 C wc m (sgn C.T [125] σ1))) := Lib.hid (sign3_ok C wc m σ1 125 [] HS2.out.rs)
        unfold Rx.ptr at HSG
        go_wp2_with fail
        refine HSG.out.mono ?_
        rintro e w3 ⟨rfl, hs, hk⟩
        have HS3 := Lib.hid (HS2.out.call hs hk)
        have HO3 := Lib.hid (own_kr HO2.out hk hpw)
        clear HO2
        clear hs hk HSG HS2
        unfold tokV
        obtain ⟨a0, a1, a2, a3, a4⟩ := HS3.out.tok (.head _)
        go_wp2_with fail
        refine (twig_own 8 tn.text 0 t P _ lA lc _ _ rfl HO3.out HS3.out.row HSZ.out).mono ?_
        rintro e w5 ⟨g2, c2, rfl, hr, hb⟩
        have HR := Lib.hid ((HS3.out.below hb).ret hr)
        clear hr hb HS3 HO3
        go_wp2_with fail
        go_ret
        exact HR.out
end Go.Proofs.YtpeoefbibjbinaaGreat
