/- HeapCopies' walk, where the acts are few. -/
import Derived.Test.YtjgggfickbbieaaHnC
namespace Go.Proofs.Ytjgggfickbbieaa
open Go.RowKit Go.Shelf
attribute [local go_sem] Oper.semAt_some
set_option maxHeartbeats 8000000 in
set_option maxRecDepth 100000 in
theorem copies_few (T S R : List ActD) (A B C : Option Addr) (c d e : Nat) (W : World) (hT : Acts W A T) (hS : Acts W B S) (hR : Acts W C R) (h1 : fewB T 30 = true) (h2 : fewB S 30 = true) (h3 : fewB R 30 = true) :
    Calls Try.prog 4 #[.slice A T.length c, .slice B S.length d, .slice C R.length e] W fun e W' => e = .returned (.bool true) ∧ Ext W W' := by
  have HF1 := Lib.hid (few30 T A c true W hT h1)
  have HF2 := Lib.hid (few30 S B d true W hS h2)
  have HF3 := Lib.hid (few30 R C e true W hR h3)
  obtain ⟨hn1, hc1⟩ := few_true h1
  obtain ⟨hn2, hc2⟩ := few_true h2
  obtain ⟨hn3, hc3⟩ := few_true h3
  have HT := Lib.hid (And.intro hT hc1)
  have HS := Lib.hid (And.intro hS hc2)
  have HR := Lib.hid (And.intro hR hc3)
  have HNEW := Lib.hid (New_ok W)
  clear hT hS hR h1 h2 h3 hc1 hc2 hc3
  go_enter Try.func4, Try.ntmps4
  go_upto_region 4 with (first
    | (go_at_call 7; with_reducible refine HF3.out.mono ?_; rintro e w1 ⟨rfl, hw1⟩; rw [hw1]; clear hw1)
    | (go_at_call 7; with_reducible refine HF2.out.mono ?_; rintro e w1 ⟨rfl, hw1⟩; rw [hw1]; clear hw1)
    | (go_at_call 7; with_reducible refine HF1.out.mono ?_; rintro e w1 ⟨rfl, hw1⟩; rw [hw1]; clear hw1)
    | (go_at_call 9; refine HNEW.out.mono ?_; rintro e w1 ⟨rfl, hx1, hq1⟩; have HX1 := Lib.hid hx1; have HQ1 := Lib.hid hq1; clear hx1 hq1))
  obtain ⟨w2, hw2⟩ : ∃ w2, w2 = w1.alloc (.cells #[.slice none 0 0] 30 (0, 0)) := ⟨_, rfl⟩
  have hE2 : Ext w1 w2 := by rw [hw2]; exact Ext.one _ _
  have hb2 : w2.heap[w1.heap.size]? = some (.cells #[.slice none 0 0] 30 (0, 0)) := by rw [hw2]; exact World.alloc_heap_new _ _
  have hlt := (HQ1.out).bl
  have hboth := Both.zero (HQ1.out.ext hE2) hb2 (by omega)
  have hx2 := HX1.out.trans hE2
  have hbw := HX1.out.size
  change Code.wp _ _ _ _ (w1.alloc (.cells #[.slice none 0 0] 30 (0, 0)))
  rw [← hw2]
  have HB2 := Lib.hid hboth
  have HX2 := Lib.hid hx2
  clear hw2 hE2 hb2 hboth hx2 HX1 HQ1 HNEW hlt HF1 HF2 HF3
  generalize w1.heap.size = bw at *
  go_wp2_with fail
  go_loopg [9] T.length (fun k v9 wr => ∃ (i : Nat) (oP oR : Nat → Bool) (ps : List Nat) (L M : List Ob), i + k = T.length ∧ v9 = .int .i64 i ∧ Both oP oR W.heap.size bw ps L M wr ∧ (∀ b, oP b = true → W.heap.size ≤ b) ∧ (∀ b, oR b = true → W.heap.size ≤ b) ∧ Ext W wr)
  case atStart => exact ⟨0, _, _, [], [], [], by omega, rfl, HB2.out, fun b hb => by simp [oneB] at hb; omega, fun b hb => by simp [oneB] at hb; omega, HX2.out⟩
  case round =>
    clear HB2 HX2
    obtain ⟨i, oP, oR, ps, L, M, hik, rfl, hbo, hge, hge2, hx⟩ := hrel
    have HBO := Lib.hid hbo
    have HGE := Lib.hid hge
    have HGE2 := Lib.hid hge2
    have HX := Lib.hid hx
    rcases Nat.lt_or_ge i T.length with hi | hi
    · obtain ⟨x, g, off, har, hdo⟩ := act_ok HT.out.1 HT.out.2 hbo hge hge2 hx hi
      unfold argsD at hdo
      obtain ⟨xk, xwh, xof, xsz, xsi, xby, xid, xat, xn, xA, xm, xc⟩ := x
      obtain ⟨rfl, a0, a1, a2, a3, a4, a5, a6, a7, a8, a9⟩ := har
      dsimp only at a0 a1 a2 a3 a4 a5 a6 a7 a8 a9 hdo
      have hil : (i : Int) < (T.length : Int) := by omega
      have HDO := Lib.hid hdo
      clear hbo hge hge2 hx hdo
      go_wp2_with (go_at_call 10; refine HDO.out.mono ?_; rintro e w3 ⟨rfl, hn3⟩; obtain ⟨oP', oR', ps', L', M', hb3, hg3, hg4, hx3⟩ := hn3.since HX.out HGE.out HGE2.out; have HB3 := Lib.hid hb3; have HG3 := Lib.hid hg3; have HG4 := Lib.hid hg4; have HX3 := Lib.hid hx3; clear hn3 hb3 hg3 hg4 hx3)
      go_roundg (gk - 1)
      case measure => omega
      case rel => exact ⟨i + 1, oP', oR', ps', L', M', by omega, by go_num, HB3.out, HG3.out, HG4.out, HX3.out⟩
    · have hil : ¬ (i : Int) < (T.length : Int) := by omega
      have hc1 := Copy_ok hbo.p
      have HC1 := Lib.hid hc1
      clear hbo hge hge2 hx hc1
      go_upto_region 10 with (first
        | (go_at_call 12; refine HC1.out.mono ?_; rintro e w3 ⟨bo, qs, L2, rfl, hx3, hq3, hk3⟩; have HX3 := Lib.hid hx3; have HQ3 := Lib.hid hq3; have HK3 := Lib.hid hk3; clear hx3 hq3 hk3)
        | (go_at_call 13; refine (refCopy_ok (HBO.out.r.ext HX3.out)).mono ?_; rintro e w4 ⟨bx, M2, rfl, hx4, hr4, hk4⟩; have HX4 := Lib.hid hx4; have HR4 := Lib.hid hr4; have HK4 := Lib.hid hk4; clear hx4 hr4 hk4))
      have hF : Four W oP oR (rng wr.heap.size w3.heap.size) (rng w3.heap.size w4.heap.size) W.heap.size bw bo bx ps L M qs L2 M2 w4 := by
        have s1 := HX.out.size
        have s2 := HX3.out.size
        refine ⟨HBO.out.ext (HX3.out.trans HX4.out), ⟨HQ3.out.ext HX4.out, HR4.out, by rw [HK3.out, HK4.out, HBO.out.key], fun b hb => ?_⟩, fun b hb => ?_, fun b hb => ?_, fun b hb => ?_, (HX.out.trans HX3.out).trans HX4.out⟩
        · simp [rng] at hb ⊢; omega
        · simp [rng] at hb
          constructor
          · exact HBO.out.p.fresh (by omega)
          · exact HBO.out.r.fresh (by omega)
        · rcases hb with hb | hb
          · exact HGE.out b hb
          · exact HGE2.out b hb
        · simp [rng] at hb; omega
      have hkk : L.map Ob.key = L2.map Ob.key := HK3.out.symm
      have hsq : ∀ w, Ext w4 w → Calls Try.prog 14 #[.pointer (some ⟨W.heap.size, 0, none⟩), .pointer (some ⟨bo, 0, none⟩)] w fun e w' => e = .returned (.bool true) ∧ Ext w w' := fun w hw => by
        refine (Same_ok (hF.ext hw).a.p (hF.ext hw).b.p).mono ?_
        rintro e w' ⟨rfl, n, rfl⟩
        exact ⟨by rw [decide_eq_true hkk], Ext.drewN _ _⟩
      have hso : ∀ w, Ext w4 w → Calls Try.prog 14 #[.pointer (some ⟨bo, 0, none⟩), .pointer (some ⟨W.heap.size, 0, none⟩)] w fun e w' => e = .returned (.bool true) ∧ Ext w w' := fun w hw => by
        refine (Same_ok (hF.ext hw).b.p (hF.ext hw).a.p).mono ?_
        rintro e w' ⟨rfl, n, rfl⟩
        exact ⟨by rw [decide_eq_true hkk.symm], Ext.drewN _ _⟩
      have HSQ := Lib.hid hsq
      have HSO := Lib.hid hso
      have HF := Lib.hid hF
      clear hsq hso hF hkk HX3 HQ3 HK3 HX4 HR4 HK4 HBO HGE HGE2 HC1 HX HT
      go_wp2_with (first
        | (go_at_call 14; with_reducible refine (HSO.out _ HX5.out).mono ?_; rintro e w6 ⟨rfl, hx6⟩; have HX6 := Lib.hid (HX5.out.trans hx6); clear hx6)
        | (go_at_call 14; with_reducible refine (HSQ.out _ (Ext.refl _)).mono ?_; rintro e w5 ⟨rfl, hx5⟩; have HX5 := Lib.hid hx5; clear hx5))
      clear HSQ HSO
      have hF6 := HF.out.ext HX6.out
      have HF6 := Lib.hid hF6
      clear hF6 HF HX5 HX6 hik hi hn1
      generalize W.heap.size = bh at *
      generalize rng wr.heap.size w3.heap.size = qP at *
      generalize rng w3.heap.size w4.heap.size = qR at *
      go_loopg [12] S.length (fun k v12 wr => ∃ (i : Nat) (oP oR : Nat → Bool) (ps : List Nat) (L M : List Ob), i + k = S.length ∧ v12 = .int .i64 i ∧ Four W oP oR qP qR bh bw bo bx ps L M qs L2 M2 wr)
      case atStart => exact ⟨0, oP, oR, ps, L, M, by omega, rfl, HF6.out⟩
      case round =>
        clear HF6
        rename_i gk0 wr0 gk1 wr1
        obtain ⟨i, oP, oR, ps, L, M, hik, rfl, hF⟩ := hrel
        have HF := Lib.hid hF
        rcases Nat.lt_or_ge i S.length with hi | hi
        · obtain ⟨x, g, off, har, hdo⟩ := act_ok HS.out.1 HS.out.2 hF.a (fun b hb => hF.ga b (.inl hb)) (fun b hb => hF.ga b (.inr hb)) hF.x hi
          unfold argsD at hdo
          obtain ⟨xk, xwh, xof, xsz, xsi, xby, xid, xat, xn, xA, xm, xc⟩ := x
          obtain ⟨rfl, a0, a1, a2, a3, a4, a5, a6, a7, a8, a9⟩ := har
          dsimp only at a0 a1 a2 a3 a4 a5 a6 a7 a8 a9 hdo
          have hil : (i : Int) < (S.length : Int) := by omega
          have HDO := Lib.hid hdo
          clear hF hdo
          go_wp2_with (go_at_call 10; refine HDO.out.mono ?_; rintro e w3 ⟨rfl, hn3⟩; have HN3 := Lib.hid (HF.out.next hn3); clear hn3)
          obtain ⟨oP', oR', ps', L', M', hF4⟩ := HN3.out
          go_roundg (gk - 1)
          case measure => omega
          case rel => exact ⟨i + 1, oP', oR', ps', L', M', by omega, by go_num, hF4⟩
        · have hil : ¬ (i : Int) < (S.length : Int) := by omega
          clear hF hik hi HS
          go_wp2_with fail
          go_loopg [13] R.length (fun k v13 wr => ∃ (i : Nat) (qP qR : Nat → Bool) (qs : List Nat) (L2 M2 : List Ob), i + k = R.length ∧ v13 = .int .i64 i ∧ Four W oP oR qP qR bh bw bo bx ps L M qs L2 M2 wr)
          case atStart => exact ⟨0, qP, qR, qs, L2, M2, by omega, rfl, HF.out⟩
          case round =>
            clear HF
            obtain ⟨i, qP, qR, qs, L2, M2, hik, rfl, hF⟩ := hrel
            have HF := Lib.hid hF
            rcases Nat.lt_or_ge i R.length with hi | hi
            · obtain ⟨x, g, off, har, hdo⟩ := act_ok HR.out.1 HR.out.2 hF.b (fun b hb => hF.gb b (.inl hb)) (fun b hb => hF.gb b (.inr hb)) hF.x hi
              unfold argsD at hdo
              obtain ⟨xk, xwh, xof, xsz, xsi, xby, xid, xat, xn, xA, xm, xc⟩ := x
              obtain ⟨rfl, a0, a1, a2, a3, a4, a5, a6, a7, a8, a9⟩ := har
              dsimp only at a0 a1 a2 a3 a4 a5 a6 a7 a8 a9 hdo
              have hil : (i : Int) < (R.length : Int) := by omega
              have HDO := Lib.hid hdo
              clear hF hdo
              go_wp2_with (go_at_call 10; refine HDO.out.mono ?_; rintro e w3 ⟨rfl, hn3⟩; have HN3 := Lib.hid (HF.out.next2 hn3); clear hn3)
              obtain ⟨qP', qR', qs', L', M', hF4⟩ := HN3.out
              go_roundg (gk - 1)
              case measure => omega
              case rel => exact ⟨i + 1, qP', qR', qs', L', M', by omega, by go_num, hF4⟩
            · have hil : ¬ (i : Int) < (R.length : Int) := by omega
              obtain ⟨b, hb⟩ : ∃ b, b = decide (L.map Ob.key = L2.map Ob.key) := ⟨_, rfl⟩
              have hb2 : b = decide (L2.map Ob.key = L.map Ob.key) := by rw [hb, decide_eq_decide]; exact eq_comm
              have hb3 : b = decide (M.map Ob.key = M2.map Ob.key) := by rw [hb, hF.a.key, hF.b.key]
              have hsq : ∀ w, Ext wr w → Calls Try.prog 14 #[.pointer (some ⟨bh, 0, none⟩), .pointer (some ⟨bo, 0, none⟩)] w fun e w' => e = .returned (.bool b) ∧ Ext w w' := fun w hw => by
                refine (Same_ok (hF.ext hw).a.p (hF.ext hw).b.p).mono ?_
                rintro e w' ⟨rfl, n, rfl⟩
                exact ⟨by rw [← hb], Ext.drewN _ _⟩
              have hso : ∀ w, Ext wr w → Calls Try.prog 14 #[.pointer (some ⟨bo, 0, none⟩), .pointer (some ⟨bh, 0, none⟩)] w fun e w' => e = .returned (.bool b) ∧ Ext w w' := fun w hw => by
                refine (Same_ok (hF.ext hw).b.p (hF.ext hw).a.p).mono ?_
                rintro e w' ⟨rfl, n, rfl⟩
                exact ⟨by rw [← hb2], Ext.drewN _ _⟩
              obtain ⟨v1, e1, o1, _⟩ := hF.a.r.ex
              obtain ⟨v2, e2, o2, _⟩ := hF.b.r.ex
              obtain ⟨A1, c1, rfl⟩ := own_slice3 o1
              obtain ⟨A2, c2, rfl⟩ := own_slice3 o2
              have y1 : wr.cell? ⟨bw, 0, none⟩ = some (.slice A1 M.length c1) := by simp [World.cell?, e1]
              have y2 : wr.cell? ⟨bx, 0, none⟩ = some (.slice A2 M2.length c2) := by simp [World.cell?, e2]
              have l1 := (Array.getElem?_eq_some_iff.1 e1).1
              have l2 := (Array.getElem?_eq_some_iff.1 e2).1
              have hrs : ∀ w, Ext wr w → Calls Try.prog 15 #[.slice A1 M.length c1, .slice A2 M2.length c2] w fun e w' => e = .returned (.bool b) ∧ Ext w w' := fun w hw => by
                have := refSame_ok (hF.ext hw).a.r (hF.ext hw).b.r ((hw.kept (fun _ _ => true)).row o1 fun _ _ => rfl) ((hw.kept (fun _ _ => true)).row o2 fun _ _ => rfl)
                rwa [← hb3] at this
              have ha1 : ∀ w, Ext wr w → Calls Try.prog 11 #[.pointer (some ⟨bh, 0, none⟩), .pointer (some ⟨bw, 0, none⟩), .int .i64 0] w fun e w' => e = .returned (.bool true) ∧ Ext w w' := fun w hw => all_ok (hF.ext hw).a 0
              have ha2 : ∀ w, Ext wr w → Calls Try.prog 11 #[.pointer (some ⟨bo, 0, none⟩), .pointer (some ⟨bx, 0, none⟩), .int .i64 0] w fun e w' => e = .returned (.bool true) ∧ Ext w w' := fun w hw => all_ok (hF.ext hw).b 0
              have HSQ := Lib.hid hsq
              have HSO := Lib.hid hso
              have HRS := Lib.hid hrs
              have HA1 := Lib.hid ha1
              have HA2 := Lib.hid ha2
              clear hsq hso hrs ha1 ha2 hb hb2 hb3 e1 e2 o1 o2 hF hik hi HR hn2 hn3
              go_upto_region 22 with (fail)
              go_still_tail 8, (by kernel_rfl)
              change wpList _ _ _ _ _ wr.drew
              go_upto_region 23 with (go_at_call 15; refine (HRS.out _ (Ext.drew _)).mono ?_; rintro e w7 ⟨rfl, hx7⟩; have HX7 := Lib.hid ((Ext.drew wr).trans hx7); clear hx7)
              have HBB : (b == b) = true := by simp
              go_wp2_with (first
                | (go_at_call 8; refine (known_ok _).mono ?_; rintro e w12 ⟨rfl, hx12⟩; have HX12 := Lib.hid (HX11.out.trans hx12); clear hx12)
                | (go_at_call 14; with_reducible refine (HSO.out _ HX10.out).mono ?_; rintro e w11 ⟨rfl, hx11⟩; have HX11 := Lib.hid (HX10.out.trans hx11); clear hx11)
                | (go_at_call 14; with_reducible refine (HSQ.out _ HX9.out).mono ?_; rintro e w10 ⟨rfl, hx10⟩; have HX10 := Lib.hid (HX9.out.trans hx10); clear hx10)
                | (go_at_call 11; with_reducible refine (HA2.out _ HX8.out).mono ?_; rintro e w9 ⟨rfl, hx9⟩; have HX9 := Lib.hid (HX8.out.trans hx9); clear hx9)
                | (go_at_call 11; with_reducible refine (HA1.out _ HX7.out).mono ?_; rintro e w8 ⟨rfl, hx8⟩; have HX8 := Lib.hid (HX7.out.trans hx8); clear hx8))
              go_ret
              exact ⟨rfl, HF.out.x.trans HX12.out⟩
end Go.Proofs.Ytjgggfickbbieaa
