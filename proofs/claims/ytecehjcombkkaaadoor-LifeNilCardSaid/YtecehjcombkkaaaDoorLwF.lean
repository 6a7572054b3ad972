/- LifeCopies' walk. -/
import Derived.Test.YtecehjcombkkaaaDoorLwE
namespace Go.Proofs.YtecehjcombkkaaaDoor
open Go.RowKit Go.Shelf
attribute [local go_sem] Oper.semAt_some
/-- Two pairs of lives that have no block in common. -/
structure Four (P : Prog9) (W0 : World) (oP oR qP qR : Nat → Bool) (bh bw bo bx : Nat) (C : List Int) (E : List Bool) (C2 : List Int) (E2 : List Bool) (W : World) : Prop where
  a : Both P oP oR bh bw C E W
  b : Both P qP qR bo bx C2 E2 W
  dis : ∀ b, qP b = true ∨ qR b = true → oP b = false ∧ oR b = false
  ga : ∀ b, oP b = true ∨ oR b = true → W0.heap.size ≤ b
  gb : ∀ b, qP b = true ∨ qR b = true → W0.heap.size ≤ b
  x : Ext W0 W
section
variable {P : Prog9} {W0 W W' : World} {oP oR qP qR : Nat → Bool} {bh bw bo bx : Nat} {C C2 : List Int} {E E2 : List Bool}
theorem Four.swap (h : Four P W0 oP oR qP qR bh bw bo bx C E C2 E2 W) : Four P W0 qP qR oP oR bo bx bh bw C2 E2 C E W :=
  ⟨h.b, h.a, fun b hb => by
    constructor
    · cases hc : qP b with
      | false => rfl
      | true => obtain ⟨h1, h2⟩ := h.dis b (.inl hc); rw [h1, h2] at hb; simp at hb
    · cases hc : qR b with
      | false => rfl
      | true => obtain ⟨h1, h2⟩ := h.dis b (.inr hc); rw [h1, h2] at hb; simp at hb, h.gb, h.ga, h.x⟩
theorem Four.ext (h : Four P W0 oP oR qP qR bh bw bo bx C E C2 E2 W) (k : Ext W W') : Four P W0 oP oR qP qR bh bw bo bx C E C2 E2 W' :=
  ⟨h.a.ext k, h.b.ext k, h.dis, h.ga, h.gb, h.x.trans k⟩
theorem Four.next (h : Four P W0 oP oR qP qR bh bw bo bx C E C2 E2 W) (hn : Next2 P oP oR bh bw W W') : ∃ oP' oR' C' E', Four P W0 oP' oR' qP qR bh bw bo bx C' E' C2 E2 W' := by
  have hs := hn.since h.x (fun b hb => h.ga b (.inl hb)) (fun b hb => h.ga b (.inr hb))
  obtain ⟨oP', oR', C', E', h1, hk, h3, h4⟩ := hn
  refine ⟨oP', oR', C', E', h1, h.b.frame hk (fun b _ hb => ?_) (fun b _ hb => ?_) (fun _ => by simp [pB, (P.pt h.a.p).2, h.a.nr]), fun b hb => ?_, fun b hb => ?_, h.gb, ?_⟩
  · obtain ⟨q1, q2⟩ := h.dis b (.inl hb); simp [pB, q1, q2]
  · obtain ⟨q1, q2⟩ := h.dis b (.inr hb); simp [pB, q1, q2]
  · obtain ⟨q1, q2⟩ := h.dis b hb
    have hlt : b < W.heap.size := by
      rcases hb with hb | hb
      · exact P.lt h.b.p b hb
      · exact h.b.r.lt b hb
    constructor
    · cases hc : oP' b with
      | false => rfl
      | true =>
        rcases h3 b hc with q | q
        · rw [q1] at q; cases q
        · omega
    · cases hc : oR' b with
      | false => rfl
      | true =>
        rcases h4 b hc with q | q
        · rw [q2] at q; cases q
        · omega
  · have hz := h.x.size
    rcases hb with hb | hb
    · rcases h3 b hb with q | q
      · exact h.ga b (.inl q)
      · omega
    · rcases h4 b hb with q | q
      · exact h.ga b (.inr q)
      · omega
  · obtain ⟨_, _, _, _, _, _, _, q⟩ := hs
    exact q
theorem Four.next2 (h : Four P W0 oP oR qP qR bh bw bo bx C E C2 E2 W) (hn : Next2 P qP qR bo bx W W') : ∃ qP' qR' C' E', Four P W0 oP oR qP' qR' bh bw bo bx C E C' E' W' := by
  obtain ⟨a, b, c, d, h1⟩ := h.swap.next hn
  exact ⟨a, b, c, d, h1.swap⟩
end
set_option maxHeartbeats 8000000 in
set_option maxRecDepth 100000 in
theorem copies_walk (P : Prog9) (n : Int) (E : List Bool) (A : Option Addr) (c : Nat) (T S : List ActD) (A2 A3 : Option Addr) (c2 c3 : Nat) (W : World) (hE : Row1 bV W A E.length c E) (hT : Acts W A2 T) (hS : Acts W A3 S) (hT0 : P.T W) (h1 : n ≤ 20) (h2 : E.length ≤ 20) (h3 : T.length ≤ 30) (h4 : S.length ≤ 30) :
    Calls Tryd.prog 4 #[.int .i64 n, .slice A E.length c, .slice A2 T.length c2, .slice A3 S.length c3] W fun e W' => e = .returned (.bool true) ∧ Ext W W' := by
  have g1 : ¬ n > 20 := by omega
  have g2 : ¬ (E.length : Int) > 20 := by omega
  have g3 : ¬ (T.length : Int) > 30 := by omega
  have g4 : ¬ (S.length : Int) > 30 := by omega
  have HT := Lib.hid hT
  have HS := Lib.hid hS
  have HSR := Lib.hid hE.src
  have HNEW := Lib.hid (P.new n E A c W hE.src hT0 (by omega) (by omega))
  clear hE hT hS
  go_enter Tryd.func4, Tryd.ntmps4
  go_upto_region 4 with (first
    | (go_at_call 8; refine HNEW.out.mono ?_; rintro e w2 ⟨bh, oP, rfl, hp2, hx2, hg2⟩; have HP2 := Lib.hid hp2; have HX2 := Lib.hid hx2; have HG2 := Lib.hid hg2; clear hp2 hx2 hg2)
    | (go_at_call 9; refine (refNew_ok n E A c w2 (HSR.out.ext HX2.out) (by omega) (by omega)).mono ?_; rintro e w3 ⟨bw, oR, rfl, hr3, hx3, hg3⟩; have HR3 := Lib.hid hr3; have HX3 := Lib.hid hx3; have HG3 := Lib.hid hg3; clear hr3 hx3 hg3))
  have hbo : Both P oP oR bh bw (List.replicate n.toNat (-1)) E w3 := ⟨Prog9.ext HP2.out HX3.out, HR3.out, fun b hb => by
    have q1 := P.lt HP2.out b hb
    cases hc : oR b with
    | false => rfl
    | true => have := HG3.out b hc; omega, by
    have q1 := P.tlt hT0
    have q3 := HX2.out.size
    cases hc : oR P.gt with
    | false => rfl
    | true => have := HG3.out _ hc; omega⟩
  have HBO := Lib.hid hbo
  have HGP := Lib.hid HG2.out
  have HGR := Lib.hid (show ∀ b, oR b = true → W.heap.size ≤ b from fun b hb => by have := HX2.out.size; have := HG3.out b hb; omega)
  have HX := Lib.hid (HX2.out.trans HX3.out)
  clear hbo HNEW HP2 HX2 HG2 HR3 HX3 HG3 HSR
  generalize List.replicate n.toNat (-1) = C0 at *
  go_wp2_with fail
  go_loopg [11] T.length (fun k v11 wr => ∃ (i : Nat) (oP oR : Nat → Bool) (C : List Int) (E : List Bool), i + k = T.length ∧ v11 = .int .i64 i ∧ Both P oP oR bh bw C E wr ∧ (∀ b, oP b = true → W.heap.size ≤ b) ∧ (∀ b, oR b = true → W.heap.size ≤ b) ∧ Ext W wr)
  case atStart => exact ⟨0, oP, oR, C0, E, by omega, rfl, HBO.out, HGP.out, HGR.out, HX.out⟩
  case round =>
    clear HBO HX HGP HGR
    obtain ⟨i, oP, oR, C, F, hik, rfl, hbo, hge, hge2, hx⟩ := hrel
    have HBO := Lib.hid hbo
    have HGE := Lib.hid hge
    have HGE2 := Lib.hid hge2
    have HX := Lib.hid hx
    rcases Nat.lt_or_ge i T.length with hi | hi
    · obtain ⟨g, off, har⟩ := Acts.at (HT.out.kept hx) hi
      have hdo := do_ok hbo T[i]
      unfold argsD at hdo
      generalize T[i] = x at har hdo
      obtain ⟨xk, xa, xw, xi⟩ := x
      obtain ⟨rfl, a0, a1, a2, a3⟩ := har
      dsimp only at a0 a1 a2 a3 hdo
      have hil : (i : Int) < (T.length : Int) := by omega
      have HDO := Lib.hid hdo
      clear hbo hge hge2 hx hdo
      go_wp2_with (go_at_call 11; refine HDO.out.mono ?_; rintro e w5 ⟨rfl, hn5⟩; obtain ⟨oP', oR', C', E', hb5, hg5, hg6, hx5⟩ := hn5.since HX.out HGE.out HGE2.out; have HB5 := Lib.hid hb5; have HG5 := Lib.hid hg5; have HG6 := Lib.hid hg6; have HX5 := Lib.hid hx5; clear hn5 hb5 hg5 hg6 hx5)
      go_roundg (gk - 1)
      case measure => omega
      case rel => exact ⟨i + 1, oP', oR', C', E', by omega, by go_num, HB5.out, HG5.out, HG6.out, HX5.out⟩
    · have hil : ¬ (i : Int) < (T.length : Int) := by omega
      have hc1 := P.copy hbo.p
      have HC1 := Lib.hid hc1
      clear hbo hge hge2 hx hc1
      go_upto_region 9 with (first
        | (go_at_call 12; refine HC1.out.mono ?_; rintro e w3 ⟨bo, qP, rfl, hq3, hx3, hg3⟩; have HX3 := Lib.hid hx3; have HQ3 := Lib.hid hq3; have HG3 := Lib.hid hg3; clear hx3 hq3 hg3)
        | (go_at_call 13; refine (refCopy_ok (HBO.out.r.ext HX3.out)).mono ?_; rintro e w4 ⟨bx, qR, rfl, hr4, hx4, hg4⟩; have HX4 := Lib.hid hx4; have HR4 := Lib.hid hr4; have HG4 := Lib.hid hg4; clear hx4 hr4 hg4))
      have hF : Four P W oP oR qP qR bh bw bo bx C F C F w4 := by
        have s1 := HX.out.size
        have s2 := HX3.out.size
        have hlo : ∀ b, qP b = true ∨ qR b = true → wr.heap.size ≤ b := fun b hb => by
          rcases hb with hb | hb
          · exact HG3.out b hb
          · have := HG4.out b hb; omega
        refine ⟨HBO.out.ext (HX3.out.trans HX4.out), ⟨Prog9.ext HQ3.out HX4.out, HR4.out, fun b hb => ?_, ?_⟩, fun b hb => ?_, fun b hb => ?_, fun b hb => ?_, (HX.out.trans HX3.out).trans HX4.out⟩
        · have q1 := P.lt HQ3.out b hb
          cases hc : qR b with
          | false => rfl
          | true => have := HG4.out b hc; omega
        · have q1 := P.tlt (P.pt HBO.out.p).1
          cases hc : qR P.gt with
          | false => rfl
          | true => have := HG4.out _ hc; omega
        · exact ⟨Prog9.fresh HBO.out.p (hlo b hb), HBO.out.r.fresh (hlo b hb)⟩
        · rcases hb with hb | hb
          · exact HGE.out b hb
          · exact HGE2.out b hb
        · have := hlo b hb; omega
      have hsq : ∀ w, Ext w4 w → Calls Tryd.prog 14 #[.pointer (some ⟨bh, 0, none⟩), .pointer (some ⟨bo, 0, none⟩)] w fun e w' => e = .returned (.bool true) ∧ Ext w w' := fun w hw => by
        have := P.same (hF.ext hw).a.p (hF.ext hw).b.p
        rwa [sameP_self] at this
      have hso : ∀ w, Ext w4 w → Calls Tryd.prog 14 #[.pointer (some ⟨bo, 0, none⟩), .pointer (some ⟨bh, 0, none⟩)] w fun e w' => e = .returned (.bool true) ∧ Ext w w' := fun w hw => by
        have := P.same (hF.ext hw).b.p (hF.ext hw).a.p
        rwa [sameP_self] at this
      have HSQ := Lib.hid hsq
      have HSO := Lib.hid hso
      have HF := Lib.hid hF
      clear hsq hso hF HX3 HQ3 HG3 HX4 HR4 HG4 HBO HGE HGE2 HC1 HX HT
      go_wp2_with (first
        | (go_at_call 14; with_reducible refine (HSO.out _ HX5.out).mono ?_; rintro e w6 ⟨rfl, hx6⟩; have HX6 := Lib.hid (HX5.out.trans hx6); clear hx6)
        | (go_at_call 14; with_reducible refine (HSQ.out _ (Ext.refl _)).mono ?_; rintro e w5 ⟨rfl, hx5⟩; have HX5 := Lib.hid hx5; clear hx5))
      clear HSQ HSO
      have hF6 := HF.out.ext HX6.out
      have HF6 := Lib.hid hF6
      clear hF6 HF HX5 HX6 hik hi h3
      go_loopg [14] S.length (fun k v14 wr => ∃ (i : Nat) (oP oR qP qR : Nat → Bool) (C : List Int) (E : List Bool) (C2 : List Int) (E2 : List Bool), i + k = S.length ∧ v14 = .int .i64 i ∧ Four P W oP oR qP qR bh bw bo bx C E C2 E2 wr)
      case atStart => exact ⟨0, oP, oR, qP, qR, C, F, C, F, by omega, rfl, HF6.out⟩
      case round =>
        clear HF6
        rename_i gk0 wr0 gk1 wr1
        obtain ⟨i, oP, oR, qP, qR, C, F, C2, F2, hik, rfl, hF⟩ := hrel
        have HF := Lib.hid hF
        rcases Nat.lt_or_ge i S.length with hi | hi
        · obtain ⟨g, off, har⟩ := Acts.at (HS.out.kept hF.x) hi
          have hdo := do_ok hF.a S[i]
          have hdo2 := do_ok hF.b S[i]
          unfold argsD at hdo hdo2
          generalize S[i] = x at har hdo hdo2
          obtain ⟨xk, xa, xw, xi⟩ := x
          obtain ⟨rfl, a0, a1, a2, a3⟩ := har
          dsimp only at a0 a1 a2 a3 hdo hdo2
          have hil : (i : Int) < (S.length : Int) := by omega
          have HDO := Lib.hid hdo
          have HDO2 := Lib.hid hdo2
          have HIK := Lib.hid hik
          clear hF hdo hdo2
          by_cases hr : (i : Int).tmod 2 = 0
          · go_wp2_with (go_at_call 11; with_reducible refine HDO.out.mono ?_; rintro e w3 ⟨rfl, hn3⟩; have HN3 := Lib.hid (HF.out.next hn3); clear hn3)
            obtain ⟨oP', oR', C', E', hF4⟩ := HN3.out
            go_roundg (gk - 1)
            case measure => omega
            case rel => exact ⟨i + 1, oP', oR', qP, qR, C', E', C2, F2, by omega, by go_num, hF4⟩
          · have hr1 : (i : Int).tmod 2 = 1 := by have := Int.tmod_eq_emod_of_nonneg (a := (i : Int)) (b := 2) (by omega); omega
            clear hr
            go_wp2_with (go_at_call 11; with_reducible refine HDO2.out.mono ?_; rintro e w3 ⟨rfl, hn3⟩; have HN3 := Lib.hid (HF.out.next2 hn3); clear hn3)
            obtain ⟨qP', qR', C', E', hF4⟩ := HN3.out
            go_roundg (gk - 1)
            case measure => omega
            case rel => exact ⟨i + 1, oP, oR, qP', qR', C, F, C', E', by omega, by go_num, hF4⟩
        · have hil : ¬ (i : Int) < (S.length : Int) := by omega
          obtain ⟨b, hb⟩ : ∃ b, b = sameP C F C2 F2 := ⟨_, rfl⟩
          have hb2 : b = sameP C2 F2 C F := by rw [hb, sameP_comm]
          have hsq : ∀ w, Ext wr w → Calls Tryd.prog 14 #[.pointer (some ⟨bh, 0, none⟩), .pointer (some ⟨bo, 0, none⟩)] w fun e w' => e = .returned (.bool b) ∧ Ext w w' := fun w hw => by
            have := P.same (hF.ext hw).a.p (hF.ext hw).b.p
            rwa [← hb] at this
          have hso : ∀ w, Ext wr w → Calls Tryd.prog 14 #[.pointer (some ⟨bo, 0, none⟩), .pointer (some ⟨bh, 0, none⟩)] w fun e w' => e = .returned (.bool b) ∧ Ext w w' := fun w hw => by
            have := P.same (hF.ext hw).b.p (hF.ext hw).a.p
            rwa [← hb2] at this
          have hrs := refSame_ok hF.a.r hF.b.r
          rw [← hb] at hrs
          have HSQ := Lib.hid hsq
          have HSO := Lib.hid hso
          have HRS := Lib.hid hrs
          have HM1 := Lib.hid (fun (w : World) (hw : Ext wr w) => same_ok (hF.ext hw).a)
          have HM2 := Lib.hid (fun (w : World) (hw : Ext wr w) => same_ok (hF.ext hw).b)
          clear hsq hso hrs hb hb2 hF hik hi HS h4
          go_upto_region 17 with (go_at_call 15; refine HRS.out.mono ?_; rintro e w7 ⟨rfl, hx7⟩; have HX7 := Lib.hid hx7; clear hx7)
          have HBB : (b == b) = true := by simp
          go_wp2_with (first
            | (go_at_call 7; refine (known_ok P _ (P.pt (HF.out.ext HX11.out).a.p).1).mono ?_; rintro e w12 ⟨rfl, hx12⟩; have HX12 := Lib.hid (HX11.out.trans hx12); clear hx12)
            | (go_at_call 14; with_reducible refine (HSO.out _ HX10.out).mono ?_; rintro e w11 ⟨rfl, hx11⟩; have HX11 := Lib.hid (HX10.out.trans hx11); clear hx11)
            | (go_at_call 14; with_reducible refine (HSQ.out _ HX9.out).mono ?_; rintro e w10 ⟨rfl, hx10⟩; have HX10 := Lib.hid (HX9.out.trans hx10); clear hx10)
            | (go_at_call 10; with_reducible refine (HM2.out _ HX8.out).mono ?_; rintro e w9 ⟨rfl, hx9⟩; have HX9 := Lib.hid (HX8.out.trans hx9); clear hx9)
            | (go_at_call 10; with_reducible refine (HM1.out _ HX7.out).mono ?_; rintro e w8 ⟨rfl, hx8⟩; have HX8 := Lib.hid (HX7.out.trans hx8); clear hx8))
          go_ret
          exact ⟨rfl, HF.out.x.trans HX12.out⟩
end Go.Proofs.YtecehjcombkkaaaDoor
