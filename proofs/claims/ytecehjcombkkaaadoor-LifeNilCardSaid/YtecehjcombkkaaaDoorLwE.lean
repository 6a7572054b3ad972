/- Arguments of acts, switches and callbacks, opened; LifePlays' walk. -/
import Derived.Test.YtecehjcombkkaaaDoorOpA
import Derived.Test.YtecehjcombkkaaaDoorLwD
namespace Go.Proofs.YtecehjcombkkaaaDoor
open Go.RowKit Go.ChangeShapes Go.WideShapes Go.Deep Go.Shelf
attribute [local go_sem] Oper.semAt_some
theorem cellsAct : Tryd.prog.cellsOf 32 = 4 := by kernel_rfl
theorem cellsI : Tryd.prog.cellsOf 3 = 1 := by kernel_rfl
theorem cellsB : Tryd.prog.cellsOf 4 = 1 := by kernel_rfl
section
variable {H : Type} {enc : TypeId × Value → H} {w : World} {base : Nat} {held : Bool}
theorem open_i {fuel : Nat} {cs : List Value} {x : DataW H × List MemPlace} (h : DataW.trod enc Tryd.prog w base (fun _ => true) held fuel 3 cs = some x) : ∃ z : Int, cs = [iV z] ∧ True := by
  obtain ⟨z, e, _⟩ := DataW.trod_int (k := .i64) (by kernel_rfl) h
  exact ⟨z, e, trivial⟩
theorem open_b {fuel : Nat} {cs : List Value} {x : DataW H × List MemPlace} (h : DataW.trod enc Tryd.prog w base (fun _ => true) held fuel 4 cs = some x) : ∃ z : Bool, cs = [bV z] ∧ True := by
  obtain ⟨z, e, _⟩ := DataW.trod_bool (by kernel_rfl) h
  exact ⟨z, e, trivial⟩
set_option maxRecDepth 100000 in
theorem open_act {fuel : Nat} {cs : List Value} {x : DataW H × List MemPlace} (h : DataW.trod enc Tryd.prog w base (fun _ => true) held fuel 32 cs = some x) :
    ∃ t : ActD, cs = t.cells ∧ True := by
  obtain ⟨xs, n, _, _, hlen, hxl, hf⟩ := DataW.trod_struct Tryd.underlying32 h
  rw [cellsAct] at hlen
  match cs, hlen with
  | [c0, c1, c2, c3], _ =>
    have hx5 : xs.length = 4 := hxl
    match xs, hx5 with
    | [x0, x1, x2, x3], _ =>
      have h0 : DataW.trod enc Tryd.prog w base (fun _ => true) held n 3 [c0] = some x0 := hf 0 _ rfl
      have h1 : DataW.trod enc Tryd.prog w base (fun _ => true) held n 3 [c1] = some x1 := hf 1 _ rfl
      have h2 : DataW.trod enc Tryd.prog w base (fun _ => true) held n 3 [c2] = some x2 := hf 2 _ rfl
      have h3 : DataW.trod enc Tryd.prog w base (fun _ => true) held n 4 [c3] = some x3 := hf 3 _ rfl
      obtain ⟨z0, e0, _⟩ := DataW.trod_int (k := .i64) (by kernel_rfl) h0
      obtain ⟨z1, e1, _⟩ := DataW.trod_int (k := .i64) (by kernel_rfl) h1
      obtain ⟨z2, e2, _⟩ := DataW.trod_int (k := .i64) (by kernel_rfl) h2
      obtain ⟨z3, e3, _⟩ := DataW.trod_bool (by kernel_rfl) h3
      simp only [List.cons.injEq, and_true] at e0 e1 e2 e3
      subst e0 e1 e2 e3
      exact ⟨⟨z0, z1, z2, z3⟩, rfl, trivial⟩
end
abbrev Acts (w : World) (A : Option Addr) (T : List ActD) : Prop := Rows3 ActD.cells 4 (fun _ => True) w A T
/-- An act, where it lies. -/
structure ActR (w : World) (A : Option Addr) (i : Nat) (x : ActD) (g off : Nat) : Prop where
  e : A = some ⟨g, off, none⟩
  c0 : w.cell? ⟨g, off + i * 4, none⟩ = some (.int .i64 x.k)
  c1 : w.cell? ⟨g, off + i * 4 + 1, none⟩ = some (.int .i64 x.at')
  c2 : w.cell? ⟨g, off + i * 4 + 2, none⟩ = some (.int .i64 x.wh)
  c3 : w.cell? ⟨g, off + i * 4 + 3, none⟩ = some (.bool x.is')
theorem Acts.at {w : World} {A : Option Addr} {T : List ActD} (h : Acts w A T) {i : Nat} (hi : i < T.length) : ∃ g off, ActR w A i T[i] g off := by
  obtain ⟨g, off, h1, _, h3, h4⟩ := h i T[i] (List.getElem?_eq_getElem hi)
  exact ⟨g, off, ⟨h1, h4 0 _ rfl, h4 1 _ rfl, h4 2 _ rfl, h4 3 _ rfl⟩⟩
section
variable {P : Prog9} {oP oR : Nat → Bool} {bh bw : Nat} {C : List Int} {E : List Bool} {W : World}
set_option maxHeartbeats 4000000 in
set_option maxRecDepth 100000 in
theorem plays_walk (P : Prog9) (n : Int) (E : List Bool) (A : Option Addr) (c : Nat) (T : List ActD) (A2 : Option Addr) (c2 : Nat) (W : World) (hE : Row1 bV W A E.length c E) (hT : Acts W A2 T) (hT0 : P.T W) (h1 : n ≤ 20) (h2 : E.length ≤ 20) (h3 : T.length ≤ 60) :
    Calls Tryd.prog 3 #[.int .i64 n, .slice A E.length c, .slice A2 T.length c2] W fun e W' => e = .returned (.bool true) ∧ Ext W W' := by
  obtain ⟨i0, hi0, hz0, hz1, hz2⟩ := infoParts infoBool
  have hone := rowV_one (f := bV) (l := E) (fun _ => rfl)
  have hlen := rowV_len (f := bV) (l := E)
  have g1 : ¬ n > 20 := by omega
  have g2 : ¬ (E.length : Int) > 20 := by omega
  have g3 : ¬ (T.length : Int) > 60 := by omega
  have HE := Lib.hid hE
  have HT := Lib.hid hT
  have HS := Lib.hid hE.src
  have HONE := Lib.hid hone
  have HLEN := Lib.hid hlen
  clear hone hlen hE hT
  go_enter Tryd.func3, Tryd.ntmps3
  go_upto_region 4 with (at_builtin; refine wpList_append_any rfl _ _ 22 rfl W.heap.size 4 i0 (.bool false) 1 1 Tryd.underlying22 hi0 hz0 hz1 hz2 rfl (by decide) (.slice none 0 0) 0 [] rfl (World.ownsRow_nil _ _ _ _) (.slice A E.length c) E.length (rowV bV E) rfl HLEN.out HS.out HONE.out (by unfold maxLen; omega) (by omega) (Nat.le_refl _) E.length (by omega) (rowV bV E) (by simp) ?_; intro A1 c1 w1 hown1 hgrow1 hat1; have HX1 := Lib.hid (grown_ext (Ext.refl _) hgrow1 (by intro b hb; simp [Value.ownBlock] at hb)); have HO1 := Lib.hid hown1; clear hown1 hgrow1 hat1)
  have HNEW := Lib.hid (P.new n E A1 c1 w1 (Src.of HO1.out HLEN.out) (Prog9.text hT0 HX1.out) (by omega) (by omega))
  go_upto_region 5 with (first
    | (go_at_call 8; refine HNEW.out.mono ?_; rintro e w2 ⟨bh, oP, rfl, hp2, hx2, hg2⟩; have HP2 := Lib.hid hp2; have HX2 := Lib.hid hx2; have HG2 := Lib.hid hg2; clear hp2 hx2 hg2)
    | (go_at_call 9; refine (refNew_ok n E A c w2 (HS.out.ext (HX1.out.trans HX2.out)) (by omega) (by omega)).mono ?_; rintro e w3 ⟨bw, oR, rfl, hr3, hx3, hg3⟩; have HR3 := Lib.hid hr3; have HX3 := Lib.hid hx3; have HG3 := Lib.hid hg3; clear hr3 hx3 hg3))
  have hbo : Both P oP oR bh bw (List.replicate n.toNat (-1)) E w3 := ⟨Prog9.ext HP2.out HX3.out, HR3.out, fun b hb => by
    have q1 := P.lt HP2.out b hb
    cases hc : oR b with
    | false => rfl
    | true => have := HG3.out b hc; omega, by
    have q1 := P.tlt hT0
    have q2 := HX1.out.size
    have q3 := HX2.out.size
    cases hc : oR P.gt with
    | false => rfl
    | true => have := HG3.out _ hc; omega⟩
  have HGT := Lib.hid (P.tlt hT0)
  have HBO := Lib.hid hbo
  have HOW := Lib.hid (((HX2.out.trans HX3.out).kept (fun _ _ => true)).row HO1.out fun _ _ => rfl)
  have HOL := Lib.hid (fun g (hg : (Value.slice A1 E.length c1).ownBlock = some g) => own_lt HO1.out g hg)
  have HGP := Lib.hid (show ∀ b, oP b = true ∨ oR b = true → w1.heap.size ≤ b from fun b hb => by
    have := HX2.out.size
    rcases hb with hb | hb
    · exact HG2.out b hb
    · have := HG3.out b hb; omega)
  have HX := Lib.hid ((HX1.out.trans HX2.out).trans HX3.out)
  have HS1 := Lib.hid HX1.out.size
  clear hbo HNEW HP2 HX2 HG2 HR3 HX3 HG3 HX1 HO1 HS HONE HLEN
  generalize List.replicate n.toNat (-1) = C0 at *
  go_wp2_with fail
  go_loopg [10] E.length (fun k v10 wr => ∃ (i : Nat) (F : List Bool), i + k = E.length ∧ v10 = .int .i64 i ∧ F.length = E.length ∧ wr.ownsRow W.heap.size 4 1 (.slice A1 E.length c1) E.length (rowV bV F) ∧ Both P oP oR bh bw C0 E wr ∧ Ext W wr)
  case atStart => exact ⟨0, E, by omega, rfl, rfl, HOW.out, HBO.out, HX.out⟩
  case round =>
    clear HBO HX HOW
    obtain ⟨i, F, hik, rfl, hF, hrow, hbo, hx⟩ := hrel
    by_cases hi : i < E.length
    · rw [← hF] at hrow
      have hiF : i < F.length := by omega
      obtain ⟨g, c9, e9, hset, hfz, hcell, hgl, ⟨o, hto, hta⟩, hk⟩ := own1_set hrow hiF (!F[i])
      generalize F[i] = fi at hset hcell hk
      rw [hF] at e9
      cases e9
      have hge := own_base hrow g rfl
      have hlt := HOL.out g rfl
      have hbo2 := hbo.frame hk (fun b _ hb => by have := HGP.out b (.inl hb); simp; omega) (fun b _ hb => by have := HGP.out b (.inr hb); simp; omega) (fun _ => by have := HGT.out; simp; omega)
      have hx2 : Ext W (wr.setCell ⟨g, i, none⟩ (bV (!fi))) := Kept.trans hx (hk.mono fun b t _ hp => by simp [pOld] at hp; simp; omega)
      have z0 : (i : Int) < (E.length : Int) := by omega
      have HBO := Lib.hid hbo2
      have HX := Lib.hid hx2
      have HSET := Lib.hid hset
      have HF := Lib.hid hF
      unfold bV at hcell
      clear hbo hx hset hto hta hk hbo2 hx2 hrow hge hlt hF hiF
      go_wp2_with fail
      go_roundg (gk - 1)
      case measure => omega
      case rel => exact ⟨i + 1, F.set i (!fi), by omega, by go_num, by simp [HF.out], (by have := HSET.out; rw [HF.out] at this; exact this), HBO.out, HX.out⟩
    · have z0 : ¬ (i : Int) < (E.length : Int) := by omega
      have HBO := Lib.hid hbo
      have HX := Lib.hid hx
      have HSM := Lib.hid (same_ok hbo)
      have HGW := Lib.hid (show (∀ b, oP b = true → W.heap.size ≤ b) ∧ ∀ b, oR b = true → W.heap.size ≤ b from ⟨fun b hb => Nat.le_trans HS1.out (HGP.out b (.inl hb)), fun b hb => Nat.le_trans HS1.out (HGP.out b (.inr hb))⟩)
      clear hrow hbo hx hF HOL HGP HS1 hik hi
      go_wp2_with (go_at_call 10; refine HSM.out.mono ?_; rintro e w4 ⟨rfl, hx4⟩; have HX4 := Lib.hid hx4; clear hx4)
      go_loopg [11] T.length (fun k v11 wr => ∃ (i : Nat) (oP oR : Nat → Bool) (C : List Int) (E : List Bool), i + k = T.length ∧ v11 = .int .i64 i ∧ Both P oP oR bh bw C E wr ∧ (∀ b, oP b = true → W.heap.size ≤ b) ∧ (∀ b, oR b = true → W.heap.size ≤ b) ∧ Ext W wr)
      case atStart => exact ⟨0, oP, oR, C0, E, by omega, rfl, HBO.out.ext HX4.out, HGW.out.1, HGW.out.2, HX.out.trans HX4.out⟩
      case round =>
        clear HBO HX HX4 HSM HGW
        obtain ⟨i, oP, oR, C, E, hik, rfl, hbo, hge, hge2, hx⟩ := hrel
        have HBO := Lib.hid hbo
        have HGE := Lib.hid hge
        have HGE2 := Lib.hid hge2
        have HX := Lib.hid hx
        rcases Nat.lt_or_ge i T.length with hi | hi
        · obtain ⟨g, off, har⟩ := Acts.at (HT.out.kept hx) hi
          have hdo := do_ok hbo T[i]
          unfold argsD at hdo
          generalize T[i] = x at har hdo
          obtain ⟨xk, xa, xw, xi⟩ := x
          obtain ⟨rfl, a0, a1, a2, a3⟩ := har
          dsimp only at a0 a1 a2 a3 hdo
          have hil : (i : Int) < (T.length : Int) := by omega
          have HDO := Lib.hid hdo
          clear hbo hge hge2 hx hdo
          go_wp2_with (first
            | (go_at_call 11; refine HDO.out.mono ?_; rintro e w5 ⟨rfl, hn5⟩; obtain ⟨oP', oR', C', E', hb5, hg5, hg6, hx5⟩ := hn5.since HX.out HGE.out HGE2.out; have HB5 := Lib.hid hb5; have HG5 := Lib.hid hg5; have HG6 := Lib.hid hg6; have HX5 := Lib.hid hx5; have HSM5 := Lib.hid (same_ok hb5); clear hn5 hb5 hg5 hg6 hx5)
            | (go_at_call 10; refine HSM5.out.mono ?_; rintro e w6 ⟨rfl, hx6⟩; have HX6 := Lib.hid hx6; clear hx6))
          go_roundg (gk - 1)
          case measure => omega
          case rel => exact ⟨i + 1, oP', oR', C', E', by omega, by go_num, HB5.out.ext HX6.out, HG5.out, HG6.out, HX5.out.trans HX6.out⟩
        · have hil : ¬ (i : Int) < (T.length : Int) := by omega
          have hkn := Lib.hid (known_ok P wr (P.pt hbo.p).1)
          clear hbo hge hge2 hx
          go_wp2_with (go_at_call 7; refine hkn.out.mono ?_; rintro e w7 ⟨rfl, hx7⟩)
          go_ret
          exact ⟨rfl, HX.out.trans hx7⟩
end
end Go.Proofs.YtecehjcombkkaaaDoor
