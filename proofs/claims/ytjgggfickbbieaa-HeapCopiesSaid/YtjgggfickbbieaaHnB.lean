/- HeapPlays' walk. -/
import Derived.Test.YtjgggfickbbieaaHnA
import Derived.Test.YtjgggfickbbieaaHmC
namespace Go.Proofs.Ytjgggfickbbieaa
open Go.RowKit Go.Shelf
attribute [local go_sem] Oper.semAt_some
section
variable {oP oR : Nat → Bool} {bh bw : Nat} {ps : List Nat} {L M : List Ob} {W w w' : World}
/-- What two heaps that were made since W leave of it. -/
theorem Next2.since (hx : Ext W w) (hP : ∀ b, oP b = true → W.heap.size ≤ b) (hR : ∀ b, oR b = true → W.heap.size ≤ b) (h : Next2 oP oR bh bw w w') :
    ∃ oP' oR' ps' L' M', Both oP' oR' bh bw ps' L' M' w' ∧ (∀ b, oP' b = true → W.heap.size ≤ b) ∧ (∀ b, oR' b = true → W.heap.size ≤ b) ∧ Ext W w' := by
  obtain ⟨oP', oR', ps', L', M', h1, h2, h3, h4⟩ := h
  refine ⟨oP', oR', ps', L', M', h1, ownSince hx hP h3, ownSince hx hR h4, Kept.trans hx (h2.mono fun b t _ hp => ?_)⟩
  simp [pOld] at hp
  simp only [pB, Bool.and_eq_true, Bool.not_eq_true']
  constructor
  · cases hc : oP b with
    | false => rfl
    | true => have := hP b hc; omega
  · cases hc : oR b with
    | false => rfl
    | true => have := hR b hc; omega
theorem Both.zero {bh bw : Nat} (hp : PH (oneB bh) bh [] [] w) (hr : w.heap[bw]? = some (.cells #[.slice none 0 0] 30 (0, 0))) (hn : bh ≠ bw) : Both (oneB bh) (oneB bw) bh bw [] [] [] w :=
  ⟨hp, RH.zero hr, rfl, fun b hb => by simp [oneB] at hb ⊢; omega⟩
set_option maxHeartbeats 4000000 in
set_option maxRecDepth 100000 in
theorem plays_walk (T : List ActD) (A : Option Addr) (c : Nat) (most : Int) (W : World) (hT : Acts W A T) :
    Calls Try.prog 3 #[.slice A T.length c, .int .i64 most] W fun e W' => e = .returned (.bool true) ∧ Ext W W' := by
  have hfw := few_ok T A c 60 W hT (by omega)
  have hkn0 := known_ok W
  have HT := Lib.hid hT
  have HNEW := Lib.hid (New_ok W)
  clear hT
  cases hfb : fewB T 60 with
  | false =>
    rw [hfb] at hfw
    have hfw' : Calls Try.prog 7 #[.slice A T.length c, .int .i64 60] W fun e W' => e = .returned (.bool false) ∧ W' = W := hfw
    have HFW := Lib.hid hfw'
    have HKN := Lib.hid hkn0
    clear hfw hfw' hkn0 hfb HNEW
    go_enter Try.func3, Try.ntmps3
    go_wp2_with (first
      | (go_at_call 7; refine HFW.out.mono ?_; rintro e w1 ⟨rfl, hw1⟩; rw [hw1]; clear hw1)
      | (go_at_call 8; refine HKN.out.mono ?_; rintro e w4 ⟨rfl, hx4⟩))
    go_ret
    exact ⟨rfl, hx4⟩
  | true =>
    rw [hfb] at hfw
    have hfw' : Calls Try.prog 7 #[.slice A T.length c, .int .i64 60] W fun e W' => e = .returned (.bool true) ∧ W' = W := hfw
    have HFW := Lib.hid hfw'
    obtain ⟨hn, hall⟩ := few_true hfb
    have HALL := Lib.hid hall
    clear hfw hfw' hkn0 hfb hall
    go_enter Try.func3, Try.ntmps3
    go_upto_region 4 with (first
      | (go_at_call 7; refine HFW.out.mono ?_; rintro e w1 ⟨rfl, hw1⟩; rw [hw1]; clear hw1)
      | (go_at_call 9; refine HNEW.out.mono ?_; rintro e w1 ⟨rfl, hx1, hq1⟩; have HX1 := Lib.hid hx1; have HQ1 := Lib.hid hq1; clear hx1 hq1))
    obtain ⟨w2, hw2⟩ : ∃ w2, w2 = w1.alloc (.cells #[.slice none 0 0] 30 (0, 0)) := ⟨_, rfl⟩
    have hE2 : Ext w1 w2 := by rw [hw2]; exact Ext.one _ _
    have hb2 : w2.heap[w1.heap.size]? = some (.cells #[.slice none 0 0] 30 (0, 0)) := by rw [hw2]; exact World.alloc_heap_new _ _
    have hlt := (HQ1.out).bl
    have hboth := Both.zero (HQ1.out.ext hE2) hb2 (by omega)
    have hx2 := HX1.out.trans hE2
    have hbw := HX1.out.size
    change Code.wp _ _ _ _ (w1.alloc (.cells #[.slice none 0 0] 30 (0, 0)))
    rw [← hw2]
    have HB2 := Lib.hid hboth
    have HX2 := Lib.hid hx2
    clear hw2 hE2 hb2 hboth hx2 HX1 HQ1 HNEW hlt
    generalize w1.heap.size = bw at *
    go_wp2_with fail
    go_loopg [7] T.length (fun k v7 wr => ∃ (i : Nat) (oP oR : Nat → Bool) (ps : List Nat) (L M : List Ob), i + k = T.length ∧ v7 = .int .i64 i ∧ Both oP oR W.heap.size bw ps L M wr ∧ (∀ b, oP b = true → W.heap.size ≤ b) ∧ (∀ b, oR b = true → W.heap.size ≤ b) ∧ Ext W wr)
    case atStart => exact ⟨0, _, _, [], [], [], by omega, rfl, HB2.out, fun b hb => by simp [oneB] at hb; omega, fun b hb => by simp [oneB] at hb; omega, HX2.out⟩
    case round =>
      clear HB2 HX2
      obtain ⟨i, oP, oR, ps, L, M, hik, rfl, hbo, hge, hge2, hx⟩ := hrel
      have HBO := Lib.hid hbo
      have HGE := Lib.hid hge
      have HGE2 := Lib.hid hge2
      have HX := Lib.hid hx
      have hTr := HT.out.kept hx
      rcases Nat.lt_or_ge i T.length with hi | hi
      · obtain ⟨g, off, har, hwf, l, hcr⟩ := Acts.at hTr hi
        have hl := HALL.out i hi
        obtain ⟨l0, hcr0⟩ : ∃ l, CRow W T[i] l := by
          obtain ⟨_, _, _, _, l0, h0⟩ := Acts.at HT.out hi
          exact ⟨l0, h0⟩
        have hdo := do_ok hbo T[i] l0 (hcr0.cells hx hge hge2) (by rw [← hcr0.1]; exact hl) hwf
        unfold argsD at hdo
        generalize T[i] = x at har hdo
        obtain ⟨xk, xwh, xof, xsz, xsi, xby, xid, xat, xn, xA, xm, xc⟩ := x
        obtain ⟨rfl, a0, a1, a2, a3, a4, a5, a6, a7, a8, a9⟩ := har
        dsimp only at a0 a1 a2 a3 a4 a5 a6 a7 a8 a9 hdo
        have hil : (i : Int) < (T.length : Int) := by omega
        have HDO := Lib.hid hdo
        clear hbo hge hge2 hx hTr hdo hwf hcr hcr0 hl
        go_wp2_with (go_at_call 10; refine HDO.out.mono ?_; rintro e w3 ⟨rfl, hn3⟩; obtain ⟨oP', oR', ps', L', M', hb3, hg3, hg4, hx3⟩ := hn3.since HX.out HGE.out HGE2.out; have HB3 := Lib.hid hb3; have HG3 := Lib.hid hg3; have HG4 := Lib.hid hg4; have HX3 := Lib.hid hx3; clear hn3 hb3 hg3 hg4 hx3)
        go_roundg (gk - 1)
        case measure => omega
        case rel => exact ⟨i + 1, oP', oR', ps', L', M', by omega, by go_num, HB3.out, HG3.out, HG4.out, HX3.out⟩
      · have hil : ¬ (i : Int) < (T.length : Int) := by omega
        have hal := all_ok hbo most
        have HALL2 := Lib.hid hal
        clear hbo hge hge2 hx hTr hal
        go_wp2_with (first
          | (go_at_call 11; refine HALL2.out.mono ?_; rintro e w4 ⟨rfl, hx4⟩; have HX4 := Lib.hid hx4; have hkn := Lib.hid (known_ok w4); clear hx4)
          | (go_at_call 8; refine hkn.out.mono ?_; rintro e w5 ⟨rfl, hx5⟩))
        go_ret
        exact ⟨rfl, (HX.out.trans HX4.out).trans hx5⟩
end
end Go.Proofs.Ytjgggfickbbieaa
