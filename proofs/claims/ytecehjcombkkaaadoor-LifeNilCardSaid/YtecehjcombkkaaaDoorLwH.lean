/- LifeTurns' walk. -/
import Derived.Test.YtecehjcombkkaaaDoorLwG
namespace Go.Proofs.YtecehjcombkkaaaDoor
open Go.RowKit Go.Shelf
attribute [local go_sem] Oper.semAt_some
/-- What stands while callbacks are tried. -/
structure TR (P : Prog9) (W : World) (bh : Nat) (own : Nat → Bool) (st : Int) (v : Value) (R : List Int) (w : World) : Prop where
  p : P.PL own bh [st] [] w
  ge : ∀ b, own b = true → W.heap.size ≤ b
  row : w.ownsRow W.heap.size 3 1 v R.length (rowV iV R)
  no : ∀ g, v.ownBlock = some g → own g = false
  ok : OkR R
  st : prevP R R.length = st
  x : Ext W w
section
variable {P : Prog9} {W w w1 w2 : World} {bh : Nat} {own : Nat → Bool} {st : Int} {v : Value} {R : List Int}
theorem TR.ext (h : TR P W bh own st v R w) (k : Ext w w1) : TR P W bh own st v R w1 :=
  ⟨Prog9.ext h.p k, h.ge, (k.kept (fun _ _ => true)).row h.row fun _ _ => rfl, h.no, h.ok, h.st, h.x.trans k⟩
/-- Behind Go. -/
theorem TR.go (h : TR P W bh own st v R w) {own' : Nat → Bool} {st' : Int} (p1 : P.PL own' bh [st'] [] w1) (k1 : Kept (pQ own) w w1) (n1 : ∀ g, own' g = true → own g = true ∨ w.heap.size ≤ g) :
    P.PL own' bh [st'] [] w1 ∧ (∀ b, own' b = true → W.heap.size ≤ b) ∧ w1.ownsRow W.heap.size 3 1 v R.length (rowV iV R) ∧ (∀ g, v.ownBlock = some g → own' g = false) ∧ Ext W w1 := by
  refine ⟨p1, ownSince h.x h.ge n1, k1.row h.row fun g hg => by simp [pQ, h.no g hg], fun g hg => ?_, keptSince h.x h.ge k1⟩
  cases hc : own' g with
  | false => rfl
  | true =>
    have h1 := h.no g hg
    have h2 := own_lt h.row g hg
    rcases n1 g hc with q | q
    · rw [h1] at q; cases q
    · omega
/-- One callback more. -/
theorem TR.more {z : Int} {v' : Value} (hT : P.T W) (hp : P.PL own bh [z] [] w) (hge : ∀ b, own b = true → W.heap.size ≤ b) (hr : w.ownsRow W.heap.size 3 1 v R.length (rowV iV R)) (hno : ∀ g, v.ownBlock = some g → own g = false) (hx : Ext W w) (hok : OkR R) (hz : leadsP (prevP R R.length) z = true)
    (k : Ext w w1) (hg : w1.grownBy w2 v.ownBlock) (hr2 : w2.ownsRow W.heap.size 3 1 v' (R.length + 1) (rowV iV (R ++ [z]))) (hv : v'.ownBlock = v.ownBlock ∨ v'.ownBlock = some w1.heap.size) : TR P W bh own z v' (R ++ [z]) w2 := by
  have hr1 := (k.kept (fun _ _ => true)).row hr fun _ _ => rfl
  have kk : Kept (fun b _ => v.ownBlock != some b) w1 w2 := Kept.grown hg fun j o e _ => by simp [e]
  refine ⟨P.frame (Prog9.ext hp k) kk (fun b _ hb => ?_) (fun _ => ?_), hge, by rw [List.length_append, List.length_singleton]; exact hr2, fun g hgb => ?_, okR_snoc hok hz, prevP_last R z, grown_ext (hx.trans k) hg (own_base hr1)⟩
  · simp only [bne_iff_ne, ne_eq]
    intro e
    rw [hno b e] at hb
    cases hb
  · have q1 := P.tlt hT
    simp only [bne_iff_ne, ne_eq]
    intro e
    have := own_base hr1 _ e
    omega
  · rcases hv with e | e
    · exact hno g (by rw [← e]; exact hgb)
    · rw [e] at hgb
      cases hgb
      exact Prog9.fresh (Prog9.ext hp k) (Nat.le_refl _)
end
set_option maxHeartbeats 8000000 in
set_option maxRecDepth 100000 in
theorem turns_walk (P : Prog9) (Z : List Int) (A : Option Addr) (c : Nat) (W : World) (hZ : Row1 iV W A Z.length c Z) (hT0 : P.T W) (hn : Z.length ≤ 60) :
    Calls Tryd.prog 5 #[.slice A Z.length c] W fun e W' => e = .returned (.bool true) ∧ Ext W W' := by
  have g1 : ¬ (Z.length : Int) > 60 := by omega
  obtain ⟨i1, hi1, hy0, hy1, hy2⟩ := infoParts infoInt
  have HI1 := Lib.hid (And.intro hi1 (And.intro hy0 (And.intro hy1 hy2)))
  have HZ := Lib.hid hZ
  have HNEW := Lib.hid (P.new0 W hT0 1 (by omega))
  clear hZ hi1 hy0 hy1 hy2
  go_enter Tryd.func5, Tryd.ntmps5
  go_upto_region 5 with (go_at_call 8; refine HNEW.out.mono ?_; rintro e w1 ⟨bh, own, rfl, hp1, hx1, hg1⟩; have HTR := Lib.hid (show TR P W bh own (-1) (.slice none 0 0) [] w1 from ⟨hp1, hg1, World.ownsRow_nil _ _ _ _, fun g hg => by simp [Value.ownBlock] at hg, okR_nil, rfl, hx1⟩); clear hp1 hx1 hg1)
  go_wp2_with fail
  go_loopg [4, 5] Z.length (fun k v4 v5 wr => ∃ (i : Nat) (own : Nat → Bool) (st : Int) (R : List Int), i + k = Z.length ∧ v5 = .int .i64 i ∧ R.length ≤ i ∧ TR P W bh own st v4 R wr)
  case atStart => exact ⟨0, own, -1, [], by omega, rfl, by simp, HTR.out⟩
  case round =>
    clear HTR HNEW
    obtain ⟨i, own, st, R, hik, rfl, hRi, htr⟩ := hrel
    have HTR := Lib.hid htr
    obtain ⟨A2, c2, rfl⟩ := own_slice3 htr.row
    rcases Nat.lt_or_ge i Z.length with hi | hi
    · obtain ⟨g, off, rfl, hgW, c0'⟩ := Row1.at HZ.out hi
      have c0 := (htr.x.kept (fun _ _ => true)).cell c0' fun _ _ => rfl
      have hng : own g = false := by
        cases hc : own g with
        | false => rfl
        | true => have := htr.ge g hc; omega
      have HNG := Lib.hid hng
      clear c0' hng
      obtain ⟨q1, q2, q3⟩ := go_one st Z[i]
      have hmy := P.may htr.p 0 Z[i]
      have hgo := fun (w : World) (q : Ext wr w) => P.go (htr.ext q).p 0 Z[i]
      have hlg := (show g < wr.heap.size from World.block_lt_of_cell? wr _ c0)
      rw [q1] at hmy
      unfold iV at c0
      generalize Z[i] = z at c0 hmy hgo q1 q2 q3
      have z0 : (i : Int) < (Z.length : Int) := by omega
      cases hl : leadsP st z with
      | true =>
        obtain ⟨q4, q5⟩ := q2 hl
        rw [hl] at hmy
        rw [q4, q5] at hgo
        have HMY := Lib.hid hmy
        have HGO := Lib.hid hgo
        have HL := Lib.hid hl
        obtain ⟨hi1, hy0, hy1, hy2⟩ := HI1.out
        clear q1 q2 q3 q4 q5 hl hmy hgo htr
        go_upto_region 12 with (first
          | (go_at_call 17; refine (HGO.out _ HX3.out).mono ?_; rintro e w4 ⟨rfl, own', hp4, hk4, hn4⟩; have HG4 := Lib.hid ((HTR.out.ext HX3.out).go hp4 hk4 hn4); have c4 := hk4.cell c3 (fun _ _ => (by simp [pQ, HNG.out])); clear hp4 hk4 hn4)
          | (go_at_call 16; refine HMY.out.mono ?_; rintro e w3 ⟨rfl, hx3⟩; have HX3 := Lib.hid hx3; have c3 := (hx3.kept (fun _ _ => true)).cell c0 (fun _ _ => rfl); clear hx3))
        obtain ⟨p4, ge4, row4, no4, x4⟩ := HG4.out
        have hx4 := Ext.one w4 (.cells #[.int .i64 z] 3)
        have hrow := (hx4.kept (fun _ _ => true)).row row4 fun _ _ => rfl
        have hsr : Src (w4.alloc (.cells #[.int .i64 z] 3)) (.slice (some ⟨w4.heap.size, 0, none⟩) 1 1) 1 [.int .i64 z] := src_one (World.alloc_heap_new _ _)
        have hsz := x4.size
        have hlz : leadsP (prevP R R.length) z = true := by rw [HTR.out.st]; exact HL.out
        have HROW := Lib.hid hrow
        have HSR := Lib.hid hsr
        have HX4 := Lib.hid hx4
        have HLZ := Lib.hid hlz
        clear p4 ge4 row4 no4 x4 hx4 hrow hsr hlz c0 c3
        go_wp2_with (at_builtin; refine wpList_append_any rfl _ _ 39 rfl W.heap.size 3 i1 (.int .i64 0) 1 8 Tryd.underlying39 hi1 hy0 hy1 hy2 rfl (by decide) (.slice A2 R.length c2) R.length (rowV iV R) rfl HROW.out (.slice (some ⟨w4.heap.size, 0, none⟩) 1 1) 1 [.int .i64 z] rfl rfl HSR.out (by simp; rfl) (by unfold maxLen; omega) (by omega) (by simp; omega) (R.length + 1) rfl (rowV iV (R ++ [z])) (by simp [rowV, iV]) ?_; intro A5 c5 w5 hown5 hgrow5 hat5; have HT5 := Lib.hid (TR.more hT0 HG4.out.1 HG4.out.2.1 HG4.out.2.2.1 HG4.out.2.2.2.1 HG4.out.2.2.2.2 HTR.out.ok HLZ.out HX4.out hgrow5 hown5 hat5); clear hown5 hgrow5 hat5)
        go_roundg (gk - 1)
        case measure => omega
        case rel => exact ⟨i + 1, own', z, R ++ [z], by omega, by go_num, by simp; omega, HT5.out⟩
      | false =>
        obtain ⟨q4, q5⟩ := q3 hl
        rw [hl] at hmy
        rw [q5] at hgo
        obtain ⟨ge, hge⟩ : ∃ ge, ge = goE [st] 0 z := ⟨_, rfl⟩
        rw [← hge] at hgo q4
        have HMY := Lib.hid hmy
        have HGO := Lib.hid hgo
        clear q1 q2 q3 q5 hl hmy hgo htr hge
        go_wp2_with (first
          | (go_at_call 17; refine (HGO.out _ HX3.out).mono ?_; rintro e w4 ⟨rfl, own', hp4, hk4, hn4⟩; have HG4 := Lib.hid ((HTR.out.ext HX3.out).go hp4 hk4 hn4); clear hp4 hk4 hn4)
          | (go_at_call 16; refine HMY.out.mono ?_; rintro e w3 ⟨rfl, hx3⟩; have HX3 := Lib.hid hx3; have c3 := (hx3.kept (fun _ _ => true)).cell c0 (fun _ _ => rfl); clear hx3))
        obtain ⟨p4, ge4, row4, no4, x4⟩ := HG4.out
        go_roundg (gk - 1)
        case measure => omega
        case rel => exact ⟨i + 1, own', st, R, by omega, by go_num, by omega, ⟨p4, ge4, row4, no4, HTR.out.ok, HTR.out.st, x4⟩⟩
    · have z0 : ¬ (i : Int) < (Z.length : Int) := by omega
      have hRn : R.length ≤ 60 := by omega
      have HXX := Lib.hid htr.x
      have HROW := Lib.hid htr.row
      have HOK := Lib.hid htr.ok
      clear htr HTR hik hi hRi
      go_wp2_with fail
      clear HI1 HZ
      go_loopg [7, 8] R.length (fun k v7 v8 wx => ∃ (j : Nat), j + k = R.length ∧ v7 = .int .i64 (lastP R j) ∧ v8 = .int .i64 j ∧ wx.ownsRow W.heap.size 3 1 (.slice A2 R.length c2) R.length (rowV iV R) ∧ Ext W wx)
      case atStart => exact ⟨0, by omega, rfl, rfl, HROW.out, HXX.out⟩
      case round =>
        clear HROW HXX
        obtain ⟨j, hjk, rfl, rfl, hrow, hx⟩ := hrel
        rcases Nat.lt_or_ge j R.length with hj | hj
        · obtain ⟨g, c9, e9, c0, hgl⟩ := own1_cell hrow hj
          cases e9
          obtain ⟨a1, a2, a3⟩ := okR_all HOK.out hj
          have hz : R.getD j 0 = R[j] := by simp [List.getD_eq_getElem?_getD, hj]
          have hl := leads_cases (HOK.out j hj)
          obtain ⟨l1, l2, l3⟩ := okR_last HOK.out j (by omega)
          have hnx := lastP_next R hj
          rw [hz] at hl
          unfold iV at c0
          have z0 : (j : Int) < (R.length : Int) := by omega
          have HROW := Lib.hid hrow
          have HX := Lib.hid hx
          generalize R[j] = z at c0 a1 a2 a3 hl hnx
          clear hrow hx hz
          obtain ⟨la, hla⟩ : ∃ la, la = lastP R j := ⟨_, rfl⟩
          obtain ⟨lb, hlb⟩ : ∃ lb, lb = lastP R (j + 1) := ⟨_, rfl⟩
          rw [← hla] at l1 l2 a2 a3 hnx ⊢
          rw [← hlb] at hnx
          have HLB := Lib.hid hlb
          clear hla hlb
          rcases hl with ⟨rfl, hp⟩ | ⟨rfl, hp⟩ | ⟨rfl, hp⟩ | ⟨rfl, hp⟩
          · have hj0 : j = 0 := a1.1 rfl
            obtain rfl : la = 2 := l1 (by omega)
            obtain rfl : lb = 2 := by simpa using hnx
            subst hj0
            clear a1 a2 a3 l1 l2 l3 hp hnx
            go_wp2_with fail
            go_roundg (gk - 1)
            case measure => omega
            case rel => exact ⟨1, by omega, by rw [← HLB.out], by go_num, HROW.out, HX.out⟩
          · have hj0 : ((j : Int) == 0) = false := by have := a1.2; simp; intro e; have := a1.2 (by omega); omega
            obtain rfl : la = 2 := l1 (by omega)
            obtain rfl : lb = 1 := by simpa using hnx
            clear a1 a2 a3 l1 l2 l3 hp hnx
            go_wp2_with fail
            go_roundg (gk - 1)
            case measure => omega
            case rel => exact ⟨j + 1, by omega, by rw [← HLB.out], by go_num, HROW.out, HX.out⟩
          · have hj0 : ((j : Int) == 0) = false := by have := a1.2; simp; intro e; have := a1.2 (by omega); omega
            obtain rfl : la = 1 := l2 hp
            obtain rfl : lb = 2 := by simpa using hnx
            clear a1 a2 a3 l1 l2 l3 hp hnx
            go_wp2_with fail
            go_roundg (gk - 1)
            case measure => omega
            case rel => exact ⟨j + 1, by omega, by rw [← HLB.out], by go_num, HROW.out, HX.out⟩
          · have hj0 : ((j : Int) == 0) = false := by have := a1.2; simp; intro e; have := a1.2 (by omega); omega
            obtain rfl : la = 2 := l1 (by omega)
            obtain rfl : lb = 2 := by simpa using hnx
            have hje : j + 1 = R.length := (a2 rfl).1
            have hjl : ((j : Int) != (R.length : Int) - 1) = false := by simp; omega
            have hw1 : IntKind.i64.wrap ((R.length : Int) - 1) = (R.length : Int) - 1 := by rw [IntKind.wrap_i64]; omega
            have HJE := Lib.hid hje
            clear a1 a2 a3 l1 l2 l3 hp hnx hje
            go_wp2_with fail
            go_roundg (gk - 1)
            case measure => omega
            case rel => exact ⟨j + 1, by omega, by rw [← HLB.out], by go_num, HROW.out, HX.out⟩
        · have z0 : ¬ (j : Int) < (R.length : Int) := by omega
          have HX := Lib.hid hx
          clear hrow hx
          have hkn := Lib.hid (known_ok P wr (Prog9.text hT0 HX.out))
          go_wp2_with (go_at_call 7; refine hkn.out.mono ?_; rintro e w7 ⟨rfl, hx7⟩)
          go_ret
          exact ⟨rfl, HX.out.trans hx7⟩
end Go.Proofs.YtecehjcombkkaaaDoor
