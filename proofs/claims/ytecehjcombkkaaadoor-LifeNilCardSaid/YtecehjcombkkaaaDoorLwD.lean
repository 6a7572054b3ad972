/- The law's known. -/
import Derived.Test.YtecehjcombkkaaaDoorLwC
namespace Go.Proofs.YtecehjcombkkaaaDoor
open Go.RowKit Go.Shelf
attribute [local go_sem] Oper.semAt_some
def knW (i : Nat) : Int := [0, 1, 2, 1, 2, 3].getD i 0
def knC (i : Nat) : List Int := [[-1, -1], [0, -1], [1, -1], [2, -1], [1, -1], [2, -1], [3, -1]].getD i []
theorem kn_step : ∀ i : Nat, i < 6 → mayO (knC i) 0 (knW i) = true ∧ goE (knC i) 0 (knW i) = 0 ∧ goL (knC i) 0 (knW i) = knC (i + 1) := by decide
theorem kn_cell {w : World} {b : Nat} (h : w.heap[b]? = some (.cells #[.int .i64 0, .int .i64 1, .int .i64 2, .int .i64 1, .int .i64 2, .int .i64 3] 3 (0, 0))) : ∀ i : Nat, i < 6 → w.cell? ⟨b, i, none⟩ = some (.int .i64 (knW i)) := by
  intro i hi
  match i, hi with
  | 0, _ => simp [World.cell?, h, knW]
  | 1, _ => simp [World.cell?, h, knW]
  | 2, _ => simp [World.cell?, h, knW]
  | 3, _ => simp [World.cell?, h, knW]
  | 4, _ => simp [World.cell?, h, knW]
  | 5, _ => simp [World.cell?, h, knW]
section

theorem Prog9.new0 (P : Prog9) (W : World) (hT : P.T W) (n : Int) (hn : n ≤ 100) : Calls Tryd.prog 8 #[.int .i64 n, .slice none 0 0] W fun e W' => ∃ bh own, e = .returned (.pointer (some ⟨bh, 0, none⟩)) ∧ P.PL own bh (List.replicate n.toNat (-1)) [] W' ∧ Ext W W' ∧ ∀ b, own b = true → W.heap.size ≤ b :=
  P.new n [] none 0 W (.inl ⟨rfl, rfl, rfl⟩) hT hn (by simp)
set_option maxHeartbeats 4000000 in
set_option maxRecDepth 100000 in
theorem known_ok (P : Prog9) (W : World) (hT : P.T W) : Calls Tryd.prog 7 #[] W fun e W' => e = .returned (.bool true) ∧ Ext W W' := by
  have HNEW := Lib.hid (P.new0 W hT 2 (by omega))
  go_enter Tryd.func7, Tryd.ntmps7
  go_upto_region 2 with (go_at_call 8; refine HNEW.out.mono ?_; rintro e w1 ⟨bh, own, rfl, hp1, hx1, hg1⟩; have HP1 := Lib.hid hp1; have HX1 := Lib.hid hx1; have HG1 := Lib.hid hg1; clear hp1 hx1 hg1)
  go_upto_region 3 with (fail)
  obtain ⟨w2, hw2⟩ : ∃ w2, w2 = w1.alloc (.cells #[.int .i64 0, .int .i64 1, .int .i64 2, .int .i64 1, .int .i64 2, .int .i64 3] 3) := ⟨_, rfl⟩
  change Code.wp _ _ _ _ (w1.alloc (.cells #[.int .i64 0, .int .i64 1, .int .i64 2, .int .i64 1, .int .i64 2, .int .i64 3] 3))
  rw [← hw2]
  have hx2 : Ext w1 w2 := by rw [hw2]; exact Ext.one _ _
  have hb2 : w2.heap[w1.heap.size]? = some (.cells #[.int .i64 0, .int .i64 1, .int .i64 2, .int .i64 1, .int .i64 2, .int .i64 3] 3 (0, 0)) := by rw [hw2]; exact World.alloc_heap_new _ _
  have hob : own w1.heap.size = false := Prog9.fresh HP1.out (Nat.le_refl _)
  have HR := Lib.hid (show ∃ own, P.PL own bh (knC 0) [] w2 ∧ (∀ b, own b = true → W.heap.size ≤ b) ∧ own w1.heap.size = false ∧ w2.heap[w1.heap.size]? = some (.cells #[.int .i64 0, .int .i64 1, .int .i64 2, .int .i64 1, .int .i64 2, .int .i64 3] 3 (0, 0)) ∧ Ext W w2 from ⟨own, Prog9.ext HP1.out hx2, HG1.out, hob, hb2, HX1.out.trans hx2⟩)
  clear hw2 hx2 hb2 hob HNEW HP1 HX1 HG1
  generalize w1.heap.size = bq at *
  go_wp2_with fail
  go_loopg [3] 6 (fun k v3 wr => ∃ (i : Nat), i + k = 6 ∧ v3 = .int .i64 i ∧ ∃ own, P.PL own bh (knC i) [] wr ∧ (∀ b, own b = true → W.heap.size ≤ b) ∧ own bq = false ∧ wr.heap[bq]? = some (.cells #[.int .i64 0, .int .i64 1, .int .i64 2, .int .i64 1, .int .i64 2, .int .i64 3] 3 (0, 0)) ∧ Ext W wr)
  case atStart => exact ⟨0, by omega, rfl, HR.out⟩
  case round =>
    clear HR
    obtain ⟨i, hik, rfl, own, hp, hge, hob, hbq, hx⟩ := hrel
    have HP := Lib.hid hp
    have HGE := Lib.hid hge
    have HOB := Lib.hid hob
    have HBQ := Lib.hid hbq
    have HX := Lib.hid hx
    by_cases hi : i < 6
    · have z0 : (i : Int) < 6 := by omega
      obtain ⟨s1, s2, s3⟩ := kn_step i hi
      have c0 := kn_cell hbq i hi
      have hlq := (Array.getElem?_eq_some_iff.1 hbq).1
      have hmy := P.may hp 0 (knW i)
      have hgo := fun (w : World) (q : Ext wr w) => P.go (Prog9.ext hp q) 0 (knW i)
      rw [s1] at hmy
      rw [s2, s3] at hgo
      have hbq2 := fun (w : World) (q : Ext wr w) => (q.kept (fun _ _ => true)).same _ _ hbq rfl
      have HMY := Lib.hid hmy
      have HGO := Lib.hid hgo
      have HBQ2 := Lib.hid hbq2
      have HI := Lib.hid hi
      generalize knW i = wi at *
      clear hp hge hob hbq hx hmy hgo s1 s2 s3 hbq2
      go_wp2_with (first
        | (go_at_call 17; refine (HGO.out _ HX3.out).mono ?_; rintro e w4 ⟨rfl, own', hp4, hk4, hn4⟩; have HP4 := Lib.hid hp4; have HK4 := Lib.hid hk4; have HN4 := Lib.hid hn4; clear hp4 hk4 hn4)
        | (go_at_call 16; refine HMY.out.mono ?_; rintro e w3 ⟨rfl, hx3⟩; have HX3 := Lib.hid hx3; have c3 := (hx3.kept (fun _ _ => true)).cell c0 (fun _ _ => rfl); have l3 : bq < w3.heap.size := Nat.lt_of_lt_of_le hlq hx3.size; clear hx3))
      have hsz := (Array.getElem?_eq_some_iff.1 HBQ.out).1
      have hs3 := HX3.out.size
      go_roundg (gk - 1)
      case measure => omega
      case rel => exact ⟨i + 1, by omega, by go_num, own', HP4.out, ownSince (HX.out.trans HX3.out) HGE.out HN4.out, (by
        cases hc : own' bq with
        | false => rfl
        | true =>
          rcases HN4.out bq hc with q | q
          · rw [HOB.out] at q; cases q
          · omega), HK4.out.same _ _ (HBQ2.out _ HX3.out) (by simp [pQ, HOB.out]), keptSince (HX.out.trans HX3.out) HGE.out HK4.out⟩
    · have hi6 : i = 6 := by omega
      subst hi6
      have hp6 : P.PL own bh [3, -1] [] wr := hp
      have g1 := P.go hp6 1 0
      rw [show goE [3, -1] 1 0 = 0 by decide, show goL [3, -1] 1 0 = [3, 0] by decide] at g1
      have G1 := Lib.hid g1
      clear hp hge hob hbq hx hp6 g1
      go_wp2_with (first
        | (go_at_call 17; have h8 := HX8; have g3 := P.go (Prog9.ext HP7.out h8.out) 1 2; rw [show goE [3, 0] 1 2 = 10 by decide] at g3; refine g3.mono ?_; rintro e w9 ⟨rfl, own9, _, hk9, _⟩; have HX9 := Lib.hid (keptSince (HX7.out.trans h8.out) HG7.out hk9); clear hk9 h8 g3)
        | (go_at_call 16; have g2 := P.may HP7.out 1 2; rw [show mayO [3, 0] 1 2 = false by decide] at g2; refine g2.mono ?_; rintro e w8 ⟨rfl, hx8⟩; have HX8 := Lib.hid hx8; clear hx8 g2)
        | (go_at_call 17; refine G1.out.mono ?_; rintro e w7 ⟨rfl, own7, hp7, hk7, hn7⟩; have HP7 := Lib.hid hp7; have HX7 := Lib.hid (keptSince HX.out HGE.out hk7); have HG7 := Lib.hid (ownSince HX.out HGE.out hn7); clear hp7 hk7 hn7))
      go_ret
      exact ⟨rfl, HX9.out⟩
end
end Go.Proofs.YtecehjcombkkaaaDoor
