/- detentlaw01.TokenWords: its walk. -/
import Derived.Test.YtpdljjlbjebmeaaTokV
import Derived.Test.YtpdljjlbjebmeaaTokS
import Derived.Test.YtpdljjlbjebmeaaTokW
import Derived.Deep.RegionHeld3
import Derived.Deep.CutRange
namespace Go.Proofs.Ytpdljjlbjebmeaa
open Go.RowKit Go.Maps Go.Sort Go.Shelf

def wordAt (j : Nat) : List UInt8 := wordsL.getD j []
/-- What the loop over the words keeps: the program's list (its first k entries are struck), the reference's. -/
structure WR (w : World) (g g2 k : Nat) (wr : World) : Prop where
  below : Below w.heap.size w wr
  own : ∀ j, k ≤ j → j < 36 → wr.cell? ⟨g, j, none⟩ = some (.string ⟨(wordAt j).toArray⟩)
  free : ∀ j, wr.frozen? ⟨g, j, none⟩ = false
  ref : ∀ j, j < 36 → wr.cell? ⟨g2, j, none⟩ = some (.string ⟨(wordAt j).toArray⟩)
  lo : w.heap.size ≤ g
  hi : g < wr.heap.size
  hi2 : g2 < wr.heap.size
  ne : g ≠ g2
theorem WR.after {w wr w2 : World} {g g2 k : Nat} (h : WR w g g2 k wr) (hb : Below wr.heap.size wr w2) : WR w g g2 k w2 :=
  ⟨h.below.trans (hb.mono h.below.size), fun j h1 h2 => (hb.cell (by exact h.hi)).trans (h.own j h1 h2), fun j => (hb.frozen (by exact h.hi)).trans (h.free j), fun j hj => (hb.cell (by exact h.hi2)).trans (h.ref j hj), h.lo, Nat.lt_of_lt_of_le h.hi hb.size, Nat.lt_of_lt_of_le h.hi2 hb.size, h.ne⟩
theorem WR.drewN {w wr : World} {g g2 k : Nat} (h : WR w g g2 k wr) (n : Nat) : WR w g g2 k (wr.drewN n) :=
  ⟨⟨h.below.os, h.below.tape, h.below.output, h.below.size, h.below.block⟩, h.own, h.free, h.ref, h.lo, h.hi, h.hi2, h.ne⟩
theorem WR.step {w wr : World} {g g2 k : Nat} (h : WR w g g2 k wr) (u : Value) : WR w g g2 (k + 1) (wr.setCell ⟨g, k, none⟩ u) := by
  refine ⟨h.below.setCell (p := ⟨g, k, none⟩) h.lo u, fun j h1 h2 => (World.cell?_setCell_other _ _ _ _ (fun e => by injection e; omega)).trans (h.own j (by omega) h2), fun j => ?_, fun j hj => (World.cell?_setCell_other _ _ _ _ (fun e => by injection e with e1 _ _; exact h.ne e1)).trans (h.ref j hj), h.lo, by simpa [World.setCell] using h.hi, by simpa [World.setCell] using h.hi2, h.ne⟩
  have := h.free j
  simpa [go_sem] using this
/-- What a call that makes memory leaves of the two cells. -/
def Kept (W w' : World) : Prop := Below W.heap.size W w'
theorem call_kept {f : Nat} {x : List UInt8} {r : Bool} {g g2 k : Nat} {W : World} (h : Calls Try.prog f #[.string ⟨x.toArray⟩] W fun e w' => e = .returned (.bool r) ∧ Below W.heap.size W w') (h1 : W.cell? ⟨g, k, none⟩ = some (.string ⟨x.toArray⟩)) (h2 : W.cell? ⟨g2, k, none⟩ = some (.string ⟨x.toArray⟩)) :
    Calls Try.prog f #[.string ⟨x.toArray⟩] W fun e w' => e = .returned (.bool r) ∧ w'.cell? ⟨g, k, none⟩ = some (.string ⟨x.toArray⟩) ∧ w'.cell? ⟨g2, k, none⟩ = some (.string ⟨x.toArray⟩) ∧ Kept W w' :=
  h.mono fun e w' ⟨he, hb⟩ => ⟨he, (hb.cell (by exact World.block_lt_of_cell? W _ h1)).trans h1, (hb.cell (by exact World.block_lt_of_cell? W _ h2)).trans h2, hb⟩
theorem wordAt_word (k : Nat) (h : k < 36) : isW (wordAt k) = true := isW_hit _ k h rfl

theorem words_row {w : World} {base : Nat} {v : Value} (h : w.ownsRow base 9 1 v 36 (wordsL.map encStr)) : ∃ g cap, v = .slice (some ⟨g, 0, none⟩) 36 cap ∧ base ≤ g ∧ g < w.heap.size ∧ (∀ j, j < 36 → w.cell? ⟨g, j, none⟩ = some (.string ⟨(wordAt j).toArray⟩)) ∧ ∀ j, w.frozen? ⟨g, j, none⟩ = false := by
  rcases h.2 with ⟨_, h0⟩ | ⟨g, cap, cur, hv, hb, hg, _⟩
  · exact absurd h0 (by decide)
  · obtain ⟨g', cap', e, h1, h2, hc⟩ := own_some h (by decide)
    rw [hv] at e
    injection e with e1 _ e3
    injection e1 with e1
    injection e1 with e1
    subst e1 e3
    refine ⟨g, cap, hv, hb, h2, fun j hj => hc j _ ?_, fun j => by simp [World.frozen?, hg]⟩
    have hl : j < wordsL.length := hj
    rw [List.getElem?_map, List.getElem?_eq_getElem hl]
    unfold wordAt
    rw [List.getD, List.getElem?_eq_getElem hl]
    rfl

set_option maxRecDepth 100000 in
set_option maxHeartbeats 1000000 in
theorem words_walk (l : List UInt8) (w : World) (hn : l.length ≤ 300) :
    Calls Try.prog 4 #[.string ⟨l.toArray⟩] w fun e w' => e = .returned (.bool true) ∧ Below w.heap.size w w' := by
  have h3 : decide (300 < (l.length : Int)) = false := by simp; omega
  have h3' : decide (300 < l.length) = false := by simp; omega
  go_enter Try.func4, Try.ntmps4
  go_wp2_with fail
  refine (words_ok _).mono ?_
  rintro e w1 ⟨v, rfl, hrow, hb1⟩
  obtain ⟨g, cap, rfl, hgl, hgh, hgc, hgf⟩ := words_row hrow
  have HB1 := Lib.hid hb1
  have HGC := Lib.hid hgc
  have HGF := Lib.hid hgf
  clear hrow hb1 hgc hgf
  go_wp2_with fail
  refine (refWords_ok _).mono ?_
  rintro e w2 ⟨rfl, rfl⟩
  have hwr : WR w g w1.heap.size 0 (w1.alloc (.cells (scs wordsL).toArray 9)) :=
    ⟨HB1.out.trans (((Below.refl _ _).alloc (Nat.le_refl _) _).mono HB1.out.size), fun j _ hj => (World.cell?_alloc_lt _ _ _ hgh).trans (HGC.out j hj), fun j => by rw [← HGF.out j]; exact ((Below.refl w1.heap.size w1).alloc (Nat.le_refl _) _).frozen (p := ⟨g, j, none⟩) hgh, fun j hj => words_at w1 j hj, hgl, by simp; omega, by simp, by omega⟩
  have HWR := Lib.hid hwr
  clear hwr
  generalize w1.alloc (.cells (scs wordsL).toArray 9) = w2 at HWR ⊢
  generalize w1.heap.size = g2 at HWR ⊢
  go_wp2_with fail
  go_loopg [5] 36 (fun k v5 wr => ∃ i : Nat, i + k = 36 ∧ v5 = .int .i64 i ∧ WR w g g2 i wr)
  case atStart => exact ⟨0, rfl, rfl, HWR.out⟩
  case round =>
    obtain ⟨i, hik, rfl, hI⟩ := hrel
    have HIK := Lib.hid hik
    have HI := Lib.hid hI
    have hi : i ≤ 36 := by omega
    clear hik hI HWR
    by_cases hlt : i < 36
    · have hW := wordAt_word i hlt
      have c1 := HI.out.own i (Nat.le_refl _) hlt
      have c2 := HI.out.ref i hlt
      have f1 := HI.out.free i
      have ciw : ∀ W, Calls Try.prog 14 #[.string ⟨(wordAt i).toArray⟩] W fun e w' => e = .returned (.bool true) ∧ Below W.heap.size W w' := fun W => by
        have := isWord_ok (wordAt i) W
        rw [hW] at this
        exact this
      have cin : ∀ W, Calls Try.prog 15 #[.string ⟨(wordAt i).toArray⟩] W fun e w' => e = .returned (.bool false) ∧ Below W.heap.size W w' := fun W => by
        have := isName_ok (wordAt i) W (by have := isW_len _ hW; omega)
        rw [hW] at this
        simpa using this
      have HCW := Lib.hid ciw
      have HCN := Lib.hid cin
      clear ciw cin hW
      generalize wordAt i = x at c1 c2 HCW HCN
      go_upto_region 9 with (fail)
      go_cut [50] from 21 to 53 (fun s50 wx => s50 = .bool false ∧ Kept wr wx)
      case first =>
        go_region_held3 (fun w' => w'.cell? ⟨g, i, none⟩ = some (.string ⟨x.toArray⟩) ∧ w'.cell? ⟨g2, i, none⟩ = some (.string ⟨x.toArray⟩)) (simp [go_sem, *])
          (first
            | (go_at_call 14; refine (call_kept (g := g) (g2 := g2) (k := i) (HCW.out _) ?_ ?_).mono ?_; (simp [*]); (simp [*]); rintro e wa ⟨rfl, k1, k2, hka⟩)
            | (go_at_call 15; refine (call_kept (g := g) (g2 := g2) (k := i) (HCN.out _) ?_ ?_).mono ?_; (simp [*]); (simp [*]); rintro e wb ⟨rfl, k1, k2, hkb⟩))
        go_wp2_with fail
        go_meet
        have b1 : Below wr.heap.size wr wa := (Below.refl wr.heap.size wr).drew.trans hka
        exact ⟨rfl, b1.trans (Below.mono hkb b1.size)⟩
      case rest =>
        obtain ⟨rfl, hkept⟩ := hcut
        have HI2 := Lib.hid (HI.out.after hkept)
        have c3 := HI2.out.own i (Nat.le_refl _) hlt
        have f3 := HI2.out.free i
        clear c1 c2 f1 hkept HI HCW HCN
        go_wp2_with fail
        go_roundg (gk - 1)
        case measure => have := HIK.out; omega
        case rel => exact ⟨i + 1, by have := HIK.out; omega, by go_num, HI2.out.step _⟩
    · obtain rfl : i = 36 := by omega
      go_wp2_with (first
        | (go_at_call 16; refine (number_ok l _ (by omega)).mono ?_; rintro e wa ⟨rfl, hba⟩)
        | (go_at_call 17; refine (refNumber_ok l _ (by omega)).mono ?_; rintro e wn ⟨rfl, rfl⟩)
        | (go_at_call 14; refine (isWord_ok l _).mono ?_; rintro e wb ⟨rfl, hbb⟩)
        | (go_at_call 18; refine (refIsWord_ok l _).mono ?_; rintro e wc ⟨rfl, hbc⟩)
        | (go_at_call 15; refine (isName_ok l _ (by omega)).mono ?_; rintro e wd ⟨rfl, hbd⟩)
        | (go_at_call 19; refine (refIsName_ok l _ (by omega)).mono ?_; rintro e we ⟨rfl, hbe⟩)
        | (go_at_call 8; refine (known_ok _).mono ?_; rintro e wf ⟨rfl, hbf⟩))
      go_ret
      have z0 := HI.out.below.size
      have z1 := hba.size
      have z2 := hbb.size
      have z3 := hbc.size
      have z4 := hbd.size
      have z5 := hbe.size
      exact ⟨rfl, HI.out.below.trans ((hba.mono z0).trans ((hbb.mono (by omega)).trans ((hbc.mono (by omega)).trans ((hbd.mono (by omega)).trans ((hbe.mono (by omega)).trans (hbf.mono (by omega)))))))⟩
end Go.Proofs.Ytpdljjlbjebmeaa
