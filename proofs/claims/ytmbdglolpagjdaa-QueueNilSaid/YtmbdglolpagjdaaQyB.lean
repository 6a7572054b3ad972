/- QueuePlays' walk. -/
import Derived.Test.YtmbdglolpagjdaaQyA
import Derived.Test.YtmbdglolpagjdaaQxF
namespace Go.Proofs.Ytmbdglolpagjdaa
open Go.RowKit Go.Shelf
attribute [local go_sem] Oper.semAt_some
abbrev Acts (w : World) (A : Option Addr) (T : List ActD) : Prop := Rows3 ActD.cells 5 (fun a => (Lit.int .i64 a.t).wf = true) w A T
theorem Acts.at {w : World} {A : Option Addr} {T : List ActD} (h : Acts w A T) {i : Nat} (hi : i < T.length) : ∃ g off x, A = some ⟨g, off, none⟩ ∧ (Lit.int .i64 x.t).wf = true ∧ w.cell? ⟨g, off + i * 5, none⟩ = some (.int .i64 (ActD.k x)) ∧ w.cell? ⟨g, off + i * 5 + 1, none⟩ = some (.int .i64 x.t) ∧ w.cell? ⟨g, off + i * 5 + 2, none⟩ = some (.bool x.f) ∧ w.cell? ⟨g, off + i * 5 + 3, none⟩ = some (.int .i64 x.d) ∧ w.cell? ⟨g, off + i * 5 + 4, none⟩ = some (.int .i64 x.n) := by
  obtain ⟨g, off, h1, _, h3, h4⟩ := h i T[i] (List.getElem?_eq_getElem hi)
  exact ⟨g, off, T[i], h1, h3, h4 0 _ rfl, h4 1 _ rfl, h4 2 _ rfl, h4 3 _ rfl, h4 4 _ rfl⟩
section
variable {W : World}
theorem Both.new {bq bw : Nat} {w : World} (hq : QV (newQ bq) bq [] 0 w) (hw : w.heap[bw]? = some (.cells #[.slice none 0 0] 29 (0, 0))) : Both (newQ bq) bq bw [] [] 0 w :=
  ⟨hq, ⟨_, hw, World.ownsRow_nil _ _ _ _⟩, .nil⟩
/-- What two queues that were made since W leave of it. -/
theorem Next2.since {own : Nat → Bool} {bq bw : Nat} {pu : Int} {w w' : World} (hx : Ext W w) (hge : ∀ b, own b = true → W.heap.size ≤ b) (hbw : W.heap.size ≤ bw) (h : Next2 own bq bw pu w w') :
    ∃ own' l' E' pu', Both own' bq bw l' E' pu' w' ∧ pu' ≤ pu + 1 ∧ (∀ b, own' b = true → W.heap.size ≤ b) ∧ Ext W w' := by
  obtain ⟨own', l', E', pu', h1, h2, h3, h4⟩ := h
  refine ⟨own', l', E', pu', h1, h2, fun b hb => ?_, Kept.trans hx (h3.mono fun b t _ hp => ?_)⟩
  · have := hx.size
    rcases h4 b hb with h | h
    · exact hge b h
    · omega
  · simp [pOld] at hp
    simp only [pB, Bool.and_eq_true, Bool.not_eq_true', bne_iff_ne, ne_eq]
    refine ⟨?_, by omega⟩
    cases hc : own b with
    | false => rfl
    | true => have := hge b hc; omega
set_option maxHeartbeats 4000000 in
set_option maxRecDepth 100000 in
theorem plays_walk (T : List ActD) (A : Option Addr) (c : Nat) (W : World) (hT : Acts W A T) (hn : T.length ≤ 60) :
    Calls Try.prog 3 #[.slice A T.length c] W fun e W' => e = .returned (.bool true) ∧ Ext W W' := by
  have HT := Lib.hid hT
  have HNEW := Lib.hid (New_ok W)
  have hn' : ¬ (T.length : Int) > 60 := by omega
  clear hT
  go_enter Try.func3, Try.ntmps3
  go_upto_region 4 with (go_at_call 9; refine HNEW.out.mono ?_; rintro e w1 ⟨rfl, hx1, hq1⟩; have HX1 := Lib.hid hx1; have HQ1 := Lib.hid hq1; clear hx1 hq1)
  obtain ⟨w2, hw2⟩ : ∃ w2, w2 = w1.alloc (.cells #[.slice none 0 0] 29 (0, 0)) := ⟨_, rfl⟩
  have hE2 : Ext w1 w2 := by rw [hw2]; exact Ext.one _ _
  have hb2 : w2.heap[w1.heap.size]? = some (.cells #[.slice none 0 0] 29 (0, 0)) := by rw [hw2]; exact World.alloc_heap_new _ _
  have hboth := Both.new (HQ1.out.ext hE2) hb2
  have hx2 := HX1.out.trans hE2
  have hbw := HX1.out.size
  change Code.wp _ _ _ _ (w1.alloc (.cells #[.slice none 0 0] 29 (0, 0)))
  rw [← hw2]
  have HB2 := Lib.hid hboth
  have HX2 := Lib.hid hx2
  clear hw2 hE2 hb2 hboth hx2 HX1 HQ1 HNEW
  generalize w1.heap.size = bw at *
  go_wp2_with fail
  go_loopg [5] T.length (fun k v5 wr => ∃ (i : Nat) (own : Nat → Bool) (l E : List Ent) (pu : Int), i + k = T.length ∧ v5 = .int .i64 i ∧ Both own W.heap.size bw l E pu wr ∧ pu ≤ i ∧ (∀ b, own b = true → W.heap.size ≤ b) ∧ Ext W wr)
  case atStart => exact ⟨0, _, [], [], 0, by omega, rfl, HB2.out, by omega, fun b hb => by simp [newQ] at hb; omega, HX2.out⟩
  case round =>
    clear HB2 HX2
    obtain ⟨i, own, l, E, pu, hik, rfl, hbo, hpu, hge, hx⟩ := hrel
    have hpu0 : 0 ≤ pu := by have := hbo.pl.len; omega
    have HBO := Lib.hid hbo
    have HGE := Lib.hid hge
    have HX := Lib.hid hx
    have hTr := HT.out.kept hx
    rcases Nat.lt_or_ge i T.length with hi | hi
    · obtain ⟨g, off, x, rfl, hwf, a0, a1, a2, a3, a4⟩ := Acts.at hTr hi
      have hdo := do_ok hbo x.k x.t x.d x.n x.f hwf ⟨hpu0, by omega⟩
      have hil : (i : Int) < (T.length : Int) := by omega
      have HDO := Lib.hid hdo
      clear hbo hge hx hTr hdo hwf
      go_wp2_with (first
        | (go_at_call 10; refine HDO.out.mono ?_; rintro e w3 ⟨rfl, hn3⟩; obtain ⟨own', l', E', pu', hb3, hp3, hg3, hx3⟩ := hn3.since HX.out HGE.out hbw; have hpl3 := hb3.pl.len; have hsm := same_ok hb3 ⟨(by omega), (by omega)⟩; have HSM := Lib.hid hsm; have HB3 := Lib.hid hb3; have HG3 := Lib.hid hg3; have HX3 := Lib.hid hx3; clear hn3 hb3 hg3 hx3 hsm)
        | (go_at_call 11; refine HSM.out.mono ?_; rintro e w4 ⟨rfl, hx4⟩; have HX4 := Lib.hid hx4; clear hx4))
      go_roundg (gk - 1)
      case measure => omega
      case rel => exact ⟨i + 1, own', l', E', pu', by omega, by go_num, HB3.out.ext HX4.out, by omega, HG3.out, HX3.out.trans HX4.out⟩
    · have hil : ¬ (i : Int) < (T.length : Int) := by omega
      have hkn := known_ok wr
      clear hbo hge hx hTr
      go_wp2_with (go_at_call 8; refine hkn.mono ?_; rintro e w4 ⟨rfl, hx4⟩)
      go_ret
      exact ⟨rfl, HX.out.trans hx4⟩
end
end Go.Proofs.Ytmbdglolpagjdaa
