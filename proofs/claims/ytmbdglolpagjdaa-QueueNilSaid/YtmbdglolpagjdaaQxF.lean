/- The law's known. -/
import Derived.Test.YtmbdglolpagjdaaQxE
namespace Go.Proofs.Ytmbdglolpagjdaa
open Go.RowKit Go.Shelf
attribute [local go_sem] Oper.semAt_some

def K5 : List Ent := [⟨1, false, 5, 0⟩, ⟨2, false, 3, 1⟩, ⟨3, true, 0, 2⟩, ⟨4, false, 3, 3⟩, ⟨5, true, 0, 4⟩]
def T5 : List Ent := [⟨5, true, 0, 4⟩, ⟨3, true, 0, 2⟩, ⟨2, false, 3, 1⟩, ⟨4, false, 3, 3⟩, ⟨1, false, 5, 0⟩]
theorem K5_at : ∀ i, i < 5 → 0 ≤ (nth K5 i).task ∧ (nth K5 i).task ≤ 9 ∧ 0 ≤ (nth K5 i).due ∧ (nth K5 i).nth = (i : Int) ∧ hasE (K5.take i) (nth K5 i).task = false ∧ K5.take (i + 1) = K5.take i ++ [nth K5 i] := by decide
theorem K5_srt {l : List Ent} (h : l.Perm K5) : srt l = T5 := by
  have ho : Ord K5 := by unfold Ord; decide
  have hs : Srt T5 := by unfold Srt; decide
  have hp : T5.Perm K5 := by decide
  exact Srt.eq (ho.tri.perm h) (srt_perm l) (hp.trans h.symm) (srt_srt l) hs
def itm5 : Obj := .cells #[.int .i64 1, .bool false, .int .i64 5, .int .i64 2, .bool false, .int .i64 3, .int .i64 3, .bool true, .int .i64 0, .int .i64 4, .bool false, .int .i64 3, .int .i64 5, .bool true, .int .i64 0] 32 (0, 0)
theorem itm5_own {W : World} {b : Nat} (h : W.heap[b]? = some itm5) : W.ownsRow 0 32 3 (.slice (some ⟨b, 0, none⟩) K5.length 5) K5.length (row3 K5) :=
  ⟨rfl, .inr ⟨b, 5, _, rfl, Nat.zero_le _, h, by decide, by unfold maxLen; decide, rfl, rfl⟩⟩
section
variable {W : World}
set_option maxHeartbeats 4000000 in
set_option maxRecDepth 100000 in
theorem known_ok (W : World) : Calls Try.prog 8 #[] W fun e W' => e = .returned (.bool true) ∧ Ext W W' := by
  have HNEW := Lib.hid (New_ok W)
  go_enter Try.func8, Try.ntmps8
  go_upto_region 3 with (go_at_call 9; refine HNEW.out.mono ?_; rintro e w1 ⟨rfl, hx1, hq1⟩; have HX1 := Lib.hid hx1; have HQ1 := Lib.hid hq1; clear hx1 hq1)
  obtain ⟨w2, hw2⟩ : ∃ w2, w2 = w1.alloc itm5 := ⟨_, rfl⟩
  have hE2 : Ext w1 w2 := by rw [hw2]; exact Ext.one _ _
  have hb2 : w2.heap[w1.heap.size]? = some itm5 := by rw [hw2]; exact World.alloc_heap_new _ _
  have hx2 := HX1.out.trans hE2
  have hq2 := HQ1.out.ext hE2
  have hl2 := (Array.getElem?_eq_some_iff.1 hb2).1
  have hl1 := HX1.out.size
  have hno : newQ W.heap.size w1.heap.size = false := by
    have := HQ1.out.lt HQ1.out.ob
    simp [newQ]; omega
  change Code.wp _ _ _ _ (w1.alloc itm5)
  rw [← hw2]
  have HX2 := Lib.hid hx2
  have HQ2 := Lib.hid hq2
  have HB2 := Lib.hid hb2
  have HNO := Lib.hid hno
  clear hw2 hE2 hb2 hx2 hq2 hno HX1 HQ1 HNEW
  go_wp2_with fail
  go_loopg [3] 5 (fun k v3 wr => ∃ (i : Nat) (own : Nat → Bool) (l : List Ent), i + k = 5 ∧ v3 = .int .i64 i ∧ QV own W.heap.size l i wr ∧ l.Perm (K5.take i) ∧ wr.heap[w1.heap.size]? = some itm5 ∧ own w1.heap.size = false ∧ (∀ b, own b = true → W.heap.size ≤ b) ∧ Ext W wr)
  case atStart => exact ⟨0, _, [], rfl, rfl, HQ2.out, .refl _, HB2.out, HNO.out, fun b hb => by simp [newQ] at hb; omega, HX2.out⟩
  case round =>
    clear HX2 HQ2 HB2 HNO
    obtain ⟨i, own, l, hik, rfl, hq, hp, hb, hno, hge, hx⟩ := hrel
    have HQ := Lib.hid hq
    have HP := Lib.hid hp
    have HB := Lib.hid hb
    have HNO := Lib.hid hno
    have HGE := Lib.hid hge
    have HX := Lib.hid hx
    have hlb := (Array.getElem?_eq_some_iff.1 hb).1
    rcases Nat.lt_or_ge i 5 with hi | hi
    · obtain ⟨g, e, a0, a1, a2⟩ := own3_cells (l := K5) (itm5_own hb) (show i < K5.length from hi)
      injection e with e; injection e with e; subst e
      obtain ⟨c1, c2, c3, c4, c5, c6⟩ := K5_at i hi
      have hput := Put_new hq (nth K5 i).task (nth K5 i).due (nth K5 i).front c1 (wf_of ⟨c1, by omega⟩) c3 (by rw [hasE_perm hp]; exact c5) (by have := hp.length_eq; rw [List.length_take] at this; omega) ⟨by omega, by omega⟩
      have hil : (i : Int) < 5 := by omega
      have hi0 : (0 : Int) ≤ (i : Int) := by omega
      have HPUT := Lib.hid hput
      have HC6 := Lib.hid c6
      have HC4 := Lib.hid c4
      clear hq hp hb hno hge hx hput c4 c5 c6
      go_wp2_with (go_at_call 17; refine HPUT.out.mono ?_; rintro e w3 ⟨rfl, own', l', hq3, hp3, hk3, ho3⟩; have HQ3 := Lib.hid hq3; have HP3 := Lib.hid hp3; have HK3 := Lib.hid hk3; have HO3 := Lib.hid ho3; clear hq3 hp3 hk3 ho3)
      go_roundg (gk - 1)
      case measure => omega
      case rel =>
        have hz := HX.out.size
        refine ⟨i + 1, own', l', by omega, by go_num, ?_, ?_, HK3.out.same _ _ HB.out (by rw [pQ, HNO.out]; rfl), ?_, fun b hb => ?_, Kept.trans HX.out (HK3.out.mono fun b t _ hp => ?_)⟩
        · have := HQ3.out; rwa [show (((i + 1 : Nat) : Int)) = (i : Int) + 1 by omega]
        · rw [HC6.out]
          refine HP3.out.trans ((HP.out.append_right _).trans ?_)
          rw [show (⟨(nth K5 i).task, (nth K5 i).front, (nth K5 i).due, (i : Int)⟩ : Ent) = nth K5 i by rw [← HC4.out]]
        · cases hc : own' w1.heap.size with
          | false => rfl
          | true =>
            rcases HO3.out _ hc with h | h
            · rw [HNO.out] at h; cases h
            · omega
        · rcases HO3.out b hb with h | h
          · exact HGE.out b h
          · omega
        · simp [pOld] at hp
          unfold pQ
          cases hc : own b with
          | false => rfl
          | true => have := HGE.out b hc; omega
    · have hi5 : i = 5 := by omega
      subst hi5
      have hP : l.Perm K5 := hp
      have hT : Tri l := (show Ord K5 by unfold Ord; decide).tri.perm hP
      have hls := list_ok (most := -1) hT hq.hp hq.len wr hq.ev
      rw [if_neg (by omega), K5_srt hP] at hls
      have HLS := Lib.hid hls
      clear hq hp hb hno hge hx hls
      go_upto_region 9 with (go_at_call 19; refine HLS.out.mono ?_; rintro e w3 ⟨P, A, c, rfl, rfl, hx3, ho3⟩; have HX3 := Lib.hid hx3; have HO3 := Lib.hid ho3; clear hx3 ho3)
      obtain ⟨g, rfl, b0, _⟩ := own3_cells (l := T5) HO3.out (i := 0) (by decide)
      obtain ⟨g', e, b1, _⟩ := own3_cells (l := T5) HO3.out (i := 1) (by decide)
      injection e with e; injection e with e; subst e
      obtain ⟨g', e, b2, _⟩ := own3_cells (l := T5) HO3.out (i := 2) (by decide)
      injection e with e; injection e with e; subst e
      obtain ⟨g', e, b3, _⟩ := own3_cells (l := T5) HO3.out (i := 3) (by decide)
      injection e with e; injection e with e; subst e
      obtain ⟨g', e, b4, _⟩ := own3_cells (l := T5) HO3.out (i := 4) (by decide)
      injection e with e; injection e with e; subst e
      have q0 : w3.cell? ⟨g, 0, none⟩ = some (.int .i64 5) := b0
      have q1 : w3.cell? ⟨g, 3, none⟩ = some (.int .i64 3) := b1
      have q2 : w3.cell? ⟨g, 6, none⟩ = some (.int .i64 2) := b2
      have q3 : w3.cell? ⟨g, 9, none⟩ = some (.int .i64 4) := b3
      have q4 : w3.cell? ⟨g, 12, none⟩ = some (.int .i64 1) := b4
      have hT5 : T5.length = 5 := rfl
      rw [hT5]
      clear b0 b1 b2 b3 b4 hT5 HLS
      go_wp2_with fail
      go_ret
      exact ⟨rfl, HX.out.trans HX3.out⟩
end
end Go.Proofs.Ytmbdglolpagjdaa
