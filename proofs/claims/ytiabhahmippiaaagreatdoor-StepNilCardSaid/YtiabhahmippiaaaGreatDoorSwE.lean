/- The program's Frames, of a thread of one frame. -/
import Derived.Test.YtiabhahmippiaaaGreatDoorSwD
import Derived.Laws.IdiomCopy
namespace Go.Proofs.YtiabhahmippiaaaGreatDoor
open Go.RowKit Go.Shelf
attribute [local go_sem] Oper.semAt_some
theorem infoFrms : (Tryz.prog.info? 93).map (fun i => (i.zero, i.size, i.bytes)) = some (some (.agg #[.int .i64 0, .int .i64 0, .slice none 0 0]), 3, 40) := by kernel_rfl
theorem madeFrm : madeCells (Value.agg #[.int .i64 0, .int .i64 0, .slice none 0 0]).cells (1 * 3) = #[.int .i64 0, .int .i64 0, .slice none 0 0] := by first | kernel_rfl | rfl | (apply Array.ext' ; kernel_rfl)
section
variable {bt g bf gr bc : Nat} {fn at' : Int} {R : List Int} {tr : Int} {W : World}
set_option maxHeartbeats 4000000 in
set_option maxRecDepth 100000 in
theorem Frames_th (h : Th bt g bf gr bc fn at' R tr W) (hl : R.length ≤ 1000) : Calls Tryz.prog 27 #[.pointer (some ⟨bt, 0, none⟩)] W fun e W' => ∃ b A c, e = .returned (.slice (some ⟨b, 0, none⟩) 1 1) ∧ W'.heap[b]? = some (frmo fn at' (.slice A R.length c)) ∧ W'.ownsRow W.heap.size 2 1 (.slice A R.length c) R.length (rowV iV R) ∧ Ext W W' := by
  obtain ⟨i0, hi0, hz0, hz1, hz2⟩ := infoParts infoFrms
  obtain ⟨w2, hm, how, hgr⟩ := run_makeSlice_full (P := Tryz.prog) (w := W) 0 60 93 i0 (.agg #[.int .i64 0, .int .i64 0, .slice none 0 0]) 3 Tryz.underlying60 hi0 hz0 hz1 .i64 .i64 1 (by omega) (by rw [hz2]; omega) (by unfold maxLen; omega) (Nat.zero_le _)
  have hx2 : Ext W w2 := Kept.grown hgr fun j o e => by cases e
  have hb2 : w2.heap[W.heap.size]? = some (frmo 0 0 (.slice none 0 0)) := by
    obtain ⟨_, ⟨e, _⟩ | ⟨q, cap, cur, e, _, hq, hc1, hc2, hc3, hc4⟩⟩ := how
    · cases e
    · cases e
      rw [hq]
      have : cur.toList = (madeCells (Value.agg #[.int .i64 0, .int .i64 0, .slice none 0 0]).cells (1 * 3)).toList := by
        rw [← hc4, List.take_of_length_le (by simp [hc3])]
      rw [show cur = madeCells (Value.agg #[.int .i64 0, .int .i64 0, .slice none 0 0]).cells (1 * 3) from Array.ext' this]
      have hmc : madeCells (Value.agg #[.int .i64 0, .int .i64 0, .slice none 0 0]).cells (1 * 3) = #[.int .i64 0, .int .i64 0, .slice none 0 0] := madeFrm
      rw [hmc]
      rfl
  replace hm : (Instr.makeSlice 60 (.int .i64 1) (.int .i64 1)).run Tryz.prog W = .ok (.slice (some ⟨W.heap.size, 0, none⟩) 1 1) w2 := hm
  obtain ⟨t0, t1, t2, tl, s0, sl, f0, f1, f2, fl⟩ := h.cells
  obtain ⟨u0, u1, u2, ul, v0, vl, g0, g1, g2, gl⟩ := (h.ext hx2).cells
  have HA := Lib.hid (apartF_ok (h.ext hx2).f (h.ext hx2).r hl)
  have HX2 := Lib.hid hx2
  have HB2 := Lib.hid hb2
  clear h hx2 hb2 how hgr
  go_enter Tryz.func27, Tryz.ntmps27
  go_upto_region 5 with (fail)
  go_loopg [19] 1 (fun k v19 wr => (k = 1 ∧ v19 = .int .i64 0 ∧ wr = w2) ∨ (k = 0 ∧ v19 = .int .i64 1 ∧ ∃ A c, wr.heap[W.heap.size]? = some (frmo fn at' (.slice A R.length c)) ∧ wr.ownsRow W.heap.size 2 1 (.slice A R.length c) R.length (rowV iV R) ∧ Ext W wr))
  case atStart => exact .inl ⟨rfl, rfl, rfl⟩
  case round =>
    rcases hrel with ⟨rfl, rfl, rfl⟩ | ⟨rfl, rfl, A, c, hb, hr, hx⟩
    · go_wp2_with (go_at_call 46; refine HA.out.mono ?_; rintro e w4 ⟨b, A, c, rfl, hb4, hr4, hx4⟩; obtain ⟨d0, d1, d2, dl⟩ := frmo_cells hb4; obtain ⟨l0, l1, l2, ll⟩ := frmo_cells ((hx4.kept (fun _ _ => true)).same _ _ HB2.out rfl); have hz := fun n => frozen_of_row w4 W.heap.size n _ _ (show w4.heap[W.heap.size]? = some (.cells _ _ _) from ((hx4.kept (fun _ _ => true)).same _ _ HB2.out rfl)); have HX4 := Lib.hid hx4; have HR4 := Lib.hid hr4; have HW4 := Lib.hid ((hx4.kept (fun _ _ => true)).same _ _ HB2.out rfl); clear hx4 hr4 hb4)
      obtain ⟨q1, q2⟩ := set_range (b := W.heap.size) (t := 93) [.int .i64 fn, .int .i64 at', .slice A R.length c] [] [.int .i64 0, .int .i64 0, .slice none 0 0] w4 HW4.out rfl
      have hlt : W.heap.size < wr.heap.size := (Array.getElem?_eq_some_iff.1 HB2.out).1
      have hq : (w4.setCells W.heap.size 0 [.int .i64 fn, .int .i64 at', .slice A R.length c]).heap[W.heap.size]? = some (frmo fn at' (.slice A R.length c)) := q1
      have hrow := own_low (Nat.le_of_lt hlt) (q2.row HR4.out fun b hbk => by
        have := own_base HR4.out b hbk
        have : b ≠ W.heap.size := by omega
        simp [ne', this])
      have hxx := ext_ne (HX2.out.trans HX4.out) q2 (Nat.le_refl _)
      go_roundg 0
      case measure => omega
      case rel => exact .inr ⟨rfl, rfl, A, c, hq, hrow, hxx⟩
    · have HB := Lib.hid hb
      have HR := Lib.hid hr
      have HX := Lib.hid hx
      clear hb hr hx
      go_wp2_with fail
      go_ret
      exact ⟨_, A, c, rfl, HB.out, HR.out, HX.out⟩
end
end Go.Proofs.YtiabhahmippiaaaGreatDoor
