/- The program's takes, frame, Begin: a thread of one frame, at a function's beginning. -/
import Derived.Test.YtfljmdpigckpkaaGreatDoorSvP
import Derived.Laws.Rows
namespace Go.Proofs.YtfljmdpigckpkaaGreatDoor
open Go.RowKit Go.Shelf
attribute [local go_sem] Oper.semAt_some
theorem codo_cells {w : World} {b bm : Nat} {Q : Prg} (h : w.heap[b]? = some (codo Q bm)) : w.cell? ⟨b, 3, none⟩ = some (.slice Q.fnsA Q.fns.length Q.fnsC) ∧ w.cell? ⟨b, 8, none⟩ = some (.map (some bm)) ∧ b < w.heap.size := by
  refine ⟨?_, ?_, (Array.getElem?_eq_some_iff.1 h).1⟩
  all_goals simp [World.cell?, h, codo]
@[go_sem] theorem eqc_ns (b : Nat) (w : World) : (binOp .eql 63 (.pointer none) (.pointer (some ⟨b, 0, none⟩))).run Tryz.prog w = .ok (.bool false) w := by kernel_rfl
@[go_sem] theorem eqc_sn (b : Nat) (w : World) : (binOp .eql 63 (.pointer (some ⟨b, 0, none⟩)) (.pointer none)).run Tryz.prog w = .ok (.bool false) w := by kernel_rfl
@[go_sem] theorem eqc_nn (w : World) : (binOp .eql 63 (.pointer none) (.pointer none)).run Tryz.prog w = .ok (.bool true) w := by kernel_rfl
set_option maxHeartbeats 1000000 in
set_option maxRecDepth 100000 in
theorem takes_yes {bc : Nat} {Q : Prg} {W : World} (h : Cod bc Q W) {i : Nat} (hi : i < Q.fns.length) {n : Int} (hn : Q.fns[i].caps = n) : Calls Tryz.prog 178 #[.pointer (some ⟨bc, 0, none⟩), .int .i64 i, .int .i64 n] W fun e W' => e = .returned (.bool true) ∧ W' = W := by
  obtain ⟨bm, h1, _⟩ := h.ex
  obtain ⟨x3, _, xl⟩ := codo_cells h1
  obtain ⟨g, off, e1, hl, _, _, c1, _, _⟩ := Prg.fn_at h.pin hi
  rw [hn] at c1
  rw [e1] at x3
  have HA := Lib.hid (inI_intro (n := (i : Int)) (m := Q.fns.length) (by omega) (by omega) ▸ amongI_ok i Q.fns.length W)
  have z0 : (i : Int) < (Q.fns.length : Int) := by omega
  have z1 : (n == n) = true := by simp
  clear e1 h1 h hn
  go_enter Tryz.func178, Tryz.ntmps178
  go_wp2_with (go_at_call 272; refine HA.out.mono ?_; rintro e w2 ⟨rfl, hw⟩; rw [hw]; clear hw)
  go_ret
  exact ⟨rfl, rfl⟩
set_option maxHeartbeats 1000000 in
set_option maxRecDepth 100000 in
theorem takes_none {bc : Nat} {Q : Prg} {W : World} (h : Cod bc Q W) {i : Int} (hi : inI i Q.fns.length = false) (n : Int) : Calls Tryz.prog 178 #[.pointer (some ⟨bc, 0, none⟩), .int .i64 i, .int .i64 n] W fun e W' => e = .returned (.bool false) ∧ W' = W := by
  obtain ⟨bm, h1, _⟩ := h.ex
  obtain ⟨x3, _, xl⟩ := codo_cells h1
  have HA := Lib.hid (hi ▸ amongI_ok i Q.fns.length W)
  clear h1 h hi
  go_enter Tryz.func178, Tryz.ntmps178
  go_wp2_with (go_at_call 272; refine HA.out.mono ?_; rintro e w2 ⟨rfl, hw⟩; rw [hw]; clear hw)
  go_ret
  exact ⟨rfl, rfl⟩
set_option maxHeartbeats 1000000 in
set_option maxRecDepth 100000 in
theorem takes_no {bc : Nat} {Q : Prg} {W : World} (h : Cod bc Q W) {i : Nat} (hi : i < Q.fns.length) {n : Int} (hn : (n == Q.fns[i].caps) = false) : Calls Tryz.prog 178 #[.pointer (some ⟨bc, 0, none⟩), .int .i64 i, .int .i64 n] W fun e W' => e = .returned (.bool false) ∧ W' = W := by
  obtain ⟨bm, h1, _⟩ := h.ex
  obtain ⟨x3, _, xl⟩ := codo_cells h1
  obtain ⟨g, off, e1, hl, _, _, c1, _, _⟩ := Prg.fn_at h.pin hi
  generalize Q.fns[i].caps = m at c1 hn
  rw [e1] at x3
  have HA := Lib.hid (inI_intro (n := (i : Int)) (m := Q.fns.length) (by omega) (by omega) ▸ amongI_ok i Q.fns.length W)
  have z0 : (i : Int) < (Q.fns.length : Int) := by omega
  clear e1 h1 h
  go_enter Tryz.func178, Tryz.ntmps178
  go_wp2_with (go_at_call 272; refine HA.out.mono ?_; rintro e w2 ⟨rfl, hw⟩; rw [hw]; clear hw)
  go_ret
  exact ⟨by rw [← hn]; rfl, rfl⟩
end Go.Proofs.YtfljmdpigckpkaaGreatDoor
