/- The program's threads: isNone, Over, Trap, running. -/
import Derived.Test.YtfljmdpigckpkaaGreatDoorSvR
namespace Go.Proofs.YtfljmdpigckpkaaGreatDoor
open Go.RowKit Go.Shelf
attribute [local go_sem] Oper.semAt_some
@[go_sem] theorem eqt_ns (b : Nat) (w : World) : (binOp .eql 119 (.pointer none) (.pointer (some ⟨b, 0, none⟩))).run Tryz.prog w = .ok (.bool false) w := by kernel_rfl
@[go_sem] theorem eqt_sn (b : Nat) (w : World) : (binOp .eql 119 (.pointer (some ⟨b, 0, none⟩)) (.pointer none)).run Tryz.prog w = .ok (.bool false) w := by kernel_rfl
@[go_sem] theorem eqt_nn (w : World) : (binOp .eql 119 (.pointer none) (.pointer none)).run Tryz.prog w = .ok (.bool true) w := by kernel_rfl
section
variable {bt g bf gr bc : Nat} {fn at' : Int} {R : List Int} {tr : Int} {W : World}
theorem Th.cells (h : Th bt g bf gr bc fn at' R tr W) : W.cell? ⟨bt, 0, none⟩ = some (.pointer (some ⟨bc, 0, none⟩)) ∧ W.cell? ⟨bt, 1, none⟩ = some (.slice (some ⟨g, 0, none⟩) 1 1) ∧ W.cell? ⟨bt, 2, none⟩ = some (.int .i64 tr) ∧ bt < W.heap.size ∧ W.cell? ⟨g, 0, none⟩ = some (.pointer (some ⟨bf, 0, none⟩)) ∧ g < W.heap.size ∧ W.cell? ⟨bf, 0, none⟩ = some (.int .i64 fn) ∧ W.cell? ⟨bf, 1, none⟩ = some (.int .i64 at') ∧ W.cell? ⟨bf, 2, none⟩ = some (.slice (some ⟨gr, 0, none⟩) R.length R.length) ∧ bf < W.heap.size := by
  refine ⟨?_, ?_, ?_, (Array.getElem?_eq_some_iff.1 h.t).1, ?_, (Array.getElem?_eq_some_iff.1 h.s).1, ?_, ?_, ?_, (Array.getElem?_eq_some_iff.1 h.f).1⟩
  all_goals simp [World.cell?, h.t, h.s, h.f]
set_option maxRecDepth 100000 in
theorem isNone_nil (W : World) : Calls Tryz.prog 118 #[.pointer none] W fun e W' => e = .returned (.bool true) ∧ W' = W := by
  go_enter Tryz.func118, Tryz.ntmps118
  go_wp2_with fail
  go_ret
  exact ⟨rfl, rfl⟩
set_option maxRecDepth 100000 in
theorem isNone_th (h : Th bt g bf gr bc fn at' R tr W) : Calls Tryz.prog 118 #[.pointer (some ⟨bt, 0, none⟩)] W fun e W' => e = .returned (.bool false) ∧ W' = W := by
  obtain ⟨t0, t1, t2, tl, s0, sl, f0, f1, f2, fl⟩ := h.cells
  clear h
  go_enter Tryz.func118, Tryz.ntmps118
  go_wp2_with fail
  go_ret
  exact ⟨rfl, rfl⟩
set_option maxRecDepth 100000 in
theorem Over_nil (W : World) : Calls Tryz.prog 184 #[.pointer none] W fun e W' => e = .returned (.bool true) ∧ W' = W := by
  have H := Lib.hid (isNone_nil W)
  go_enter Tryz.func184, Tryz.ntmps184
  go_wp2_with (go_at_call 118; refine H.out.mono ?_; rintro e w2 ⟨rfl, hw⟩; rw [hw]; clear hw)
  go_ret
  exact ⟨rfl, rfl⟩
set_option maxRecDepth 100000 in
theorem Over_th (h : Th bt g bf gr bc fn at' R tr W) : Calls Tryz.prog 184 #[.pointer (some ⟨bt, 0, none⟩)] W fun e W' => e = .returned (.bool (tr != 0)) ∧ W' = W := by
  obtain ⟨t0, t1, t2, tl, s0, sl, f0, f1, f2, fl⟩ := h.cells
  have H := Lib.hid (isNone_th h)
  clear h
  cases hz : (tr != 0) with
  | true =>
    go_enter Tryz.func184, Tryz.ntmps184
    go_wp2_with (go_at_call 118; refine H.out.mono ?_; rintro e w2 ⟨rfl, hw⟩; rw [hw]; clear hw)
    go_ret
    exact ⟨by rw [← hz]; rfl, rfl⟩
  | false =>
    go_enter Tryz.func184, Tryz.ntmps184
    go_wp2_with (go_at_call 118; refine H.out.mono ?_; rintro e w2 ⟨rfl, hw⟩; rw [hw]; clear hw)
    go_ret
    exact ⟨by rw [← hz]; rfl, rfl⟩
set_option maxRecDepth 100000 in
theorem Trap_th (h : Th bt g bf gr bc fn at' R tr W) : Calls Tryz.prog 305 #[.pointer (some ⟨bt, 0, none⟩)] W fun e W' => e = .returned (.int .i64 tr) ∧ W' = W := by
  obtain ⟨t0, t1, t2, tl, s0, sl, f0, f1, f2, fl⟩ := h.cells
  clear h
  go_enter Tryz.func305, Tryz.ntmps305
  go_wp2_with fail
  go_ret
  exact ⟨rfl, rfl⟩
set_option maxRecDepth 100000 in
theorem Trap_nil (W : World) : Calls Tryz.prog 305 #[.pointer none] W fun e W' => e = .returned (.int .i64 0) ∧ W' = W := by
  go_enter Tryz.func305, Tryz.ntmps305
  go_wp2_with fail
  go_ret
  exact ⟨rfl, rfl⟩
end
end Go.Proofs.YtfljmdpigckpkaaGreatDoor
