/- What the program answers of code, and of a thread, that is not there. -/
import Derived.Test.YtfljmdpigckpkaaGreatDoorSvY
namespace Go.Proofs.YtfljmdpigckpkaaGreatDoor
open Go.RowKit Go.Shelf
attribute [local go_sem] Oper.semAt_some
def zTh : Obj := .cells #[.pointer none, .slice none 0 0, .int .i64 0] 290 (0, 0)
theorem zTh_cells {w : World} {b : Nat} (h : w.heap[b]? = some zTh) : w.cell? ⟨b, 0, none⟩ = some (.pointer none) ∧ b < w.heap.size := ⟨by simp [World.cell?, h, zTh], (Array.getElem?_eq_some_iff.1 h).1⟩
set_option maxHeartbeats 1000000 in
set_option maxRecDepth 100000 in
theorem Begin_nil (f : Int) (v : Value) (W : World) : Calls Tryz.prog 112 #[.pointer none, .int .i64 f, v] W fun e W' => e = .returned (.tuple #[.pointer none, .int .i64 1]) ∧ W' = W := by
  go_enter Tryz.func112, Tryz.ntmps112
  go_wp2_with fail
  go_ret2
  exact ⟨rfl, rfl⟩
section
variable {bt g bf gr bc : Nat} {fn at' : Int} {R : List Int} {tr : Int} {W : World} {Q : Prg}
set_option maxHeartbeats 1000000 in
set_option maxRecDepth 100000 in
theorem Begin_none (h : Cod bc Q W) {i : Int} (hi : inI i Q.fns.length = false) (A : Option Addr) (n c : Nat) : Calls Tryz.prog 112 #[.pointer (some ⟨bc, 0, none⟩), .int .i64 i, .slice A n c] W fun e W' => e = .returned (.tuple #[.pointer none, .int .i64 2]) ∧ W' = W := by
  have H := Lib.hid (fun n => takes_none h hi n)
  clear h hi
  go_enter Tryz.func112, Tryz.ntmps112
  go_wp2_with (go_at_call 178; refine (H.out _).mono ?_; rintro e w2 ⟨rfl, hw⟩; rw [hw]; clear hw)
  go_ret2
  exact ⟨rfl, rfl⟩
set_option maxHeartbeats 1000000 in
set_option maxRecDepth 100000 in
theorem Begin_no (h : Cod bc Q W) {i : Nat} (hi : i < Q.fns.length) (A : Option Addr) (n c : Nat) (hn : (((n : Nat) : Int) == Q.fns[i].caps) = false) : Calls Tryz.prog 112 #[.pointer (some ⟨bc, 0, none⟩), .int .i64 i, .slice A n c] W fun e W' => e = .returned (.tuple #[.pointer none, .int .i64 2]) ∧ W' = W := by
  have H := Lib.hid (takes_no h hi hn)
  clear h hi hn
  go_enter Tryz.func112, Tryz.ntmps112
  go_wp2_with (go_at_call 178; refine H.out.mono ?_; rintro e w2 ⟨rfl, hw⟩; rw [hw]; clear hw)
  go_ret2
  exact ⟨rfl, rfl⟩
set_option maxHeartbeats 1000000 in
set_option maxRecDepth 100000 in
theorem heapNew_ok (W : World) : Calls Tryz.prog 89 #[] W fun e W' => e = .returned (.pointer (some ⟨W.heap.size, 0, none⟩)) ∧ W'.heap[W.heap.size]? = some heapo ∧ Ext W W' := by
  have h1 : (W.alloc heapo).heap[W.heap.size]? = some heapo := World.alloc_heap_new _ _
  have h2 : Ext W (W.alloc heapo) := Ext.one _ _
  unfold heapo at h1 h2
  go_enter Tryz.func89, Tryz.ntmps89
  go_wp2_with fail
  go_ret
  exact ⟨rfl, h1, h2⟩
set_option maxHeartbeats 1000000 in
set_option maxRecDepth 100000 in
theorem isNone_zero {b : Nat} (h : W.heap[b]? = some zTh) : Calls Tryz.prog 118 #[.pointer (some ⟨b, 0, none⟩)] W fun e W' => e = .returned (.bool true) ∧ W' = W := by
  obtain ⟨t0, tl⟩ := zTh_cells h
  clear h
  go_enter Tryz.func118, Tryz.ntmps118
  go_wp2_with fail
  go_ret
  exact ⟨rfl, rfl⟩
/-- No thread: nil, or a zero one. -/
def NoneT (v : Value) (W : World) : Prop := ∀ w, Ext W w → Calls Tryz.prog 118 #[v] w fun e W' => e = .returned (.bool true) ∧ W' = w
theorem noneT_nil (W : World) : NoneT (.pointer none) W := fun w _ => isNone_nil w
theorem noneT_zero {b : Nat} (h : W.heap[b]? = some zTh) : NoneT (.pointer (some ⟨b, 0, none⟩)) W := fun _ x => isNone_zero ((x.kept (fun _ _ => true)).same _ _ h rfl)
set_option maxHeartbeats 1000000 in
set_option maxRecDepth 100000 in
theorem Step_none {v : Value} (h : NoneT v W) (u : Value) (task it : Int) : Calls Tryz.prog 65 #[v, u, .int .i64 task, .int .i64 it] W fun e W' => e = .returned (.tuple #[zaskV, .int .i64 1]) ∧ Ext W W' := by
  obtain ⟨W1, hW1⟩ : ∃ W1, W1 = W.alloc zask := ⟨_, rfl⟩
  have hx1 : Ext W W1 := by rw [hW1]; exact Ext.one _ _
  have hb1 : W1.heap[W.heap.size]? = some zask := by rw [hW1]; exact World.alloc_heap_new _ _
  have HN := Lib.hid (h _ hx1)
  obtain ⟨b0, b1, b2, b3, b4, b5, bl, bz⟩ := asko_cells hb1
  have HB1 := Lib.hid hb1
  have HX1 := Lib.hid hx1
  have HW := Lib.hid hW1
  clear h hb1 hx1 hW1
  go_enter Tryz.func65, Tryz.ntmps65
  go_upto_region 1 with (fail)
  change Code.wp _ _ _ _ (W.alloc zask)
  rw [← HW.out]
  go_wp2_with (go_at_call 118; refine HN.out.mono ?_; rintro e w2 ⟨rfl, hw⟩; rw [hw]; clear hw)
  change bodyPost _ _ _ _ _ (put6 W1 W.heap.size)
  obtain ⟨q1, q2⟩ := put6_ok HB1.out
  have hx : Ext W (put6 W1 W.heap.size) := ext_ne HX1.out q2 (Nat.le_refl _)
  clear b0 b1 b2 b3 b4 b5 bl bz
  generalize put6 W1 W.heap.size = w7 at *
  obtain ⟨b0, b1, b2, b3, b4, b5, bl, bz⟩ := asko_cells q1
  exact bodyPost_ret (v := .tuple #[zaskV, .int .i64 1]) (by simp [results, Tryz.results65, go_sem, zaskV, b0, b1, b2, b3, b4, b5]) rfl ⟨rfl, hx⟩
set_option maxHeartbeats 1000000 in
set_option maxRecDepth 100000 in
theorem Step_noheap (h : Th bt g bf gr bc fn at' R tr W) (task it : Int) : Calls Tryz.prog 65 #[.pointer (some ⟨bt, 0, none⟩), .pointer none, .int .i64 task, .int .i64 it] W fun e W' => e = .returned (.tuple #[zaskV, .int .i64 1]) ∧ Ext W W' := by
  obtain ⟨W1, hW1⟩ : ∃ W1, W1 = W.alloc zask := ⟨_, rfl⟩
  have hx1 : Ext W W1 := by rw [hW1]; exact Ext.one _ _
  have hb1 : W1.heap[W.heap.size]? = some zask := by rw [hW1]; exact World.alloc_heap_new _ _
  have HN := Lib.hid (isNone_th (h.ext hx1))
  obtain ⟨b0, b1, b2, b3, b4, b5, bl, bz⟩ := asko_cells hb1
  have HB1 := Lib.hid hb1
  have HX1 := Lib.hid hx1
  have HW := Lib.hid hW1
  clear h hb1 hx1 hW1
  go_enter Tryz.func65, Tryz.ntmps65
  go_upto_region 1 with (fail)
  change Code.wp _ _ _ _ (W.alloc zask)
  rw [← HW.out]
  go_wp2_with (go_at_call 118; refine HN.out.mono ?_; rintro e w2 ⟨rfl, hw⟩; rw [hw]; clear hw)
  change bodyPost _ _ _ _ _ (put6 W1 W.heap.size)
  obtain ⟨q1, q2⟩ := put6_ok HB1.out
  have hx : Ext W (put6 W1 W.heap.size) := ext_ne HX1.out q2 (Nat.le_refl _)
  clear b0 b1 b2 b3 b4 b5 bl bz
  generalize put6 W1 W.heap.size = w7 at *
  obtain ⟨b0, b1, b2, b3, b4, b5, bl, bz⟩ := asko_cells q1
  exact bodyPost_ret (v := .tuple #[zaskV, .int .i64 1]) (by simp [results, Tryz.results65, go_sem, zaskV, b0, b1, b2, b3, b4, b5]) rfl ⟨rfl, hx⟩
set_option maxHeartbeats 1000000 in
set_option maxRecDepth 100000 in
theorem Copy_nil (W : World) : Calls Tryz.prog 127 #[.pointer none] W fun e W' => e = .returned (.pointer none) ∧ W' = W := by
  go_enter Tryz.func127, Tryz.ntmps127
  go_wp2_with fail
  go_ret
  exact ⟨rfl, rfl⟩
set_option maxHeartbeats 1000000 in
set_option maxRecDepth 100000 in
theorem Done_nil (n : Int) (W : World) : Calls Tryz.prog 306 #[.pointer none, .int .i64 n] W fun e W' => e = .returned (.int .i64 1) ∧ W' = W := by
  have HN := Lib.hid (isNone_nil W)
  go_enter Tryz.func306, Tryz.ntmps306
  go_wp2_with (go_at_call 118; refine HN.out.mono ?_; rintro e w2 ⟨rfl, hw⟩; rw [hw]; clear hw)
  go_ret
  exact ⟨rfl, rfl⟩
set_option maxHeartbeats 1000000 in
set_option maxRecDepth 100000 in
theorem Same_none {v u : Value} (h : NoneT v W) (k : NoneT u W) : Calls Tryz.prog 129 #[v, u] W fun e W' => e = .returned (.bool true) ∧ W' = W := by
  have H0 := Lib.hid (h _ (Ext.refl _))
  have H1 := Lib.hid (h _ (Ext.refl _))
  have H2 := Lib.hid (k _ (Ext.refl _))
  clear h k
  go_enter Tryz.func129, Tryz.ntmps129
  go_wp2_with (go_at_call 118; first
    | (refine H0.out.mono ?_; rintro e w2 ⟨rfl, hw⟩; rw [hw]; clear hw H0)
    | (refine H1.out.mono ?_; rintro e w2 ⟨rfl, hw⟩; rw [hw]; clear hw H1)
    | (refine H2.out.mono ?_; rintro e w2 ⟨rfl, hw⟩; rw [hw]; clear hw))
  go_ret
  exact ⟨rfl, rfl⟩
set_option maxHeartbeats 1000000 in
set_option maxRecDepth 100000 in
theorem Same_th (h : Th bt g bf gr bc fn at' R tr W) : Calls Tryz.prog 129 #[.pointer none, .pointer (some ⟨bt, 0, none⟩)] W fun e W' => e = .returned (.bool false) ∧ W' = W := by
  have H0 := Lib.hid (isNone_nil W)
  have H1 := Lib.hid (isNone_nil W)
  have H2 := Lib.hid (isNone_th h)
  clear h
  go_enter Tryz.func129, Tryz.ntmps129
  go_wp2_with (go_at_call 118; first
    | (refine H0.out.mono ?_; rintro e w2 ⟨rfl, hw⟩; rw [hw]; clear hw H0)
    | (refine H1.out.mono ?_; rintro e w2 ⟨rfl, hw⟩; rw [hw]; clear hw H1)
    | (refine H2.out.mono ?_; rintro e w2 ⟨rfl, hw⟩; rw [hw]; clear hw))
  go_ret
  exact ⟨rfl, rfl⟩
end
end Go.Proofs.YtfljmdpigckpkaaGreatDoor
