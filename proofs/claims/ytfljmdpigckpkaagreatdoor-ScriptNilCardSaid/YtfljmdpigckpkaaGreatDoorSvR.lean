/- The program's frame, Begin: a thread of one frame, at a function's beginning. -/
import Derived.Test.YtfljmdpigckpkaaGreatDoorSvQ
import Derived.Laws.IdiomCopy
namespace Go.Proofs.YtfljmdpigckpkaaGreatDoor
open Go.RowKit Go.Shelf
attribute [local go_sem] Oper.semAt_some
theorem infoL : (Tryz.prog.info? 2).map (fun i => (i.zero, i.size, i.bytes)) = some (some (.int .i64 0), 1, 8) := by kernel_rfl
theorem zerosL (n : Nat) : (madeCells (Value.int .i64 0).cells (n * 1)).toList = rowV iV (List.replicate n 0) := by
  apply List.ext_getElem
  · simp [madeCells, rowV, Value.cells]
  · intro i h1 h2
    simp [madeCells, rowV, Value.cells, iV, Nat.mod_one]
/-- A thread of one frame. -/
structure Th (bt g bf gr bc : Nat) (fn at' : Int) (R : List Int) (tr : Int) (w : World) : Prop where
  t : w.heap[bt]? = some (.cells #[.pointer (some ⟨bc, 0, none⟩), .slice (some ⟨g, 0, none⟩) 1 1, .int .i64 tr] 290 (0, 0))
  s : w.heap[g]? = some (.cells #[.pointer (some ⟨bf, 0, none⟩)] 222 (0, 0))
  f : w.heap[bf]? = some (.cells #[.int .i64 fn, .int .i64 at', .slice (some ⟨gr, 0, none⟩) R.length R.length] 203 (0, 0))
  r : w.ownsRow 0 2 1 (.slice (some ⟨gr, 0, none⟩) R.length R.length) R.length (rowV iV R)
theorem Th.ext {bt g bf gr bc : Nat} {fn at' : Int} {R : List Int} {tr : Int} {w w' : World} (h : Th bt g bf gr bc fn at' R tr w) (k : Ext w w') : Th bt g bf gr bc fn at' R tr w' := by
  have kk := k.kept (fun _ _ => true)
  exact ⟨kk.same _ _ h.t rfl, kk.same _ _ h.s rfl, kk.same _ _ h.f rfl, kk.row h.r fun _ _ => rfl⟩
set_option maxHeartbeats 2000000 in
set_option maxRecDepth 100000 in
theorem frame_ok {bc : Nat} {Q : Prg} {W : World} (h : Cod bc Q W) {i : Nat} (hi : i < Q.fns.length) {n : Nat} (hn : Q.fns[i].regs = n) (hn2 : n ≤ 1000) (A : Option Addr) (c : Nat) : Calls Tryz.prog 179 #[.pointer (some ⟨bc, 0, none⟩), .int .i64 i, .slice A 0 c] W fun e W' => ∃ bf gr, e = .returned (.pointer (some ⟨bf, 0, none⟩)) ∧ W'.heap[bf]? = some (.cells #[.int .i64 i, .int .i64 0, .slice (some ⟨gr, 0, none⟩) n n] 203 (0, 0)) ∧ W'.ownsRow 0 2 1 (.slice (some ⟨gr, 0, none⟩) n n) n (rowV iV (List.replicate n 0)) ∧ Ext W W' ∧ W.heap.size ≤ bf ∧ W.heap.size ≤ gr := by
  obtain ⟨bm, h1, _⟩ := h.ex
  obtain ⟨x3, _, xl⟩ := codo_cells h1
  obtain ⟨g, off, e1, hl, _, _, _, c2, _⟩ := Prg.fn_at h.pin hi
  rw [hn] at c2
  rw [e1] at x3
  have z0 : (i : Int) < (Q.fns.length : Int) := by omega
  obtain ⟨i0, hi0, hz0, hz1, hz2⟩ := infoParts infoL
  obtain ⟨w2, hm, how, hgr⟩ := run_makeSlice_full (P := Tryz.prog) (w := W) 0 46 2 i0 (.int .i64 0) 1 Tryz.underlying46 hi0 hz0 hz1 .i64 .i64 n (by omega) (by rw [hz2]; omega) (by unfold maxLen; omega) (Nat.zero_le _)
  rw [zerosL] at how
  have hx2 : Ext W w2 := Kept.grown hgr fun j o e => by cases e
  have HX2 := Lib.hid hx2
  have HOW := Lib.hid how
  have hcp : ∀ (ty : TypeId) (w : World), (Builtin.copy_ #[46, 46] ty #[.slice (some ⟨W.heap.size, 0, none⟩) n n, .slice A 0 c]).run Tryz.prog w = .ok (goInt 0) w := fun ty w => run_copy_none w _ _ ty 2 _ _ n n 0 c Tryz.underlying46 (by kernel_rfl) (by simp)
  clear how hgr hx2 e1 h1 h hn
  go_enter Tryz.func179, Tryz.ntmps179
  go_wp2_with fail
  have hb3 : (w2.alloc (.cells #[.int .i64 i, .int .i64 0, .slice (some ⟨W.heap.size, 0, none⟩) n n] 203 (0, 0))).heap[w2.heap.size]? = some (.cells #[.int .i64 i, .int .i64 0, .slice (some ⟨W.heap.size, 0, none⟩) n n] 203 (0, 0)) := World.alloc_heap_new _ _
  have hx3 : Ext w2 (w2.alloc (.cells #[.int .i64 i, .int .i64 0, .slice (some ⟨W.heap.size, 0, none⟩) n n] 203 (0, 0))) := Ext.one _ _
  go_ret
  exact ⟨_, _, rfl, hb3, (hx3.kept (fun _ _ => true)).row HOW.out fun _ _ => rfl, HX2.out.trans hx3, HX2.out.size, Nat.le_refl _⟩
set_option maxHeartbeats 2000000 in
set_option maxRecDepth 100000 in
theorem Begin_ok {bc : Nat} {Q : Prg} {W : World} (h : Cod bc Q W) {i : Nat} (hi : i < Q.fns.length) (hc : Q.fns[i].caps = 0) {n : Nat} (hn : Q.fns[i].regs = n) (hn2 : n ≤ 1000) (A : Option Addr) (c : Nat) : Calls Tryz.prog 112 #[.pointer (some ⟨bc, 0, none⟩), .int .i64 i, .slice A 0 c] W fun e W' => ∃ bt g bf gr, e = .returned (.tuple #[.pointer (some ⟨bt, 0, none⟩), .int .i64 0]) ∧ Th bt g bf gr bc i 0 (List.replicate n 0) 0 W' ∧ Ext W W' ∧ W.heap.size ≤ bt ∧ W.heap.size ≤ g ∧ W.heap.size ≤ bf ∧ W.heap.size ≤ gr ∧ bt ≠ g ∧ bf ≠ g ∧ bf ≠ bt ∧ gr ≠ bt ∧ gr ≠ g ∧ gr ≠ bf := by
  have HT := Lib.hid (fun w (k : Ext W w) => takes_yes (h.ext k) hi hc)
  have HF := Lib.hid (fun w (k : Ext W w) => frame_ok (h.ext k) hi hn hn2 A c)
  clear h hc hn
  go_enter Tryz.func112, Tryz.ntmps112
  go_wp2_with (first
    | (go_at_call 179; refine (HF.out _ (Ext.refl _)).mono ?_; rintro e w2 ⟨bf, gr, rfl, hb2, hr2, hx2, hg1, hg2⟩; have HB2 := Lib.hid hb2; have HR2 := Lib.hid hr2; have HX2 := Lib.hid hx2; clear hb2 hr2 hx2)
    | (go_at_call 178; refine (HT.out _ (Ext.refl _)).mono ?_; rintro e w2 ⟨rfl, hw⟩; rw [hw]; clear hw))
  obtain ⟨w3, hw3⟩ : ∃ w3, w3 = w2.alloc (.cells #[.pointer (some ⟨bf, 0, none⟩)] 222 (0, 0)) := ⟨_, rfl⟩
  obtain ⟨w4, hw4⟩ : ∃ w4, w4 = w3.alloc (.cells #[.pointer (some ⟨bc, 0, none⟩), .slice (some ⟨w2.heap.size, 0, none⟩) 1 1, .int .i64 0] 290 (0, 0)) := ⟨_, rfl⟩
  have hx3 : Ext w2 w3 := by rw [hw3]; exact Ext.one _ _
  have hx4 : Ext w3 w4 := by rw [hw4]; exact Ext.one _ _
  have hb3 : w3.heap[w2.heap.size]? = some (.cells #[.pointer (some ⟨bf, 0, none⟩)] 222 (0, 0)) := by rw [hw3]; exact World.alloc_heap_new _ _
  have hs3 : w3.heap.size = w2.heap.size + 1 := by rw [hw3, World.size_alloc]
  have hb4 : w4.heap[w2.heap.size + 1]? = some (.cells #[.pointer (some ⟨bc, 0, none⟩), .slice (some ⟨w2.heap.size, 0, none⟩) 1 1, .int .i64 0] 290 (0, 0)) := by
    rw [hw4, ← hs3]
    exact World.alloc_heap_new _ _
  have hne : gr ≠ bf := fun e => by
    subst e
    have := (own_tag HR2.out gr _ rfl HB2.out).1
    simp [tag] at this
  have l1 := (Array.getElem?_eq_some_iff.1 HB2.out).1
  have l2 := own_lt HR2.out gr rfl
  have hsz := HX2.out.size
  have hx := hx3.trans hx4
  have hth : Th (w2.heap.size + 1) w2.heap.size bf gr bc i 0 (List.replicate n 0) 0 w4 := by
    refine ⟨hb4, (hx4.kept (fun _ _ => true)).same _ _ hb3 rfl, ?_, ?_⟩
    · rw [List.length_replicate]
      exact (hx.kept (fun _ _ => true)).same _ _ HB2.out rfl
    · rw [List.length_replicate]
      exact (hx.kept (fun _ _ => true)).row HR2.out fun _ _ => rfl
  rw [hw4, hw3] at hth
  rw [hw4, hw3] at hx
  go_ret2
  exact ⟨_, _, _, _, rfl, hth, HX2.out.trans hx, by omega, hsz, hg1, hg2, by omega, by omega, by omega, by omega, by omega, hne⟩
end Go.Proofs.YtfljmdpigckpkaaGreatDoor
