/- The document's heap: an object is laid. -/
import Derived.Test.YtjgggfickbbieaaHrD
namespace Go.Proofs.Ytjgggfickbbieaa
open Go.RowKit Go.Shelf
attribute [local go_sem] Oper.semAt_some
/-- How many objects of a task's there are. -/
def cntO (L : List Ob) (t : Int) : Nat := (L.filter fun x => x.by' == t).length
theorem cntO_le (L : List Ob) (t : Int) : cntO L t ≤ L.length := List.length_filter_le _ _
theorem cntO_step {L : List Ob} {i : Nat} (hi : i < L.length) (t : Int) : cntO (L.take (i + 1)) t = cntO (L.take i) t + if (nt L i).by' = t then 1 else 0 := by
  unfold cntO
  rw [List.take_add_one, List.getElem?_eq_getElem hi, List.filter_append, List.length_append, nt_lt hi]
  by_cases e : L[i].by' = t <;> simp [e]
def obo (x : Ob) (n : Int) : Obj := .cells #[.int .i64 x.kind, .int .i64 x.of, x.v, .int .i64 x.site, .int .i64 x.by', .int .i64 n] 45 (0, 0)
theorem obo_cells {W : World} {b : Nat} {x : Ob} {n : Int} (h : W.heap[b]? = some (obo x n)) : (W.cell? ⟨b, 0, none⟩ = some (.int .i64 x.kind) ∧ W.cell? ⟨b, 1, none⟩ = some (.int .i64 x.of) ∧ W.cell? ⟨b, 2, none⟩ = some x.v ∧ W.cell? ⟨b, 3, none⟩ = some (.int .i64 x.site) ∧ W.cell? ⟨b, 4, none⟩ = some (.int .i64 x.by') ∧ W.cell? ⟨b, 5, none⟩ = some (.int .i64 n)) ∧ (∀ k, W.frozen? ⟨b, k, none⟩ = false) ∧ b < W.heap.size := by
  refine ⟨by simp [World.cell?, h, obo], fun k => frozen_of_row W b k _ _ h, (Array.getElem?_eq_some_iff.1 h).1⟩
theorem obo_set {W : World} {b : Nat} {x : Ob} {n : Int} (h : W.heap[b]? = some (obo x n)) (m : Int) : (W.setCell ⟨b, 5, none⟩ (.int .i64 m)).heap[b]? = some (obo x m) ∧ Kept (fun k _ => k != b) W (W.setCell ⟨b, 5, none⟩ (.int .i64 m)) := by
  refine ⟨?_, Kept.setCell _ fun o ho => by simp⟩
  rw [heap_setCell_same W b 5 _ _ _ h]
  simp [obo]
section
variable {own : Nat → Bool} {bw : Nat} {L : List Ob} {W : World}
set_option maxHeartbeats 2000000 in
set_option maxRecDepth 100000 in
theorem refAdd_full (h : RH own bw L W) (hn : L.length = 1024) (x : Ob) (n : Int) :
    Calls Try.prog 44 #[.pointer (some ⟨bw, 0, none⟩), .agg #[.int .i64 x.kind, .int .i64 x.of, x.v, .int .i64 x.site, .int .i64 x.by', .int .i64 n]] W fun e W' => e = .returned (.tuple #[.int .i64 0, .int .i64 11]) ∧ Ext W W' := by
  obtain ⟨W1, hW1⟩ : ∃ W1, W1 = W.alloc (obo x n) := ⟨_, rfl⟩
  have hE1 : Ext W W1 := by rw [hW1]; exact Ext.one _ _
  obtain ⟨v, h1, h2, _⟩ := (h.ext hE1).ex
  obtain ⟨A, c, rfl⟩ := own_slice3 h2
  have c0 : W1.cell? ⟨bw, 0, none⟩ = some (.slice A L.length c) := by simp [World.cell?, h1]
  have hl : (1024 : Int) ≤ (L.length : Int) := by omega
  have HE1 := Lib.hid hE1
  have HW := Lib.hid hW1
  clear h h1 h2 hE1 hW1 hn
  go_enter Try.func44, Try.ntmps44
  go_upto_region 1 with (fail)
  change Code.wp _ _ _ _ (W.alloc (obo x n))
  rw [← HW.out]
  go_wp2_with fail
  refine bodyPost_ret (v := .tuple #[.int .i64 0, .int .i64 11]) (by simp [results, Try.results44, go_sem]) rfl ?_
  exact ⟨rfl, HE1.out⟩
end
end Go.Proofs.Ytjgggfickbbieaa
