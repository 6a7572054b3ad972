/- The document's queue: what is due. -/
import Derived.Test.YtmbdglolpagjdaaQvB
namespace Go.Proofs.Ytmbdglolpagjdaa
open Go.RowKit Go.Shelf
attribute [local go_sem] Oper.semAt_some

theorem eLt_tri {x y : Ent} (h1 : eLt x y = false) (h2 : eLt y x = false) : x.nth = y.nth := by
  unfold eLt at h1 h2
  cases hx : x.front <;> cases hy : y.front <;> simp [hx, hy] at h1 h2 <;> (try (split at h1 <;> split at h2)) <;> omega
theorem Ord.inj {E : List Ent} (h : Ord E) {x y : Ent} (hx : x ∈ E) (hy : y ∈ E) (e : x.nth = y.nth) : x = y := by
  obtain ⟨i, hi, rfl⟩ := List.getElem_of_mem hx
  obtain ⟨j, hj, rfl⟩ := List.getElem_of_mem hy
  rw [← nth_lt hi, ← nth_lt hj] at e ⊢
  rcases Nat.lt_trichotomy i j with k | k | k
  · have := h.lt k hj; omega
  · rw [k]
  · have := h.lt k hi; omega
theorem Ord.tri {E : List Ent} (h : Ord E) : Tri E := fun _ hx _ hy h1 h2 => h.inj hx hy (eLt_tri h1 h2)
theorem srt_head {E : List Ent} (ht : Tri E) {i : Nat} (hi : i < E.length) (h : ∀ k, k < E.length → eLt (nth E k) (nth E i) = false) : (srt E).head? = some (nth E i) := by
  have hp := srt_perm E
  have hs := srt_srt E
  have hm : nth E i ∈ srt E := hp.mem_iff.2 (nth_mem hi)
  unfold Srt at hs
  cases hse : srt E with
  | nil => rw [hse] at hm; cases hm
  | cons y r =>
    rw [hse] at hp hs hm
    have hy : y ∈ E := hp.mem_iff.1 (by simp)
    have h1 : eLt y (nth E i) = false := by
      obtain ⟨k, hk, e⟩ := List.getElem_of_mem hy
      rw [← nth_lt hk] at e; rw [← e]; exact h k hk
    have h2 : eLt (nth E i) y = false := by
      rcases List.mem_cons.1 hm with e | e
      · rw [e]; exact eLt_swo.irr _
      · exact (List.pairwise_cons.1 hs).1 _ e
    rw [ht y hy _ (nth_mem hi) h1 h2]; rfl
/-- Is an item due? -/
def isD (now : Int) (x : Ent) : Bool := x.front || decide (x.due ≤ now)
/-- What is due first. -/
def duP (now : Int) (E : List Ent) : Option Ent := (srt E).head?.filter (isD now)
def dueW : Option Ent → Value
  | none => .tuple #[.agg #[.int .i64 0, .bool false, .int .i64 0], .bool false]
  | some x => .tuple #[.agg #[.int .i64 x.task, .bool x.front, .int .i64 x.due], .bool true]
theorem ret_val {a b : Value} (h : a = b) : Ending.returned a = .returned b := by rw [h]
theorem duP_none {now : Int} : duP now [] = none := by simp [duP, srt]
theorem infoItem : (Try.prog.info? 32).map (fun i => (i.zero, i.size, i.bytes)) = some (some (.agg #[.int .i64 0, .bool false, .int .i64 0]), 3, 24) := by kernel_rfl
theorem sto3 {W : World} {b : Nat} {a0 a1 a2 : Value} {t : TypeId} (h : W.heap[b]? = some (.cells #[a0, a1, a2] t (0, 0))) (v0 v1 v2 : Value) :
    (((W.setCell ⟨b, 0, none⟩ v0).setCell ⟨b, 1, none⟩ v1).setCell ⟨b, 2, none⟩ v2).heap[b]? = some (.cells #[v0, v1, v2] t (0, 0)) ∧ ∀ p : Nat → Option TypeId → Bool, p b (some t) = false → Kept p W (((W.setCell ⟨b, 0, none⟩ v0).setCell ⟨b, 1, none⟩ v1).setCell ⟨b, 2, none⟩ v2) := by
  have h1 := heap_setCell_same W b 0 _ _ v0 h
  have h2 := heap_setCell_same _ b 1 _ _ v1 h1
  have h3 := heap_setCell_same _ b 2 _ _ v2 h2
  refine ⟨by rw [h3]; simp, fun p hp => ?_⟩
  exact ((Kept.setCell v0 fun o ho => by rw [h] at ho; cases ho; exact hp).trans (Kept.setCell v1 fun o ho => by rw [h1] at ho; cases ho; exact hp)).trans (Kept.setCell v2 fun o ho => by rw [h2] at ho; cases ho; exact hp)
theorem sto1 {W : World} {b : Nat} {a0 : Value} {t : TypeId} (h : W.heap[b]? = some (.cells #[a0] t (0, 0))) (v0 : Value) :
    (W.setCell ⟨b, 0, none⟩ v0).heap[b]? = some (.cells #[v0] t (0, 0)) ∧ ∀ p : Nat → Option TypeId → Bool, p b (some t) = false → Kept p W (W.setCell ⟨b, 0, none⟩ v0) := by
  have h1 := heap_setCell_same W b 0 _ _ v0 h
  exact ⟨by rw [h1]; simp, fun p hp => Kept.setCell v0 fun o ho => by rw [h] at ho; cases ho; exact hp⟩
def itmo (t : Int) (f : Bool) (d : Int) : Obj := .cells #[.int .i64 t, .bool f, .int .i64 d] 32 (0, 0)
theorem itmo_cells {W : World} {b : Nat} {t : Int} {f : Bool} {d : Int} (h : W.heap[b]? = some (itmo t f d)) : (W.cell? ⟨b, 0, none⟩ = some (.int .i64 t) ∧ W.cell? ⟨b, 1, none⟩ = some (.bool f) ∧ W.cell? ⟨b, 2, none⟩ = some (.int .i64 d)) ∧ (∀ n, W.frozen? ⟨b, n, none⟩ = false) ∧ b < W.heap.size := by
  refine ⟨by simp [World.cell?, h, itmo], fun n => frozen_of_row W b n _ _ h, (Array.getElem?_eq_some_iff.1 h).1⟩
/-- An item is stored in its box. -/
theorem itm_set {W W1 : World} {b : Nat} {t t' : Int} {f f' : Bool} {d d' : Int} (h : W.heap[b]? = some (itmo t f d)) (e : W1 = ((W.setCell ⟨b, 0, none⟩ (.int .i64 t')).setCell ⟨b, 1, none⟩ (.bool f')).setCell ⟨b, 2, none⟩ (.int .i64 d')) :
    W1.heap[b]? = some (itmo t' f' d') ∧ ∀ p : Nat → Option TypeId → Bool, p b (some 32) = false → Kept p W W1 := by
  subst e
  exact sto3 h _ _ _
theorem oldNot (B b : Nat) (h : B ≤ b) (t : Option TypeId) : pOld B b t = false := by simp [pOld]; omega
section
variable {E : List Ent} {bw : Nat} {W : World} {now : Int}
set_option maxHeartbeats 2000000 in
set_option maxRecDepth 100000 in
theorem refDue_ok (h : RQ bw E W) (ho : Ord E) (hn : E.length ≤ 1000000) :
    Calls Try.prog 27 #[.pointer (some ⟨bw, 0, none⟩), .int .i64 now] W fun e W' => e = .returned (dueW (duP now E)) ∧ Ext W W' := by
  obtain ⟨W1, hW1⟩ : ∃ W1, W1 = W.alloc (itmo 0 false 0) := ⟨_, rfl⟩
  have hE1 : Ext W W1 := by rw [hW1]; exact Ext.one _ _
  have hr0 : W1.heap[W.heap.size]? = some (itmo 0 false 0) := by rw [hW1]; exact World.alloc_heap_new _ _
  have hfi := first_ok (h.ext hE1) ho hn
  have HR := Lib.hid h
  have HO := Lib.hid ho
  have HE1 := Lib.hid hE1
  have HR0 := Lib.hid hr0
  have HW := Lib.hid hW1
  obtain ⟨R, hR⟩ : ∃ R, R = duP now E := ⟨_, rfl⟩
  rw [← hR]
  have HRR := Lib.hid hR
  clear h ho hE1 hr0 hW1 hR
  go_enter Try.func27, Try.ntmps27
  go_wp2_with fail
  change Calls _ _ _ (W.alloc (itmo 0 false 0)) _
  rw [← HW.out]
  refine hfi.mono ?_
  rintro e w2 ⟨hf, hx⟩
  have hE2 := HE1.out.trans hx
  have hr2 := (hx.kept (fun _ _ => true)).same _ _ HR0.out rfl
  have hq := HR.out.ext hE2
  have hlt := hq.lt
  obtain ⟨⟨q0, q1, q2⟩, qf, hls⟩ := itmo_cells hr2
  have HE2 := Lib.hid hE2
  have HR2 := Lib.hid hr2
  clear hfi hx hE2 hr2
  rcases hf with ⟨rfl, rfl⟩ | ⟨i, hi, rfl, hm⟩
  · have hR := HRR.out
    rw [duP_none] at hR
    subst hR
    clear hq HRR
    go_wp2
    obtain ⟨r1, r2⟩ := itm_set (t' := 0) (f' := false) (d' := 0) HR2.out rfl
    have hk := Kept.trans HE2.out (r2 (pOld W.heap.size) (oldNot _ _ (Nat.le_refl _) _))
    generalize ((w2.setCell ⟨W.heap.size, 0, none⟩ (.int .i64 0)).setCell ⟨W.heap.size, 1, none⟩ (.bool false)).setCell ⟨W.heap.size, 2, none⟩ (.int .i64 0) = wz at *
    obtain ⟨⟨c0, c1, c2⟩, _⟩ := itmo_cells r1
    refine bodyPost_ret (v := dueW none) (by simp [results, Try.results27, go_sem, c0, c1, c2]; rfl) rfl ?_
    exact ⟨rfl, hk⟩
  · have hR := HRR.out
    unfold duP at hR
    rw [srt_head HO.out.tri hi hm, Option.filter_some] at hR
    obtain ⟨g, c, c0, a0, a1, a2⟩ := hq.cells hi
    have hi0 : ¬ (i : Int) < 0 := by omega
    have hi1 : (i : Int) < (E.length : Int) := by omega
    clear hq HRR hm
    generalize nth E i = x at *
    cases hfr : x.front with
    | true =>
      rw [hfr] at a1
      rw [if_pos (by simp [isD, hfr])] at hR
      subst hR
      have HF := Lib.hid hfr
      clear hfr
      go_wp2
      obtain ⟨r1, r2⟩ := itm_set (t' := x.task) (f' := true) (d' := x.due) HR2.out rfl
      have hk := Kept.trans HE2.out (r2 (pOld W.heap.size) (oldNot _ _ (Nat.le_refl _) _))
      generalize ((w2.setCell ⟨W.heap.size, 0, none⟩ (.int .i64 x.task)).setCell ⟨W.heap.size, 1, none⟩ (.bool true)).setCell ⟨W.heap.size, 2, none⟩ (.int .i64 x.due) = wz at *
      obtain ⟨⟨c0, c1, c2⟩, _⟩ := itmo_cells r1
      refine bodyPost_ret (v := dueW (some x)) (by simp [results, Try.results27, go_sem, c0, c1, c2, dueW, HF.out]) rfl ?_
      exact ⟨rfl, hk⟩
    | false =>
      rw [hfr] at a1
      by_cases hd : x.due ≤ now
      · rw [if_pos (by simp [isD, hd])] at hR
        subst hR
        have hd' : ¬ x.due > now := by omega
        have HF := Lib.hid hfr
        clear hfr
        go_wp2
        obtain ⟨r1, r2⟩ := itm_set (t' := x.task) (f' := false) (d' := x.due) HR2.out rfl
        have hk := Kept.trans HE2.out (r2 (pOld W.heap.size) (oldNot _ _ (Nat.le_refl _) _))
        generalize ((w2.setCell ⟨W.heap.size, 0, none⟩ (.int .i64 x.task)).setCell ⟨W.heap.size, 1, none⟩ (.bool false)).setCell ⟨W.heap.size, 2, none⟩ (.int .i64 x.due) = wz at *
        obtain ⟨⟨c0, c1, c2⟩, _⟩ := itmo_cells r1
        refine bodyPost_ret (v := dueW (some x)) (by simp [results, Try.results27, go_sem, c0, c1, c2, dueW, HF.out]) rfl ?_
        exact ⟨rfl, hk⟩
      · rw [if_neg (by simp [isD, hfr, hd])] at hR
        subst hR
        have hd' : x.due > now := by omega
        clear hfr
        go_wp2
        obtain ⟨r1, r2⟩ := itm_set (t' := 0) (f' := false) (d' := 0) HR2.out rfl
        have hk := Kept.trans HE2.out (r2 (pOld W.heap.size) (oldNot _ _ (Nat.le_refl _) _))
        generalize ((w2.setCell ⟨W.heap.size, 0, none⟩ (.int .i64 0)).setCell ⟨W.heap.size, 1, none⟩ (.bool false)).setCell ⟨W.heap.size, 2, none⟩ (.int .i64 0) = wz at *
        obtain ⟨⟨c0, c1, c2⟩, _⟩ := itmo_cells r1
        refine bodyPost_ret (v := dueW none) (by simp [results, Try.results27, go_sem, c0, c1, c2]; rfl) rfl ?_
        exact ⟨rfl, hk⟩
end
end Go.Proofs.Ytmbdglolpagjdaa
