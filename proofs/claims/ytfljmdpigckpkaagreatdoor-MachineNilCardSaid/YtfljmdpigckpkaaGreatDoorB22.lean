/- The document's queue: what is due; The document's queue: an item is put; The document's queue: an item is dropped, or taken. -/
import Derived.Test.YtfljmdpigckpkaaGreatDoorB21
import Derived.Maps.AppendAt
import Derived.Laws.OwnMore
namespace Go.Proofs.YtfljmdpigckpkaaGreatDoor.QQ
open Go.RowKit Go.Shelf
attribute [local go_sem] Oper.semAt_some

theorem eLt_tri {x y : Ent} (h1 : eLt x y = false) (h2 : eLt y x = false) : x.nth = y.nth := by
  unfold eLt at h1 h2
  cases hx : x.front <;> cases hy : y.front <;> simp [hx, hy] at h1 h2 <;> (try (split at h1 <;> split at h2)) <;> omega
theorem Ord.inj {E : List Ent} (h : Ord E) {x y : Ent} (hx : x ∈ E) (hy : y ∈ E) (e : x.nth = y.nth) : x = y := by
  obtain ⟨i, hi, rfl⟩ := List.getElem_of_mem hx
  obtain ⟨j, hj, rfl⟩ := List.getElem_of_mem hy
  rw [← nth_lt hi, ← nth_lt hj] at e ⊢
  rcases Nat.lt_trichotomy i j with k | k | k
  · have := h.lt k hj; omega
  · rw [k]
  · have := h.lt k hi; omega
theorem Ord.tri {E : List Ent} (h : Ord E) : Tri E := fun _ hx _ hy h1 h2 => h.inj hx hy (eLt_tri h1 h2)
theorem srt_head {E : List Ent} (ht : Tri E) {i : Nat} (hi : i < E.length) (h : ∀ k, k < E.length → eLt (nth E k) (nth E i) = false) : (srt E).head? = some (nth E i) := by
  have hp := srt_perm E
  have hs := srt_srt E
  have hm : nth E i ∈ srt E := hp.mem_iff.2 (nth_mem hi)
  unfold Srt at hs
  cases hse : srt E with
  | nil => rw [hse] at hm; cases hm
  | cons y r =>
    rw [hse] at hp hs hm
    have hy : y ∈ E := hp.mem_iff.1 (by simp)
    have h1 : eLt y (nth E i) = false := by
      obtain ⟨k, hk, e⟩ := List.getElem_of_mem hy
      rw [← nth_lt hk] at e; rw [← e]; exact h k hk
    have h2 : eLt (nth E i) y = false := by
      rcases List.mem_cons.1 hm with e | e
      · rw [e]; exact eLt_swo.irr _
      · exact (List.pairwise_cons.1 hs).1 _ e
    rw [ht y hy _ (nth_mem hi) h1 h2]; rfl
/-- Is an item due? -/
def isD (now : Int) (x : Ent) : Bool := x.front || decide (x.due ≤ now)
/-- What is due first. -/
def duP (now : Int) (E : List Ent) : Option Ent := (srt E).head?.filter (isD now)
def dueW : Option Ent → Value
  | none => .tuple #[.agg #[.int .i64 0, .bool false, .int .i64 0], .bool false]
  | some x => .tuple #[.agg #[.int .i64 x.task, .bool x.front, .int .i64 x.due], .bool true]
theorem ret_val {a b : Value} (h : a = b) : Ending.returned a = .returned b := by rw [h]
theorem duP_none {now : Int} : duP now [] = none := by simp [duP, srt]
theorem infoItem : (Tryz.prog.info? 102).map (fun i => (i.zero, i.size, i.bytes)) = some (some (.agg #[.int .i64 0, .bool false, .int .i64 0]), 3, 24) := by kernel_rfl
theorem sto3 {W : World} {b : Nat} {a0 a1 a2 : Value} {t : TypeId} (h : W.heap[b]? = some (.cells #[a0, a1, a2] t (0, 0))) (v0 v1 v2 : Value) :
    (((W.setCell ⟨b, 0, none⟩ v0).setCell ⟨b, 1, none⟩ v1).setCell ⟨b, 2, none⟩ v2).heap[b]? = some (.cells #[v0, v1, v2] t (0, 0)) ∧ ∀ p : Nat → Option TypeId → Bool, p b (some t) = false → Kept p W (((W.setCell ⟨b, 0, none⟩ v0).setCell ⟨b, 1, none⟩ v1).setCell ⟨b, 2, none⟩ v2) := by
  have h1 := heap_setCell_same W b 0 _ _ v0 h
  have h2 := heap_setCell_same _ b 1 _ _ v1 h1
  have h3 := heap_setCell_same _ b 2 _ _ v2 h2
  refine ⟨by rw [h3]; simp, fun p hp => ?_⟩
  exact ((Kept.setCell v0 fun o ho => by rw [h] at ho; cases ho; exact hp).trans (Kept.setCell v1 fun o ho => by rw [h1] at ho; cases ho; exact hp)).trans (Kept.setCell v2 fun o ho => by rw [h2] at ho; cases ho; exact hp)
theorem sto1 {W : World} {b : Nat} {a0 : Value} {t : TypeId} (h : W.heap[b]? = some (.cells #[a0] t (0, 0))) (v0 : Value) :
    (W.setCell ⟨b, 0, none⟩ v0).heap[b]? = some (.cells #[v0] t (0, 0)) ∧ ∀ p : Nat → Option TypeId → Bool, p b (some t) = false → Kept p W (W.setCell ⟨b, 0, none⟩ v0) := by
  have h1 := heap_setCell_same W b 0 _ _ v0 h
  exact ⟨by rw [h1]; simp, fun p hp => Kept.setCell v0 fun o ho => by rw [h] at ho; cases ho; exact hp⟩
def itmo (t : Int) (f : Bool) (d : Int) : Obj := .cells #[.int .i64 t, .bool f, .int .i64 d] 102 (0, 0)
theorem itmo_cells {W : World} {b : Nat} {t : Int} {f : Bool} {d : Int} (h : W.heap[b]? = some (itmo t f d)) : (W.cell? ⟨b, 0, none⟩ = some (.int .i64 t) ∧ W.cell? ⟨b, 1, none⟩ = some (.bool f) ∧ W.cell? ⟨b, 2, none⟩ = some (.int .i64 d)) ∧ (∀ n, W.frozen? ⟨b, n, none⟩ = false) ∧ b < W.heap.size := by
  refine ⟨by simp [World.cell?, h, itmo], fun n => frozen_of_row W b n _ _ h, (Array.getElem?_eq_some_iff.1 h).1⟩
/-- An item is stored in its box. -/
theorem itm_set {W W1 : World} {b : Nat} {t t' : Int} {f f' : Bool} {d d' : Int} (h : W.heap[b]? = some (itmo t f d)) (e : W1 = ((W.setCell ⟨b, 0, none⟩ (.int .i64 t')).setCell ⟨b, 1, none⟩ (.bool f')).setCell ⟨b, 2, none⟩ (.int .i64 d')) :
    W1.heap[b]? = some (itmo t' f' d') ∧ ∀ p : Nat → Option TypeId → Bool, p b (some 102) = false → Kept p W W1 := by
  subst e
  exact sto3 h _ _ _
theorem oldNot (B b : Nat) (h : B ≤ b) (t : Option TypeId) : pOld B b t = false := by simp [pOld]; omega
section
variable {E : List Ent} {bw : Nat} {W : World} {now : Int}
set_option maxHeartbeats 2000000 in
set_option maxRecDepth 100000 in
theorem refDue_ok (h : RQ bw E W) (ho : Ord E) (hn : E.length ≤ 1000000) :
    Calls Tryz.prog 42 #[.pointer (some ⟨bw, 0, none⟩), .int .i64 now] W fun e W' => e = .returned (dueW (duP now E)) ∧ Ext W W' := by
  obtain ⟨W1, hW1⟩ : ∃ W1, W1 = W.alloc (itmo 0 false 0) := ⟨_, rfl⟩
  have hE1 : Ext W W1 := by rw [hW1]; exact Ext.one _ _
  have hr0 : W1.heap[W.heap.size]? = some (itmo 0 false 0) := by rw [hW1]; exact World.alloc_heap_new _ _
  have hfi := first_ok (h.ext hE1) ho hn
  have HR := Lib.hid h
  have HO := Lib.hid ho
  have HE1 := Lib.hid hE1
  have HR0 := Lib.hid hr0
  have HW := Lib.hid hW1
  obtain ⟨R, hR⟩ : ∃ R, R = duP now E := ⟨_, rfl⟩
  rw [← hR]
  have HRR := Lib.hid hR
  clear h ho hE1 hr0 hW1 hR
  go_enter Tryz.func42, Tryz.ntmps42
  go_wp2_with fail
  change Calls _ _ _ (W.alloc (itmo 0 false 0)) _
  rw [← HW.out]
  refine hfi.mono ?_
  rintro e w2 ⟨hf, hx⟩
  have hE2 := HE1.out.trans hx
  have hr2 := (hx.kept (fun _ _ => true)).same _ _ HR0.out rfl
  have hq := HR.out.ext hE2
  have hlt := hq.lt
  obtain ⟨⟨q0, q1, q2⟩, qf, hls⟩ := itmo_cells hr2
  have HE2 := Lib.hid hE2
  have HR2 := Lib.hid hr2
  clear hfi hx hE2 hr2
  rcases hf with ⟨rfl, rfl⟩ | ⟨i, hi, rfl, hm⟩
  · have hR := HRR.out
    rw [duP_none] at hR
    subst hR
    clear hq HRR
    go_wp2
    obtain ⟨r1, r2⟩ := itm_set (t' := 0) (f' := false) (d' := 0) HR2.out rfl
    have hk := Kept.trans HE2.out (r2 (pOld W.heap.size) (oldNot _ _ (Nat.le_refl _) _))
    generalize ((w2.setCell ⟨W.heap.size, 0, none⟩ (.int .i64 0)).setCell ⟨W.heap.size, 1, none⟩ (.bool false)).setCell ⟨W.heap.size, 2, none⟩ (.int .i64 0) = wz at *
    obtain ⟨⟨c0, c1, c2⟩, _⟩ := itmo_cells r1
    refine bodyPost_ret (v := dueW none) (by simp [results, Tryz.results42, go_sem, c0, c1, c2]; rfl) rfl ?_
    exact ⟨rfl, hk⟩
  · have hR := HRR.out
    unfold duP at hR
    rw [srt_head HO.out.tri hi hm, Option.filter_some] at hR
    obtain ⟨g, c, c0, a0, a1, a2⟩ := hq.cells hi
    have hi0 : ¬ (i : Int) < 0 := by omega
    have hi1 : (i : Int) < (E.length : Int) := by omega
    clear hq HRR hm
    generalize nth E i = x at *
    cases hfr : x.front with
    | true =>
      rw [hfr] at a1
      rw [if_pos (by simp [isD, hfr])] at hR
      subst hR
      have HF := Lib.hid hfr
      clear hfr
      go_wp2
      obtain ⟨r1, r2⟩ := itm_set (t' := x.task) (f' := true) (d' := x.due) HR2.out rfl
      have hk := Kept.trans HE2.out (r2 (pOld W.heap.size) (oldNot _ _ (Nat.le_refl _) _))
      generalize ((w2.setCell ⟨W.heap.size, 0, none⟩ (.int .i64 x.task)).setCell ⟨W.heap.size, 1, none⟩ (.bool true)).setCell ⟨W.heap.size, 2, none⟩ (.int .i64 x.due) = wz at *
      obtain ⟨⟨c0, c1, c2⟩, _⟩ := itmo_cells r1
      refine bodyPost_ret (v := dueW (some x)) (by simp [results, Tryz.results42, go_sem, c0, c1, c2, dueW, HF.out]) rfl ?_
      exact ⟨rfl, hk⟩
    | false =>
      rw [hfr] at a1
      by_cases hd : x.due ≤ now
      · rw [if_pos (by simp [isD, hd])] at hR
        subst hR
        have hd' : ¬ x.due > now := by omega
        have HF := Lib.hid hfr
        clear hfr
        go_wp2
        obtain ⟨r1, r2⟩ := itm_set (t' := x.task) (f' := false) (d' := x.due) HR2.out rfl
        have hk := Kept.trans HE2.out (r2 (pOld W.heap.size) (oldNot _ _ (Nat.le_refl _) _))
        generalize ((w2.setCell ⟨W.heap.size, 0, none⟩ (.int .i64 x.task)).setCell ⟨W.heap.size, 1, none⟩ (.bool false)).setCell ⟨W.heap.size, 2, none⟩ (.int .i64 x.due) = wz at *
        obtain ⟨⟨c0, c1, c2⟩, _⟩ := itmo_cells r1
        refine bodyPost_ret (v := dueW (some x)) (by simp [results, Tryz.results42, go_sem, c0, c1, c2, dueW, HF.out]) rfl ?_
        exact ⟨rfl, hk⟩
      · rw [if_neg (by simp [isD, hfr, hd])] at hR
        subst hR
        have hd' : x.due > now := by omega
        clear hfr
        go_wp2
        obtain ⟨r1, r2⟩ := itm_set (t' := 0) (f' := false) (d' := 0) HR2.out rfl
        have hk := Kept.trans HE2.out (r2 (pOld W.heap.size) (oldNot _ _ (Nat.le_refl _) _))
        generalize ((w2.setCell ⟨W.heap.size, 0, none⟩ (.int .i64 0)).setCell ⟨W.heap.size, 1, none⟩ (.bool false)).setCell ⟨W.heap.size, 2, none⟩ (.int .i64 0) = wz at *
        obtain ⟨⟨c0, c1, c2⟩, _⟩ := itmo_cells r1
        refine bodyPost_ret (v := dueW none) (by simp [results, Tryz.results42, go_sem, c0, c1, c2]; rfl) rfl ?_
        exact ⟨rfl, hk⟩
end
end Go.Proofs.YtfljmdpigckpkaaGreatDoor.QQ

namespace Go.Proofs.YtfljmdpigckpkaaGreatDoor.QQ
open Go.RowKit Go.Shelf
attribute [local go_sem] Oper.semAt_some

/-- What is read of a slice that is appended. -/
def Src (w : World) (x : Value) (m : Nat) (news : List Value) : Prop := (x = .slice none 0 0 ∧ m = 0 ∧ news = []) ∨ ∃ ad c, x = .slice (some ad) m c ∧ ∀ (j : Nat) (u : Value), news[j]? = some u → w.cell? (ad.add j) = some u
theorem run_append_any {P : Program} (w : World) (base : Nat) (t ty e : TypeId) (i : TypeInfo) (z : Value) (size bytes : Nat) (ht : P.underlying t = some (.slice e)) (hi : P.info? e = some i) (hz : i.zero = some z) (hsize : i.size = size) (hby : i.bytes = bytes)
    (hzs : z.cells.size = size) (hsz : 0 < size) (v : Value) (n : Nat) (xs : List Value) (hown : w.ownsRow base e size v n xs) (x : Value) (m : Nat) (news : List Value) (hl : news.length = m * size) (hsrc : Src w x m news) (h1 : ∀ u ∈ news, u.oneCell' = true)
    (h63 : n + m ≤ maxLen) (hbytes : (n + m) * bytes ≤ 140737488355328) (hbase : base ≤ w.heap.size) :
    ∃ A c w', Sem.run P (Builtin.append_ #[t, t] ty #[v, x]) w = .ok (.slice A (n + m) c) w' ∧ w'.ownsRow base e size (.slice A (n + m) c) (n + m) (xs ++ news) ∧ w.grownBy w' v.ownBlock ∧ ((Value.slice A (n + m) c).ownBlock = v.ownBlock ∨ (Value.slice A (n + m) c).ownBlock = some w.heap.size) := by
  rcases hsrc with ⟨rfl, rfl, rfl⟩ | ⟨ad, c, rfl, hnews⟩
  · obtain ⟨A, c, rfl⟩ := own_slice3 hown
    refine ⟨A, c, w, ?_, by rw [List.append_nil]; exact hown, World.grownBy.refl _ _, .inl rfl⟩
    simp only [Nat.add_zero]
    exact run_append_owned_none (P := P) (w := w) base t ty e i size ht hi _ _ _ hown
  · obtain ⟨v', w', h2, h3, h4, _, h5⟩ := run_append_own_at w base t ty e i z size bytes ht hi hz hsize hby hzs hsz v n xs hown ad m c news hl hnews h1 h63 hbytes hbase
    obtain ⟨A, c', rfl⟩ := own_slice3 h3
    exact ⟨A, c', w', h2, h3, h4, h5⟩
theorem wp_append_any {P : Program} {w : World} {o : Oper} {a : Act} {K : Act → World → Prop} {Q : Exit → Act → World → Prop} (s x : Operand) (t : TypeId)
    (ho : o.op = Op.call { callee := Callee.builtin Builtin.append, args := #[s, x], argTypes := #[t, t] }) (base : Nat) (e : TypeId) (i : TypeInfo) (z : Value) (size bytes : Nat) (ht : P.underlying t = some (.slice e)) (hi : P.info? e = some i) (hz : i.zero = some z) (hsize : i.size = size) (hby : i.bytes = bytes)
    (hzs : z.cells.size = size) (hsz : 0 < size) (v : Value) (n : Nat) (xs : List Value) (hs : a.eval s = v) (hown : w.ownsRow base e size v n xs) (xv : Value) (m : Nat) (news : List Value) (hx : a.eval x = xv) (hl : news.length = m * size) (hsrc : Src w xv m news) (h1 : ∀ u ∈ news, u.oneCell' = true)
    (h63 : n + m ≤ maxLen) (hbytes : (n + m) * bytes ≤ 140737488355328) (hbase : base ≤ w.heap.size) (T : Nat) (hT : n + m = T) (ys : List Value) (hY : xs ++ news = ys)
    (h : ∀ A c w', w'.ownsRow base e size (.slice A T c) T ys → w.grownBy w' v.ownBlock → ((Value.slice A T c).ownBlock = v.ownBlock ∨ (Value.slice A T c).ownBlock = some w.heap.size) → K (a.put o.dst (.slice A T c)) w') :
    Oper.wp P o a w K Q := by
  subst hT hY
  obtain ⟨A, c, w', hrun, h2, h3, h4⟩ := run_append_any w base t o.type e i z size bytes ht hi hz hsize hby hzs hsz v n xs hown xv m news hl hsrc h1 h63 hbytes hbase
  unfold Oper.wp
  simp [execOp, ho, resolve, invoke, builtin, hs, hx, hrun, Result.andThen]
  exact h A c w' h2 h3 h4
theorem step_append_any {P : Program} {w : World} {ops : Array Oper} {o : Oper} {a : Act} {K : Act → World → Prop} {Q : Exit → Act → World → Prop} {EE : Prop} (hgd : o.guard = none) (s x : Operand) (t : TypeId)
    (ho : o.op = Op.call { callee := Callee.builtin Builtin.append, args := #[s, x], argTypes := #[t, t] }) (base : Nat) (e : TypeId) (i : TypeInfo) (z : Value) (size bytes : Nat) (ht : P.underlying t = some (.slice e)) (hi : P.info? e = some i) (hz : i.zero = some z) (hsize : i.size = size) (hby : i.bytes = bytes)
    (hzs : z.cells.size = size) (hsz : 0 < size) (v : Value) (n : Nat) (xs : List Value) (hs : a.eval s = v) (hown : w.ownsRow base e size v n xs) (xv : Value) (m : Nat) (news : List Value) (hx : a.eval x = xv) (hl : news.length = m * size) (hsrc : Src w xv m news) (h1 : ∀ u ∈ news, u.oneCell' = true)
    (h63 : n + m ≤ maxLen) (hbytes : (n + m) * bytes ≤ 140737488355328) (hbase : base ≤ w.heap.size) (T : Nat) (hT : n + m = T) (ys : List Value) (hY : xs ++ news = ys)
    (h : ∀ A c w', w'.ownsRow base e size (.slice A T c) T ys → w.grownBy w' v.ownBlock → ((Value.slice A T c).ownBlock = v.ownBlock ∨ (Value.slice A T c).ownBlock = some w.heap.size) → K (a.put o.dst (.slice A T c)) w') :
    if Region.wanted o (yielded ops a.tmps) = true then Oper.wp P o a w K Q else EE := by
  have hw : Region.wanted o (yielded ops a.tmps) = true := by simp [Region.wanted, hgd]
  rw [if_pos hw]
  exact wp_append_any s x t ho base e i z size bytes ht hi hz hsize hby hzs hsz v n xs hs hown xv m news hx hl hsrc h1 h63 hbytes hbase T hT ys hY h
theorem Src.of {w : World} {base : Nat} {e : TypeId} {size : Nat} {v : Value} {n : Nat} {xs : List Value} (h : w.ownsRow base e size v n xs) (hl : xs.length = n * size) : Src w v n xs := by
  rcases h.2 with ⟨h0, h1⟩ | ⟨g, cap, cur, e, _⟩
  · subst h1
    exact .inl ⟨h0, rfl, List.eq_nil_of_length_eq_zero (by omega)⟩
  · exact .inr ⟨⟨g, 0, none⟩, cap, e, fun j u hj => h.cells (g := g) (by rw [e]; rfl) j u hj⟩
theorem own_zero {W : World} {B : Nat} {e : TypeId} {size : Nat} {v : Value} {n : Nat} {xs : List Value} (h : W.ownsRow B e size v n xs) : W.ownsRow 0 e size v n xs := by
  refine ⟨h.1, ?_⟩
  rcases h.2 with h1 | ⟨g, cap, cur, e, _, h2⟩
  · exact .inl h1
  · exact .inr ⟨g, cap, cur, e, Nat.zero_le _, h2⟩
/-- What the document's queue leaves as it is: all but its own box. -/
def pW (bw : Nat) : Nat → Option TypeId → Bool := fun b _ => b != bw
theorem RQ.store {bw n : Nat} {E E' : List Ent} {W W1 W2 : World} {v : Value} (h : RQ bw E W) (hx : Ext W W1) {B : Nat} (ho' : W1.ownsRow B 102 3 v n (row3 E')) (hn : n = E'.length) (hW2 : W2 = W1.setCell ⟨bw, 0, none⟩ v) : RQ bw E' W2 ∧ Kept (pW bw) W W2 := by
  obtain ⟨v0, h1, h2⟩ := h.ext hx
  obtain ⟨h3, h4⟩ := sto1 h1 v
  have ho := own_zero ho'
  subst hW2 hn
  refine ⟨⟨v, h3, (h4 (fun b _ => b != bw) (by simp)).row ho fun g hg => ?_⟩, (hx.kept _).trans (h4 _ (by simp [pW]))⟩
  obtain ⟨o, k1, k2⟩ := own_is ho g hg
  simp
  intro e
  subst e
  rw [h1] at k1
  cases k1
  cases k2
theorem grown_ext {W0 W W1 : World} {r : Option Nat} (h : Ext W0 W) (hg : W.grownBy W1 r) (hr : ∀ b, r = some b → W0.heap.size ≤ b) : Ext W0 W1 := Kept.trans h (Kept.grown hg fun j o e _ => by have := hr j e; simp [pOld]; omega)
theorem own_base {W : World} {B : Nat} {e : TypeId} {size : Nat} {v : Value} {n : Nat} {xs : List Value} (h : W.ownsRow B e size v n xs) : ∀ b, v.ownBlock = some b → B ≤ b := fun b hb => by
  obtain ⟨o, h1, _⟩ := own_is h b hb
  exact (own_tag h b o hb h1).2
theorem RQ.src {bw : Nat} {E : List Ent} {W : World} (h : RQ bw E W) : ∃ A c, (W.cell? ⟨bw, 0, none⟩ = some (.slice A E.length c) ∧ W.frozen? ⟨bw, 0, none⟩ = false) ∧ ∀ W', Ext W W' → Src W' (.slice A E.length c) E.length (row3 E) := by
  obtain ⟨v, h1, h2⟩ := h
  obtain ⟨A, c, rfl⟩ := own_slice3 h2
  refine ⟨A, c, ⟨by simp [World.cell?, h1], frozen_of_row W bw 0 _ _ h1⟩, fun W' hx => Src.of ((hx.kept (fun _ _ => true)).row h2 fun _ _ => rfl) (row3_len E)⟩
theorem Src.new {w : World} {b : Nat} {x : Ent} (h : w.heap[b]? = some (ito x)) : Src w (.slice (some ⟨b, 0, none⟩) 1 1) 1 x.it3 := .inr ⟨_, _, rfl, World.news_of_block (cs := #[.int .i64 x.task, .bool x.front, .int .i64 x.due]) (t := 102) (fr := (0, 0)) h⟩
theorem it3_one (x : Ent) : ∀ u ∈ x.it3, u.oneCell' = true := by simp [Ent.it3, Value.oneCell']
section
variable {E : List Ent} {bw : Nat} {W : World}
set_option maxHeartbeats 2000000 in
set_option maxRecDepth 100000 in
theorem refPut_new (h : RQ bw E W) (hn : E.length < 1000000) (x : Ent) (hx : 0 ≤ x.task ∧ 0 ≤ x.due) (hno : ∀ k, k < E.length → (nth E k).task ≠ x.task) :
    Calls Tryz.prog 158 #[.pointer (some ⟨bw, 0, none⟩), .agg #[.int .i64 x.task, .bool x.front, .int .i64 x.due]] W fun e W' => e = .returned (.int .i64 0) ∧ RQ bw (E ++ [x]) W' ∧ Kept (pW bw) W W' := by
  obtain ⟨W1, hW1⟩ : ∃ W1, W1 = W.alloc (ito x) := ⟨_, rfl⟩
  have hE1 : Ext W W1 := by rw [hW1]; exact Ext.one _ _
  have hr0 : W1.heap[W.heap.size]? = some (ito x) := by rw [hW1]; exact World.alloc_heap_new _ _
  have h' := h.ext hE1
  have hof := of_ok h' (by omega) x.task
  obtain ⟨x0, x1, x2⟩ := ito_cells hr0
  obtain ⟨A, c, ⟨c0, f0⟩, hsrc⟩ := h'.src
  have hlt := h'.lt
  have hlx := (Array.getElem?_eq_some_iff.1 hr0).1
  obtain ⟨hx1, hx2⟩ := hx
  have HE1 := Lib.hid hE1
  have HR := Lib.hid h'
  have HR0 := Lib.hid hr0
  have HW := Lib.hid hW1
  have HS := Lib.hid hsrc
  have HNO := Lib.hid hno
  clear h h' hE1 hr0 hW1 hsrc hno
  obtain ⟨i0, hi0, hz0, hz1, hz2⟩ := info_parts infoItem
  go_enter Tryz.func158, Tryz.ntmps158
  go_upto_region 1 with (fail)
  change Code.wp _ _ _ _ (W.alloc (ito x))
  rw [← HW.out]
  go_wp2_with fail
  refine hof.mono ?_
  rintro e w2 ⟨ho, rfl⟩
  rcases ho with ⟨i, hi, rfl, h2, _⟩ | ⟨rfl, _⟩
  · exact absurd h2 (HNO.out i hi)
  clear hof
  go_wp2_with fail
  go_region_law (first
    | (refine step_append_any (by rfl) _ _ _ (by rfl) w2.heap.size 102 i0 (.agg #[.int .i64 0, .bool false, .int .i64 0]) 3 24 Tryz.underlying196 hi0 hz0 hz1 hz2 rfl (by omega) (.slice none 0 0) 0 [] (by rfl) (World.ownsRow_nil _ _ _ _) (.slice A E.length c) E.length (row3 E) (by rfl) (row3_len E) (HS.out _ (by first | exact Ext.drew _ | exact (Ext.drew _).trans (Ext.one _ _))) (row3_one E) (by unfold maxLen; omega) (by omega) (by first | exact Nat.le_refl _ | simp) E.length (by omega) (row3 E) (by simp) ?_; intro A1 c1 w3 hown1 hgrow1 hat1; have hx3 : Ext w2 w3 := grown_ext (by first | exact Ext.drew _ | exact (Ext.drew _).trans (Ext.one _ _)) hgrow1 (by intro b hb; simp [Value.ownBlock] at hb); obtain ⟨y0, y1, y2⟩ := ito_cells ((hx3.kept (fun _ _ => true)).same _ _ HR0.out rfl); have hl3 := hx3.size)
    | (refine step_append_any (by rfl) _ _ _ (by rfl) w2.heap.size 102 i0 (.agg #[.int .i64 0, .bool false, .int .i64 0]) 3 24 Tryz.underlying196 hi0 hz0 hz1 hz2 rfl (by omega) (.slice A1 E.length c1) E.length (row3 E) (by rfl) (by first | exact hown1 | exact hown1.alloc _) (.slice (some ⟨w3.heap.size, 0, none⟩) 1 1) 1 x.it3 (by rfl) (by rfl) (Src.new (heap_alloc_new w3 _)) (it3_one x) (by unfold maxLen; omega) (by omega) (by simp; omega) (E.length + 1) rfl (row3 (E ++ [x])) (row3_snoc E x).symm ?_; intro A2 c2 w4 hown2 hgrow2 hat2; have hx4 : Ext w2 w4 := grown_ext (by first | exact hx3 | exact hx3.trans (Ext.one _ _)) hgrow2 (own_base hown1); obtain ⟨A9, c9, ⟨d0, df⟩, _⟩ := (HR.out.ext hx4).src)
    | (refine step_append_any (by rfl) _ _ _ (by rfl) w2.heap.size 102 i0 (.agg #[.int .i64 0, .bool false, .int .i64 0]) 3 24 Tryz.underlying196 hi0 hz0 hz1 hz2 rfl (by omega) (.slice A1 E.length c1) E.length (row3 E) (by rfl) (by first | exact hown1 | exact hown1.alloc _) (.slice (some ⟨w2.heap.size, 0, none⟩) 1 1) 1 x.it3 (by rfl) (by rfl) (Src.new (x := x) ((hgrow1.block w2.heap.size (by simp) (by simp [Value.ownBlock])).trans (heap_alloc_new w2.drew _))) (it3_one x) (by unfold maxLen; omega) (by omega) hl3 (E.length + 1) rfl (row3 (E ++ [x])) (row3_snoc E x).symm ?_; intro A2 c2 w4 hown2 hgrow2 hat2; have hx4 : Ext w2 w4 := grown_ext (by first | exact hx3 | exact hx3.trans (Ext.one _ _)) hgrow2 (own_base hown1); obtain ⟨A9, c9, ⟨d0, df⟩, _⟩ := (HR.out.ext hx4).src))
  all_goals
    obtain ⟨hQ, hK⟩ := HR.out.store hx4 hown2 (by simp) rfl
    have HQ := Lib.hid hQ
    have HK := Lib.hid hK
    clear hQ hK x0 x1 x2 c0 f0 y0 y1 y2 d0 df hown1 hgrow1 hat1 hown2 hgrow2 hat2 hx3 hx4
    go_wp2_with fail
    go_ret
    exact ⟨rfl, HQ.out, (HE1.out.kept _).trans HK.out⟩

set_option maxHeartbeats 2000000 in
set_option maxRecDepth 100000 in
theorem refPut_twice (h : RQ bw E W) (hn : E.length < 1000000) (x : Ent) (hx : 0 ≤ x.task ∧ 0 ≤ x.due) {i : Nat} (hi : i < E.length) (hit : (nth E i).task = x.task) :
    Calls Tryz.prog 158 #[.pointer (some ⟨bw, 0, none⟩), .agg #[.int .i64 x.task, .bool x.front, .int .i64 x.due]] W fun e W' => e = .returned (.int .i64 7) ∧ Ext W W' := by
  obtain ⟨W1, hW1⟩ : ∃ W1, W1 = W.alloc (ito x) := ⟨_, rfl⟩
  have hE1 : Ext W W1 := by rw [hW1]; exact Ext.one _ _
  have hr0 : W1.heap[W.heap.size]? = some (ito x) := by rw [hW1]; exact World.alloc_heap_new _ _
  have hof := of_ok (h.ext hE1) (by omega) x.task
  obtain ⟨x0, x1, x2⟩ := ito_cells hr0
  obtain ⟨hx1, hx2⟩ := hx
  have HE1 := Lib.hid hE1
  have HW := Lib.hid hW1
  have HIT := Lib.hid hit
  clear h hE1 hr0 hW1 hit
  go_enter Tryz.func158, Tryz.ntmps158
  go_upto_region 1 with (fail)
  change Code.wp _ _ _ _ (W.alloc (ito x))
  rw [← HW.out]
  go_wp2_with fail
  refine hof.mono ?_
  rintro e w2 ⟨ho, rfl⟩
  rcases ho with ⟨j, hj, rfl, h2, _⟩ | ⟨rfl, hno⟩
  · clear hof h2
    have hj0 : (0 : Int) ≤ (j : Int) := by omega
    go_wp2_with fail
    go_ret
    exact ⟨rfl, HE1.out⟩
  · exact absurd HIT.out (hno i hi)

set_option maxHeartbeats 2000000 in
set_option maxRecDepth 100000 in
theorem refPut_bad (x : Ent) (hx : x.task < 0 ∨ x.due < 0) :
    Calls Tryz.prog 158 #[.pointer (some ⟨bw, 0, none⟩), .agg #[.int .i64 x.task, .bool x.front, .int .i64 x.due]] W fun e W' => e = .returned (.int .i64 2) ∧ Ext W W' := by
  obtain ⟨W1, hW1⟩ : ∃ W1, W1 = W.alloc (ito x) := ⟨_, rfl⟩
  have hE1 : Ext W W1 := by rw [hW1]; exact Ext.one _ _
  have hr0 : W1.heap[W.heap.size]? = some (ito x) := by rw [hW1]; exact World.alloc_heap_new _ _
  obtain ⟨x0, x1, x2⟩ := ito_cells hr0
  have HE1 := Lib.hid hE1
  have HW := Lib.hid hW1
  clear hE1 hr0 hW1
  by_cases ht : x.task < 0
  · clear hx
    go_enter Tryz.func158, Tryz.ntmps158
    go_upto_region 1 with (fail)
    change Code.wp _ _ _ _ (W.alloc (ito x))
    rw [← HW.out]
    go_wp2_with fail
    go_ret
    exact ⟨rfl, HE1.out⟩
  · have hd : x.due < 0 := hx.resolve_left ht
    clear hx
    go_enter Tryz.func158, Tryz.ntmps158
    go_upto_region 1 with (fail)
    change Code.wp _ _ _ _ (W.alloc (ito x))
    rw [← HW.out]
    go_wp2_with fail
    go_ret
    exact ⟨rfl, HE1.out⟩
end
end Go.Proofs.YtfljmdpigckpkaaGreatDoor.QQ

namespace Go.Proofs.YtfljmdpigckpkaaGreatDoor.QQ
open Go.RowKit Go.Shelf
attribute [local go_sem] Oper.semAt_some

/-- No two items of one task. -/
def Dst (E : List Ent) : Prop := E.Pairwise fun a b => a.task ≠ b.task
def drE (E : List Ent) (t : Int) : List Ent := E.filter fun x => x.task != t
def hasE (E : List Ent) (t : Int) : Bool := E.any fun x => x.task == t
theorem drE_not {E : List Ent} {t : Int} (h : ∀ k, k < E.length → (nth E k).task ≠ t) : drE E t = E ∧ hasE E t = false := by
  have hm : ∀ x, x ∈ E → x.task ≠ t := fun x hx => by
    obtain ⟨k, hk, e⟩ := List.getElem_of_mem hx
    rw [← e, ← nth_lt hk]; exact h k hk
  refine ⟨List.filter_eq_self.2 fun x hx => by simpa using hm x hx, ?_⟩
  unfold hasE
  rw [List.any_eq_false]
  intro x hx
  simpa using hm x hx
theorem drE_at {E : List Ent} {t : Int} (hd : Dst E) {i : Nat} (hi : i < E.length) (h : (nth E i).task = t) : drE E t = E.take i ++ E.drop (i + 1) ∧ hasE E t = true := by
  have e : E = E.take i ++ nth E i :: E.drop (i + 1) := by
    rw [nth_lt hi]; simp
  have h1 : (E.take i ++ nth E i :: E.drop (i + 1)).Pairwise fun a b => a.task ≠ b.task := by rw [← e]; exact hd
  rw [List.pairwise_append, List.pairwise_cons] at h1
  obtain ⟨_, ⟨h2, _⟩, h3⟩ := h1
  constructor
  · unfold drE
    conv => lhs; rw [e]
    rw [List.filter_append, List.filter_cons, if_neg (by simp [h])]
    rw [List.filter_eq_self.2 fun x hx => by simpa [h] using h3 x hx (nth E i) (by simp), List.filter_eq_self.2 fun x hx => by simpa [h] using (h2 x hx).symm]
  · unfold hasE
    rw [List.any_eq_true]
    exact ⟨nth E i, nth_mem hi, by simp [h]⟩
theorem row3_take (E : List Ent) (i : Nat) : row3 (E.take i) = (row3 E).take (i * 3) := by
  induction E generalizing i with
  | nil => simp [row3]
  | cons x r ih =>
    cases i with
    | zero => simp [row3]
    | succ i =>
      have e1 : row3 ((x :: r).take (i + 1)) = x.it3 ++ row3 (r.take i) := by simp [row3]
      have e2 : row3 (x :: r) = x.it3 ++ row3 r := by simp [row3]
      have e3 : x.it3.length = 3 := rfl
      rw [e1, e2, ih, List.take_append, List.take_of_length_le (l := x.it3) (by omega), e3]
      congr 2; omega
theorem row3_drop (E : List Ent) (i : Nat) : row3 (E.drop i) = (row3 E).drop (i * 3) := by
  induction E generalizing i with
  | nil => simp [row3]
  | cons x r ih =>
    cases i with
    | zero => simp
    | succ i =>
      have e2 : row3 (x :: r) = x.it3 ++ row3 r := by simp [row3]
      have e3 : x.it3.length = 3 := rfl
      rw [List.drop_succ_cons, e2, ih, List.drop_append, List.drop_of_length_le (l := x.it3) (by omega), e3, List.nil_append]
      congr 1; omega
/-- The beginning, and the end, of a slice of items, as they are read. -/
theorem Src.take {W : World} {B : Nat} {g n c : Nat} {E : List Ent} (h : W.ownsRow B 102 3 (.slice (some ⟨g, 0, none⟩) n c) n (row3 E)) (i c' : Nat) : Src W (.slice (some ⟨g, 0, none⟩) i c') i (row3 (E.take i)) :=
  .inr ⟨_, _, rfl, fun j u hj => by
    rw [row3_take, List.getElem?_take] at hj
    split at hj
    · exact h.cells (g := g) rfl j u hj
    · cases hj⟩
theorem Src.drop {W : World} {B : Nat} {g n c : Nat} {E : List Ent} (h : W.ownsRow B 102 3 (.slice (some ⟨g, 0, none⟩) n c) n (row3 E)) (i m c' : Nat) : Src W (.slice (some ⟨g, i * 3, none⟩) m c') m (row3 (E.drop i)) :=
  .inr ⟨_, _, rfl, fun j u hj => by
    rw [row3_drop, List.getElem?_drop] at hj
    have := h.cells (g := g) rfl (i * 3 + j) u hj
    have e : ((⟨g, i * 3, none⟩ : Addr).add j) = (⟨g, 0, none⟩ : Addr).add (i * 3 + j) := by
      unfold Addr.add
      by_cases hj : j = 0
      · by_cases hi : i = 0
        · subst hj hi; simp
        · subst hj; simp; omega
      · simp [hj]
    rw [e]; exact this⟩
theorem Src.none {W : World} {g : Addr} {c : Nat} : Src W (.slice (some g) 0 c) 0 [] := .inr ⟨_, _, rfl, fun j u hj => by simp at hj⟩
/-- The block in which the row of the document's queue lies. -/
def Rowb (bw : Nat) (W : World) (g : Nat) : Prop := ∃ v, W.heap[bw]? = some (.cells #[v] 198 (0, 0)) ∧ v.ownBlock = some g
theorem RQ.of2 {p : Nat → Option TypeId → Bool} {bw : Nat} {E : List Ent} {W W' : World} (h : RQ bw E W) (k : Kept p W W') (h1 : p bw (some 198) = true) (h2 : ∀ g, Rowb bw W g → p g (some 102) = true) : RQ bw E W' := by
  obtain ⟨v, h3, h4⟩ := h
  exact ⟨v, k.same _ _ h3 h1, k.row h4 fun g hg => h2 g ⟨v, h3, hg⟩⟩
theorem RQ.rowb {bw : Nat} {E : List Ent} {W : World} (h : RQ bw E W) {g : Nat} (hg : Rowb bw W g) : g < W.heap.size := by
  obtain ⟨v, h3, h4⟩ := h
  obtain ⟨v', h5, h6⟩ := hg
  rw [h3] at h5
  simp only [Option.some.injEq, Obj.cells.injEq, and_true] at h5
  have e : v = v' := by simpa using h5
  subst e
  obtain ⟨o, h7, _⟩ := own_is h4 g h6
  exact (Array.getElem?_eq_some_iff.1 h7).1
theorem Rowb.back {bw : Nat} {E : List Ent} {W W' : World} (h : RQ bw E W) (k : Ext W W') {g : Nat} (hg : Rowb bw W' g) : Rowb bw W g := by
  obtain ⟨v, h3, h4⟩ := h
  obtain ⟨v', h5, h6⟩ := hg
  have h7 := (k.kept (fun _ _ => true)).same _ _ h3 rfl
  rw [h5] at h7
  simp only [Option.some.injEq, Obj.cells.injEq, and_true] at h7
  have e : v' = v := by simpa using h7
  exact ⟨v, h3, e ▸ h6⟩
theorem Rowb.set {bw : Nat} {E : List Ent} {W W1 : World} (h : RQ bw E W) {v : Value} {n : Nat} {xs : List Value} {B : Nat} (ho : W1.ownsRow B 102 3 v n xs) (k : Ext W W1) {g : Nat} (hg : Rowb bw (W1.setCell ⟨bw, 0, none⟩ v) g) : B ≤ g := by
  obtain ⟨v0, h1, _⟩ := h.ext k
  obtain ⟨h3, _⟩ := sto1 h1 v
  obtain ⟨v', h5, h6⟩ := hg
  rw [h3] at h5
  simp only [Option.some.injEq, Obj.cells.injEq, and_true] at h5
  have e : v = v' := by simpa using h5
  subst e
  exact own_base ho g h6
section
variable {E : List Ent} {bw : Nat} {W : World}
set_option maxHeartbeats 2000000 in
set_option maxRecDepth 100000 in
theorem refDrop_ok (h : RQ bw E W) (hd : Dst E) (hn : E.length ≤ 1000000) (task : Int) :
    Calls Tryz.prog 104 #[.pointer (some ⟨bw, 0, none⟩), .int .i64 task] W fun e W' => e = .returned (.bool (hasE E task)) ∧ RQ bw (drE E task) W' ∧ Kept (pW bw) W W' ∧ ∀ g, Rowb bw W' g → Rowb bw W g ∨ W.heap.size ≤ g := by
  have hof := of_ok h hn task
  have HR := Lib.hid h
  have HD := Lib.hid hd
  obtain ⟨b, hb⟩ : ∃ b, b = hasE E task := ⟨_, rfl⟩
  obtain ⟨F, hF⟩ : ∃ F, F = drE E task := ⟨_, rfl⟩
  rw [← hb, ← hF]
  have HB := Lib.hid hb
  have HF := Lib.hid hF
  clear h hd hb hF
  go_enter Tryz.func104, Tryz.ntmps104
  go_wp2_with fail
  refine hof.mono ?_
  rintro e w2 ⟨ho, rfl⟩
  clear hof
  rcases ho with ⟨i, hi, rfl, hit, _⟩ | ⟨rfl, hno⟩
  · obtain ⟨e1, e2⟩ := drE_at HD.out hi hit
    have hb := HB.out
    have hF := HF.out
    rw [e2] at hb
    rw [e1] at hF
    subst hb
    have HF2 := Lib.hid hF
    clear HB HF e1 e2 hF hit
    have hlt := HR.out.lt
    obtain ⟨v, h1, h2⟩ := HR.out
    have hcap : ∃ g c, v = .slice (some ⟨g, 0, none⟩) E.length c ∧ E.length ≤ c ∧ c ≤ maxLen := by
      rcases h2.2 with ⟨_, h0⟩ | ⟨g, cap, cur, e, _, _, h4, h5, _⟩
      · omega
      · exact ⟨g, cap, e, h4, h5⟩
    obtain ⟨g, c, rfl, hc1, hc2⟩ := hcap
    have c0 : w2.cell? ⟨bw, 0, none⟩ = some (.slice (some ⟨g, 0, none⟩) E.length c) := by simp [World.cell?, h1]
    have f0 := frozen_of_row w2 bw 0 _ _ h1
    have hc3 : (i : Int) ≤ (c : Int) := by omega
    have hc4 : (i : Int) + 1 ≤ (E.length : Int) := by omega
    have hc5 : (i : Int) + 1 ≤ (c : Int) := by omega
    have hik : ¬ (i : Int) < 0 := by omega
    have hni : (E.length : Int) ≤ 1000000 := by omega
    have hil : (i : Int) < (E.length : Int) := by omega
    have hwr : IntKind.i64.wrap ((i : Int) + 1) = (i : Int) + 1 := by rw [IntKind.wrap_i64]; omega
    have hto : ((i : Int) + 1).toNat = i + 1 := by omega
    have hi1 : (0 : Int) ≤ (i : Int) + 1 := by omega
    have hO := Lib.hid h2
    have hsd : ∀ w', Ext w2 w' → Src w' (.slice (if c = i + 1 then some ⟨g, 0, none⟩ else some ⟨g, (i + 1) * 3, none⟩) (E.length - (i + 1)) (c - (i + 1))) (E.length - (i + 1)) (row3 (E.drop (i + 1))) := fun w' hx => by
      have h3 := (hx.kept (fun _ _ => true)).row h2 fun _ _ => rfl
      split
      · have : E.length = i + 1 := by omega
        have e1 : E.length - (i + 1) = 0 := by omega
        rw [List.drop_of_length_le (by omega), e1]
        exact Src.none
      · exact Src.drop h3 (i + 1) _ _
    have HSD := Lib.hid hsd
    clear hsd
    clear h1 h2
    obtain ⟨i0, hi0, hz0, hz1, hz2⟩ := info_parts infoItem
    go_wp2_with fail
    go_region_law (first
      | (refine step_append_any (by rfl) _ _ _ (by rfl) w2.heap.size 102 i0 (.agg #[.int .i64 0, .bool false, .int .i64 0]) 3 24 Tryz.underlying196 hi0 hz0 hz1 hz2 rfl (by omega) (.slice none 0 0) 0 [] (by rfl) (World.ownsRow_nil _ _ _ _) _ i (row3 (E.take i)) (by rfl) (by rw [row3_len, List.length_take, Nat.min_eq_left (by omega)]) (Src.take ((Ext.drew w2).kept (fun _ _ => true) |>.row hO.out fun _ _ => rfl) i _) (row3_one _) (by unfold maxLen; omega) (by omega) (Nat.le_refl _) i (by omega) (row3 (E.take i)) (by simp) ?_; intro A1 c1 w3 hown1 hgrow1 hat1; have hx3 : Ext w2 w3 := grown_ext (Ext.drew _) hgrow1 (by intro b hb; simp [Value.ownBlock] at hb); have d0 : w3.cell? ⟨bw, 0, none⟩ = some (.slice (some ⟨g, 0, none⟩) E.length c) := (hx3.kept (fun _ _ => true)).cell c0 fun _ _ => rfl; have hl3 := hx3.size)
      | (refine step_append_any (by rfl) _ _ _ (by rfl) w2.heap.size 102 i0 (.agg #[.int .i64 0, .bool false, .int .i64 0]) 3 24 Tryz.underlying196 hi0 hz0 hz1 hz2 rfl (by omega) (.slice A1 i c1) i (row3 (E.take i)) (by rfl) hown1 (.slice (if c = i + 1 then some ⟨g, 0, none⟩ else some ⟨g, (i + 1) * 3, none⟩) (E.length - (i + 1)) (c - (i + 1))) (E.length - (i + 1)) (row3 (E.drop (i + 1))) (by rfl) (by rw [row3_len, List.length_drop]) (HSD.out _ hx3) (row3_one _) (by unfold maxLen; omega) (by omega) hl3 (E.length - 1) (by omega) (row3 (E.take i ++ E.drop (i + 1))) (row3_app _ _).symm ?_; intro A2 c2 w4 hown2 hgrow2 hat2; have hx4 : Ext w2 w4 := grown_ext hx3 hgrow2 (own_base hown1); have d4 : w4.cell? ⟨bw, 0, none⟩ = some (.slice (some ⟨g, 0, none⟩) E.length c) := (hx4.kept (fun _ _ => true)).cell c0 fun _ _ => rfl; obtain ⟨A9, c9, ⟨_, df⟩, _⟩ := (HR.out.ext hx4).src))
    all_goals
      obtain ⟨hQ, hK⟩ := HR.out.store hx4 hown2 (by simp; omega) rfl
      have HG := Lib.hid (fun g (hg : Rowb bw _ g) => Rowb.set HR.out hown2 hx4 hg)
      have HQ := Lib.hid hQ
      have HK := Lib.hid hK
      clear hQ hK c0 f0 d0 d4 df hown1 hgrow1 hat1 hown2 hgrow2 hat2 hx3 hx4
      go_wp2_with fail
      all_goals
        go_ret
        exact ⟨rfl, by rw [HF2.out]; exact HQ.out, HK.out, fun g hg => .inr (HG.out g hg)⟩
  · obtain ⟨e1, e2⟩ := drE_not hno
    have hb := HB.out
    have hF := HF.out
    rw [e2] at hb
    rw [e1] at hF
    subst hb hF
    clear HB HF e1 e2 hno
    go_wp2_with fail
    go_ret
    exact ⟨rfl, HR.out, Kept.refl _ _, fun g hg => .inl hg⟩

/-- What is left behind Take. -/
def tkE (now : Int) (E : List Ent) : List Ent := match duP now E with | none => E | some x => drE E x.task
set_option maxHeartbeats 2000000 in
set_option maxRecDepth 100000 in
theorem refTake_ok (h : RQ bw E W) (ho : Ord E) (hd : Dst E) (hn : E.length ≤ 1000000) {now : Int} :
    Calls Tryz.prog 45 #[.pointer (some ⟨bw, 0, none⟩), .int .i64 now] W fun e W' => e = .returned (dueW (duP now E)) ∧ RQ bw (tkE now E) W' ∧ Kept (pW bw) W W' := by
  obtain ⟨W1, hW1⟩ : ∃ W1, W1 = W.alloc (itmo 0 false 0) := ⟨_, rfl⟩
  have hE1 : Ext W W1 := by rw [hW1]; exact Ext.one _ _
  have hr0 : W1.heap[W.heap.size]? = some (itmo 0 false 0) := by rw [hW1]; exact World.alloc_heap_new _ _
  have hbl := h.lt
  have hdu := refDue_ok (now := now) (h.ext hE1) ho hn
  have HR := Lib.hid h
  have HE1 := Lib.hid hE1
  have HR0 := Lib.hid hr0
  have HW := Lib.hid hW1
  have HD := Lib.hid hd
  obtain ⟨R, hR⟩ : ∃ R, R = duP now E := ⟨_, rfl⟩
  obtain ⟨F, hF⟩ : ∃ F, F = tkE now E := ⟨_, rfl⟩
  unfold tkE at hF
  rw [← hR] at hdu ⊢
  rw [← hR] at hF
  have e0 : tkE now E = F := by unfold tkE; rw [← hR]; exact hF.symm
  rw [e0]
  clear h ho hE1 hr0 hW1 hR e0 hd
  go_enter Tryz.func45, Tryz.ntmps45
  go_wp2_with fail
  change Calls _ _ _ (W.alloc (itmo 0 false 0)) _
  rw [← HW.out]
  refine hdu.mono ?_
  rintro e w2 ⟨rfl, hx⟩
  have HX := Lib.hid hx
  clear hx hdu
  cases R with
  | none =>
    subst hF
    unfold dueW
    have hr2 := (HX.out.kept (fun _ _ => true)).same _ _ HR0.out rfl
    obtain ⟨⟨q0, q1, q2⟩, qf, hls⟩ := itmo_cells hr2
    obtain ⟨w3, hw3⟩ : ∃ w3, w3 = w2.alloc (itmo 0 false 0) := ⟨_, rfl⟩
    have hE3 : Ext w2 w3 := by rw [hw3]; exact Ext.one _ _
    have hr3 := (hE3.kept (fun _ _ => true)).same _ _ hr2 rfl
    have hr4 : w3.heap[w2.heap.size]? = some (itmo 0 false 0) := by rw [hw3]; exact World.alloc_heap_new _ _
    have hls3 : W.heap.size < w3.heap.size := (Array.getElem?_eq_some_iff.1 hr3).1
    obtain ⟨⟨q0', q1', q2'⟩, qf', _⟩ := itmo_cells hr3
    obtain ⟨⟨y0, y1, y2⟩, _, _⟩ := itmo_cells hr4
    have HR3 := Lib.hid hr3
    have HE3 := Lib.hid hE3
    have HW3 := Lib.hid hw3
    clear hr2 hr3 hr4 hE3 hw3
    go_upto_region 2 with (fail)
    change Code.wp _ _ _ _ (w2.alloc (itmo 0 false 0))
    rw [← HW3.out]
    go_wp2_with fail
    obtain ⟨r1, r2⟩ := itm_set (t' := 0) (f' := false) (d' := 0) HR3.out rfl
    have hkx := (HE1.out.trans HX.out).trans HE3.out
    have hk := Kept.trans hkx (r2 (pOld W.heap.size) (oldNot _ _ (Nat.le_refl _) _))
    generalize ((w3.setCell ⟨W.heap.size, 0, none⟩ (.int .i64 0)).setCell ⟨W.heap.size, 1, none⟩ (.bool false)).setCell ⟨W.heap.size, 2, none⟩ (.int .i64 0) = wz at *
    obtain ⟨⟨c0, c1, c2⟩, _⟩ := itmo_cells r1
    refine bodyPost_ret (v := dueW none) (by simp [results, Tryz.results45, go_sem, c0, c1, c2]; rfl) rfl ?_
    exact ⟨rfl, HR.out.ext hk, (show Ext W wz from hk).kept _⟩
  | some x =>
    dsimp only at hF
    subst hF
    unfold dueW
    have hr2 := (HX.out.kept (fun _ _ => true)).same _ _ HR0.out rfl
    obtain ⟨⟨q0, q1, q2⟩, qf, hls⟩ := itmo_cells hr2
    obtain ⟨w3, hw3⟩ : ∃ w3, w3 = w2.alloc (itmo x.task x.front x.due) := ⟨_, rfl⟩
    have hE3 : Ext w2 w3 := by rw [hw3]; exact Ext.one _ _
    have hr3 := (hE3.kept (fun _ _ => true)).same _ _ hr2 rfl
    have hr4 : w3.heap[w2.heap.size]? = some (itmo x.task x.front x.due) := by rw [hw3]; exact World.alloc_heap_new _ _
    have hls3 : W.heap.size < w3.heap.size := (Array.getElem?_eq_some_iff.1 hr3).1
    obtain ⟨⟨y0, y1, y2⟩, _, _⟩ := itmo_cells hr4
    have hkx := (HE1.out.trans HX.out).trans hE3
    have hdr := refDrop_ok (HR.out.ext hkx) HD.out hn x.task
    have hb1 := HX.out.size
    have HR3 := Lib.hid hr3
    have HR4 := Lib.hid hr4
    have HE3 := Lib.hid hE3
    have HW3 := Lib.hid hw3
    have HKX := Lib.hid hkx
    have HDR := Lib.hid hdr
    clear hr2 hr3 hr4 hE3 hw3 hkx hdr q0 q1 q2 qf
    go_upto_region 2 with (fail)
    change Code.wp _ _ _ _ (w2.alloc (itmo x.task x.front x.due))
    rw [← HW3.out]
    go_wp2_with fail
    refine HDR.out.mono ?_
    rintro e w4 ⟨rfl, hq4, hk4, hg4⟩
    have hg5 : ∀ g, Rowb bw w4 g → g ≠ W.heap.size := fun g hg e => by
      rcases hg4 g hg with h | h
      · have := HR.out.rowb (Rowb.back HR.out HKX.out h); omega
      · omega
    have HG5 := Lib.hid hg5
    have hr5 := hk4.same _ _ HR3.out (by simp [pW]; omega)
    have hr6 := hk4.same _ _ HR4.out (by simp [pW]; omega)
    obtain ⟨⟨z0, z1, z2⟩, zf, zl⟩ := itmo_cells hr5
    obtain ⟨⟨v0, v1, v2⟩, _, _⟩ := itmo_cells hr6
    have HQ4 := Lib.hid hq4
    have HK4 := Lib.hid hk4
    have HR5 := Lib.hid hr5
    clear hg4 hg5 hq4 hk4 hr5 hr6 y0 y1 y2 HDR
    go_wp2_with fail
    obtain ⟨r1, r2⟩ := itm_set (t' := x.task) (f' := x.front) (d' := x.due) HR5.out rfl
    have k4 := Kept.trans (HKX.out.kept (pW bw)) HK4.out
    have k5 : Kept (fun b t => pW bw b t && decide (b < W.heap.size)) W _ := (k4.mono fun b t _ hp => by simp at hp; exact hp.1).trans (r2 _ (by simp))
    have hq := HQ4.out.of2 (r2 (fun b _ => b != W.heap.size) (by simp)) (by simp; omega) (fun g hg => by simpa using HG5.out g hg)
    have hk : Kept (pW bw) W _ := k5.mono fun b t hb hp => by simp [hp, hb]
    clear k4 k5 r2
    generalize ((w4.setCell ⟨W.heap.size, 0, none⟩ (.int .i64 x.task)).setCell ⟨W.heap.size, 1, none⟩ (.bool x.front)).setCell ⟨W.heap.size, 2, none⟩ (.int .i64 x.due) = wz at *
    obtain ⟨⟨c0, c1, c2⟩, _⟩ := itmo_cells r1
    refine bodyPost_ret (v := dueW (some x)) (by simp [results, Tryz.results45, go_sem, c0, c1, c2]; rfl) rfl ?_
    exact ⟨rfl, hq, hk⟩
end
end Go.Proofs.YtfljmdpigckpkaaGreatDoor.QQ
