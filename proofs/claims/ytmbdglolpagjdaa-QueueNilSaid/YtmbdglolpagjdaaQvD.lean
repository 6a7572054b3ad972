/- The document's queue: an item is put. -/
import Derived.Test.YtmbdglolpagjdaaQvC
import Derived.Maps.AppendAt
import Derived.Laws.OwnMore
namespace Go.Proofs.Ytmbdglolpagjdaa
open Go.RowKit Go.Shelf
attribute [local go_sem] Oper.semAt_some

/-- What is read of a slice that is appended. -/
def Src (w : World) (x : Value) (m : Nat) (news : List Value) : Prop := (x = .slice none 0 0 ∧ m = 0 ∧ news = []) ∨ ∃ ad c, x = .slice (some ad) m c ∧ ∀ (j : Nat) (u : Value), news[j]? = some u → w.cell? (ad.add j) = some u
theorem run_append_any {P : Program} (w : World) (base : Nat) (t ty e : TypeId) (i : TypeInfo) (z : Value) (size bytes : Nat) (ht : P.underlying t = some (.slice e)) (hi : P.info? e = some i) (hz : i.zero = some z) (hsize : i.size = size) (hby : i.bytes = bytes)
    (hzs : z.cells.size = size) (hsz : 0 < size) (v : Value) (n : Nat) (xs : List Value) (hown : w.ownsRow base e size v n xs) (x : Value) (m : Nat) (news : List Value) (hl : news.length = m * size) (hsrc : Src w x m news) (h1 : ∀ u ∈ news, u.oneCell' = true)
    (h63 : n + m ≤ maxLen) (hbytes : (n + m) * bytes ≤ 140737488355328) (hbase : base ≤ w.heap.size) :
    ∃ A c w', Sem.run P (Builtin.append_ #[t, t] ty #[v, x]) w = .ok (.slice A (n + m) c) w' ∧ w'.ownsRow base e size (.slice A (n + m) c) (n + m) (xs ++ news) ∧ w.grownBy w' v.ownBlock ∧ ((Value.slice A (n + m) c).ownBlock = v.ownBlock ∨ (Value.slice A (n + m) c).ownBlock = some w.heap.size) := by
  rcases hsrc with ⟨rfl, rfl, rfl⟩ | ⟨ad, c, rfl, hnews⟩
  · obtain ⟨A, c, rfl⟩ := own_slice3 hown
    refine ⟨A, c, w, ?_, by rw [List.append_nil]; exact hown, World.grownBy.refl _ _, .inl rfl⟩
    simp only [Nat.add_zero]
    exact run_append_owned_none (P := P) (w := w) base t ty e i size ht hi _ _ _ hown
  · obtain ⟨v', w', h2, h3, h4, _, h5⟩ := run_append_own_at w base t ty e i z size bytes ht hi hz hsize hby hzs hsz v n xs hown ad m c news hl hnews h1 h63 hbytes hbase
    obtain ⟨A, c', rfl⟩ := own_slice3 h3
    exact ⟨A, c', w', h2, h3, h4, h5⟩
theorem wp_append_any {P : Program} {w : World} {o : Oper} {a : Act} {K : Act → World → Prop} {Q : Exit → Act → World → Prop} (s x : Operand) (t : TypeId)
    (ho : o.op = Op.call { callee := Callee.builtin Builtin.append, args := #[s, x], argTypes := #[t, t] }) (base : Nat) (e : TypeId) (i : TypeInfo) (z : Value) (size bytes : Nat) (ht : P.underlying t = some (.slice e)) (hi : P.info? e = some i) (hz : i.zero = some z) (hsize : i.size = size) (hby : i.bytes = bytes)
    (hzs : z.cells.size = size) (hsz : 0 < size) (v : Value) (n : Nat) (xs : List Value) (hs : a.eval s = v) (hown : w.ownsRow base e size v n xs) (xv : Value) (m : Nat) (news : List Value) (hx : a.eval x = xv) (hl : news.length = m * size) (hsrc : Src w xv m news) (h1 : ∀ u ∈ news, u.oneCell' = true)
    (h63 : n + m ≤ maxLen) (hbytes : (n + m) * bytes ≤ 140737488355328) (hbase : base ≤ w.heap.size) (T : Nat) (hT : n + m = T) (ys : List Value) (hY : xs ++ news = ys)
    (h : ∀ A c w', w'.ownsRow base e size (.slice A T c) T ys → w.grownBy w' v.ownBlock → ((Value.slice A T c).ownBlock = v.ownBlock ∨ (Value.slice A T c).ownBlock = some w.heap.size) → K (a.put o.dst (.slice A T c)) w') :
    Oper.wp P o a w K Q := by
  subst hT hY
  obtain ⟨A, c, w', hrun, h2, h3, h4⟩ := run_append_any w base t o.type e i z size bytes ht hi hz hsize hby hzs hsz v n xs hown xv m news hl hsrc h1 h63 hbytes hbase
  unfold Oper.wp
  simp [execOp, ho, resolve, invoke, builtin, hs, hx, hrun, Result.andThen]
  exact h A c w' h2 h3 h4
theorem step_append_any {P : Program} {w : World} {ops : Array Oper} {o : Oper} {a : Act} {K : Act → World → Prop} {Q : Exit → Act → World → Prop} {EE : Prop} (hgd : o.guard = none) (s x : Operand) (t : TypeId)
    (ho : o.op = Op.call { callee := Callee.builtin Builtin.append, args := #[s, x], argTypes := #[t, t] }) (base : Nat) (e : TypeId) (i : TypeInfo) (z : Value) (size bytes : Nat) (ht : P.underlying t = some (.slice e)) (hi : P.info? e = some i) (hz : i.zero = some z) (hsize : i.size = size) (hby : i.bytes = bytes)
    (hzs : z.cells.size = size) (hsz : 0 < size) (v : Value) (n : Nat) (xs : List Value) (hs : a.eval s = v) (hown : w.ownsRow base e size v n xs) (xv : Value) (m : Nat) (news : List Value) (hx : a.eval x = xv) (hl : news.length = m * size) (hsrc : Src w xv m news) (h1 : ∀ u ∈ news, u.oneCell' = true)
    (h63 : n + m ≤ maxLen) (hbytes : (n + m) * bytes ≤ 140737488355328) (hbase : base ≤ w.heap.size) (T : Nat) (hT : n + m = T) (ys : List Value) (hY : xs ++ news = ys)
    (h : ∀ A c w', w'.ownsRow base e size (.slice A T c) T ys → w.grownBy w' v.ownBlock → ((Value.slice A T c).ownBlock = v.ownBlock ∨ (Value.slice A T c).ownBlock = some w.heap.size) → K (a.put o.dst (.slice A T c)) w') :
    if Region.wanted o (yielded ops a.tmps) = true then Oper.wp P o a w K Q else EE := by
  have hw : Region.wanted o (yielded ops a.tmps) = true := by simp [Region.wanted, hgd]
  rw [if_pos hw]
  exact wp_append_any s x t ho base e i z size bytes ht hi hz hsize hby hzs hsz v n xs hs hown xv m news hx hl hsrc h1 h63 hbytes hbase T hT ys hY h
theorem Src.of {w : World} {base : Nat} {e : TypeId} {size : Nat} {v : Value} {n : Nat} {xs : List Value} (h : w.ownsRow base e size v n xs) (hl : xs.length = n * size) : Src w v n xs := by
  rcases h.2 with ⟨h0, h1⟩ | ⟨g, cap, cur, e, _⟩
  · subst h1
    exact .inl ⟨h0, rfl, List.eq_nil_of_length_eq_zero (by omega)⟩
  · exact .inr ⟨⟨g, 0, none⟩, cap, e, fun j u hj => h.cells (g := g) (by rw [e]; rfl) j u hj⟩
theorem own_zero {W : World} {B : Nat} {e : TypeId} {size : Nat} {v : Value} {n : Nat} {xs : List Value} (h : W.ownsRow B e size v n xs) : W.ownsRow 0 e size v n xs := by
  refine ⟨h.1, ?_⟩
  rcases h.2 with h1 | ⟨g, cap, cur, e, _, h2⟩
  · exact .inl h1
  · exact .inr ⟨g, cap, cur, e, Nat.zero_le _, h2⟩
/-- What the document's queue leaves as it is: all but its own box. -/
def pW (bw : Nat) : Nat → Option TypeId → Bool := fun b _ => b != bw
theorem RQ.store {bw n : Nat} {E E' : List Ent} {W W1 W2 : World} {v : Value} (h : RQ bw E W) (hx : Ext W W1) {B : Nat} (ho' : W1.ownsRow B 32 3 v n (row3 E')) (hn : n = E'.length) (hW2 : W2 = W1.setCell ⟨bw, 0, none⟩ v) : RQ bw E' W2 ∧ Kept (pW bw) W W2 := by
  obtain ⟨v0, h1, h2⟩ := h.ext hx
  obtain ⟨h3, h4⟩ := sto1 h1 v
  have ho := own_zero ho'
  subst hW2 hn
  refine ⟨⟨v, h3, (h4 (fun b _ => b != bw) (by simp)).row ho fun g hg => ?_⟩, (hx.kept _).trans (h4 _ (by simp [pW]))⟩
  obtain ⟨o, k1, k2⟩ := own_is ho g hg
  simp
  intro e
  subst e
  rw [h1] at k1
  cases k1
  cases k2
theorem grown_ext {W0 W W1 : World} {r : Option Nat} (h : Ext W0 W) (hg : W.grownBy W1 r) (hr : ∀ b, r = some b → W0.heap.size ≤ b) : Ext W0 W1 := Kept.trans h (Kept.grown hg fun j o e _ => by have := hr j e; simp [pOld]; omega)
theorem own_base {W : World} {B : Nat} {e : TypeId} {size : Nat} {v : Value} {n : Nat} {xs : List Value} (h : W.ownsRow B e size v n xs) : ∀ b, v.ownBlock = some b → B ≤ b := fun b hb => by
  obtain ⟨o, h1, _⟩ := own_is h b hb
  exact (own_tag h b o hb h1).2
theorem RQ.src {bw : Nat} {E : List Ent} {W : World} (h : RQ bw E W) : ∃ A c, (W.cell? ⟨bw, 0, none⟩ = some (.slice A E.length c) ∧ W.frozen? ⟨bw, 0, none⟩ = false) ∧ ∀ W', Ext W W' → Src W' (.slice A E.length c) E.length (row3 E) := by
  obtain ⟨v, h1, h2⟩ := h
  obtain ⟨A, c, rfl⟩ := own_slice3 h2
  refine ⟨A, c, ⟨by simp [World.cell?, h1], frozen_of_row W bw 0 _ _ h1⟩, fun W' hx => Src.of ((hx.kept (fun _ _ => true)).row h2 fun _ _ => rfl) (row3_len E)⟩
theorem Src.new {w : World} {b : Nat} {x : Ent} (h : w.heap[b]? = some (ito x)) : Src w (.slice (some ⟨b, 0, none⟩) 1 1) 1 x.it3 := .inr ⟨_, _, rfl, World.news_of_block (cs := #[.int .i64 x.task, .bool x.front, .int .i64 x.due]) (t := 32) (fr := (0, 0)) h⟩
theorem it3_one (x : Ent) : ∀ u ∈ x.it3, u.oneCell' = true := by simp [Ent.it3, Value.oneCell']
section
variable {E : List Ent} {bw : Nat} {W : World}
set_option maxHeartbeats 2000000 in
set_option maxRecDepth 100000 in
theorem refPut_new (h : RQ bw E W) (hn : E.length < 1000000) (x : Ent) (hx : 0 ≤ x.task ∧ 0 ≤ x.due) (hno : ∀ k, k < E.length → (nth E k).task ≠ x.task) :
    Calls Try.prog 24 #[.pointer (some ⟨bw, 0, none⟩), .agg #[.int .i64 x.task, .bool x.front, .int .i64 x.due]] W fun e W' => e = .returned (.int .i64 0) ∧ RQ bw (E ++ [x]) W' ∧ Kept (pW bw) W W' := by
  obtain ⟨W1, hW1⟩ : ∃ W1, W1 = W.alloc (ito x) := ⟨_, rfl⟩
  have hE1 : Ext W W1 := by rw [hW1]; exact Ext.one _ _
  have hr0 : W1.heap[W.heap.size]? = some (ito x) := by rw [hW1]; exact World.alloc_heap_new _ _
  have h' := h.ext hE1
  have hof := of_ok h' (by omega) x.task
  obtain ⟨x0, x1, x2⟩ := ito_cells hr0
  obtain ⟨A, c, ⟨c0, f0⟩, hsrc⟩ := h'.src
  have hlt := h'.lt
  have hlx := (Array.getElem?_eq_some_iff.1 hr0).1
  obtain ⟨hx1, hx2⟩ := hx
  have HE1 := Lib.hid hE1
  have HR := Lib.hid h'
  have HR0 := Lib.hid hr0
  have HW := Lib.hid hW1
  have HS := Lib.hid hsrc
  have HNO := Lib.hid hno
  clear h h' hE1 hr0 hW1 hsrc hno
  obtain ⟨i0, hi0, hz0, hz1, hz2⟩ := info_parts infoItem
  go_enter Try.func24, Try.ntmps24
  go_upto_region 1 with (fail)
  change Code.wp _ _ _ _ (W.alloc (ito x))
  rw [← HW.out]
  go_wp2_with fail
  refine hof.mono ?_
  rintro e w2 ⟨ho, rfl⟩
  rcases ho with ⟨i, hi, rfl, h2, _⟩ | ⟨rfl, _⟩
  · exact absurd h2 (HNO.out i hi)
  clear hof
  go_wp2_with fail
  go_region_law (first
    | (refine step_append_any (by rfl) _ _ _ (by rfl) w2.heap.size 32 i0 (.agg #[.int .i64 0, .bool false, .int .i64 0]) 3 24 Try.underlying27 hi0 hz0 hz1 hz2 rfl (by omega) (.slice none 0 0) 0 [] (by rfl) (World.ownsRow_nil _ _ _ _) (.slice A E.length c) E.length (row3 E) (by rfl) (row3_len E) (HS.out _ (by first | exact Ext.drew _ | exact (Ext.drew _).trans (Ext.one _ _))) (row3_one E) (by unfold maxLen; omega) (by omega) (by first | exact Nat.le_refl _ | simp) E.length (by omega) (row3 E) (by simp) ?_; intro A1 c1 w3 hown1 hgrow1 hat1; have hx3 : Ext w2 w3 := grown_ext (by first | exact Ext.drew _ | exact (Ext.drew _).trans (Ext.one _ _)) hgrow1 (by intro b hb; simp [Value.ownBlock] at hb); obtain ⟨y0, y1, y2⟩ := ito_cells ((hx3.kept (fun _ _ => true)).same _ _ HR0.out rfl); have hl3 := hx3.size)
    | (refine step_append_any (by rfl) _ _ _ (by rfl) w2.heap.size 32 i0 (.agg #[.int .i64 0, .bool false, .int .i64 0]) 3 24 Try.underlying27 hi0 hz0 hz1 hz2 rfl (by omega) (.slice A1 E.length c1) E.length (row3 E) (by rfl) (by first | exact hown1 | exact hown1.alloc _) (.slice (some ⟨w3.heap.size, 0, none⟩) 1 1) 1 x.it3 (by rfl) (by rfl) (Src.new (heap_alloc_new w3 _)) (it3_one x) (by unfold maxLen; omega) (by omega) (by simp; omega) (E.length + 1) rfl (row3 (E ++ [x])) (row3_snoc E x).symm ?_; intro A2 c2 w4 hown2 hgrow2 hat2; have hx4 : Ext w2 w4 := grown_ext (by first | exact hx3 | exact hx3.trans (Ext.one _ _)) hgrow2 (own_base hown1); obtain ⟨A9, c9, ⟨d0, df⟩, _⟩ := (HR.out.ext hx4).src)
    | (refine step_append_any (by rfl) _ _ _ (by rfl) w2.heap.size 32 i0 (.agg #[.int .i64 0, .bool false, .int .i64 0]) 3 24 Try.underlying27 hi0 hz0 hz1 hz2 rfl (by omega) (.slice A1 E.length c1) E.length (row3 E) (by rfl) (by first | exact hown1 | exact hown1.alloc _) (.slice (some ⟨w2.heap.size, 0, none⟩) 1 1) 1 x.it3 (by rfl) (by rfl) (Src.new (x := x) ((hgrow1.block w2.heap.size (by simp) (by simp [Value.ownBlock])).trans (heap_alloc_new w2.drew _))) (it3_one x) (by unfold maxLen; omega) (by omega) hl3 (E.length + 1) rfl (row3 (E ++ [x])) (row3_snoc E x).symm ?_; intro A2 c2 w4 hown2 hgrow2 hat2; have hx4 : Ext w2 w4 := grown_ext (by first | exact hx3 | exact hx3.trans (Ext.one _ _)) hgrow2 (own_base hown1); obtain ⟨A9, c9, ⟨d0, df⟩, _⟩ := (HR.out.ext hx4).src))
  all_goals
    obtain ⟨hQ, hK⟩ := HR.out.store hx4 hown2 (by simp) rfl
    have HQ := Lib.hid hQ
    have HK := Lib.hid hK
    clear hQ hK x0 x1 x2 c0 f0 y0 y1 y2 d0 df hown1 hgrow1 hat1 hown2 hgrow2 hat2 hx3 hx4
    go_wp2_with fail
    go_ret
    exact ⟨rfl, HQ.out, (HE1.out.kept _).trans HK.out⟩

set_option maxHeartbeats 2000000 in
set_option maxRecDepth 100000 in
theorem refPut_twice (h : RQ bw E W) (hn : E.length < 1000000) (x : Ent) (hx : 0 ≤ x.task ∧ 0 ≤ x.due) {i : Nat} (hi : i < E.length) (hit : (nth E i).task = x.task) :
    Calls Try.prog 24 #[.pointer (some ⟨bw, 0, none⟩), .agg #[.int .i64 x.task, .bool x.front, .int .i64 x.due]] W fun e W' => e = .returned (.int .i64 7) ∧ Ext W W' := by
  obtain ⟨W1, hW1⟩ : ∃ W1, W1 = W.alloc (ito x) := ⟨_, rfl⟩
  have hE1 : Ext W W1 := by rw [hW1]; exact Ext.one _ _
  have hr0 : W1.heap[W.heap.size]? = some (ito x) := by rw [hW1]; exact World.alloc_heap_new _ _
  have hof := of_ok (h.ext hE1) (by omega) x.task
  obtain ⟨x0, x1, x2⟩ := ito_cells hr0
  obtain ⟨hx1, hx2⟩ := hx
  have HE1 := Lib.hid hE1
  have HW := Lib.hid hW1
  have HIT := Lib.hid hit
  clear h hE1 hr0 hW1 hit
  go_enter Try.func24, Try.ntmps24
  go_upto_region 1 with (fail)
  change Code.wp _ _ _ _ (W.alloc (ito x))
  rw [← HW.out]
  go_wp2_with fail
  refine hof.mono ?_
  rintro e w2 ⟨ho, rfl⟩
  rcases ho with ⟨j, hj, rfl, h2, _⟩ | ⟨rfl, hno⟩
  · clear hof h2
    have hj0 : (0 : Int) ≤ (j : Int) := by omega
    go_wp2_with fail
    go_ret
    exact ⟨rfl, HE1.out⟩
  · exact absurd HIT.out (hno i hi)

set_option maxHeartbeats 2000000 in
set_option maxRecDepth 100000 in
theorem refPut_bad (x : Ent) (hx : x.task < 0 ∨ x.due < 0) :
    Calls Try.prog 24 #[.pointer (some ⟨bw, 0, none⟩), .agg #[.int .i64 x.task, .bool x.front, .int .i64 x.due]] W fun e W' => e = .returned (.int .i64 2) ∧ Ext W W' := by
  obtain ⟨W1, hW1⟩ : ∃ W1, W1 = W.alloc (ito x) := ⟨_, rfl⟩
  have hE1 : Ext W W1 := by rw [hW1]; exact Ext.one _ _
  have hr0 : W1.heap[W.heap.size]? = some (ito x) := by rw [hW1]; exact World.alloc_heap_new _ _
  obtain ⟨x0, x1, x2⟩ := ito_cells hr0
  have HE1 := Lib.hid hE1
  have HW := Lib.hid hW1
  clear hE1 hr0 hW1
  by_cases ht : x.task < 0
  · clear hx
    go_enter Try.func24, Try.ntmps24
    go_upto_region 1 with (fail)
    change Code.wp _ _ _ _ (W.alloc (ito x))
    rw [← HW.out]
    go_wp2_with fail
    go_ret
    exact ⟨rfl, HE1.out⟩
  · have hd : x.due < 0 := hx.resolve_left ht
    clear hx
    go_enter Try.func24, Try.ntmps24
    go_upto_region 1 with (fail)
    change Code.wp _ _ _ _ (W.alloc (ito x))
    rw [← HW.out]
    go_wp2_with fail
    go_ret
    exact ⟨rfl, HE1.out⟩
end
end Go.Proofs.Ytmbdglolpagjdaa
