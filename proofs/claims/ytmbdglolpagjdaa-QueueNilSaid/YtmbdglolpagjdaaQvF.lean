/- The document's queue: a copy; all items, in the order in which they come first. -/
import Derived.Test.YtmbdglolpagjdaaQvE
import Derived.Deep.LoopGhost
namespace Go.Proofs.Ytmbdglolpagjdaa
open Go.RowKit Go.Shelf
attribute [local go_sem] Oper.semAt_some

theorem wpList_append_any {P : Program} {w : World} {ops : Array Oper} {rest : List Oper} {o : Oper} {a : Act} {Q : Exit → Act → World → Prop} (hgd : o.guard = none) (s x : Operand) (t : TypeId)
    (ho : o.op = Op.call { callee := Callee.builtin Builtin.append, args := #[s, x], argTypes := #[t, t] }) (base : Nat) (e : TypeId) (i : TypeInfo) (z : Value) (size bytes : Nat) (ht : P.underlying t = some (.slice e)) (hi : P.info? e = some i) (hz : i.zero = some z) (hsize : i.size = size) (hby : i.bytes = bytes)
    (hzs : z.cells.size = size) (hsz : 0 < size) (v : Value) (n : Nat) (xs : List Value) (hs : a.eval s = v) (hown : w.ownsRow base e size v n xs) (xv : Value) (m : Nat) (news : List Value) (hx : a.eval x = xv) (hl : news.length = m * size) (hsrc : Src w xv m news) (h1 : ∀ u ∈ news, u.oneCell' = true)
    (h63 : n + m ≤ maxLen) (hbytes : (n + m) * bytes ≤ 140737488355328) (hbase : base ≤ w.heap.size) (T : Nat) (hT : n + m = T) (ys : List Value) (hY : xs ++ news = ys)
    (h : ∀ A c w', w'.ownsRow base e size (.slice A T c) T ys → w.grownBy w' v.ownBlock → ((Value.slice A T c).ownBlock = v.ownBlock ∨ (Value.slice A T c).ownBlock = some w.heap.size) → wpList P ops Q rest (a.put o.dst (.slice A T c)) w') :
    wpList P ops Q (o :: rest) a w :=
  wpList_plain hgd fun _ hK => wp_append_any s x t ho base e i z size bytes ht hi hz hsize hby hzs hsz v n xs hs hown xv m news hx hl hsrc h1 h63 hbytes hbase T hT ys hY fun A c w' k1 k2 k3 => hK _ _ (h A c w' k1 k2 k3)
section
variable {E : List Ent} {bw : Nat} {W : World}
set_option maxHeartbeats 2000000 in
set_option maxRecDepth 100000 in
theorem refCopy_ok (h : RQ bw E W) (hn : E.length ≤ 1000000) :
    Calls Try.prog 13 #[.pointer (some ⟨bw, 0, none⟩)] W fun e W' => ∃ bc, e = .returned (.pointer (some ⟨bc, 0, none⟩)) ∧ W.heap.size ≤ bc ∧ RQ bc E W' ∧ Ext W W' ∧ ∀ g, Rowb bc W' g → W.heap.size ≤ g := by
  obtain ⟨A, c, ⟨c0, f0⟩, hsrc⟩ := h.src
  have hlt := h.lt
  have HS := Lib.hid hsrc
  clear hsrc h
  obtain ⟨i0, hi0, hz0, hz1, hz2⟩ := info_parts infoItem
  go_enter Try.func13, Try.ntmps13
  go_wp2_with (at_builtin; refine wpList_append_any rfl _ _ 27 rfl W.heap.size 32 i0 (.agg #[.int .i64 0, .bool false, .int .i64 0]) 3 24 Try.underlying27 hi0 hz0 hz1 hz2 rfl (by decide) (.slice none 0 0) 0 [] rfl (World.ownsRow_nil _ _ _ _) (.slice A E.length c) E.length (row3 E) rfl (row3_len E) (HS.out _ (Ext.refl _)) (row3_one E) (by unfold maxLen; omega) (by omega) (Nat.le_refl _) E.length (by omega) (row3 E) (by simp) ?_; intro A1 c1 w1 hown1 hgrow1 hat1)
  have hx1 : Ext W w1 := grown_ext (Ext.refl _) hgrow1 (by intro b hb; simp [Value.ownBlock] at hb)
  have hbx : (w1.alloc (.cells #[.slice A1 E.length c1] 29 (0, 0))).heap[w1.heap.size]? = some (.cells #[.slice A1 E.length c1] 29 (0, 0)) := World.alloc_heap_new _ _
  have hO := ((Ext.one w1 (.cells #[.slice A1 E.length c1] 29 (0, 0))).kept (fun _ _ => true)).row hown1 fun _ _ => rfl
  go_ret
  refine ⟨w1.heap.size, rfl, hx1.size, ⟨_, hbx, own_zero hO⟩, hx1.trans (Ext.one _ _), fun g hg => ?_⟩
  obtain ⟨v', h5, h6⟩ := hg
  rw [show (w1.alloc (.cells #[.slice A1 E.length c1] 29 (0, 0))).heap[w1.heap.size]? = _ from hbx] at h5
  simp only [Option.some.injEq, Obj.cells.injEq, and_true] at h5
  have e : Value.slice A1 E.length c1 = v' := by simpa using h5
  subst e
  exact own_base hown1 g h6

theorem srt_cons {E : List Ent} (ht : Tri E) (hd : Dst E) {i : Nat} (hi : i < E.length) (h : ∀ k, k < E.length → eLt (nth E k) (nth E i) = false) : srt E = nth E i :: srt (drE E (nth E i).task) := by
  have h1 := srt_head ht hi h
  have hp : (nth E i :: drE E (nth E i).task).Perm E := by
    rw [(drE_at hd hi rfl).1]
    have e : E = E.take i ++ nth E i :: E.drop (i + 1) := by rw [nth_lt hi]; simp
    conv => rhs; rw [e]
    exact List.perm_middle.symm
  have h2 := srt_perm E
  have h3 := srt_srt E
  cases hs : srt E with
  | nil => rw [hs] at h1; cases h1
  | cons y r =>
    rw [hs] at h1 h2 h3
    have e : y = nth E i := by simpa using h1
    subst e
    have hr : r.Perm (drE E (nth E i).task) := (List.Perm.cons_inv (h2.trans hp.symm))
    have ht2 : Tri (drE E (nth E i).task) := fun x hx y hy => ht x (List.mem_filter.1 hx).1 y (List.mem_filter.1 hy).1
    have := Srt.eq ht2 (srt_perm _) hr (srt_srt _) (List.pairwise_cons.1 h3).2
    rw [this]
theorem Ord.dr {E : List Ent} (h : Ord E) (t : Int) : Ord (drE E t) := List.Pairwise.filter _ h
theorem Dst.dr {E : List Ent} (h : Dst E) (t : Int) : Dst (drE E t) := List.Pairwise.filter _ h
theorem dr_len {E : List Ent} (hd : Dst E) {i : Nat} (hi : i < E.length) : (drE E (nth E i).task).length + 1 = E.length := by
  rw [(drE_at hd hi rfl).1]; simp; omega
end
end Go.Proofs.Ytmbdglolpagjdaa
