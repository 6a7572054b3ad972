/- Queue.Put that is refused; Queue.Drop. -/
import Derived.Test.YtmbdglolpagjdaaQwB
namespace Go.Proofs.Ytmbdglolpagjdaa
open Go.RowKit Go.Shelf
attribute [local go_sem] Oper.semAt_some
section
variable {own : Nat → Bool} {bq bm bp : Nat} {l l' : List Ent} {pu : Int} {W w : World} {D : DM}
set_option maxHeartbeats 4000000 in
set_option maxRecDepth 100000 in
theorem Put_twice (h : QV own bq l pu W) (t d : Int) (f : Bool) (ht0 : 0 ≤ t) (ht1 : (Lit.int .i64 t).wf = true) (hd0 : 0 ≤ d) (hin : hasE l t = true) :
    Calls Try.prog 17 #[.pointer (some ⟨bq, 0, none⟩), .agg #[.int .i64 t, .bool f, .int .i64 d]] W fun e W' => e = .returned (.int .i64 7) ∧ Ext W W' := by
  obtain ⟨W1, hW1⟩ : ∃ W1, W1 = W.alloc (itmo t f d) := ⟨_, rfl⟩
  have hE1 : Ext W W1 := by rw [hW1]; exact Ext.one _ _
  have hr0 : W1.heap[W.heap.size]? = some (itmo t f d) := by rw [hW1]; exact World.alloc_heap_new _ _
  have hhas := has_ok (h.ext hE1) t ht1
  rw [hin] at hhas
  obtain ⟨⟨x0, x1, x2⟩, _, _⟩ := itmo_cells hr0
  have HE1 := Lib.hid hE1
  have HW := Lib.hid hW1
  have HHAS := Lib.hid hhas
  clear h hE1 hr0 hW1 hhas hin
  go_enter Try.func17, Try.ntmps17
  go_upto_region 1 with (fail)
  change Code.wp _ _ _ _ (W.alloc (itmo t f d))
  rw [← HW.out]
  go_wp2_with (go_at_call 35; refine HHAS.out.mono ?_; rintro e w2 ⟨rfl, rfl⟩)
  go_ret
  exact ⟨rfl, HE1.out⟩
set_option maxHeartbeats 4000000 in
set_option maxRecDepth 100000 in
theorem Put_bad (W : World) (bq : Nat) (t d : Int) (f : Bool) (hb : t < 0 ∨ d < 0) :
    Calls Try.prog 17 #[.pointer (some ⟨bq, 0, none⟩), .agg #[.int .i64 t, .bool f, .int .i64 d]] W fun e W' => e = .returned (.int .i64 2) ∧ Ext W W' := by
  obtain ⟨W1, hW1⟩ : ∃ W1, W1 = W.alloc (itmo t f d) := ⟨_, rfl⟩
  have hE1 : Ext W W1 := by rw [hW1]; exact Ext.one _ _
  have hr0 : W1.heap[W.heap.size]? = some (itmo t f d) := by rw [hW1]; exact World.alloc_heap_new _ _
  obtain ⟨⟨x0, x1, x2⟩, _, _⟩ := itmo_cells hr0
  have HE1 := Lib.hid hE1
  have HW := Lib.hid hW1
  clear hE1 hr0 hW1
  by_cases ht : t < 0
  · clear hb
    go_enter Try.func17, Try.ntmps17
    go_upto_region 1 with (fail)
    change Code.wp _ _ _ _ (W.alloc (itmo t f d))
    rw [← HW.out]
    go_wp2_with (fail)
    go_ret
    exact ⟨rfl, HE1.out⟩
  · have hd : d < 0 := hb.resolve_left ht
    clear hb
    go_enter Try.func17, Try.ntmps17
    go_upto_region 1 with (fail)
    change Code.wp _ _ _ _ (W.alloc (itmo t f d))
    rw [← HW.out]
    go_wp2_with (fail)
    go_ret
    exact ⟨rfl, HE1.out⟩

theorem CQ.dst (h : CQ l D) : Dst l := by
  unfold Dst
  rw [List.pairwise_iff_getElem]
  intro i j hi hj hij e
  rw [← nth_lt hi, ← nth_lt hj] at e
  have := h.inj hi hj e
  omega
theorem Con.cq_del {x : Ent} {nt : Int} (hc : Con l.length nt (fun t => ∃ i, i < l.length ∧ (nth l i).task = t) l' D) (hp : (x :: l').Perm l) (hx : x.task = nt) (hd : Dst l) : CQ l' (D.del (tk nt)) ∧ l'.Perm (drE l nt) := by
  have hlen := hp.length_eq
  have hd' : (x :: l').Pairwise fun a b => a.task ≠ b.task := (hp.pairwise_iff fun h => Ne.symm h).2 hd
  have hne : ∀ y, y ∈ l' → y.task ≠ nt := fun y hy e => (List.pairwise_cons.1 hd').1 y hy (by rw [hx, e])
  have hni : ∀ i, i < l'.length → (nth l' i).task ≠ nt := fun i hi => hne _ (nth_mem hi)
  refine ⟨⟨fun i hi => by rw [Maps.has_del_other (tk_ne (hni i hi))]; exact hc.has i hi, fun i hi => ?_, fun t ht => ?_, ?_, hc.rng, hc.tidy.del _⟩, ?_⟩
  · unfold at0
    rw [Maps.atKey_del_other (tk_ne (hni i hi))]
    exact hc.pos i hi
  · have htn : t ≠ nt := fun e => by subst e; rw [Maps.has_del_same] at ht; cases ht
    rw [Maps.has_del_other (tk_ne htn)] at ht
    obtain ⟨y, hy, e⟩ := mem_task.1 (hc.keys t ht)
    have := hp.mem_iff.2 hy
    rcases List.mem_cons.1 this with rfl | h
    · exact absurd (e.symm.trans hx) htn
    · exact mem_task.2 ⟨y, h, e⟩
  · have h1 := Maps.size_del (k := tk nt) hc.tidy
    have h2 := hc.size
    simp at hlen
    split at h1 <;> simp_all <;> omega
  · have h1 : (drE (x :: l') nt).Perm (drE l nt) := hp.filter _
    have h2 : drE (x :: l') nt = l' := by
      unfold drE
      rw [List.filter_cons, if_neg (by simp [hx])]
      exact List.filter_eq_self.2 fun y hy => by simpa using hne y hy
    rwa [h2] at h1
theorem QS.qv0 (h : QS (pQ own) W bq bp bm pu l' D w) (hc : CQ l' D) (hh : Heap eLt (nth l') l'.length) (hlen : l'.length ≤ 900000) :
    ∃ own', QV own' bq l' pu w ∧ Kept (pQ own) W w ∧ ∀ b, own' b = true → own b = true ∨ W.heap.size ≤ b := by
  obtain ⟨⟨v, h1, h2, h3⟩, h4, h5, h6, h7, h8, h9⟩ := h
  obtain ⟨es, clock, h10, _⟩ := id h5
  have mine : ∀ b t, Mine (pQ own) W b t → own b = true ∨ W.heap.size ≤ b := fun b t hm => by
    rcases Nat.lt_or_ge b W.heap.size with hl | hl
    · left; have := hm hl; simpa [pQ] using this
    · exact .inr hl
  have ow : ∀ b, ownB bq bm v b = true → b = bq ∨ b = bm ∨ v.ownBlock = some b := fun b hb => by
    unfold ownB at hb
    rcases Bool.or_eq_true_iff.1 hb with hb | hb
    · rcases Bool.or_eq_true_iff.1 hb with hb | hb
      · exact .inl (by simpa using hb)
      · exact .inr (.inl (by simpa using hb))
    · exact .inr (.inr (by simpa using hb))
  refine ⟨ownB bq bm v, ⟨⟨v, .map (some bm), h1, h2, fun g hv => by simp [ownB, hv], .inr ⟨bm, D, rfl, by simp [ownB], h5, hc⟩⟩, by simp [ownB], fun b hb' => ?_, hh, hlen⟩, h6, fun b hb' => ?_⟩
  · rcases ow b hb' with rfl | rfl | hv
    · exact ⟨_, h1, .inr (.inl rfl)⟩
    · exact ⟨_, h10, .inl rfl⟩
    · obtain ⟨o, k1, k2⟩ := own_is h2 b hv
      exact ⟨o, k1, .inr (.inr k2)⟩
  · rcases ow b hb' with rfl | rfl | hv
    · exact mine _ _ h7
    · exact mine _ _ h8
    · exact mine _ _ (h3 b hv)
/-- An entry goes, wherever it stands. -/
theorem remove_ok (h1 : QS (pQ own) W bq bp bm pu l D w) (hc : CQ l D) (hh : Heap eLt (nth l) l.length) {i : Nat} (hi : i < l.length) :
    Calls Try.prog 38 #[.iface 74 (pv bq bp), .int .i64 i] w fun e w2 => (∃ v, e = .returned v) ∧ ∃ l' D', (nth l i :: l').Perm l ∧ Heap eLt (nth l') l'.length ∧ QS (pQ own) W bq bp bm pu l' D' w2 ∧ Con l.length (nth l i).task (fun t => ∃ i, i < l.length ∧ (nth l i).task = t) l' D' := by
  have hs := h1.small
  have hI := hiE (p := pQ own) (W0 := W) (bq := bq) (bp := bp) (bm := bm) (pu := pu) (cp := l.length) (nt := (nth l i).task) (K := fun t => ∃ i, i < l.length ∧ (nth l i).task = t) ⟨i, hi, rfl⟩ (hc.rng i hi) (by omega)
  have hS : SE (pQ own) W bq bp bm pu l.length (nth l i).task (fun t => ∃ i, i < l.length ∧ (nth l i).task = t) l w := ⟨D, h1, hc.con_in hi⟩
  have fin : ∀ e w2, PopE (SE (pQ own) W bq bp bm pu l.length (nth l i).task (fun t => ∃ i, i < l.length ∧ (nth l i).task = t)) eLt 63 Ent.val l (nth l i) e w2 → (∃ v, e = .returned v) ∧ ∃ l' D', (nth l i :: l').Perm l ∧ Heap eLt (nth l') l'.length ∧ QS (pQ own) W bq bp bm pu l' D' w2 ∧ Con l.length (nth l i).task (fun t => ∃ i, i < l.length ∧ (nth l i).task = t) l' D' := fun e w2 h => by
    obtain ⟨h2, l', h3, h4, D', h5, h6⟩ := h
    exact ⟨⟨_, h2⟩, l', D', h3, h4, h5, h6⟩
  rcases Nat.lt_or_ge i (l.length - 1) with hl | hl
  · exact (hremove_ok hI l i (l.length - 1) w hS (by omega) hl hh).mono fin
  · have e : i = l.length - 1 := by omega
    have hr := hremove_last hI l (l.length - 1) w hS (by omega) hh
    rw [← e] at hr
    exact hr.mono fin
end
end Go.Proofs.Ytmbdglolpagjdaa
