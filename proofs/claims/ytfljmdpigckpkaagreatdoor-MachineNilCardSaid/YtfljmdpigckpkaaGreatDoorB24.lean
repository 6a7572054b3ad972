/- Queue.Put. -/
import Derived.Test.YtfljmdpigckpkaaGreatDoorB23
namespace Go.Proofs.YtfljmdpigckpkaaGreatDoor.QQ
open Go.RowKit Go.Shelf
attribute [local go_sem] Oper.semAt_some

@[go_sem] theorem eqmap_none (w : World) : (binOp .eql 214 (.map none) (.map none)).run Tryz.prog w = .ok (.bool true) w := by kernel_rfl
@[go_sem] theorem eqmap_some (b : Nat) (w : World) : (binOp .eql 214 (.map (some b)) (.map none)).run Tryz.prog w = .ok (.bool false) w := by kernel_rfl
/-- What a queue's own operations leave as it is. -/
def pQ (own : Nat → Bool) : Nat → Option TypeId → Bool := fun b _ => !own b
def ownB (bq bm : Nat) (v : Value) : Nat → Bool := fun b => b == bq || b == bm || v.ownBlock == some b
theorem mem_task {l : List Ent} {t : Int} : (∃ i, i < l.length ∧ (nth l i).task = t) ↔ ∃ x, x ∈ l ∧ x.task = t := by
  constructor
  · rintro ⟨i, hi, h⟩; exact ⟨nth l i, nth_mem hi, h⟩
  · rintro ⟨x, hx, h⟩
    obtain ⟨i, hi, e⟩ := List.getElem_of_mem hx
    exact ⟨i, hi, by rw [nth_lt hi, e]; exact h⟩
section
variable {own : Nat → Bool} {bq bm bp : Nat} {l l' : List Ent} {pu : Int} {W w : World} {D : DM}
/-- A queue whose heap was told, with its last number. -/
theorem QS.qv (h : QS (pQ own) W bq bp bm pu l' D w) (hc : CQ l' D) (hh : Heap eLt (nth l') l'.length) (hlen : l'.length ≤ 900000) (pu' : Int) {w' : World} (hw : w' = w.setCell ⟨bq, 2, none⟩ (.int .i64 pu')) :
    ∃ own', QV own' bq l' pu' w' ∧ Kept (pQ own) W w' ∧ ∀ b, own' b = true → own b = true ∨ W.heap.size ≤ b := by
  obtain ⟨⟨v, h1, h2, h3⟩, h4, h5, h6, h7, h8, h9⟩ := h
  have hb := heap_setCell_same w bq 2 _ _ (.int .i64 pu') h1
  have ks : Kept (fun b _ => b != bq) w w' := by rw [hw]; exact Kept.setCell _ fun o ho => by simp
  have hgq : ∀ g, v.ownBlock = some g → g ≠ bq := fun g hv e => by
    subst e
    obtain ⟨o, k1, k2⟩ := own_is h2 g hv
    rw [h1] at k1; cases k1; cases k2
  obtain ⟨es, clock, h10, _⟩ := id h5
  have hmq : bm ≠ bq := fun e => by subst e; rw [h1] at h10; cases h10
  have mine : ∀ b t, Mine (pQ own) W b t → own b = true ∨ W.heap.size ≤ b := fun b t hm => by
    rcases Nat.lt_or_ge b W.heap.size with hl | hl
    · left; have := hm hl; simpa [pQ] using this
    · exact .inr hl
  have ow : ∀ b, ownB bq bm v b = true → b = bq ∨ b = bm ∨ v.ownBlock = some b := fun b hb => by
    unfold ownB at hb
    rcases Bool.or_eq_true_iff.1 hb with hb | hb
    · rcases Bool.or_eq_true_iff.1 hb with hb | hb
      · exact .inl (by simpa using hb)
      · exact .inr (.inl (by simpa using hb))
    · exact .inr (.inr (by simpa using hb))
  refine ⟨ownB bq bm v, ⟨⟨v, .map (some bm), by rw [hw, hb]; simp, ks.row h2 fun g hv => by simpa using hgq g hv, fun g hv => by simp [ownB, hv], .inr ⟨bm, D, rfl, by simp [ownB], ks.map h5 (by simpa using hmq), hc⟩⟩, by simp [ownB], fun b hb' => ?_, hh, hlen⟩, ?_, fun b hb' => ?_⟩
  · rcases ow b hb' with rfl | rfl | hv
    · exact ⟨_, by rw [hw]; exact hb, .inr (.inl rfl)⟩
    · exact ⟨_, ks.same _ _ h10 (by simpa using hmq), .inl rfl⟩
    · obtain ⟨o, k1, k2⟩ := own_is h2 b hv
      exact ⟨o, ks.same _ _ k1 (by simpa using hgq b hv), .inr (.inr k2)⟩
  · rw [hw]; exact keptStore h6 _ fun o ho hb => by rw [h1] at ho; cases ho; exact h7 hb
  · rcases ow b hb' with rfl | rfl | hv
    · exact mine _ _ h7
    · exact mine _ _ h8
    · exact mine _ _ (h3 b hv)
/-- A queue with a map, ahead of a change: what container/heap is handed. -/
theorem QV.qs {v : Value} (h1 : w.heap[bq]? = some (.cells #[v, .map (some bm), .int .i64 pu] 258 (0, 0))) (h2 : w.ownsRow 0 278 4 v l.length (row4 l)) (h3 : ∀ g, v.ownBlock = some g → own g = true ∨ W.heap.size ≤ g)
    (hob : own bq = true) (hobm : own bm = true ∨ W.heap.size ≤ bm) (hm : w.ownsMap Tryz.prog 3 (plainElem Tryz.prog 3) bm (Maps.size D) D) (hk : Kept (pQ own) W w) (hl : l.length ≤ 900000)
    (hp : w.heap[bp]? = some (.cells #[.pointer (some ⟨bq, 0, none⟩)] 171 (0, 0))) : QS (pQ own) W bq bp bm pu l D w :=
  have mine : ∀ b t, (own b = true ∨ W.heap.size ≤ b) → Mine (pQ own) W b t := fun b t h hlt => by
    rcases h with h | h
    · simp [pQ, h]
    · omega
  ⟨⟨v, h1, h2, fun g hg => mine _ _ (h3 g hg)⟩, hp, hm, hk, mine _ _ (.inl hob), mine _ _ hobm, by omega⟩
theorem Con.cq {x : Ent} {cp : Nat} (hc : Con cp x.task (fun t => t = x.task ∨ ∃ i, i < l.length ∧ (nth l i).task = t) l' D) (hp : l'.Perm (l ++ [x])) (hcp : cp = l.length + 1) : CQ l' D := by
  have hlen := hp.length_eq
  have hm : ∀ {t}, (t = x.task ∨ ∃ i, i < l.length ∧ (nth l i).task = t) → ∃ i, i < l'.length ∧ (nth l' i).task = t := fun h => mem_task.2 (by
    rcases h with rfl | h
    · exact ⟨x, hp.mem_iff.2 (by simp), rfl⟩
    · obtain ⟨y, hy, e⟩ := mem_task.1 h
      exact ⟨y, hp.mem_iff.2 (by simp [hy]), e⟩)
  have hx : Maps.has D (tk x.task) = true := by
    obtain ⟨i, hi, e⟩ := hm (.inl rfl)
    rw [← e]; exact hc.has i hi
  refine ⟨hc.has, hc.pos, fun t ht => hm (hc.keys t ht), ?_, hc.rng, hc.tidy⟩
  have := hc.size
  rw [hx] at this
  simp at this hlen
  omega
theorem of_wf {a : Int} (h : (Lit.int .i64 a).wf = true) : -9223372036854775808 ≤ a ∧ a ≤ 9223372036854775807 := by
  have h1 : IntKind.min .i64 = -9223372036854775808 := by decide
  have h2 : IntKind.max .i64 = 9223372036854775807 := by decide
  simp [Lit.wf, h1, h2] at h
  exact h
/-- Ahead of heap.Push: a queue with a map; the item in its box. -/
def Pre (own : Nat → Bool) (bq : Nat) (l : List Ent) (pu : Int) (W : World) (x : Ent) (w : World) : Prop := ∃ v bm D, w.heap[bq]? = some (.cells #[v, .map (some bm), .int .i64 pu] 258 (0, 0)) ∧ w.ownsRow 0 278 4 v l.length (row4 l) ∧ (∀ g, v.ownBlock = some g → own g = true ∨ W.heap.size ≤ g) ∧
  (own bm = true ∨ W.heap.size ≤ bm) ∧ w.ownsMap Tryz.prog 3 (plainElem Tryz.prog 3) bm (Maps.size D) D ∧ CQ l D ∧ Kept (pQ own) W w ∧ w.heap[W.heap.size]? = some (ito x)
theorem Pre.push {x : Ent} (h : Pre own bq l pu W x w) (hob : own bq = true) (hh : Heap eLt (nth l) l.length) (hno : hasE l x.task = false) (hll : l.length < 900000) (ht0 : 0 ≤ x.task) (ht1 : (Lit.int .i64 x.task).wf = true) (hx : pu = x.nth) :
    ∃ bm, ∀ w', Ext w w' → w'.heap[w.heap.size]? = some (.cells #[.pointer (some ⟨bq, 0, none⟩)] 171 (0, 0)) →
      Calls Tryz.prog 181 #[.iface 296 (pv bq w.heap.size), .iface 278 (.agg #[.int .i64 x.task, .bool x.front, .int .i64 x.due, .int .i64 pu])] w' fun e w2 => e = .returned (.tuple #[]) ∧ ∃ l' D, l'.Perm (l ++ [x]) ∧ Heap eLt (nth l') l'.length ∧ QS (pQ own) W bq w.heap.size bm pu l' D w2 ∧ CQ l' D := by
  obtain ⟨v, bm, D, g1, g2, g3, g4, g5, g6, g7, g8⟩ := h
  refine ⟨bm, fun w' hw hb => ?_⟩
  have hk := hw.kept (fun _ _ => true)
  have hqs : QS (pQ own) W bq w.heap.size bm pu l D w' := QV.qs (hk.same _ _ g1 rfl) (hk.row g2 fun _ _ => rfl) g3 hob g4 (hk.map g5 rfl) (g7.trans (hw.kept _)) (by omega) hb
  have hne : ∀ i, i < l.length → (nth l i).task ≠ x.task := fun i hi e => by
    rw [hasE_iff.2 ⟨i, hi, e⟩] at hno; cases hno
  have hp := hpush_ok (hiE (p := pQ own) (W0 := W) (bq := bq) (bp := w.heap.size) (bm := bm) (pu := pu) (cp := l.length + 1) (nt := x.task) (K := fun t => t = x.task ∨ ∃ i, i < l.length ∧ (nth l i).task = t) (.inl rfl) ⟨ht0, (of_wf ht1).2⟩ (by omega)) l x w' ⟨D, hqs, g6.con x.task⟩ ⟨rfl, hne, by omega⟩ hh
  rw [hx]
  rw [hx] at hp
  refine Calls.mono hp fun e w2 h => ?_
  obtain ⟨h1, l', h2, h3, D', h4, h5⟩ := h
  exact ⟨h1, l', D', h2, h3, h4, h5.cq h2 rfl⟩
set_option maxHeartbeats 4000000 in
set_option maxRecDepth 100000 in
theorem Put_new (h : QV own bq l pu W) (t d : Int) (f : Bool) (ht0 : 0 ≤ t) (ht1 : (Lit.int .i64 t).wf = true) (hd0 : 0 ≤ d) (hno : hasE l t = false) (hll : l.length < 900000) (hpu : 0 ≤ pu ∧ pu ≤ 1000000) :
    Calls Tryz.prog 114 #[.pointer (some ⟨bq, 0, none⟩), .agg #[.int .i64 t, .bool f, .int .i64 d]] W fun e W' => e = .returned (.int .i64 0) ∧ ∃ own' l', QV own' bq l' (pu + 1) W' ∧ l'.Perm (l ++ [⟨t, f, d, pu⟩]) ∧ Kept (pQ own) W W' ∧ ∀ b, own' b = true → own b = true ∨ W.heap.size ≤ b := by
  obtain ⟨x, hx⟩ : ∃ x : Ent, x = ⟨t, f, d, pu⟩ := ⟨_, rfl⟩
  have e1 : t = x.task := by rw [hx]
  have e2 : f = x.front := by rw [hx]
  have e3 : d = x.due := by rw [hx]
  have e4 : pu = x.nth := by rw [hx]
  rw [← hx]
  subst e1 e2 e3
  obtain ⟨W1, hW1⟩ : ∃ W1, W1 = W.alloc (ito x) := ⟨_, rfl⟩
  have hE1 : Ext W W1 := by rw [hW1]; exact Ext.one _ _
  have hr0 : W1.heap[W.heap.size]? = some (ito x) := by rw [hW1]; exact World.alloc_heap_new _ _
  have hhas := has_ok (h.ext hE1) x.task ht1
  rw [hno] at hhas
  obtain ⟨x0, x1, x2⟩ := ito_cells hr0
  obtain ⟨v, mv, h1, h2, h3, h4⟩ := (h.ext hE1).ex
  have hlt := (Array.getElem?_eq_some_iff.1 h1).1
  have c1 : W1.cell? ⟨bq, 1, none⟩ = some mv := by simp [World.cell?, h1]
  have c2 : W1.cell? ⟨bq, 2, none⟩ = some (.int .i64 pu) := by simp [World.cell?, h1]
  have hf := frozen_of_row W1 bq 1 _ _ h1
  have hbq := h.lt h.ob
  have HE1 := Lib.hid hE1
  have HR0 := Lib.hid hr0
  have HW := Lib.hid hW1
  have HH := Lib.hid h
  have H1 := Lib.hid h1
  have H2 := Lib.hid h2
  have H3 := Lib.hid h3
  have HX := Lib.hid hx
  have H4E := Lib.hid e4
  have HHAS := Lib.hid hhas
  have HNO := Lib.hid hno
  have HT1 := Lib.hid ht1
  have hmm := @run_makeMap Tryz.prog
  clear h h1 h2 h3 hE1 hr0 hW1 hx e4 hhas hno ht1
  go_enter Tryz.func114, Tryz.ntmps114
  go_upto_region 1 with (fail)
  change Code.wp _ _ _ _ (W.alloc (ito x))
  rw [← HW.out]
  go_upto_region 7 with (go_at_call 180; refine HHAS.out.mono ?_; rintro e w2 ⟨rfl, rfl⟩)
  rcases h4 with ⟨rfl, hl0⟩ | ⟨bm, D, rfl, hob, hm, hc⟩
  case' inl =>
    have HL0 := Lib.hid hl0
    clear hl0
    go_upto_region 9 with (fail)
    have hpre : Pre own bq l pu W x ((w2.setCell ⟨bq, 1, none⟩ (.map (some w2.heap.size))).alloc (.map #[] 0)) := by
      have hb := heap_setCell_same w2 bq 1 _ _ (.map (some w2.heap.size)) H1.out
      have hs : (w2.setCell ⟨bq, 1, none⟩ (.map (some w2.heap.size))).heap.size = w2.heap.size := by simp
      have kb : Kept (fun b _ => b != bq) w2 (w2.setCell ⟨bq, 1, none⟩ (.map (some w2.heap.size))) := Kept.setCell _ fun o ho => by simp
      have ka : Ext (w2.setCell ⟨bq, 1, none⟩ (.map (some w2.heap.size))) ((w2.setCell ⟨bq, 1, none⟩ (.map (some w2.heap.size))).alloc (.map #[] 0)) := Ext.one _ _
      have ka' := ka.kept (fun _ _ => true)
      refine ⟨v, w2.heap.size, .map [], ka'.same _ _ (by rw [hb]; simp) rfl, ka'.row (kb.row H2.out fun g hv => ?_) fun _ _ => rfl, fun g hg => .inl (H3.out g hg), .inr (by have := HE1.out.size; omega), ?_, by rw [HL0.out]; exact CQ.nil, ?_, ka'.same _ _ (kb.same _ _ HR0.out (by simp; omega)) rfl⟩
      · simp
        intro e; subst e
        obtain ⟨o, k1, k2⟩ := own_is H2.out g hv
        rw [H1.out] at k1; cases k1; cases k2
      · have := World.ownsMap_made (w2.setCell ⟨bq, 1, none⟩ (.map (some w2.heap.size))) Tryz.prog 3 (plainElem (H := Unit) Tryz.prog 3)
        rw [hs] at this
        exact this
      · exact ((HE1.out.kept _).trans (kb.mono fun b t _ hp => by
          simp [pQ] at hp ⊢
          intro e; subst e; rw [HH.out.ob] at hp; cases hp)).trans (ka.kept _)
    generalize (w2.setCell ⟨bq, 1, none⟩ (.map (some w2.heap.size))).alloc (.map #[] 0) = w3 at *
    have HPRE := Lib.hid hpre
    clear hpre x0 x1 x2 c1 c2 hf HL0 H1 H2 H3 HR0 HE1 HW HHAS hlt
  case' inr =>
    have HM := Lib.hid hm
    have HC := Lib.hid hc
    clear hm hc
    go_upto_region 9 with (fail)
    have hpre : Pre own bq l pu W x w2 := ⟨v, bm, D, H1.out, H2.out, fun g hg => .inl (H3.out g hg), .inl hob, HM.out, HC.out, HE1.out.kept _, HR0.out⟩
    have HPRE := Lib.hid hpre
    clear hpre x0 x1 x2 c1 c2 hf H1 H2 H3 HR0 HE1 HW HHAS HM HC hob hlt
    obtain ⟨w3, rfl⟩ : ∃ w3, w3 = w2 := ⟨_, rfl⟩
  all_goals
    obtain ⟨bm, hpush⟩ := HPRE.out.push HH.out.ob HH.out.hp HNO.out hll ht0 HT1.out H4E.out
    obtain ⟨v3, bm3, D3, k1, _, _, _, _, _, _, k8⟩ := HPRE.out
    have c2 : w3.cell? ⟨bq, 2, none⟩ = some (.int .i64 pu) := by simp [World.cell?, k1]
    have hl3 := (Array.getElem?_eq_some_iff.1 k1).1
    have hl4 := (Array.getElem?_eq_some_iff.1 k8).1
    obtain ⟨x0, x1, x2⟩ := ito_cells k8
    obtain ⟨hpu1, hpu2⟩ := hpu
    have hwr : IntKind.i64.wrap (pu + 1) = pu + 1 := by rw [IntKind.wrap_i64]; omega
    have HP := Lib.hid hpush
    have HK8 := Lib.hid k8
    clear hpush k1 k8
    go_region_with (first
      | (go_at_call 182; refine (pile_ok bq _).mono ?_; rintro e w4 ⟨rfl, hx4, hb4⟩; have hxx := (Ext.drew w3).trans hx4; have c24 := (hxx.kept (fun _ _ => true)).cell c2 (fun _ _ => rfl); have hl44 := hxx.size; obtain ⟨y0, y1, y2⟩ := ito_cells ((hxx.kept (fun _ _ => true)).same _ _ HK8.out rfl); have HXX := Lib.hid hxx; have HB4 := Lib.hid hb4; clear hxx hx4 hb4)
      | (go_at_call 181; refine (HP.out _ HXX.out HB4.out).mono ?_; rintro e w5 ⟨rfl, l', D2, hp5, hh5, hq5, hc5⟩; have HQ5 := Lib.hid hq5; have HP5 := Lib.hid hp5; have HH5 := Lib.hid hh5; have HC5 := Lib.hid hc5; clear hp5 hh5 hq5 hc5 x0 x1 x2 y0 y1 y2 c2 c24))
    all_goals
      obtain ⟨v5, q1, _, _⟩ := HQ5.out.qb
      have c25 : w5.cell? ⟨bq, 2, none⟩ = some (.int .i64 pu) := by simp [World.cell?, q1]
      have f25 := frozen_of_row w5 bq 2 _ _ q1
      have hl5 := (Array.getElem?_eq_some_iff.1 q1).1
      clear q1
      go_wp2_with fail
      go_ret
      obtain ⟨own', r1, r2, r3⟩ := HQ5.out.qv HC5.out HH5.out (by have := HP5.out.length_eq; simp at this; omega) (pu + 1) rfl
      exact ⟨rfl, own', l', r1, HP5.out, r2, r3⟩
end
end Go.Proofs.YtfljmdpigckpkaaGreatDoor.QQ
