/- Push and Pop of a queue's heap. -/
import Derived.Test.YtfljmdpigckpkaaGreatDoorB15
namespace Go.Proofs.YtfljmdpigckpkaaGreatDoor.QQ
open Go.RowKit Go.Shelf
theorem infoEnt : (Tryz.prog.info? 278).map (fun i => (i.zero, i.size, i.bytes)) = some (some (.agg #[.int .i64 0, .bool false, .int .i64 0, .int .i64 0]), 4, 32) := by kernel_rfl
@[go_sem] theorem asEnt (v : Value) (w : World) : (Instr.typeAssert (.iface 278 v) 20 278 false).run Tryz.prog w = .ok v w := by kernel_rfl
section
variable {p : PP} {W0 : World} {bq bp bm : Nat} {pu : Int}
theorem pairw {a b : Value} (h : #[a] = #[b]) : a = b := by simpa using h
/-- A queue with another slice. -/
theorem QS.slice {l l' : List Ent} {D : DM} {W W1 W2 : World} {v v' : Value} (h : QS p W0 bq bp bm pu l D W) (h1 : W.heap[bq]? = some (.cells #[v, .map (some bm), .int .i64 pu] 258 (0, 0)))
    (hg : W.grownBy W1 v.ownBlock) (ho : W1.ownsRow 0 278 4 v' l'.length (row4 l')) (hat : ∀ g, v'.ownBlock = some g → v.ownBlock = some g ∨ W.heap.size ≤ g) (hn : l'.length ≤ 1000000) (hW2 : W2 = W1.setCell ⟨bq, 0, none⟩ v') :
    QS p W0 bq bp bm pu l' D W2 ∧ Kept (fun b t => !(t == some 278 || b == bq)) W W2 ∧ W2.heap[bq]? = some (.cells #[v', .map (some bm), .int .i64 pu] 258 (0, 0)) := by
  obtain ⟨⟨v0, h1', h2, h3⟩, h4, h5, h6, h7, h8, h9⟩ := h
  rw [h1] at h1'
  simp only [Option.some.injEq, Obj.cells.injEq, and_true] at h1'
  have e : v0 = v := by simpa using h1'.symm
  subst e
  have hgt : ∀ g o, v0.ownBlock = some g → W.heap[g]? = some o → tag o = some 278 := fun g o hv ho => by
    rcases h2.2 with ⟨h0, _⟩ | ⟨g', cap, cur, e, _, k1, _⟩
    · rw [h0] at hv; cases hv
    · rw [e] at hv
      have : g' = g := by simpa [Value.ownBlock] using hv
      subst this
      rw [k1] at ho; cases ho; rfl
  have kg : Kept (fun _ t => t != some 278) W W1 := Kept.grown hg fun j o e ho => by rw [hgt j o e ho]; simp
  have hb1 := kg.same _ _ h1 (by simp [tag])
  have hq2 : W2.heap[bq]? = some (.cells #[v', .map (some bm), .int .i64 pu] 258 (0, 0)) := by
    rw [hW2, heap_setCell_same W1 bq 0 _ _ _ hb1]; simp
  have ks : Kept (fun b _ => b != bq) W1 W2 := by rw [hW2]; exact Kept.setCell v' fun o ho => by simp
  have k : Kept (fun b t => !(t == some 278 || b == bq)) W W2 := (kg.mono fun b t _ ht => by simp at ht ⊢; exact ht.1).trans (ks.mono fun b t _ ht => by simp at ht ⊢; exact ht.2)
  have hgbq : ∀ g, v'.ownBlock = some g → g ≠ bq := fun g hv e => by
    subst e
    rcases ho.2 with ⟨h0, _⟩ | ⟨g', cap, cur, e, _, k1, _⟩
    · rw [h0] at hv; cases hv
    · rw [e] at hv
      have : g' = g := by simpa [Value.ownBlock] using hv
      subst this
      rw [hb1] at k1; cases k1
  have hbp : bp ≠ bq := fun e => by subst e; rw [h1] at h4; cases h4
  have hbm : bm ≠ bq := fun e => by
    subst e; obtain ⟨es, clock, h10, _⟩ := h5; rw [h1] at h10; cases h10
  refine ⟨⟨⟨v', hq2, ks.row ho fun g hv => by simp; exact hgbq g hv, fun g hv hlt => ?_⟩, k.same _ _ h4 (by simp [tag, hbp]), k.map h5 (by simp [hbm]), ?_, h7, h8, hn⟩, k, hq2⟩
  · rcases hat g hv with h | h
    · exact h3 g h hlt
    · have := h6.size; omega
  · have h61 := keptGrown h6 hg fun j o e ho hj => by rw [hgt j o e ho]; exact h3 j e hj
    rw [hW2]
    exact keptStore h61 v' fun o ho hb => by rw [hb1] at ho; cases ho; exact h7 hb
theorem Con.push {cp : Nat} {K : Int → Prop} {l : List Ent} {D : DM} {x : Ent} (h : Con cp x.task K l D) (hK : K x.task) (hnl : ∀ i, i < l.length → (nth l i).task ≠ x.task) (hr : 0 ≤ x.task ∧ x.task ≤ 9223372036854775807) : Con cp x.task K (l ++ [x]) (putD D x.task l.length) := by
  have k1 := h.keyed hK (t := x.task) (i := l.length) (.inr rfl)
  have hm := h.tidy.isMap
  have e : nth (l ++ [x]) l.length = x := by simp [nth]
  refine ⟨fun i hi => ?_, fun i hi => ?_, k1.1, k1.2.1, fun i hi => ?_, k1.2.2⟩
  all_goals
    rcases Nat.lt_or_ge i l.length with hl | hl
  · rw [nth_left hl]; exact has_put hm _ (h.has i hl)
  · have : i = l.length := by simp at hi; omega
    subst this; rw [e]; exact has_put_same hm _ _
  · rw [nth_left hl, at_put_other (hnl i hl)]; exact h.pos i hl
  · have : i = l.length := by simp at hi; omega
    subst this; rw [e]; exact at_put_same hm _ _
  · rw [nth_left hl]; exact h.rng i hl
  · have : i = l.length := by simp at hi; omega
    subst this; rw [e]; exact hr
theorem row4_snoc (l : List Ent) (x : Ent) : row4 (l ++ [x]) = row4 l ++ x.cells := by simp [row4]

def ento (x : Ent) : Obj := .cells #[.int .i64 x.task, .bool x.front, .int .i64 x.due, .int .i64 x.nth] 278 (0, 0)
theorem ento_cells {W : World} {b : Nat} {x : Ent} (h : W.heap[b]? = some (ento x)) : W.cell? ⟨b, 0, none⟩ = some (.int .i64 x.task) ∧ W.cell? ⟨b, 1, none⟩ = some (.bool x.front) ∧ W.cell? ⟨b, 2, none⟩ = some (.int .i64 x.due) ∧ W.cell? ⟨b, 3, none⟩ = some (.int .i64 x.nth) := by
  simp [World.cell?, h, ento]
theorem QS.slot {l : List Ent} {D : DM} {W : World} (h : QS p W0 bq bp bm pu l D W) {A : Option Addr} {n c : Nat} (hn : n = l.length) (h1 : W.heap[bq]? = some (.cells #[.slice A n c, .map (some bm), .int .i64 pu] 258 (0, 0))) :
    W.cell? ⟨bq, 0, none⟩ = some (.slice A n c) ∧ W.frozen? ⟨bq, 0, none⟩ = false ∧ W.ownsRow 0 278 4 (.slice A n c) n (row4 l) ∧ bq < W.heap.size ∧ ∀ b o, W.heap[b]? = some o → tag o ≠ some 278 → ∀ g, (Value.slice A n c).ownBlock = some g → g ≠ b := by
  subst hn
  obtain ⟨⟨v, h1', h2, h3⟩, _⟩ := h
  rw [h1] at h1'
  simp only [Option.some.injEq, Obj.cells.injEq, and_true] at h1'
  have e : v = .slice A l.length c := by simpa using h1'.symm
  subst e
  refine ⟨by simp [World.cell?, h1], frozen_of_row W bq 0 _ _ h1, h2, (Array.getElem?_eq_some_iff.1 h1).1, fun b o hb ht g hv e => ?_⟩
  subst e
  rcases h2.2 with ⟨h0, _⟩ | ⟨g', cap, cur, e, _, k1, _⟩
  · rw [h0] at hv; cases hv
  · rw [e] at hv
    have : g' = g := by simpa [Value.ownBlock] using hv
    subst this
    rw [hb] at k1; cases k1; exact ht rfl

set_option maxHeartbeats 2000000 in
set_option maxRecDepth 100000 in
theorem epush_ok {l : List Ent} {D : DM} {W : World} {cp : Nat} {x : Ent} {K : Int → Prop} (h : QS p W0 bq bp bm pu l D W) (hc : Con cp x.task K l D) (hK : K x.task) (hcp : cp ≤ 2000000) (hnl : ∀ i, i < l.length → (nth l i).task ≠ x.task) (hr : 0 ≤ x.task ∧ x.task ≤ 9223372036854775807) (hll : l.length < 1000000) :
    Calls Tryz.prog 362 #[pv bq bp, .iface 278 x.val] W fun e W' => e = .returned (.tuple #[]) ∧ ∃ D', QS p W0 bq bp bm pu (l ++ [x]) D' W' ∧ Con cp x.task K (l ++ [x]) D' := by
  obtain ⟨v, k1, k2, _⟩ := h.qb
  obtain ⟨A, c, rfl⟩ := own4 k2
  have hlt := (Array.getElem?_eq_some_iff.1 k1).1
  obtain ⟨W1, hW1⟩ : ∃ W1, W1 = (W.alloc (pvo bq bp)).alloc (ento x) := ⟨_, rfl⟩
  have hE : Ext W W1 := by rw [hW1]; exact Ext.two _ _ _
  have hb : W1.heap[W.heap.size]? = some (pvo bq bp) := by rw [hW1]; exact (Below.heap_alloc _ _ _ (by simp)).trans (World.alloc_heap_new _ _)
  have hb2 : W1.heap[W.heap.size + 1]? = some (ento x) := by rw [hW1]; have := World.alloc_heap_new (W.alloc (pvo bq bp)) (ento x); rwa [World.size_alloc] at this
  obtain ⟨p0, p1, p2⟩ := pvo_cells hb
  obtain ⟨x0, x1, x2, x3⟩ := ento_cells hb2
  have h' := h.ext hE
  have k1' := (hE.kept (fun _ _ => true)).same _ _ k1 rfl
  obtain ⟨c0, _⟩ := h'.slot rfl k1'
  have hz : Maps.size D < 10000000 := by have := hc.size; omega
  have hmv := fun w (hw : QS p W0 bq bp bm pu l D w) => moved_ok hw x l.length (by omega) hr hz
  simp only [Ent.val] at hmv
  have HS := Lib.hid h'
  have H1 := Lib.hid k1'
  have HC := Lib.hid hc
  have HW := Lib.hid hW1
  have HB := Lib.hid hb
  have HB2 := Lib.hid hb2
  have HL := Lib.hid (hc.push hK hnl hr)
  clear h hc k1 k2 h' k1' hE hW1 hb hb2 hnl
  unfold pv Ent.val
  go_enter Tryz.func362, Tryz.ntmps362
  go_wp2_with fail
  change Code.wp _ _ _ _ ((W.alloc (pvo bq bp)).alloc (ento x))
  rw [← HW.out]
  go_still_tail 8, (by kernel_rfl)
  change wpList _ _ _ _ _ W1.drew
  go_wp2_with fail
  refine (hmv _ (HS.out.ext (Ext.drew _))).mono ?_
  rintro e w' ⟨rfl, q4, k4⟩
  have r4 := k4.same bq _ (show W1.drew.heap[bq]? = _ from H1.out) rfl
  have hb4 := k4.same W.heap.size _ (show W1.drew.heap[W.heap.size]? = _ from HB.out) rfl
  have hb5 := k4.same (W.heap.size + 1) _ (show W1.drew.heap[W.heap.size + 1]? = _ from HB2.out) rfl
  clear p0 p1 p2 c0 x0 x1 x2 x3 hmv
  obtain ⟨p0, p1, p2⟩ := pvo_cells hb4
  obtain ⟨x0, x1, x2, x3⟩ := ento_cells hb5
  obtain ⟨c0, f0, ow, hlt', hne⟩ := q4.slot rfl r4
  have hl0 := (Array.getElem?_eq_some_iff.1 hb4).1
  have hl1 := (Array.getElem?_eq_some_iff.1 hb5).1
  have HQ := Lib.hid q4
  have HR := Lib.hid r4
  have HOW := Lib.hid ow
  have HNE := Lib.hid (hne _ _ r4 (by simp [tag]))
  have HNP := Lib.hid (hne _ _ hb4 (by simp [tag, pvo]))
  clear q4 k4 r4 hb4 hb5 ow hne
  obtain ⟨i0, hi0, hz0, hz1, hz2⟩ := info_parts infoEnt
  go_wp2_with fail
  go_region_law ((refine step_append_lies _ (by rfl) _ _ _ (by rfl) 0 278 i0 _ 4 32 Tryz.underlying256 hi0 hz0 hz1 hz2 rfl (by omega) (.slice A l.length c) l.length (row4 l) (by rfl) ((HOW.out.alloc _).drew) ⟨w'.heap.size, 0, none⟩ 1 1 [.int .i64 x.task, .bool x.front, .int .i64 x.due, .int .i64 x.nth] (by rfl) (by rfl) (World.news_of_block (cs := #[.int .i64 x.task, .bool x.front, .int .i64 x.due, .int .i64 x.nth]) (t := 278) (fr := (0, 0)) (heap_alloc_new w' _)) (by simp [Value.oneCell']) (by omega) (by unfold maxLen; omega) (by omega) (by simp) (w'.heap.size + 1) (by simp) ?_; intro gg cap w1 hown1 hgrow hat hlt; have q3 := (hgrow.cell_far ⟨bq, 0, none⟩ (by simp; omega) (fun e => HNE.out _ e.symm rfl)).trans ((World.cell?_alloc_past _ _ _ hlt').trans c0); have q3f := (hgrow.frozen_far ⟨bq, 0, none⟩ (by simp; omega) (fun e => HNE.out _ e.symm rfl)).trans ((World.frozen?_alloc_past _ _ _ hlt').trans f0); have q30 := (hgrow.cell_far ⟨W.heap.size, 0, none⟩ (by simp; omega) (fun e => HNP.out _ e.symm rfl)).trans ((World.cell?_alloc_past _ _ _ hl0).trans p0)))
  all_goals
    have hE : Ext w' (w'.alloc (Obj.cells #[.int .i64 x.task, .bool x.front, .int .i64 x.due, .int .i64 x.nth] 278 (0, 0))).drew := (Ext.one _ _).trans (Ext.drew _)
    have hS := (HQ.out.ext hE).slice ((hE.kept (fun _ _ => true)).same _ _ HR.out rfl) hgrow (l' := l ++ [x]) (by rw [row4_snoc, List.length_append]; exact hown1) (fun g hg => by
      have e : gg = g := by simpa [Value.ownBlock] using hg
      subst e
      exact hat.imp id fun e => by simp; omega) (by simp; omega) rfl
    have HSS := Lib.hid hS.1
    clear hS hE hown1 hgrow hat q3 q3f q30
    go_wp2_with fail
    go_end0
    exact ⟨rfl, _, HSS.out, HL.out⟩
end
end Go.Proofs.YtfljmdpigckpkaaGreatDoor.QQ
