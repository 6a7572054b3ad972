/- A pile of places: Push, Pop; the pile as a value with the methods of a heap. -/
import Derived.Test.YtfljmdpigckpkaaGreatDoorB18
namespace Go.Proofs.YtfljmdpigckpkaaGreatDoor.QQ
open Go.RowKit Go.Shelf
theorem infoInt : (Tryz.prog.info? 3).map (fun i => (i.zero, i.size, i.bytes)) = some (some (.int .i64 0), 1, 8) := by kernel_rfl
@[go_sem] theorem asInt (v : Value) (w : World) : (Instr.typeAssert (.iface 3 v) 20 3 false).run Tryz.prog w = .ok v w := by kernel_rfl
section
variable {B : Nat} {W0 : World} {l : List Ent} {bl bp : Nat}
set_option maxHeartbeats 2000000 in
set_option maxRecDepth 100000 in
theorem ipush_ok {s : List Nat} {n : Nat} {W : World} (h : PS B W0 l bl bp s W) (hn : n < l.length) (hll : s.length < 1000000) :
    Calls Tryz.prog 367 #[pvi bl bp, .iface 3 (.int .i64 (n : Int))] W fun e W' => e = .returned (.tuple #[]) ∧ PS B W0 l bl bp (s ++ [n]) W' := by
  obtain ⟨v, k1, k2⟩ := h.pb
  obtain ⟨A, c, rfl⟩ := own1 k2
  obtain ⟨_, _, _, hlt, _⟩ := h.slot rfl k1
  have hBs : B ≤ W.heap.size := by have := h.hB; omega
  obtain ⟨W1, hW1⟩ : ∃ W1, W1 = W.alloc (pvio bl bp) := ⟨_, rfl⟩
  have hE : Ext W W1 := by rw [hW1]; exact Ext.one _ _
  have hb : W1.heap[W.heap.size]? = some (pvio bl bp) := by rw [hW1]; exact World.alloc_heap_new _ _
  obtain ⟨p0, p1, p2⟩ := pvio_cells hb
  have h' := h.ext hE
  have k1' := (hE.kept (fun _ _ => true)).same _ _ k1 rfl
  obtain ⟨c0, f0, ow, hlt', hne⟩ := h'.slot rfl k1'
  have HS := Lib.hid h'
  have H1 := Lib.hid k1'
  have HW := Lib.hid hW1
  have HOW := Lib.hid ow
  have HNE := Lib.hid (hne _ _ k1' (by simp [tag]))
  have HNP := Lib.hid (hne _ _ hb (by simp [tag, pvio]))
  have hl0 := (Array.getElem?_eq_some_iff.1 hb).1
  have hB1 : B ≤ W1.heap.size := by omega
  have hlts : ∀ i, i < (s ++ [n]).length → nth (s ++ [n]) i < l.length := fun i hi => by
    rcases Nat.lt_or_ge i s.length with hl | hl
    · rw [nth_left hl]; exact h.hlt i hl
    · have e : i = s.length := by simp at hi; omega
      subst e
      have e2 : nth (s ++ [n]) s.length = n := by simp [nth]
      rw [e2]; exact hn
  have HLT := Lib.hid hlts
  clear h h' k1 k1' k2 hE hW1 hb ow hne hlt hlts
  unfold pvi
  obtain ⟨i0, hi0, hz0, hz1, hz2⟩ := info_parts infoInt
  go_enter Tryz.func367, Tryz.ntmps367
  go_wp2_with fail
  change Code.wp _ _ _ _ (W.alloc (pvio bl bp))
  rw [← HW.out]
  go_still_tail 8, (by kernel_rfl)
  change wpList _ _ _ _ _ W1.drew
  go_wp2_with fail
  refine (moved2_ok _ _ _).mono ?_
  rintro e w' ⟨rfl, hw⟩
  have hwE : Ext W1 w' := by rw [hw]; exact Ext.drew _
  have P0 := (show w'.cell? ⟨W.heap.size, 0, none⟩ = W1.cell? ⟨W.heap.size, 0, none⟩ by rw [hw]; rfl).trans p0
  have C0 := (show w'.cell? ⟨bp, 0, none⟩ = W1.cell? ⟨bp, 0, none⟩ by rw [hw]; rfl).trans c0
  have F0 := (show w'.frozen? ⟨bp, 0, none⟩ = W1.frozen? ⟨bp, 0, none⟩ by rw [hw]; rfl).trans f0
  have HL0 : W.heap.size < w'.heap.size := by rw [hw]; exact hl0
  have HL1 : bp < w'.heap.size := by rw [hw]; exact hlt'
  have HB1 : B ≤ w'.heap.size := by rw [hw]; exact hB1
  have HO2 := Lib.hid (show w'.ownsRow B 3 1 (.slice A s.length c) s.length (rowI s) by rw [hw]; exact HOW.out.drew)
  have HE := Lib.hid hwE
  clear hw hwE p0 p1 p2 c0 f0 hl0 hlt' hB1 HOW
  go_wp2_with fail
  go_region_law ((refine step_append_lies _ (by rfl) _ _ _ (by rfl) B 3 i0 _ 1 8 Tryz.underlying23 hi0 hz0 hz1 hz2 rfl (by omega) (.slice A s.length c) s.length (rowI s) (by rfl) ((HO2.out.alloc _).drew) ⟨w'.heap.size, 0, none⟩ 1 1 [.int .i64 (n : Int)] (by rfl) (by rfl) (World.news_of_block (cs := #[.int .i64 (n : Int)]) (t := 3) (fr := (0, 0)) (heap_alloc_new w' _)) (by simp [Value.oneCell']) (by omega) (by unfold maxLen; omega) (by omega) (by simp; omega) (w'.heap.size + 1) (by simp) ?_; intro gg cap w1 hown1 hgrow hat hlt; have q3 := (hgrow.cell_far ⟨bp, 0, none⟩ (by simp; omega) (fun e => HNE.out _ e.symm rfl)).trans ((World.cell?_alloc_past _ _ _ HL1).trans C0); have q3f := (hgrow.frozen_far ⟨bp, 0, none⟩ (by simp; omega) (fun e => HNE.out _ e.symm rfl)).trans ((World.frozen?_alloc_past _ _ _ HL1).trans F0); have q30 := (hgrow.cell_far ⟨W.heap.size, 0, none⟩ (by simp; omega) (fun e => HNP.out _ e.symm rfl)).trans ((World.cell?_alloc_past _ _ _ HL0).trans P0)))
  all_goals
    have hE : Ext w' (w'.alloc (Obj.cells #[.int .i64 (n : Int)] 3 (0, 0))).drew := (Ext.one _ _).trans (Ext.drew _)
    have hE2 := HE.out.trans hE
    have hS := (HS.out.ext hE2).slice (s' := s ++ [n]) ((hE2.kept (fun _ _ => true)).same _ _ H1.out rfl) hgrow (by rw [rowI_snoc, List.length_append]; exact hown1) HLT.out (by simp; omega) rfl
    have HSS := Lib.hid hS
    clear hS hE hE2 hown1 hgrow hat q3 q3f q30
    go_wp2_with fail
    go_end0
    exact ⟨rfl, HSS.out⟩

set_option maxHeartbeats 2000000 in
set_option maxRecDepth 100000 in
theorem ipop_ok {s : List Nat} {n : Nat} {W : World} (h : PS B W0 l bl bp (s ++ [n]) W) :
    Calls Tryz.prog 366 #[pvi bl bp] W fun e W' => e = .returned (.iface 3 (.int .i64 (n : Int))) ∧ PS B W0 l bl bp s W' := by
  obtain ⟨v, k1, k2⟩ := h.pb
  obtain ⟨A, c, rfl⟩ := own1 k2
  have hL : (s ++ [n]).length = s.length + 1 := by simp
  rw [hL] at k1 k2
  have hx0 : nth (s ++ [n]) s.length = n := by simp [nth]
  obtain ⟨hc0, _, ow, hlt, _⟩ := h.slot hL.symm k1
  obtain ⟨g, rfl, w0, _⟩ := own1_cell ow hL.symm (i := s.length) (by omega)
  rw [hx0] at w0
  have hgl : g < W.heap.size := by
    obtain ⟨g', c', e, _, hh⟩ := ow.form (by omega)
    injection e with e; injection e with e; injection e with e; omega
  have hsm : s.length + 1 ≤ 1000000 := by have := h.ssm; simp at this; omega
  obtain ⟨W1, hW1⟩ : ∃ W1, W1 = W.alloc (pvio bl bp) := ⟨_, rfl⟩
  have hE : Ext W W1 := by rw [hW1]; exact Ext.one _ _
  have hb : W1.heap[W.heap.size]? = some (pvio bl bp) := by rw [hW1]; exact World.alloc_heap_new _ _
  obtain ⟨p0, p1, p2⟩ := pvio_cells hb
  have h' := h.ext hE
  have k1' := (hE.kept (fun _ _ => true)).same _ _ k1 rfl
  obtain ⟨c0, f0, ow1, _⟩ := h'.slot hL.symm k1'
  have hcap : s.length + 1 ≤ c ∧ c ≤ maxLen := by
    rcases ow1.2 with ⟨h0, _⟩ | ⟨g', cap, cur, e, _, _, h4, h5, _⟩
    · cases h0
    · injection e with e1 e2 e3; subst e3; exact ⟨h4, h5⟩
  obtain ⟨hcap, hcap2⟩ := hcap
  have hcapI : (s.length : Int) ≤ (c : Int) := by omega
  have hlts : ∀ i, i < s.length → nth s i < l.length := fun i hi => by have := h.hlt i (by simp; omega); rwa [nth_left hi] at this
  have HS := Lib.hid h'
  have H1 := Lib.hid k1'
  have HW := Lib.hid hW1
  have HO := Lib.hid ow1
  have HLT := Lib.hid hlts
  have e1 : ((s.length : Int) + 1 - 1) = (s.length : Int) := by omega
  clear h k1 k2 h' k1' hE hW1 hb hL ow ow1 hx0 hlts
  unfold pvi
  go_enter Tryz.func366, Tryz.ntmps366
  go_wp2_with fail
  change Code.wp _ _ _ _ (W.alloc (pvio bl bp))
  rw [← HW.out]
  go_region
  all_goals
    have hS := HS.out.slice (s' := s) H1.out (World.grownBy.refl _ _) (ownsRow_pop (last := [.int .i64 (n : Int)]) (by rw [rowI_len]; omega) (by have := HO.out; rw [rowI_snoc] at this; exact this)) HLT.out (by omega) rfl
    have HSS := Lib.hid hS
    clear hS
    go_wp2_with fail
    go_ret
    exact ⟨rfl, HSS.out.ext (Ext.drew _)⟩

/-- What a pile of places holds. -/
def okI (l : List Ent) (s : List Nat) (n : Nat) : Prop := n < l.length ∧ s.length < 1000000
def iLt (l : List Ent) (i j : Nat) : Bool := eLt (nth l i) (nth l j)
theorem iLt_swo (l : List Ent) : Swo (iLt l) := ⟨fun _ _ => eLt_swo.asym _ _, fun _ _ _ => eLt_swo.ntr _ _ _⟩
theorem hiI : HI (PS B W0 l bl bp) (iLt l) 391 (pvi bl bp) 3 (fun n : Nat => .int .i64 (n : Int)) (okI l) 1000000 364 365 368 367 366 where
  mn := fun w => by kernel_rfl
  ml := fun w => by kernel_rfl
  ms := fun w => by kernel_rfl
  mp := fun w => by kernel_rfl
  mq := fun w => by kernel_rfl
  en := fun args w => by kernel_rfl
  el := fun args w => by kernel_rfl
  es := fun args w => by kernel_rfl
  ep := fun args w => by kernel_rfl
  eq := fun args w => by kernel_rfl
  swo := iLt_swo l
  small := by omega
  bound := fun s w h => h.ssm
  len := fun s w h => (ilen_ok h).mono fun e w' ⟨h1, h2⟩ => ⟨h1, h.ext h2⟩
  less := fun s w h i j hi hj => (iless_ok h hi hj).mono fun e w' ⟨h1, h2⟩ => ⟨h1, h.ext h2⟩
  swap := fun s w h i j hi hj => iswap_ok h hi hj
  push := fun s n w h hok => ipush_ok h hok.1 hok.2
  pop := fun s n w h => ipop_ok h
end
end Go.Proofs.YtfljmdpigckpkaaGreatDoor.QQ
