/- The program's do: an instruction that is done; one that ends by a trap. -/
import Derived.Test.YtfljmdpigckpkaaGreatDoorSvV
namespace Go.Proofs.YtfljmdpigckpkaaGreatDoor
open Go.RowKit Go.Shelf
attribute [local go_sem] Oper.semAt_some
/-- All but a frame and its registers. -/
def nF (gr bf : Nat) : Nat → Option TypeId → Bool := fun b _ => b != gr && b != bf
theorem codo_map {w : World} {b bm : Nat} {Q : Prg} (h : w.heap[b]? = some (codo Q bm)) : w.cell? ⟨b, 8, none⟩ = some (.map (some bm)) ∧ b < w.heap.size := ⟨by simp [World.cell?, h, codo], (Array.getElem?_eq_some_iff.1 h).1⟩
section
variable {bd bt g bf gr bc bh : Nat} {fn at' : Int} {R : List Int} {y : Ins} {task it next : Int} {W : World} {Q : Prg}
theorem Th.setTrap {tr : Int} (h : Th bt g bf gr bc fn at' R tr W) (hg : g ≠ bt) (hf : bf ≠ bt) (hr : gr ≠ bt) (n : Int) : Th bt g bf gr bc fn at' R n (W.setCell ⟨bt, 2, none⟩ (.int .i64 n)) ∧ (∀ m, W.frozen? ⟨bt, m, none⟩ = false) ∧ Kept (ne' bt) W (W.setCell ⟨bt, 2, none⟩ (.int .i64 n)) := by
  have kk : Kept (ne' bt) W (W.setCell ⟨bt, 2, none⟩ (.int .i64 n)) := Kept.setCell _ fun o ho => by simp [ne']
  refine ⟨⟨?_, kk.same _ _ h.s (by simp [ne', hg]), kk.same _ _ h.f (by simp [ne', hf]), kk.row h.r fun b hb => ?_⟩, fun n => frozen_of_row W bt n _ _ h.t, kk⟩
  · rw [heap_setCell_same W bt 2 _ _ _ h.t]
    rfl
  · obtain rfl : gr = b := by simpa [Value.ownBlock] using hb
    simp [ne', hr]
theorem Th.setAt {tr : Int} (h : Th bt g bf gr bc fn at' R tr W) (hb : bt ≠ bf) (hg : g ≠ bf) (hr : gr ≠ bf) (n : Int) : Th bt g bf gr bc fn n R tr (W.setCell ⟨bf, 1, none⟩ (.int .i64 n)) ∧ (∀ m, W.frozen? ⟨bf, m, none⟩ = false) ∧ Kept (ne' bf) W (W.setCell ⟨bf, 1, none⟩ (.int .i64 n)) := by
  have kk : Kept (ne' bf) W (W.setCell ⟨bf, 1, none⟩ (.int .i64 n)) := Kept.setCell _ fun o ho => by simp [ne']
  refine ⟨⟨kk.same _ _ h.t (by simp [ne', hb]), kk.same _ _ h.s (by simp [ne', hg]), ?_, kk.row h.r fun b hb => ?_⟩, fun n => frozen_of_row W bf n _ _ h.f, kk⟩
  · rw [heap_setCell_same W bf 1 _ _ _ h.f]
    rfl
  · obtain rfl : gr = b := by simpa [Value.ownBlock] using hb
    simp [ne', hr]
set_option maxHeartbeats 4000000 in
set_option maxRecDepth 100000 in
theorem do_good {f : FuncId} {R' : List Int} (hd : W.heap[bd]? = some (dgo bt bf bh y task it next 0)) (h : Th bt g bf gr bc fn at' R 0 W) (hc : Cod bc Q W) (hf : fnO y.op deedL = some f)
    (hdo : ∀ w, Ext W w → Calls Tryz.prog f #[.pointer (some ⟨bd, 0, none⟩)] w fun e w' => e = .returned (.tuple #[]) ∧ Th bt g bf gr bc fn at' R' 0 w' ∧ Kept (ne' gr) w w') (hdg : bd ≠ gr) (hdf : bd ≠ bf) (hbf : bt ≠ bf) (hgf : g ≠ bf) (hrf : gr ≠ bf) (hcl : ∀ w, (callFunc f #[.pointer (some ⟨bd, 0, none⟩)]).run Tryz.prog w = .ok (.enter f #[.pointer (some ⟨bd, 0, none⟩)]) w) :
    Calls Tryz.prog 122 #[.pointer (some ⟨bd, 0, none⟩)] W fun e W' => e = .returned (.tuple #[]) ∧ Th bt g bf gr bc fn next R' 0 W' ∧ W'.heap[bd]? = some (dgo bt bf bh y task it next 0) ∧ Kept (nF gr bf) W W' := by
  obtain ⟨W1, hW1⟩ : ∃ W1, W1 = W.alloc (.cells #[.pointer (some ⟨bd, 0, none⟩)] 300) := ⟨_, rfl⟩
  have hx1 : Ext W W1 := by rw [hW1]; exact Ext.one _ _
  have hb1 : W1.heap[W.heap.size]? = some (.cells #[.pointer (some ⟨bd, 0, none⟩)] 300 (0, 0)) := by rw [hW1]; exact World.alloc_heap_new _ _
  have HX1 := Lib.hid hx1
  have HB1 := Lib.hid hb1
  have HW := Lib.hid hW1
  have HD := Lib.hid hd
  have HT := Lib.hid h
  have HC := Lib.hid hc
  have HF := Lib.hid hf
  have HDO := Lib.hid hdo
  clear hW1 hd h hc hf hdo hx1 hb1
  go_enter_defers Tryz.func122, Tryz.ntmps122
  go_upto_region 1 with (fail)
  change Code.wp _ _ _ _ (W.alloc (.cells #[.pointer (some ⟨bd, 0, none⟩)] 300))
  rw [← HW.out]
  go_upto_region 2 with (fail)
  refine wp_region_still_tail 17 (by kernel_rfl) (by kernel_rfl) ?_
  simp only [List.take_succ_cons, List.take_zero, List.drop_succ_cons, List.drop_zero]
  obtain ⟨W2, hW2⟩ : ∃ W2 : World, W2 = { W1 with drawn := W1.drawn + 1 } := ⟨_, rfl⟩
  rw [← hW2]
  have hx2 : Ext W1 W2 := by rw [hW2]; exact ⟨rfl, rfl, rfl, Nat.le_refl _, fun _ _ h _ => h⟩
  clear hW2
  have hx := HX1.out.trans hx2
  have kx := hx.kept (fun _ _ => true)
  have b0 : W2.cell? ⟨W.heap.size, 0, none⟩ = some (.pointer (some ⟨bd, 0, none⟩)) := by simp [World.cell?, (hx2.kept (fun _ _ => true)).same _ _ HB1.out rfl]
  have bl : W.heap.size < W2.heap.size := Nat.lt_of_lt_of_le (Array.getElem?_eq_some_iff.1 HB1.out).1 hx2.size
  obtain ⟨c0, c1, c2, c3, c4, c5, c6, c8, c10, c12, c13, c14, c15, c16, c17, c18, c19, c20, cl⟩ := dgo_cells (kx.same _ _ HD.out rfl)
  obtain ⟨t0, t1, t2, tl, s0, sl, f0, f1, f2, fl⟩ := (HT.out.ext hx).cells
  obtain ⟨bm, m1, m2⟩ := (HC.out.ext hx).ex
  obtain ⟨m8, ml⟩ := codo_map m1
  have hlk := look_deed W2 bm y.op f m2 HF.out
  have HX2 := Lib.hid hx
  have HX12 := Lib.hid hx2
  clear hx2 hx kx m1 m2
  repeat still_step
  refine wpStill_nil ?_
  change wpList _ _ _ _ _ W2
  clear c0 c1 c2 c3 c4 c5 c6 c8 c10 c12 c13 c14 c15 c16 c17 c18 c19 c20 cl t0 t1 t2 tl s0 sl f0 f1 f2 fl m8 ml hlk b0 bl
  go_wp2_with fail
  refine (HDO.out W2 HX2.out).mono ?_
  rintro e w3 ⟨rfl, h3, k3⟩
  have hd3 : w3.heap[bd]? = some (dgo bt bf bh y task it next 0) := k3.same _ _ ((HX2.out.kept (fun _ _ => true)).same _ _ HD.out rfl) (by simp [ne', hdg])
  have hB2 := (HX12.out.kept (fun _ _ => true)).same _ _ HB1.out rfl
  have hB3 := k3.same _ _ hB2 (by simp [ne']; have := own_lt HT.out.r gr rfl; omega)
  have b0 : w3.cell? ⟨W.heap.size, 0, none⟩ = some (.pointer (some ⟨bd, 0, none⟩)) := by simp [World.cell?, hB3]
  have bl : W.heap.size < w3.heap.size := (Array.getElem?_eq_some_iff.1 hB3).1
  obtain ⟨c0, c1, c2, c3, c4, c5, c6, c8, c10, c12, c13, c14, c15, c16, c17, c18, c19, c20, cl⟩ := dgo_cells hd3
  have HT3 := Lib.hid h3
  have HD3 := Lib.hid hd3
  have HB3 := Lib.hid hB3
  have HK3 := Lib.hid ((HX2.out.kept (ne' gr)).trans k3)
  clear h3 k3 hd3 hB2 hB3
  go_upto_region 4 with (fail)
  refine wp_region_still_tail 10 (by kernel_rfl) (by kernel_rfl) ?_
  simp only [List.take_succ_cons, List.take_zero, List.drop_succ_cons, List.drop_zero]
  obtain ⟨W4, hW4⟩ : ∃ W4 : World, W4 = { w3 with drawn := w3.drawn + 1 } := ⟨_, rfl⟩
  rw [← hW4]
  have hx4 : Ext w3 W4 := by rw [hW4]; exact ⟨rfl, rfl, rfl, Nat.le_refl _, fun _ _ h _ => h⟩
  clear hW4 c0 c1 c2 c3 c4 c5 c6 c8 c10 c12 c13 c14 c15 c16 c17 c18 c19 c20 cl b0 bl
  have k4 := hx4.kept (fun _ _ => true)
  have b0 : W4.cell? ⟨W.heap.size, 0, none⟩ = some (.pointer (some ⟨bd, 0, none⟩)) := by simp [World.cell?, k4.same _ _ HB3.out rfl]
  have bl : W.heap.size < W4.heap.size := (Array.getElem?_eq_some_iff.1 (k4.same _ _ HB3.out rfl)).1
  have hd4 := k4.same _ _ HD3.out rfl
  obtain ⟨c0, c1, c2, c3, c4, c5, c6, c8, c10, c12, c13, c14, c15, c16, c17, c18, c19, c20, cl⟩ := dgo_cells hd4
  have h4 := HT3.out.ext hx4
  obtain ⟨t0, t1, t2, tl, s0, sl, f0, f1, f2, fl⟩ := h4.cells
  obtain ⟨p1, p2, p3⟩ := h4.setAt hbf hgf hrf next
  have hd5 := p3.same _ _ hd4 (by simp [ne', hdf])
  have HFIN := Lib.hid (show Th bt g bf gr bc fn next R' 0 (W4.setCell ⟨bf, 1, none⟩ (.int .i64 next)) ∧ (W4.setCell ⟨bf, 1, none⟩ (.int .i64 next)).heap[bd]? = some (dgo bt bf bh y task it next 0) ∧ Kept (nF gr bf) W (W4.setCell ⟨bf, 1, none⟩ (.int .i64 next)) from ⟨p1, hd5, ((HK3.out.mono fun b t _ hp => by simp [nF] at hp; simp [ne', hp.1]).trans (hx4.kept _)).trans (p3.mono fun b t _ hp => by simp [nF] at hp; simp [ne', hp.2])⟩)
  clear hx4 k4 hd4 h4 p1 p3 hd5
  repeat still_step
  refine wpStill_nil ?_
  change wpList _ _ _ _ _ W4
  go_wp2_with fail
  refine leaves_cons (f := 185) (args := #[.pointer (some ⟨W.heap.size, 0, none⟩)]) (by simp) (by simp [go_sem]) ?_
  refine (catch_idle W.heap.size _).mono ?_
  rintro e u' w'' ⟨rfl, rfl, rfl⟩
  simp [Leaves, settle, results, Tryz.results122, go_sem]
  exact HFIN.out
set_option maxHeartbeats 4000000 in
set_option maxRecDepth 100000 in
theorem do_trap {f : FuncId} {t : Int} (hd : W.heap[bd]? = some (dgo bt bf bh y task it next 0)) (h : Th bt g bf gr bc fn at' R 0 W) (hc : Cod bc Q W) (hf : fnO y.op deedL = some f)
    (hdo : ∀ w, Ext W w → Calls Tryz.prog f #[.pointer (some ⟨bd, 0, none⟩)] w fun e w' => e = .panicked [{ v := trapV t, recovered := false }] ∧ Ext w w') (hdb : bd ≠ bt) (hgb : g ≠ bt) (hfb : bf ≠ bt) (hrb : gr ≠ bt) (hcl : ∀ w, (callFunc f #[.pointer (some ⟨bd, 0, none⟩)]).run Tryz.prog w = .ok (.enter f #[.pointer (some ⟨bd, 0, none⟩)]) w) :
    Calls Tryz.prog 122 #[.pointer (some ⟨bd, 0, none⟩)] W fun e W' => e = .returned (.tuple #[]) ∧ Th bt g bf gr bc fn at' R t W' ∧ W'.heap[bd]? = some (dgo bt bf bh y task it next 0) ∧ Kept (ne' bt) W W' := by
  obtain ⟨W1, hW1⟩ : ∃ W1, W1 = W.alloc (.cells #[.pointer (some ⟨bd, 0, none⟩)] 300) := ⟨_, rfl⟩
  have hx1 : Ext W W1 := by rw [hW1]; exact Ext.one _ _
  have hb1 : W1.heap[W.heap.size]? = some (.cells #[.pointer (some ⟨bd, 0, none⟩)] 300 (0, 0)) := by rw [hW1]; exact World.alloc_heap_new _ _
  have HX1 := Lib.hid hx1
  have HB1 := Lib.hid hb1
  have HW := Lib.hid hW1
  have HD := Lib.hid hd
  have HT := Lib.hid h
  have HC := Lib.hid hc
  have HF := Lib.hid hf
  have HDO := Lib.hid hdo
  clear hW1 hd h hc hf hdo hx1 hb1
  go_enter_defers Tryz.func122, Tryz.ntmps122
  go_upto_region 1 with (fail)
  change Code.wp _ _ _ _ (W.alloc (.cells #[.pointer (some ⟨bd, 0, none⟩)] 300))
  rw [← HW.out]
  go_upto_region 2 with (fail)
  refine wp_region_still_tail 17 (by kernel_rfl) (by kernel_rfl) ?_
  simp only [List.take_succ_cons, List.take_zero, List.drop_succ_cons, List.drop_zero]
  obtain ⟨W2, hW2⟩ : ∃ W2 : World, W2 = { W1 with drawn := W1.drawn + 1 } := ⟨_, rfl⟩
  rw [← hW2]
  have hx2 : Ext W1 W2 := by rw [hW2]; exact ⟨rfl, rfl, rfl, Nat.le_refl _, fun _ _ h _ => h⟩
  clear hW2
  have hx := HX1.out.trans hx2
  have kx := hx.kept (fun _ _ => true)
  have b0 : W2.cell? ⟨W.heap.size, 0, none⟩ = some (.pointer (some ⟨bd, 0, none⟩)) := by simp [World.cell?, (hx2.kept (fun _ _ => true)).same _ _ HB1.out rfl]
  have bl : W.heap.size < W2.heap.size := Nat.lt_of_lt_of_le (Array.getElem?_eq_some_iff.1 HB1.out).1 hx2.size
  obtain ⟨c0, c1, c2, c3, c4, c5, c6, c8, c10, c12, c13, c14, c15, c16, c17, c18, c19, c20, cl⟩ := dgo_cells (kx.same _ _ HD.out rfl)
  obtain ⟨t0, t1, t2, tl, s0, sl, f0, f1, f2, fl⟩ := (HT.out.ext hx).cells
  obtain ⟨bm, m1, m2⟩ := (HC.out.ext hx).ex
  obtain ⟨m8, ml⟩ := codo_map m1
  have hlk := look_deed W2 bm y.op f m2 HF.out
  have HX2 := Lib.hid hx
  have HX12 := Lib.hid hx2
  clear hx2 hx kx m1 m2
  repeat still_step
  refine wpStill_nil ?_
  change wpList _ _ _ _ _ W2
  clear c0 c1 c2 c3 c4 c5 c6 c8 c10 c12 c13 c14 c15 c16 c17 c18 c19 c20 cl t0 t1 t2 tl s0 sl f0 f1 f2 fl m8 ml hlk b0 bl
  go_wp2_with fail
  refine (HDO.out W2 HX2.out).mono ?_
  rintro e w3 ⟨rfl, hx3⟩
  have hx := HX2.out.trans (hx3.trans (Ext.drew _))
  have kx := hx.kept (fun _ _ => true)
  have hB := ((HX12.out.trans (hx3.trans (Ext.drew _))).kept (fun _ _ => true)).same _ _ HB1.out rfl
  have hd4 := kx.same _ _ HD.out rfl
  have h4 := HT.out.ext hx
  obtain ⟨p1, p2, p3⟩ := h4.setTrap hgb hfb hrb t
  have hd5 := p3.same _ _ hd4 (by simp [ne', hdb])
  have b0 : w3.drew.cell? ⟨W.heap.size, 0, none⟩ = some (.pointer (some ⟨bd, 0, none⟩)) := by simp [World.cell?, hB]
  obtain ⟨c0, _⟩ := dgo_cells hd4
  obtain ⟨_, _, t2, _⟩ := h4.cells
  have HCA := Lib.hid (catch_trap (t := t) w3 b0 c0 t2 (p2 2))
  have HFIN := Lib.hid (show Th bt g bf gr bc fn at' R t (w3.drew.setCell ⟨bt, 2, none⟩ (.int .i64 t)) ∧ (w3.drew.setCell ⟨bt, 2, none⟩ (.int .i64 t)).heap[bd]? = some (dgo bt bf bh y task it next 0) ∧ Kept (ne' bt) W (w3.drew.setCell ⟨bt, 2, none⟩ (.int .i64 t)) from ⟨p1, hd5, (hx.kept _).trans p3⟩)
  clear hx kx hB hd4 h4 p1 p3 hd5 b0 c0 t2 hx3
  go_wp2_with fail
  refine leaves_cons (f := 185) (args := #[.pointer (some ⟨W.heap.size, 0, none⟩)]) (by simp) (by simp [go_sem]) ?_
  refine HCA.out.mono ?_
  rintro e u' w'' ⟨rfl, rfl, rfl⟩
  simp [Leaves, settle, results, Tryz.results122, go_sem]
  exact HFIN.out
end
end Go.Proofs.YtfljmdpigckpkaaGreatDoor
