/- What the program's OpConst, OpAdd, OpGet do; what do defers; The program's do: an instruction that is done; one that ends by a trap; A loop over an iterator that makes memory: of no law of its own (out of the queue's texts; what is given is counted, and told by a relation). -/
import Derived.Test.YtfljmdpigckpkaaGreatDoorB09
import Derived.Defers
import Derived.Recover
import Derived.Test.YtfljmdpigckpkaaGreatDoorB01
namespace Go.Proofs.YtfljmdpigckpkaaGreatDoor
open Go.RowKit Go.Shelf
attribute [local go_sem] Oper.semAt_some
theorem ext_drewn {W w : World} (h : ∃ n, w = W.drewN n) : Ext W w := by
  obtain ⟨n, rfl⟩ := h
  exact Ext.drewN _ _
section
variable {bd bt g bf gr bc bh : Nat} {fn at' : Int} {R : List Int} {tr : Int} {y : Ins} {task it next err : Int} {W : World}
set_option maxRecDepth 100000 in
theorem deed1_ok (hd : W.heap[bd]? = some (dgo bt bf bh y task it next err)) (h : Th bt g bf gr bc fn at' R tr W) (hb : bt ≠ gr) (hg : g ≠ gr) (hf : bf ≠ gr) {k : Nat} (hy : y.a = k) (hk : k < R.length) : Calls Tryz.prog 211 #[.pointer (some ⟨bd, 0, none⟩)] W fun e W' => e = .returned (.tuple #[]) ∧ Th bt g bf gr bc fn at' (R.set k y.n) tr W' ∧ Kept (ne' gr) W W' := by
  obtain ⟨c0, c1, c2, c3, c4, c5, c6, c8, c10, c12, c13, c14, c15, c16, c17, c18, c19, c20, cl⟩ := dgo_cells hd
  have HS := Lib.hid (doSet_ok hd h hb hg hf hy hk y.n)
  clear hd h hb hg hf hy hk
  go_enter Tryz.func211, Tryz.ntmps211
  go_wp2_with (go_at_call 212; refine HS.out.mono ?_; rintro e w2 ⟨rfl, h2, k2⟩; have H2 := Lib.hid (And.intro h2 k2); clear h2 k2)
  go_end0
  exact ⟨rfl, H2.out⟩
set_option maxRecDepth 100000 in
theorem deed3_ok (hd : W.heap[bd]? = some (dgo bt bf bh y task it next err)) (h : Th bt g bf gr bc fn at' R tr W) (hb : bt ≠ gr) (hg : g ≠ gr) (hf : bf ≠ gr) {k i j : Nat} (hy : y.a = k) (hk : k < R.length) (hyb : y.b = i) (hi : i < R.length) (hyc : y.c = j) (hj : j < R.length) (hs : -9223372036854775808 ≤ R.getD i 0 + R.getD j 0 ∧ R.getD i 0 + R.getD j 0 ≤ 9223372036854775807) : Calls Tryz.prog 215 #[.pointer (some ⟨bd, 0, none⟩)] W fun e W' => e = .returned (.tuple #[]) ∧ Th bt g bf gr bc fn at' (R.set k (R.getD i 0 + R.getD j 0)) tr W' ∧ Kept (ne' gr) W W' := by
  have HB := Lib.hid (doB_ok hd h hyb hi)
  have HC := Lib.hid (fun (w : World) (x : Ext W w) => doC_ok ((x.kept (fun _ _ => true)).same _ _ hd rfl) (h.ext x) hyc hj)
  have HS := Lib.hid (fun (w : World) (x : Ext W w) => doSet_ok ((x.kept (fun _ _ => true)).same _ _ hd rfl) (h.ext x) hb hg hf hy hk (R.getD i 0 + R.getD j 0))
  clear hd h hb hg hf hy hk hyb hi hyc hj
  generalize R.getD i 0 = u at *
  generalize R.getD j 0 = v at *
  obtain ⟨s1, s2⟩ := hs
  go_enter Tryz.func215, Tryz.ntmps215
  go_wp2_with (first
    | (go_at_call 212; refine (HS.out _ HX3.out).mono ?_; rintro e w4 ⟨rfl, h4, k4⟩; have H4 := Lib.hid (And.intro h4 ((HX3.out.kept _).trans k4)); clear h4 k4)
    | (go_at_call 216; refine (HC.out _ HX2.out).mono ?_; rintro e w3 ⟨rfl, hw3⟩; have HX3 := Lib.hid (HX2.out.trans (ext_drewn hw3)); clear hw3)
    | (go_at_call 214; refine HB.out.mono ?_; rintro e w2 ⟨rfl, hw2⟩; have HX2 := Lib.hid (ext_drewn hw2); clear hw2))
  go_end0
  exact ⟨rfl, H4.out⟩
set_option maxRecDepth 100000 in
theorem deed10_no (hd : W.heap[bd]? = some (dgo bt bf bh y task it next err)) (h : Th bt g bf gr bc fn at' R tr W) (hh : W.heap[bh]? = some heapo) {i : Nat} (hyb : y.b = i) (hi : i < R.length) : Calls Tryz.prog 225 #[.pointer (some ⟨bd, 0, none⟩)] W fun e W' => e = .panicked [{ v := trapV 1, recovered := false }] ∧ Ext W W' := by
  have HB := Lib.hid (doB_ok hd h hyb hi)
  have HC := Lib.hid (fun (w : World) (x : Ext W w) (id : Int) => cell_no ((x.kept (fun _ _ => true)).same _ _ hd rfl) ((x.kept (fun _ _ => true)).same _ _ hh rfl) id)
  clear hd h hh hyb hi
  go_enter Tryz.func225, Tryz.ntmps225
  go_wp2_with (first
    | (go_at_call 227; refine (HC.out _ HX2.out _).mono ?_; rintro e w3 ⟨rfl, hx3⟩; have HX3 := Lib.hid (HX2.out.trans hx3); clear hx3)
    | (go_at_call 214; refine HB.out.mono ?_; rintro e w2 ⟨rfl, hw2⟩; have HX2 := Lib.hid (ext_drewn hw2); clear hw2))
  exact ⟨rfl, rfl, HX3.out⟩
end
set_option maxRecDepth 100000 in
theorem catch_idle (r : Nat) (w : World) : CallsD Tryz.prog 185 #[.pointer (some ⟨r, 0, none⟩)] .returning w fun e u' w' => e = .returned (.tuple #[]) ∧ u' = .returning ∧ w' = w := by
  refine callsD_of_wpS Tryz.func185 rfl fun c₀ cs hu => ?_
  apply wpS_seq
  apply wpS_region
  simp [wpOpsS, go_sem, recoverD, hu, Tryz.ntmps185, Exit.thenS]
  apply wpS_seq
  apply wpS_region
  simp [wpOpsS, go_sem, Exit.thenS]
  refine wpS_cond (t := false) (by simp [Act.eval, Array.replicate]) ?_
  simp only [Bool.false_eq_true, if_false]
  refine wpS_of_wp (wp_skip ?_)
  cases c₀
  simp_all [bodyPostS, results, Tryz.results185]
theorem tassertT (t : Int) (w : World) : (Instr.typeAssert (.iface 116 (.int .i64 t)) 20 116 false).run Tryz.prog w = .ok (.int .i64 t) w := by kernel_rfl
set_option maxRecDepth 100000 in
theorem catch_trap {r bd bt : Nat} {t : Int} {v : Value} (w : World) (h0 : w.drew.cell? ⟨r, 0, none⟩ = some (.pointer (some ⟨bd, 0, none⟩))) (h1 : w.drew.cell? ⟨bd, 0, none⟩ = some (.pointer (some ⟨bt, 0, none⟩))) (h2 : w.drew.cell? ⟨bt, 2, none⟩ = some v) (hz : w.drew.frozen? ⟨bt, 2, none⟩ = false) :
    CallsD Tryz.prog 185 #[.pointer (some ⟨r, 0, none⟩)] (.panicking ({ v := trapV t, recovered := false } :: [])) w fun e u' w' => e = .returned (.tuple #[]) ∧ u' = .panicking ({ v := trapV t, recovered := true } :: []) ∧ w' = w.drew.setCell ⟨bt, 2, none⟩ (.int .i64 t) := by
  unfold trapV
  refine callsD_of_wpS Tryz.func185 rfl fun c₀ cs hu => ?_
  apply wpS_seq
  apply wpS_region
  simp [wpOpsS, go_sem, recoverD, hu, Tryz.ntmps185, Exit.thenS]
  apply wpS_seq
  apply wpS_region
  simp [wpOpsS, go_sem, Exit.thenS]
  refine wpS_cond (t := true) (by simp [Act.eval, Array.replicate]) ?_
  simp only [if_true]
  refine wpS_of_wp ?_
  generalize hQ : (fun (e : Exit) (a' : Act) (w' : World) => bodyPostS _ _ _ _ _ _ _ _ _) = QQ
  have hfr : (#[Value.pointer (some ⟨r, 0, none⟩)] ++ ((((Array.replicate 12 undef).setIfInBounds 1 (Value.iface 116 (Value.int IntKind.i64 t))).setIfInBounds 0 (Value.iface 116 (Value.int IntKind.i64 t))).setIfInBounds 2 (Value.iface 116 (Value.int IntKind.i64 t))).setIfInBounds 3 (Value.bool true)) = #[.pointer (some ⟨r, 0, none⟩), .iface 116 (.int .i64 t), .iface 116 (.int .i64 t), .iface 116 (.int .i64 t), .bool true, undef, undef, undef, undef, undef, undef, undef, undef] := rfl
  rw [hfr]
  clear hfr
  have HQ := Lib.hid hQ
  clear hQ
  refine wp_region_still_tail 8 (by kernel_rfl) (by kernel_rfl) ?_
  simp only [List.take_succ_cons, List.take_zero, List.drop_succ_cons, List.drop_zero]
  change wpStill _ _ w.drew _ _ _
  obtain ⟨W1, hW1⟩ : ∃ W1, W1 = w.drew := ⟨_, rfl⟩
  rw [← hW1] at h0 h1 h2 hz ⊢
  have HW := Lib.hid hW1
  clear hW1
  have hta := tassertT t
  repeat still_step
  refine wpStill_nil ?_
  change wpList _ _ _ _ _ w.drew
  rw [← HW.out]
  go_wp2_with fail
  rw [← HQ.out, HW.out]
  cases c₀
  simp_all [bodyPostS, results, Tryz.results185]
  rfl
end Go.Proofs.YtfljmdpigckpkaaGreatDoor

namespace Go.Proofs.YtfljmdpigckpkaaGreatDoor
open Go.RowKit Go.Shelf
attribute [local go_sem] Oper.semAt_some
/-- All but a frame and its registers. -/
def nF (gr bf : Nat) : Nat → Option TypeId → Bool := fun b _ => b != gr && b != bf
theorem codo_map {w : World} {b bm : Nat} {Q : Prg} (h : w.heap[b]? = some (codo Q bm)) : w.cell? ⟨b, 8, none⟩ = some (.map (some bm)) ∧ b < w.heap.size := ⟨by simp [World.cell?, h, codo], (Array.getElem?_eq_some_iff.1 h).1⟩
section
variable {bd bt g bf gr bc bh : Nat} {fn at' : Int} {R : List Int} {y : Ins} {task it next : Int} {W : World} {Q : Prg}
theorem Th.setTrap {tr : Int} (h : Th bt g bf gr bc fn at' R tr W) (hg : g ≠ bt) (hf : bf ≠ bt) (hr : gr ≠ bt) (n : Int) : Th bt g bf gr bc fn at' R n (W.setCell ⟨bt, 2, none⟩ (.int .i64 n)) ∧ (∀ m, W.frozen? ⟨bt, m, none⟩ = false) ∧ Kept (ne' bt) W (W.setCell ⟨bt, 2, none⟩ (.int .i64 n)) := by
  have kk : Kept (ne' bt) W (W.setCell ⟨bt, 2, none⟩ (.int .i64 n)) := Kept.setCell _ fun o ho => by simp [ne']
  refine ⟨⟨?_, kk.same _ _ h.s (by simp [ne', hg]), kk.same _ _ h.f (by simp [ne', hf]), kk.row h.r fun b hb => ?_⟩, fun n => frozen_of_row W bt n _ _ h.t, kk⟩
  · rw [heap_setCell_same W bt 2 _ _ _ h.t]
    rfl
  · obtain rfl : gr = b := by simpa [Value.ownBlock] using hb
    simp [ne', hr]
theorem Th.setAt {tr : Int} (h : Th bt g bf gr bc fn at' R tr W) (hb : bt ≠ bf) (hg : g ≠ bf) (hr : gr ≠ bf) (n : Int) : Th bt g bf gr bc fn n R tr (W.setCell ⟨bf, 1, none⟩ (.int .i64 n)) ∧ (∀ m, W.frozen? ⟨bf, m, none⟩ = false) ∧ Kept (ne' bf) W (W.setCell ⟨bf, 1, none⟩ (.int .i64 n)) := by
  have kk : Kept (ne' bf) W (W.setCell ⟨bf, 1, none⟩ (.int .i64 n)) := Kept.setCell _ fun o ho => by simp [ne']
  refine ⟨⟨kk.same _ _ h.t (by simp [ne', hb]), kk.same _ _ h.s (by simp [ne', hg]), ?_, kk.row h.r fun b hb => ?_⟩, fun n => frozen_of_row W bf n _ _ h.f, kk⟩
  · rw [heap_setCell_same W bf 1 _ _ _ h.f]
    rfl
  · obtain rfl : gr = b := by simpa [Value.ownBlock] using hb
    simp [ne', hr]
set_option maxHeartbeats 4000000 in
set_option maxRecDepth 100000 in
theorem do_good {f : FuncId} {R' : List Int} (hd : W.heap[bd]? = some (dgo bt bf bh y task it next 0)) (h : Th bt g bf gr bc fn at' R 0 W) (hc : Cod bc Q W) (hf : fnO y.op deedL = some f)
    (hdo : ∀ w, Ext W w → Calls Tryz.prog f #[.pointer (some ⟨bd, 0, none⟩)] w fun e w' => e = .returned (.tuple #[]) ∧ Th bt g bf gr bc fn at' R' 0 w' ∧ Kept (ne' gr) w w') (hdg : bd ≠ gr) (hdf : bd ≠ bf) (hbf : bt ≠ bf) (hgf : g ≠ bf) (hrf : gr ≠ bf) (hcl : ∀ w, (callFunc f #[.pointer (some ⟨bd, 0, none⟩)]).run Tryz.prog w = .ok (.enter f #[.pointer (some ⟨bd, 0, none⟩)]) w) :
    Calls Tryz.prog 122 #[.pointer (some ⟨bd, 0, none⟩)] W fun e W' => e = .returned (.tuple #[]) ∧ Th bt g bf gr bc fn next R' 0 W' ∧ W'.heap[bd]? = some (dgo bt bf bh y task it next 0) ∧ Kept (nF gr bf) W W' := by
  obtain ⟨W1, hW1⟩ : ∃ W1, W1 = W.alloc (.cells #[.pointer (some ⟨bd, 0, none⟩)] 300) := ⟨_, rfl⟩
  have hx1 : Ext W W1 := by rw [hW1]; exact Ext.one _ _
  have hb1 : W1.heap[W.heap.size]? = some (.cells #[.pointer (some ⟨bd, 0, none⟩)] 300 (0, 0)) := by rw [hW1]; exact World.alloc_heap_new _ _
  have HX1 := Lib.hid hx1
  have HB1 := Lib.hid hb1
  have HW := Lib.hid hW1
  have HD := Lib.hid hd
  have HT := Lib.hid h
  have HC := Lib.hid hc
  have HF := Lib.hid hf
  have HDO := Lib.hid hdo
  clear hW1 hd h hc hf hdo hx1 hb1
  go_enter_defers Tryz.func122, Tryz.ntmps122
  go_upto_region 1 with (fail)
  change Code.wp _ _ _ _ (W.alloc (.cells #[.pointer (some ⟨bd, 0, none⟩)] 300))
  rw [← HW.out]
  go_upto_region 2 with (fail)
  refine wp_region_still_tail 17 (by kernel_rfl) (by kernel_rfl) ?_
  simp only [List.take_succ_cons, List.take_zero, List.drop_succ_cons, List.drop_zero]
  obtain ⟨W2, hW2⟩ : ∃ W2 : World, W2 = { W1 with drawn := W1.drawn + 1 } := ⟨_, rfl⟩
  rw [← hW2]
  have hx2 : Ext W1 W2 := by rw [hW2]; exact ⟨rfl, rfl, rfl, Nat.le_refl _, fun _ _ h _ => h⟩
  clear hW2
  have hx := HX1.out.trans hx2
  have kx := hx.kept (fun _ _ => true)
  have b0 : W2.cell? ⟨W.heap.size, 0, none⟩ = some (.pointer (some ⟨bd, 0, none⟩)) := by simp [World.cell?, (hx2.kept (fun _ _ => true)).same _ _ HB1.out rfl]
  have bl : W.heap.size < W2.heap.size := Nat.lt_of_lt_of_le (Array.getElem?_eq_some_iff.1 HB1.out).1 hx2.size
  obtain ⟨c0, c1, c2, c3, c4, c5, c6, c8, c10, c12, c13, c14, c15, c16, c17, c18, c19, c20, cl⟩ := dgo_cells (kx.same _ _ HD.out rfl)
  obtain ⟨t0, t1, t2, tl, s0, sl, f0, f1, f2, fl⟩ := (HT.out.ext hx).cells
  obtain ⟨bm, m1, m2⟩ := (HC.out.ext hx).ex
  obtain ⟨m8, ml⟩ := codo_map m1
  have hlk := look_deed W2 bm y.op f m2 HF.out
  have HX2 := Lib.hid hx
  have HX12 := Lib.hid hx2
  clear hx2 hx kx m1 m2
  repeat still_step
  refine wpStill_nil ?_
  change wpList _ _ _ _ _ W2
  clear c0 c1 c2 c3 c4 c5 c6 c8 c10 c12 c13 c14 c15 c16 c17 c18 c19 c20 cl t0 t1 t2 tl s0 sl f0 f1 f2 fl m8 ml hlk b0 bl
  go_wp2_with fail
  refine (HDO.out W2 HX2.out).mono ?_
  rintro e w3 ⟨rfl, h3, k3⟩
  have hd3 : w3.heap[bd]? = some (dgo bt bf bh y task it next 0) := k3.same _ _ ((HX2.out.kept (fun _ _ => true)).same _ _ HD.out rfl) (by simp [ne', hdg])
  have hB2 := (HX12.out.kept (fun _ _ => true)).same _ _ HB1.out rfl
  have hB3 := k3.same _ _ hB2 (by simp [ne']; have := own_lt HT.out.r gr rfl; omega)
  have b0 : w3.cell? ⟨W.heap.size, 0, none⟩ = some (.pointer (some ⟨bd, 0, none⟩)) := by simp [World.cell?, hB3]
  have bl : W.heap.size < w3.heap.size := (Array.getElem?_eq_some_iff.1 hB3).1
  obtain ⟨c0, c1, c2, c3, c4, c5, c6, c8, c10, c12, c13, c14, c15, c16, c17, c18, c19, c20, cl⟩ := dgo_cells hd3
  have HT3 := Lib.hid h3
  have HD3 := Lib.hid hd3
  have HB3 := Lib.hid hB3
  have HK3 := Lib.hid ((HX2.out.kept (ne' gr)).trans k3)
  clear h3 k3 hd3 hB2 hB3
  go_upto_region 4 with (fail)
  refine wp_region_still_tail 10 (by kernel_rfl) (by kernel_rfl) ?_
  simp only [List.take_succ_cons, List.take_zero, List.drop_succ_cons, List.drop_zero]
  obtain ⟨W4, hW4⟩ : ∃ W4 : World, W4 = { w3 with drawn := w3.drawn + 1 } := ⟨_, rfl⟩
  rw [← hW4]
  have hx4 : Ext w3 W4 := by rw [hW4]; exact ⟨rfl, rfl, rfl, Nat.le_refl _, fun _ _ h _ => h⟩
  clear hW4 c0 c1 c2 c3 c4 c5 c6 c8 c10 c12 c13 c14 c15 c16 c17 c18 c19 c20 cl b0 bl
  have k4 := hx4.kept (fun _ _ => true)
  have b0 : W4.cell? ⟨W.heap.size, 0, none⟩ = some (.pointer (some ⟨bd, 0, none⟩)) := by simp [World.cell?, k4.same _ _ HB3.out rfl]
  have bl : W.heap.size < W4.heap.size := (Array.getElem?_eq_some_iff.1 (k4.same _ _ HB3.out rfl)).1
  have hd4 := k4.same _ _ HD3.out rfl
  obtain ⟨c0, c1, c2, c3, c4, c5, c6, c8, c10, c12, c13, c14, c15, c16, c17, c18, c19, c20, cl⟩ := dgo_cells hd4
  have h4 := HT3.out.ext hx4
  obtain ⟨t0, t1, t2, tl, s0, sl, f0, f1, f2, fl⟩ := h4.cells
  obtain ⟨p1, p2, p3⟩ := h4.setAt hbf hgf hrf next
  have hd5 := p3.same _ _ hd4 (by simp [ne', hdf])
  have HFIN := Lib.hid (show Th bt g bf gr bc fn next R' 0 (W4.setCell ⟨bf, 1, none⟩ (.int .i64 next)) ∧ (W4.setCell ⟨bf, 1, none⟩ (.int .i64 next)).heap[bd]? = some (dgo bt bf bh y task it next 0) ∧ Kept (nF gr bf) W (W4.setCell ⟨bf, 1, none⟩ (.int .i64 next)) from ⟨p1, hd5, ((HK3.out.mono fun b t _ hp => by simp [nF] at hp; simp [ne', hp.1]).trans (hx4.kept _)).trans (p3.mono fun b t _ hp => by simp [nF] at hp; simp [ne', hp.2])⟩)
  clear hx4 k4 hd4 h4 p1 p3 hd5
  repeat still_step
  refine wpStill_nil ?_
  change wpList _ _ _ _ _ W4
  go_wp2_with fail
  refine leaves_cons (f := 185) (args := #[.pointer (some ⟨W.heap.size, 0, none⟩)]) (by simp) (by simp [go_sem]) ?_
  refine (catch_idle W.heap.size _).mono ?_
  rintro e u' w'' ⟨rfl, rfl, rfl⟩
  simp [Leaves, settle, results, Tryz.results122, go_sem]
  exact HFIN.out
set_option maxHeartbeats 4000000 in
set_option maxRecDepth 100000 in
theorem do_trap {f : FuncId} {t : Int} (hd : W.heap[bd]? = some (dgo bt bf bh y task it next 0)) (h : Th bt g bf gr bc fn at' R 0 W) (hc : Cod bc Q W) (hf : fnO y.op deedL = some f)
    (hdo : ∀ w, Ext W w → Calls Tryz.prog f #[.pointer (some ⟨bd, 0, none⟩)] w fun e w' => e = .panicked [{ v := trapV t, recovered := false }] ∧ Ext w w') (hdb : bd ≠ bt) (hgb : g ≠ bt) (hfb : bf ≠ bt) (hrb : gr ≠ bt) (hcl : ∀ w, (callFunc f #[.pointer (some ⟨bd, 0, none⟩)]).run Tryz.prog w = .ok (.enter f #[.pointer (some ⟨bd, 0, none⟩)]) w) :
    Calls Tryz.prog 122 #[.pointer (some ⟨bd, 0, none⟩)] W fun e W' => e = .returned (.tuple #[]) ∧ Th bt g bf gr bc fn at' R t W' ∧ W'.heap[bd]? = some (dgo bt bf bh y task it next 0) ∧ Kept (ne' bt) W W' := by
  obtain ⟨W1, hW1⟩ : ∃ W1, W1 = W.alloc (.cells #[.pointer (some ⟨bd, 0, none⟩)] 300) := ⟨_, rfl⟩
  have hx1 : Ext W W1 := by rw [hW1]; exact Ext.one _ _
  have hb1 : W1.heap[W.heap.size]? = some (.cells #[.pointer (some ⟨bd, 0, none⟩)] 300 (0, 0)) := by rw [hW1]; exact World.alloc_heap_new _ _
  have HX1 := Lib.hid hx1
  have HB1 := Lib.hid hb1
  have HW := Lib.hid hW1
  have HD := Lib.hid hd
  have HT := Lib.hid h
  have HC := Lib.hid hc
  have HF := Lib.hid hf
  have HDO := Lib.hid hdo
  clear hW1 hd h hc hf hdo hx1 hb1
  go_enter_defers Tryz.func122, Tryz.ntmps122
  go_upto_region 1 with (fail)
  change Code.wp _ _ _ _ (W.alloc (.cells #[.pointer (some ⟨bd, 0, none⟩)] 300))
  rw [← HW.out]
  go_upto_region 2 with (fail)
  refine wp_region_still_tail 17 (by kernel_rfl) (by kernel_rfl) ?_
  simp only [List.take_succ_cons, List.take_zero, List.drop_succ_cons, List.drop_zero]
  obtain ⟨W2, hW2⟩ : ∃ W2 : World, W2 = { W1 with drawn := W1.drawn + 1 } := ⟨_, rfl⟩
  rw [← hW2]
  have hx2 : Ext W1 W2 := by rw [hW2]; exact ⟨rfl, rfl, rfl, Nat.le_refl _, fun _ _ h _ => h⟩
  clear hW2
  have hx := HX1.out.trans hx2
  have kx := hx.kept (fun _ _ => true)
  have b0 : W2.cell? ⟨W.heap.size, 0, none⟩ = some (.pointer (some ⟨bd, 0, none⟩)) := by simp [World.cell?, (hx2.kept (fun _ _ => true)).same _ _ HB1.out rfl]
  have bl : W.heap.size < W2.heap.size := Nat.lt_of_lt_of_le (Array.getElem?_eq_some_iff.1 HB1.out).1 hx2.size
  obtain ⟨c0, c1, c2, c3, c4, c5, c6, c8, c10, c12, c13, c14, c15, c16, c17, c18, c19, c20, cl⟩ := dgo_cells (kx.same _ _ HD.out rfl)
  obtain ⟨t0, t1, t2, tl, s0, sl, f0, f1, f2, fl⟩ := (HT.out.ext hx).cells
  obtain ⟨bm, m1, m2⟩ := (HC.out.ext hx).ex
  obtain ⟨m8, ml⟩ := codo_map m1
  have hlk := look_deed W2 bm y.op f m2 HF.out
  have HX2 := Lib.hid hx
  have HX12 := Lib.hid hx2
  clear hx2 hx kx m1 m2
  repeat still_step
  refine wpStill_nil ?_
  change wpList _ _ _ _ _ W2
  clear c0 c1 c2 c3 c4 c5 c6 c8 c10 c12 c13 c14 c15 c16 c17 c18 c19 c20 cl t0 t1 t2 tl s0 sl f0 f1 f2 fl m8 ml hlk b0 bl
  go_wp2_with fail
  refine (HDO.out W2 HX2.out).mono ?_
  rintro e w3 ⟨rfl, hx3⟩
  have hx := HX2.out.trans (hx3.trans (Ext.drew _))
  have kx := hx.kept (fun _ _ => true)
  have hB := ((HX12.out.trans (hx3.trans (Ext.drew _))).kept (fun _ _ => true)).same _ _ HB1.out rfl
  have hd4 := kx.same _ _ HD.out rfl
  have h4 := HT.out.ext hx
  obtain ⟨p1, p2, p3⟩ := h4.setTrap hgb hfb hrb t
  have hd5 := p3.same _ _ hd4 (by simp [ne', hdb])
  have b0 : w3.drew.cell? ⟨W.heap.size, 0, none⟩ = some (.pointer (some ⟨bd, 0, none⟩)) := by simp [World.cell?, hB]
  obtain ⟨c0, _⟩ := dgo_cells hd4
  obtain ⟨_, _, t2, _⟩ := h4.cells
  have HCA := Lib.hid (catch_trap (t := t) w3 b0 c0 t2 (p2 2))
  have HFIN := Lib.hid (show Th bt g bf gr bc fn at' R t (w3.drew.setCell ⟨bt, 2, none⟩ (.int .i64 t)) ∧ (w3.drew.setCell ⟨bt, 2, none⟩ (.int .i64 t)).heap[bd]? = some (dgo bt bf bh y task it next 0) ∧ Kept (ne' bt) W (w3.drew.setCell ⟨bt, 2, none⟩ (.int .i64 t)) from ⟨p1, hd5, (hx.kept _).trans p3⟩)
  clear hx kx hB hd4 h4 p1 p3 hd5 b0 c0 t2 hx3
  go_wp2_with fail
  refine leaves_cons (f := 185) (args := #[.pointer (some ⟨W.heap.size, 0, none⟩)]) (by simp) (by simp [go_sem]) ?_
  refine HCA.out.mono ?_
  rintro e u' w'' ⟨rfl, rfl, rfl⟩
  simp [Leaves, settle, results, Tryz.results122, go_sem]
  exact HFIN.out
end
end Go.Proofs.YtfljmdpigckpkaaGreatDoor

namespace Go.Proofs.YtfljmdpigckpkaaGreatDoor
open Go.RowKit Go.Shelf

/-- What an iterator's own steps leave as it is: what was there ahead of it, and all that is no mark. -/
def pR (B : Nat) : Nat → Option TypeId → Bool := fun b t => decide (b < B) || t.isSome
/-- What a loop's body leaves as it is: cells that K names; marks from B on. -/
def pK (K : Nat → TypeId → Bool) (B : Nat) : Nat → Option TypeId → Bool := fun b t => match t with | none => decide (B ≤ b) | some t => K b t
def pN (B : Nat) : Nat → Option TypeId → Bool := fun b t => match t with | none => decide (B ≤ b) | some _ => false
theorem pR_le {B B' : Nat} (h : B ≤ B') (b : Nat) (t : Option TypeId) (hp : pR B b t = true) : pR B' b t = true := by
  unfold pR at *; simp only [Bool.or_eq_true, decide_eq_true_eq] at *
  rcases hp with h1 | h1
  · left; omega
  · right; exact h1
theorem pK_le {K : Nat → TypeId → Bool} {B B' : Nat} (h : B ≤ B') (b : Nat) (t : Option TypeId) (hp : pK K B' b t = true) : pK K B b t = true := by
  unfold pK at *; cases t with
  | none => simp only [decide_eq_true_eq] at *; omega
  | some t => exact hp
theorem pN_le {B B' : Nat} (h : B ≤ B') (b : Nat) (t : Option TypeId) (hp : pN B' b t = true) : pN B b t = true := by
  unfold pN at *; cases t with
  | none => simp only [decide_eq_true_eq] at *; omega
  | some t => exact hp
theorem pN_pK {K : Nat → TypeId → Bool} {B : Nat} (b : Nat) (t : Option TypeId) (hp : pN B b t = true) : pK K B b t = true := by
  unfold pN pK at *; cases t with
  | none => exact hp
  | some t => cases hp
/-- What abides an iterator's own steps. -/
def Stab (B : Nat) (φ : World → Prop) : Prop := ∀ W W', φ W → Kept (pR B) W W' → φ W'
theorem Stab.le {B B' : Nat} {φ : World → Prop} (h : Stab B φ) (hB : B ≤ B') : Stab B' φ := fun W W' hw hk => h W W' hw (hk.mono fun b t _ hb => pR_le hB b t hb)
theorem Stab.putObj {B l : Nat} {φ : World → Prop} {W : World} (h : Stab B φ) (o : Obj) (hw : φ W) (hl : B ≤ l) (hn : ∀ o, W.heap[l]? = some o → tag o = none) : φ (W.putObj l o) :=
  h _ _ hw (Kept.putObj fun o ho => by rw [hn o ho]; simp [pR]; omega)
/-- g, called with a loop's yield, gives it n times what enc tells of. -/
def Seq (g : Nat) (lb : Array Value) (enc : Nat → Array Value → World → Prop) (K : Array Value → Nat → TypeId → Bool) (N : Nat) (w : World) : Prop :=
  ∀ (n l : Nat) (J Jx : Nat → World → Prop) (W : World), Kept (pOld w.heap.size) w W → (∀ s, Stab W.heap.size (J s)) → (∀ s, Stab W.heap.size (Jx s)) →
    (∀ k x W1, k < N → enc k x W1 → J k W1 → YieldAt Fence.wide (n - 1) Tryz.prog l x W1 fun e W2 =>
      (e = .returned (.bool true) ∧ J (k + 1) W2 ∧ Kept (pK (K x) W.heap.size) W1 W2) ∨ (e = .returned (.bool false) ∧ Jx (k + 1) W2 ∧ Kept (pN W.heap.size) W1 W2)) →
    J 0 W → CallsIn Fence.wide n Tryz.prog g (#[.func (.yield l) #[] #[]] ++ lb) W fun e W' => (∃ v, e = .returned v) ∧ (J N W' ∨ ∃ k, k < N ∧ Jx (k + 1) W')
theorem Seq.kept {g : Nat} {lb : Array Value} {enc : Nat → Array Value → World → Prop} {K : Array Value → Nat → TypeId → Bool} {N : Nat} {w w' : World} (h : Seq g lb enc K N w) (hk : Kept (pOld w.heap.size) w w') : Seq g lb enc K N w' :=
  fun n l J Jx W hW => h n l J Jx W (hk.trans (hW.mono fun b t _ hb => by simp only [pOld, decide_eq_true_eq] at *; have := hk.size; omega))
/-- How the body of a round may be left. -/
def qPost (K : Nat → TypeId → Bool) (B : Nat) (I : Nat → World → Prop) (Ix : Code → Nat → World → Prop) (k : Nat) (W : World) : Exit → Act → World → Prop
  | .normal, _, W' => Kept (pK K B) W W' ∧ I k W'
  | .ret, _, W' => Kept (pN B) W W' ∧ Ix .ret k W'
  | .exit id, _, W' => Kept (pN B) W W' ∧ Ix (.exit id) k W'
  | .goto t, _, W' => Kept (pN B) W W' ∧ Ix (.goto t) k W'
  | .panic _, _, _ => False
  | .outgrown, _, _ => False
def markAt (D : Nat) : Deferred := { target := .collected D, args := #[] }
theorem range_q {n : Nat} {g : Operand} {ps : Array Tmp} {assign body : Code} {Q : Exit → Act → World → Prop} {a : Act} {w : World} {gf : Nat} {lb : Array Value}
    (hg : a.eval g = .func (.func gf) #[] lb) (eg : ∀ args w, (callFunc gf args).run Tryz.prog w = .ok (.enter gf args) w)
    {enc : Nat → Array Value → World → Prop} {K : Array Value → Nat → TypeId → Bool} {N : Nat} (hseq : Seq gf lb enc K N w) (hps : ∀ k x W, enc k x W → x.size = ps.size)
    (I : Nat → World → Prop) (Ix : Code → Nat → World → Prop) (hI : ∀ s, Stab w.heap.size (I s)) (hIx : ∀ c s, Stab w.heap.size (Ix c s)) (h0 : I 0 w)
    (Ax : Nat → Array Value → Act → World → Prop) (hAx : ∀ k x a', Stab w.heap.size (Ax k x a'))
    (hassign : ∀ (l k : Nat) (x : Array Value) (W : World) (C : Act → World → Prop), k < N → enc k x W → I k W → (∀ a' W', Kept (pK (K x) w.heap.size) W W' → I k W' → Ax k x a' W' → C a' W') →
      assign.wpIn (Fence.wide.inRound l) (n - 1 - 1) Tryz.prog (Exit.then C (fun _ _ _ => False)) { tmps := (ps.zip x).foldl (fun t (p, v) => t.setIfInBounds p v) a.tmps, defers := [] } W)
    (hbody : ∀ (l k : Nat) (x : Array Value) (a' : Act) (W : World), w.heap.size ≤ l → k < N → I k W → Ax k x a' W → body.wpIn (Fence.wide.inRound l) (n - 1 - 1) Tryz.prog (qPost (K x) w.heap.size I Ix (k + 1) W) a' W)
    (hdone : ∀ W, I N W → W.heap[w.heap.size]? = some (.deferred (some [])) → Q .normal { a with defers := markAt w.heap.size :: a.defers } W)
    (hstop : ∀ c k W, k < N → Ix c (k + 1) W → W.heap[w.heap.size]? = some (.deferred (some [])) → c.wpIn Fence.wide n Tryz.prog Q { a with defers := markAt w.heap.size :: a.defers } W) :
    (Code.rangeFunc g ps assign body).wpIn Fence.wide n Tryz.prog Q a w := by
  refine wpIn_rangeFunc fun fn hfn => ?_
  obtain ⟨rec, hrec⟩ : ∃ rec : LoopState → Option Code → Loop, rec = fun st pe => { state := st, pending := pe, fn, tmps := a.tmps, params := ps, assign, body, defers := w.heap.size } := ⟨_, rfl⟩
  generalize hWs : (w.alloc (.deferred (some []))).alloc (.loop (rec .ready none)) = Ws
  have hs : Ws.heap.size = w.heap.size + 2 := by rw [← hWs]; simp
  have hr : Ws.heap[w.heap.size + 1]? = some (.loop (rec .ready none)) := by
    rw [← hWs]; have := World.alloc_heap_new (w.alloc (.deferred (some []))) (.loop (rec .ready none)); rwa [World.size_alloc] at this
  have hm : Ws.heap[w.heap.size]? = some (.deferred (some [])) := by
    rw [← hWs]; exact (Below.heap_alloc _ _ _ (by simp)).trans (World.alloc_heap_new w _)
  have hk : ∀ p, Kept p w Ws := fun p => by rw [← hWs]; exact (Kept.alloc p w _).trans (Kept.alloc p _ _)
  refine ⟨w.heap.size + 1, [markAt w.heap.size], Ws, { target := .fn (.func gf) lb, args := #[.func (.yield (w.heap.size + 1)) #[] #[]] }, Ws, gf, #[.func (.yield (w.heap.size + 1)) #[] #[]] ++ lb, Ws, ?_, ?_, fun _ _ => trivial, ?_, fun h => by simp [Fence.wide] at h, ?_⟩
  · rw [← hWs, hrec]; exact run_enterLoop_outer _ _ _ _ _
  · simp only [resolve, hg]; simp [go_sem]
  · simp [invoke, go_sem, eg]
  have kR : ∀ {W W' : World} {st pe} {b : Nat}, Kept (pR Ws.heap.size) W W' → b < w.heap.size + 2 → W.heap[b]? = some st → tag st = pe → W'.heap[b]? = some st := fun h hb h1 _ => h.same _ _ h1 (by simp [pR]; left; omega)
  refine (hseq (n - 1) (w.heap.size + 1)
    (fun k W => I k W ∧ W.heap[w.heap.size + 1]? = some (.loop (rec .ready none)) ∧ W.heap[w.heap.size]? = some (.deferred (some [])))
    (fun k W => ∃ c, Ix c k W ∧ W.heap[w.heap.size + 1]? = some (.loop (rec .done (some c))) ∧ W.heap[w.heap.size]? = some (.deferred (some [])))
    Ws (hk _)
    (fun s W W' h hkk => ⟨(hI s).le (by omega) W W' h.1 hkk, kR hkk (by omega) h.2.1 rfl, kR hkk (by omega) h.2.2 rfl⟩)
    (fun s W W' h hkk => by obtain ⟨c, h1, h2, h3⟩ := h; exact ⟨c, (hIx c s).le (by omega) W W' h1 hkk, kR hkk (by omega) h2 rfl, kR hkk (by omega) h3 rfl⟩)
    ?round ⟨hI _ _ _ h0 (hk _), hr, hm⟩).mono ?behind
  case round =>
    rintro k x W hpre henc ⟨hi, hl, hd⟩
    have hy := run_yield (P := Tryz.prog) (args := x) hl (by rw [hrec]; exact hps k x W henc)
    rw [hrec] at hy
    refine ⟨fn, _, assign, body, hy, roundIn_of_wpIn hfn (hassign _ k x W _ hpre henc hi ?_)⟩
    clear hy
    intro a' Wa hka hia hax
    have hN : ∀ {W W' : World} {o : Obj} {b : Nat}, Kept (pK (K x) w.heap.size) W W' → w.heap.size ≤ b → W.heap[b]? = some o → tag o = none → W'.heap[b]? = some o := fun h hb h1 h2 => h.same _ _ h1 (by rw [h2]; simp [pK, hb])
    have hl1 := hN hka (by omega) hl rfl
    have hd1 := hN hka (by omega) hd rfl
    have hlt : w.heap.size + 1 < Wa.heap.size := (Array.getElem?_eq_some_iff.1 hl1).1
    refine ⟨_, run_beginRound hl1 (by rw [hrec]), ?_⟩
    have hn1 : ∀ o, Wa.heap[w.heap.size + 1]? = some o → tag o = none := fun o ho => by rw [hl1] at ho; cases ho; rfl
    have hl2 : (Wa.putObj (w.heap.size + 1) (.loop { rec .ready none with state := .busy })).heap[w.heap.size + 1]? = some (.loop { rec .ready none with state := .busy }) := World.putObj_heap_same hlt
    have hd2 : (Wa.putObj (w.heap.size + 1) (.loop { rec .ready none with state := .busy })).heap[w.heap.size]? = some (.deferred (some [])) := (World.putObj_heap_other (by omega)).trans hd1
    have hk2 : Kept (pK (K x) Ws.heap.size) Wa (Wa.putObj (w.heap.size + 1) (.loop { rec .ready none with state := .busy })) := Kept.putObj fun o ho => by rw [hn1 o ho]; simp [pK]; omega
    refine wpIn_mono (hbody _ k x a' _ (by omega) hpre ((hI k).putObj _ hia (by omega) hn1) ((hAx k x a').putObj _ hax (by omega) hn1)) ?_
    have fin : ∀ (jump : Option Code) (W3 : World), Kept (pN w.heap.size) (Wa.putObj (w.heap.size + 1) (.loop { rec .ready none with state := .busy })) W3 →
        (Instr.endRound (w.heap.size + 1) jump).run Tryz.prog W3 = .ok (.bool jump.isNone) (W3.putObj (w.heap.size + 1) (.loop (rec (if jump.isNone then .ready else .done) jump))) ∧
        (∀ o, W3.heap[w.heap.size + 1]? = some o → tag o = none) ∧
        (W3.putObj (w.heap.size + 1) (.loop (rec (if jump.isNone then .ready else .done) jump))).heap[w.heap.size + 1]? = some (.loop (rec (if jump.isNone then .ready else .done) jump)) ∧
        (W3.putObj (w.heap.size + 1) (.loop (rec (if jump.isNone then .ready else .done) jump))).heap[w.heap.size]? = some (.deferred (some [])) := fun jump W3 h3 => by
      have hl3 := h3.same _ _ hl2 (by rw [tag_loop]; simp [pN])
      have hd3 := h3.same _ _ hd2 (by rw [tag_def]; simp [pN])
      have := run_endRound (P := Tryz.prog) jump hl3
      rw [hrec] at this hl3 ⊢
      exact ⟨this, fun o ho => by rw [hl3] at ho; cases ho; rfl, World.putObj_heap_same (Array.getElem?_eq_some_iff.1 hl3).1, (World.putObj_heap_other (by omega)).trans hd3⟩
    have low : ∀ {W3 : World} {o' : Obj}, Kept (pN w.heap.size) (Wa.putObj (w.heap.size + 1) (.loop { rec .ready none with state := .busy })) W3 → (∀ o, W3.heap[w.heap.size + 1]? = some o → tag o = none) → Kept (pN Ws.heap.size) W (W3.putObj (w.heap.size + 1) o') := fun h3 h2 =>
      ((hka.mono fun b t _ hp => pN_pK b t (pN_le (by omega) b t hp)).trans (hk2.mono fun b t _ => pN_pK b t)).trans ((h3.mono fun b t _ => pN_le (by omega) b t).trans (Kept.putObj fun o ho => by rw [h2 o ho]; simp [pN]; omega))
    rintro e a3 W3 hp
    cases e with
    | normal =>
      obtain ⟨hk3, hi3⟩ := hp
      obtain ⟨h1, h2, h3, h4⟩ := fin none W3 (hk3.mono fun b t _ => pN_pK b t)
      refine ⟨_, _, h1, .inl ⟨rfl, ⟨(hI _).putObj _ hi3 (by omega) h2, h3, h4⟩, ?_⟩⟩
      refine ((hka.mono fun b t _ => pK_le (by omega) b t).trans hk2).trans ((hk3.mono fun b t _ => pK_le (by omega) b t).trans (Kept.putObj fun o ho => ?_))
      rw [h2 o ho]; simp [pK]; omega
    | ret =>
      obtain ⟨hk3, hi3⟩ := hp
      obtain ⟨h1, h2, h3, h4⟩ := fin (some .ret) W3 hk3
      exact ⟨_, _, h1, .inr ⟨rfl, ⟨.ret, (hIx _ _).putObj _ hi3 (by omega) h2, h3, h4⟩, low hk3 h2⟩⟩
    | exit id =>
      obtain ⟨hk3, hi3⟩ := hp
      obtain ⟨h1, h2, h3, h4⟩ := fin (some (.exit id)) W3 hk3
      exact ⟨_, _, h1, .inr ⟨rfl, ⟨.exit id, (hIx _ _).putObj _ hi3 (by omega) h2, h3, h4⟩, low hk3 h2⟩⟩
    | goto t =>
      obtain ⟨hk3, hi3⟩ := hp
      obtain ⟨h1, h2, h3, h4⟩ := fin (some (.goto t)) W3 hk3
      exact ⟨_, _, h1, .inr ⟨rfl, ⟨.goto t, (hIx _ _).putObj _ hi3 (by omega) h2, h3, h4⟩, low hk3 h2⟩⟩
    | panic ch => exact hp.elim
    | outgrown => exact hp.elim
  case behind =>
    rintro e W2 ⟨⟨v, rfl⟩, ⟨hi, hl, hd⟩ | ⟨k, hpre, c, hi, hl, hd⟩⟩
    · have h1 := run_endLoop (P := Tryz.prog) hl (by rw [hrec]; simp)
      rw [hrec] at h1
      exact ⟨none, _, h1, hdone _ ((hI _).putObj _ hi (by omega) fun o ho => by rw [hl] at ho; cases ho; rfl) ((World.putObj_heap_other (by omega)).trans hd)⟩
    · have h1 := run_endLoop (P := Tryz.prog) hl (by rw [hrec]; simp)
      rw [hrec] at h1
      exact ⟨some c, _, h1, hstop c k _ hpre ((hIx _ _).putObj _ hi (by omega) fun o ho => by rw [hl] at ho; cases ho; rfl) ((World.putObj_heap_other (by omega)).trans hd)⟩
/-- A function's way out over the mark of its one loop. -/
theorem leave1 {F : Fence} {n : Nat} {P : Program} {fn : Func} {tmps : Array Value} {R : Ending → World → Prop} {D : Nat} {w : World} (hd : w.heap[D]? = some (.deferred (some [])))
    (h : ∃ v, (results fn tmps).run P (w.putObj D (.deferred none)) = .ok v (w.putObj D (.deferred none)) ∧ R (.returned v) (w.putObj D (.deferred none))) : LeavesInM F n P fn tmps R [markAt D] .returning w :=
  ⟨by simp, .inl ⟨D, _, rfl, run_takeDeferred hd, h⟩⟩
theorem dtag {w : World} {D : Nat} (hd : w.heap[D]? = some (.deferred (some []))) : ∀ o, w.heap[D]? = some o → tag o = none := fun o ho => by rw [hd] at ho; cases ho; rfl
theorem round_any {n m l l' : Nat} {P : Program} {f : FuncId} {tmps : Array Value} {assign body : Code} {w : World} {R : Ending → World → Prop} (h : RoundIn Fence.wide n P l f tmps assign body w R) : RoundIn (Fence.wide.inRound l') m P l f tmps assign body w R :=
  ⟨trivial, fun c cs _ => h.2 c cs (room_wide _)⟩
theorem calls_any {m l' : Nat} {P : Program} {f : FuncId} {args : Array Value} {w : World} {R : Ending → World → Prop} (h : Calls P f args w R) : CallsIn (Fence.wide.inRound l') m P f args w R := (callsIn_wide.2 h : CallsIn Fence.wide m P f args w R).inRound l'
end Go.Proofs.YtfljmdpigckpkaaGreatDoor
