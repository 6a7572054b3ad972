/- What the program's OpConst, OpAdd, OpGet do; what do defers. -/
import Derived.Test.YtfljmdpigckpkaaGreatDoorSvU
import Derived.Defers
import Derived.Recover
namespace Go.Proofs.YtfljmdpigckpkaaGreatDoor
open Go.RowKit Go.Shelf
attribute [local go_sem] Oper.semAt_some
theorem ext_drewn {W w : World} (h : ∃ n, w = W.drewN n) : Ext W w := by
  obtain ⟨n, rfl⟩ := h
  exact Ext.drewN _ _
section
variable {bd bt g bf gr bc bh : Nat} {fn at' : Int} {R : List Int} {tr : Int} {y : Ins} {task it next err : Int} {W : World}
set_option maxRecDepth 100000 in
theorem deed1_ok (hd : W.heap[bd]? = some (dgo bt bf bh y task it next err)) (h : Th bt g bf gr bc fn at' R tr W) (hb : bt ≠ gr) (hg : g ≠ gr) (hf : bf ≠ gr) {k : Nat} (hy : y.a = k) (hk : k < R.length) : Calls Tryz.prog 211 #[.pointer (some ⟨bd, 0, none⟩)] W fun e W' => e = .returned (.tuple #[]) ∧ Th bt g bf gr bc fn at' (R.set k y.n) tr W' ∧ Kept (ne' gr) W W' := by
  obtain ⟨c0, c1, c2, c3, c4, c5, c6, c8, c10, c12, c13, c14, c15, c16, c17, c18, c19, c20, cl⟩ := dgo_cells hd
  have HS := Lib.hid (doSet_ok hd h hb hg hf hy hk y.n)
  clear hd h hb hg hf hy hk
  go_enter Tryz.func211, Tryz.ntmps211
  go_wp2_with (go_at_call 212; refine HS.out.mono ?_; rintro e w2 ⟨rfl, h2, k2⟩; have H2 := Lib.hid (And.intro h2 k2); clear h2 k2)
  go_end0
  exact ⟨rfl, H2.out⟩
set_option maxRecDepth 100000 in
theorem deed3_ok (hd : W.heap[bd]? = some (dgo bt bf bh y task it next err)) (h : Th bt g bf gr bc fn at' R tr W) (hb : bt ≠ gr) (hg : g ≠ gr) (hf : bf ≠ gr) {k i j : Nat} (hy : y.a = k) (hk : k < R.length) (hyb : y.b = i) (hi : i < R.length) (hyc : y.c = j) (hj : j < R.length) (hs : -9223372036854775808 ≤ R.getD i 0 + R.getD j 0 ∧ R.getD i 0 + R.getD j 0 ≤ 9223372036854775807) : Calls Tryz.prog 215 #[.pointer (some ⟨bd, 0, none⟩)] W fun e W' => e = .returned (.tuple #[]) ∧ Th bt g bf gr bc fn at' (R.set k (R.getD i 0 + R.getD j 0)) tr W' ∧ Kept (ne' gr) W W' := by
  have HB := Lib.hid (doB_ok hd h hyb hi)
  have HC := Lib.hid (fun (w : World) (x : Ext W w) => doC_ok ((x.kept (fun _ _ => true)).same _ _ hd rfl) (h.ext x) hyc hj)
  have HS := Lib.hid (fun (w : World) (x : Ext W w) => doSet_ok ((x.kept (fun _ _ => true)).same _ _ hd rfl) (h.ext x) hb hg hf hy hk (R.getD i 0 + R.getD j 0))
  clear hd h hb hg hf hy hk hyb hi hyc hj
  generalize R.getD i 0 = u at *
  generalize R.getD j 0 = v at *
  obtain ⟨s1, s2⟩ := hs
  go_enter Tryz.func215, Tryz.ntmps215
  go_wp2_with (first
    | (go_at_call 212; refine (HS.out _ HX3.out).mono ?_; rintro e w4 ⟨rfl, h4, k4⟩; have H4 := Lib.hid (And.intro h4 ((HX3.out.kept _).trans k4)); clear h4 k4)
    | (go_at_call 216; refine (HC.out _ HX2.out).mono ?_; rintro e w3 ⟨rfl, hw3⟩; have HX3 := Lib.hid (HX2.out.trans (ext_drewn hw3)); clear hw3)
    | (go_at_call 214; refine HB.out.mono ?_; rintro e w2 ⟨rfl, hw2⟩; have HX2 := Lib.hid (ext_drewn hw2); clear hw2))
  go_end0
  exact ⟨rfl, H4.out⟩
set_option maxRecDepth 100000 in
theorem deed10_no (hd : W.heap[bd]? = some (dgo bt bf bh y task it next err)) (h : Th bt g bf gr bc fn at' R tr W) (hh : W.heap[bh]? = some heapo) {i : Nat} (hyb : y.b = i) (hi : i < R.length) : Calls Tryz.prog 225 #[.pointer (some ⟨bd, 0, none⟩)] W fun e W' => e = .panicked [{ v := trapV 1, recovered := false }] ∧ Ext W W' := by
  have HB := Lib.hid (doB_ok hd h hyb hi)
  have HC := Lib.hid (fun (w : World) (x : Ext W w) (id : Int) => cell_no ((x.kept (fun _ _ => true)).same _ _ hd rfl) ((x.kept (fun _ _ => true)).same _ _ hh rfl) id)
  clear hd h hh hyb hi
  go_enter Tryz.func225, Tryz.ntmps225
  go_wp2_with (first
    | (go_at_call 227; refine (HC.out _ HX2.out _).mono ?_; rintro e w3 ⟨rfl, hx3⟩; have HX3 := Lib.hid (HX2.out.trans hx3); clear hx3)
    | (go_at_call 214; refine HB.out.mono ?_; rintro e w2 ⟨rfl, hw2⟩; have HX2 := Lib.hid (ext_drewn hw2); clear hw2))
  exact ⟨rfl, rfl, HX3.out⟩
end
set_option maxRecDepth 100000 in
theorem catch_idle (r : Nat) (w : World) : CallsD Tryz.prog 185 #[.pointer (some ⟨r, 0, none⟩)] .returning w fun e u' w' => e = .returned (.tuple #[]) ∧ u' = .returning ∧ w' = w := by
  refine callsD_of_wpS Tryz.func185 rfl fun c₀ cs hu => ?_
  apply wpS_seq
  apply wpS_region
  simp [wpOpsS, go_sem, recoverD, hu, Tryz.ntmps185, Exit.thenS]
  apply wpS_seq
  apply wpS_region
  simp [wpOpsS, go_sem, Exit.thenS]
  refine wpS_cond (t := false) (by simp [Act.eval, Array.replicate]) ?_
  simp only [Bool.false_eq_true, if_false]
  refine wpS_of_wp (wp_skip ?_)
  cases c₀
  simp_all [bodyPostS, results, Tryz.results185]
theorem tassertT (t : Int) (w : World) : (Instr.typeAssert (.iface 116 (.int .i64 t)) 20 116 false).run Tryz.prog w = .ok (.int .i64 t) w := by kernel_rfl
set_option maxRecDepth 100000 in
theorem catch_trap {r bd bt : Nat} {t : Int} {v : Value} (w : World) (h0 : w.drew.cell? ⟨r, 0, none⟩ = some (.pointer (some ⟨bd, 0, none⟩))) (h1 : w.drew.cell? ⟨bd, 0, none⟩ = some (.pointer (some ⟨bt, 0, none⟩))) (h2 : w.drew.cell? ⟨bt, 2, none⟩ = some v) (hz : w.drew.frozen? ⟨bt, 2, none⟩ = false) :
    CallsD Tryz.prog 185 #[.pointer (some ⟨r, 0, none⟩)] (.panicking ({ v := trapV t, recovered := false } :: [])) w fun e u' w' => e = .returned (.tuple #[]) ∧ u' = .panicking ({ v := trapV t, recovered := true } :: []) ∧ w' = w.drew.setCell ⟨bt, 2, none⟩ (.int .i64 t) := by
  unfold trapV
  refine callsD_of_wpS Tryz.func185 rfl fun c₀ cs hu => ?_
  apply wpS_seq
  apply wpS_region
  simp [wpOpsS, go_sem, recoverD, hu, Tryz.ntmps185, Exit.thenS]
  apply wpS_seq
  apply wpS_region
  simp [wpOpsS, go_sem, Exit.thenS]
  refine wpS_cond (t := true) (by simp [Act.eval, Array.replicate]) ?_
  simp only [if_true]
  refine wpS_of_wp ?_
  generalize hQ : (fun (e : Exit) (a' : Act) (w' : World) => bodyPostS _ _ _ _ _ _ _ _ _) = QQ
  have hfr : (#[Value.pointer (some ⟨r, 0, none⟩)] ++ ((((Array.replicate 12 undef).setIfInBounds 1 (Value.iface 116 (Value.int IntKind.i64 t))).setIfInBounds 0 (Value.iface 116 (Value.int IntKind.i64 t))).setIfInBounds 2 (Value.iface 116 (Value.int IntKind.i64 t))).setIfInBounds 3 (Value.bool true)) = #[.pointer (some ⟨r, 0, none⟩), .iface 116 (.int .i64 t), .iface 116 (.int .i64 t), .iface 116 (.int .i64 t), .bool true, undef, undef, undef, undef, undef, undef, undef, undef] := rfl
  rw [hfr]
  clear hfr
  have HQ := Lib.hid hQ
  clear hQ
  refine wp_region_still_tail 8 (by kernel_rfl) (by kernel_rfl) ?_
  simp only [List.take_succ_cons, List.take_zero, List.drop_succ_cons, List.drop_zero]
  change wpStill _ _ w.drew _ _ _
  obtain ⟨W1, hW1⟩ : ∃ W1, W1 = w.drew := ⟨_, rfl⟩
  rw [← hW1] at h0 h1 h2 hz ⊢
  have HW := Lib.hid hW1
  clear hW1
  have hta := tassertT t
  repeat still_step
  refine wpStill_nil ?_
  change wpList _ _ _ _ _ w.drew
  rw [← HW.out]
  go_wp2_with fail
  rw [← HQ.out, HW.out]
  cases c₀
  simp_all [bodyPostS, results, Tryz.results185]
  rfl
end Go.Proofs.YtfljmdpigckpkaaGreatDoor
