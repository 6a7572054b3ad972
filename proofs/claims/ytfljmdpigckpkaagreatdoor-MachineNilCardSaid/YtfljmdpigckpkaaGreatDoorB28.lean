/- The first task is over; A thread's step of an instruction that is the machine's: it tells what is asked for. Written by genMgB.py; What do does of an instruction whose deed changes whatever it does; OpRet: the thread is over. Written by a program out of step/SvW's do_good; An instruction of the first task is done: what Step does, if it is the thread's own; what is asked for. Written by genMcL.py; The first task's instruction, whole. Written by genMcM.py. -/
import Derived.Test.YtfljmdpigckpkaaGreatDoorB27
import Derived.Test.YtfljmdpigckpkaaGreatDoorB26
import Derived.Test.YtfljmdpigckpkaaGreatDoorB12
import Derived.Defers
import Derived.Recover
namespace Go.Proofs.YtfljmdpigckpkaaGreatDoor
open Go.RowKit Go.Shelf
attribute [local go_sem] Oper.semAt_some
section
variable {W3 w w' : World} {L : Lay} {s : Sta}
set_option maxHeartbeats 4000000
set_option maxRecDepth 100000
theorem end_m (a : MA W3 L s w) (t : Int) (hM : s.M.length ≤ 100000) : Calls Tryz.prog 262 #[.pointer (some ⟨L.bm, 0, none⟩), .int .i64 1, .int .i64 t] w fun e w' => e = .returned (.tuple #[]) ∧ MA W3 L { s with state := 3, trap := t, th := .pointer none, runs := 0, M := s.M ++ [⟨2, 1, 0, 0, 0, 0, 0, false⟩] } w' ∧ Kept pD w w' := by
  obtain ⟨lv, mv, m1, _⟩ := a.m
  obtain ⟨c0, c9, c10, c11, c12, c15, c16, c17, c18, c19, c20, cl, cz⟩ := mv_cells m1
  obtain ⟨t0, t4, t10, t11, t12, t15, tl, tz⟩ := a.tcells
  have ct := a.task
  obtain ⟨l1, l2⟩ := a.lts
  have a1 : MA W3 L { s with state := 3 } (w.setCell ⟨L.b1, 11, none⟩ (.int .i64 3)) := a.setT (st := 3) (tr := s.trap) (th := s.th) (TV.set_state a.t 3)
  have a2 : MA W3 L { s with state := 3, trap := t } ((w.setCell ⟨L.b1, 11, none⟩ (.int .i64 3)).setCell ⟨L.b1, 12, none⟩ (.int .i64 t)) := a1.setT (st := 3) (tr := t) (th := s.th) (TV.set_trap a1.t t)
  have a3 : MA W3 L { s with state := 3, trap := t, th := .pointer none } (((w.setCell ⟨L.b1, 11, none⟩ (.int .i64 3)).setCell ⟨L.b1, 12, none⟩ (.int .i64 t)).setCell ⟨L.b1, 15, none⟩ (.pointer none)) := a2.setT (st := 3) (tr := t) (th := .pointer none) (TV.set_th a2.t (.pointer none))
  have hk : ∀ {w : World} {s : Sta} (i : Nat) (u : Value), MA W3 L s w → Kept pD w (w.setCell ⟨L.b1, i, none⟩ u) := fun i u a => Kept.setCell _ fun o ho => by rw [a.t] at ho; cases ho; rfl
  have HKD := Lib.hid (((hk 11 (.int .i64 3) a).trans (hk 12 (.int .i64 t) a1)).trans (hk 15 (.pointer none) a2))
  have HA1 := Lib.hid a3
  have HM := Lib.hid hM
  clear a a1 a2 a3 m1 hM hk
  go_enter Tryz.func262, Tryz.ntmps262
  go_upto_region 2 with (fail)
  clear c0 c9 c10 c11 c12 c15 c16 c17 c18 c19 c20 cl cz t0 t4 t10 t11 t12 t15 tl tz ct l1 l2
  change Code.wp _ _ _ _ (((w.setCell ⟨L.b1, 11, none⟩ (.int .i64 3)).setCell ⟨L.b1, 12, none⟩ (.int .i64 t)).setCell ⟨L.b1, 15, none⟩ (.pointer none))
  generalize ((w.setCell ⟨L.b1, 11, none⟩ (.int .i64 3)).setCell ⟨L.b1, 12, none⟩ (.int .i64 t)).setCell ⟨L.b1, 15, none⟩ (.pointer none) = w1 at *
  obtain ⟨t0, t4, t10, t11, t12, t15, tl, tz⟩ := HA1.out.tcells
  obtain ⟨lv1, mv1, m1, _⟩ := HA1.out.m
  obtain ⟨c0, c9, c10, c11, c12, c15, c16, c17, c18, c19, c20, cl, cz⟩ := mv_cells m1
  obtain ⟨l1, l2⟩ := HA1.out.lts
  have cp := HA1.out.loop0
  obtain ⟨p0, p1, pl, pz⟩ := LV.cells HA1.out.l0
  dsimp only at p0 p1
  clear m1
  go_upto_region 3 with (fail)
  go_still_tail 13, (by kernel_rfl)
  have HA4 := Lib.hid ((HA1.out.ext (Ext.drew w1)).setL 0)
  have HKE := Lib.hid (HKD.out.trans (((Ext.drew w1).kept pD).trans (Kept.setCell (a := ⟨L.l0, 0, none⟩) (.int .i64 0) fun o ho => by rw [(HA1.out.ext (Ext.drew w1)).l0] at ho; cases ho; rfl)))
  go_upto_region 4 with (fail)
  clear c0 c9 c10 c11 c12 c15 c16 c17 c18 c19 c20 cl cz t0 t4 t10 t11 t12 t15 tl tz l1 l2 cp p0 p1 pl pz
  change Code.wp _ _ _ _ (w1.drew.setCell ⟨L.l0, 0, none⟩ (.int .i64 0))
  generalize w1.drew.setCell _ _ = w4 at *
  have HK := Lib.hid (mark_m HA4.out ⟨2, 1, 0, 0, 0, 0, 0, false⟩ HM.out)
  unfold Mk.v at HK
  go_wp2_with (go_at_call 251; refine HK.out.mono ?_; rintro e w5 ⟨rfl, a5, k5⟩; have HA5 := Lib.hid (And.intro a5 (HKE.out.trans k5)); clear a5 k5)
  go_end0
  exact ⟨rfl, HA5.out⟩
end
end Go.Proofs.YtfljmdpigckpkaaGreatDoor

namespace Go.Proofs.YtfljmdpigckpkaaGreatDoor
open Go.RowKit Go.Shelf
attribute [local go_sem] Oper.semAt_some
def GAs (bf gr m : Nat) (y : Ins) (v : Int) : Nat → Value → World → Prop
  | 0, u, _ => u = y.v
  | 1, u, _ => u = .pointer (some ⟨bf, 0, none⟩)
  | 2, u, _ => u = .pointer (some ⟨bf, 0, none⟩)
  | 3, u, _ => u = .pointer (some ⟨bf, 2, none⟩)
  | 4, u, _ => u = .slice (some ⟨gr, 0, none⟩) m m
  | 5, u, _ => u = askV y.op y.site y.n v 0
  | _ + 6, _, _ => True
theorem GAs.mono {bf gr m : Nat} {y : Ins} {v : Int} : ∀ (_ : Bool) (j : Nat) (u : Value) (w w' : World), GAs bf gr m y v j u w → Ext w w' → GAs bf gr m y v j u w' := by
  intro f j u w w' h k
  have kk := k.kept (fun _ _ => true)
  match j with
  | 0 => exact h
  | 1 => exact h
  | 2 => exact h
  | 3 => exact h
  | 4 => exact h
  | 5 => exact h
  | _ + 6 => exact h
section
variable {bt g bf gr bc bh : Nat} {k : Nat} {R : List Int} {W : World} {Q : Prg}
set_option maxHeartbeats 4000000
set_option maxRecDepth 100000
theorem Step_ask {i a : Nat} {y : Ins} {task it : Int} (h : Th bt g bf gr bc i k R 0 W) (hc : Cod bc Q W) (hi : i < Q.fns.length) (hk : k < Q.fns[i].code.length) (hy : Q.fns[i].code[k] = y) (hop : y.op = 10 ∨ y.op = 30) (ha : y.a = a) (hl : a < R.length) :
    Calls Tryz.prog 65 #[.pointer (some ⟨bt, 0, none⟩), .pointer (some ⟨bh, 0, none⟩), .int .i64 task, .int .i64 it] W fun e W' => e = .returned (.tuple #[askV y.op y.site y.n (R.getD a 0) 0, .int .i64 0]) ∧ Ext W W' := by
  obtain ⟨W1, hW1⟩ : ∃ W1, W1 = W.alloc zask := ⟨_, rfl⟩
  have hx1 : Ext W W1 := by rw [hW1]; exact Ext.one _ _
  have hb1 : W1.heap[W.heap.size]? = some zask := by rw [hW1]; exact World.alloc_heap_new _ _
  have HN := Lib.hid (isNone_th (h.ext hx1))
  have HR := Lib.hid (running_th (h.ext hx1) (hc.ext hx1) hi hk hy)
  have hsh : sharedO y.op = true := by rcases hop with e | e <;> rw [e] <;> rfl
  have HSH := Lib.hid (fun w => hsh ▸ pShared_ok y.op (by omega) (by omega) w)
  have HAS := Lib.hid (fun w (x : Ext W w) => asked_A hop ha hl (h.ext x).r)
  have HX1 := Lib.hid hx1
  have HB1 := Lib.hid hb1
  have HW := Lib.hid hW1
  have HT := Lib.hid h
  clear hx1 hb1 hW1 h hc hi hk hsh hy hop ha hl
  unfold Ins.v at HR
  generalize R.getD a 0 = v at *
  go_enter Tryz.func65, Tryz.ntmps65
  go_upto_region 1 with (fail)
  change Code.wp _ _ _ _ (W.alloc zask)
  rw [← HW.out]
  go_upto_region 4 with (first
    | (go_at_call 119; refine HR.out.mono ?_; rintro e w2 ⟨rfl, hx2⟩; have HX2 := Lib.hid hx2; clear hx2)
    | (go_at_call 118; refine HN.out.mono ?_; rintro e w2 ⟨rfl, hw⟩; rw [hw]; clear hw))
  obtain ⟨W3, hW3⟩ : ∃ W3, W3 = w2.alloc y.o := ⟨_, rfl⟩
  change Code.wp _ _ _ _ (w2.alloc y.o)
  rw [← hW3]
  have hx3 : Ext w2 W3 := by rw [hW3]; exact Ext.one _ _
  have hb3 : W3.heap[w2.heap.size]? = some y.o := by rw [hW3]; exact World.alloc_heap_new _ _
  obtain ⟨i0, i1, i2, i3, i4, i5, i6, i7, il⟩ := Ins.o_cells hb3
  have HX3 := Lib.hid (HX1.out.trans (HX2.out.trans hx3))
  have HB3 := Lib.hid hb3
  have HB4 := Lib.hid (((HX2.out.trans hx3).kept (fun _ _ => true)).same _ _ HB1.out rfl)
  clear hx3 hb3 hW3
  generalize w2.heap.size = bi at *
  go_upto_region 7 with (go_at_call 120; refine (HSH.out _).mono ?_; rintro e w4 ⟨rfl, hw⟩; rw [hw]; clear hw)
  clear i0 i1 i2 i3 i4 i5 i6 i7 il
  refine region_grow (n := 6) (s := 6) (by kernel_rfl) (fun _ => GAs bf gr R.length y v) (fun _ w => Ext W3 w) rfl (Ext.drew _) (RgOps.of (z := 58) (by kernel_rfl) rfl GAs.mono extS ?op (fun _ h => absurd h (Nat.lt_irrefl _))) ?fin
  case op =>
    intro j o hj hs' ho f a' w' hF hX hD K hK
    have e10 : a'.tmps.getD 10 undef = .pointer (some ⟨bf, 0, none⟩) := hF.2.2 10 (by kernel_rfl)
    have e11 : a'.tmps.getD 11 undef = .pointer (some ⟨bi, 0, none⟩) := hF.2.2 11 (by kernel_rfl)
    obtain ⟨i0, i1, i2, i3, i4, i5, i6, i7, il⟩ := Ins.o_cells ((hX.kept (fun _ _ => true)).same _ _ HB3.out rfl)
    obtain ⟨t0, t1, t2, tl, s0, sl, f0, f1, f2, fl⟩ := (HT.out.ext (HX3.out.trans hX)).cells
    match j, hj with
    | m + 6, h => exact absurd h (by omega)
    | 0, _ =>
      obtain rfl := Option.some.inj (show some _ = some o from ho)
      clear ho hD
      go_simp
      exact hK _ _ rfl (Ext.refl _)
    | 1, _ =>
      obtain rfl := Option.some.inj (show some _ = some o from ho)
      clear ho hD
      go_simp
      exact hK _ _ rfl (Ext.refl _)
    | 2, _ =>
      obtain rfl := Option.some.inj (show some _ = some o from ho)
      obtain ⟨d, hd, hG1⟩ := hD _ (Array.mem_of_getElem? (i := 0) rfl) rfl
      cases hd
      replace hG1 : a'.tmps.getD 36 undef = .pointer (some ⟨bf, 0, none⟩) := hG1
      clear ho hD
      go_simp
      exact hK _ _ rfl (Ext.refl _)
    | 3, _ =>
      obtain rfl := Option.some.inj (show some _ = some o from ho)
      obtain ⟨d, hd, hG2⟩ := hD _ (Array.mem_of_getElem? (i := 0) rfl) rfl
      cases hd
      replace hG2 : a'.tmps.getD 37 undef = .pointer (some ⟨bf, 0, none⟩) := hG2
      clear ho hD
      go_simp
      exact hK _ _ rfl (Ext.refl _)
    | 4, _ =>
      obtain rfl := Option.some.inj (show some _ = some o from ho)
      obtain ⟨d, hd, hG3⟩ := hD _ (Array.mem_of_getElem? (i := 0) rfl) rfl
      cases hd
      replace hG3 : a'.tmps.getD 38 undef = .pointer (some ⟨bf, 2, none⟩) := hG3
      clear ho hD
      go_simp
      exact hK _ _ rfl (Ext.refl _)
    | 5, _ =>
      obtain rfl := Option.some.inj (show some _ = some o from ho)
      obtain ⟨d, hd, hG0⟩ := hD _ (Array.mem_of_getElem? (i := 0) rfl) rfl
      cases hd
      replace hG0 : a'.tmps.getD 35 undef = y.v := hG0
      obtain ⟨d, hd, hG4⟩ := hD _ (Array.mem_of_getElem? (i := 1) rfl) rfl
      cases hd
      replace hG4 : a'.tmps.getD 39 undef = .slice (some ⟨gr, 0, none⟩) R.length R.length := hG4
      clear ho hD
      go_simp
      refine (HAS.out _ (HX3.out.trans hX)).mono ?_
      rintro e w5 ⟨rfl, hx5⟩
      exact hK _ _ rfl hx5
  case fin =>
    intro a' w' hF hX hG
    obtain ⟨⟨ls⟩, df⟩ := a'
    obtain ⟨f1, f2, f3⟩ := hF
    replace f1 : df = [] := f1
    replace f2 : ls.length = 58 := f2
    subst f1
    obtain ⟨d, hd, g0⟩ := hG 0 (by omega)
    cases hd
    obtain ⟨d, hd, g1⟩ := hG 1 (by omega)
    cases hd
    obtain ⟨d, hd, g2⟩ := hG 2 (by omega)
    cases hd
    obtain ⟨d, hd, g3⟩ := hG 3 (by omega)
    cases hd
    obtain ⟨d, hd, g4⟩ := hG 4 (by omega)
    cases hd
    obtain ⟨d, hd, g5⟩ := hG 5 (by omega)
    cases hd
    have e8 := f3 8 (by kernel_rfl)
    obtain ⟨z0, z1, z2, z3, z4, z5, z6, z7, z8, z9, z10, z11, z12, z13, z14, z15, z16, z17, z18, z19, z20, z21, z22, z23, z24, z25, z26, z27, z28, z29, z30, z31, z32, z33, z34, z35, z36, z37, z38, z39, z40, z41, z42, z43, z44, z45, z46, z47, z48, z49, z50, z51, z52, z53, z54, z55, z56, z57, rfl⟩ := list58 ls f2
    replace g0 : z35 = y.v := g0
    replace g1 : z36 = .pointer (some ⟨bf, 0, none⟩) := g1
    replace g2 : z37 = .pointer (some ⟨bf, 0, none⟩) := g2
    replace g3 : z38 = .pointer (some ⟨bf, 2, none⟩) := g3
    replace g4 : z39 = .slice (some ⟨gr, 0, none⟩) R.length R.length := g4
    replace g5 : z40 = askV y.op y.site y.n v 0 := g5
    replace e8 : z8 = .pointer (some ⟨W.heap.size, 0, none⟩) := e8
    subst g0 g1 g2 g3 g4 g5 e8
    clear f2 f3 hG
    simp only [List.drop_succ_cons, List.drop_zero]
    have HB5 := Lib.hid ((hX.kept (fun _ _ => true)).same _ _ HB4.out rfl)
    have HX5 := Lib.hid (HX3.out.trans hX)
    clear hX
    obtain ⟨d0, d1, d2, d3, d4, d5, dl, dz⟩ := asko_cells (show w'.heap[W.heap.size]? = some (asko _ _ _ _ _ _) from HB5.out)
    unfold askV
    go_wp2_with fail
    change bodyPost _ _ _ _ _ (ask6 w' W.heap.size _ _ _ _ _ _)
    obtain ⟨q1, q2⟩ := ask6_ok (show w'.heap[W.heap.size]? = some (asko _ _ _ _ _ _) from HB5.out) (.int .i64 y.op) (.int .i64 y.site) (.int .i64 y.n) (.int .i64 v) (.int .i64 0) (.slice none 0 0)
    have hx6 := ext_ne HX5.out q2 (Nat.le_refl _)
    clear d0 d1 d2 d3 d4 d5 dl dz
    generalize ask6 w' _ _ _ _ _ _ _ = W6 at *
    obtain ⟨d0, d1, d2, d3, d4, d5, dl, dz⟩ := asko_cells q1
    exact bodyPost_ret (v := .tuple #[.agg #[.int .i64 y.op, .int .i64 y.site, .int .i64 y.n, .int .i64 v, .int .i64 0, .slice none 0 0], .int .i64 0]) (by simp [results, Tryz.results65, go_sem, d0, d1, d2, d3, d4, d5]) rfl ⟨rfl, hx6⟩
end
end Go.Proofs.YtfljmdpigckpkaaGreatDoor

namespace Go.Proofs.YtfljmdpigckpkaaGreatDoor
open Go.RowKit Go.Shelf
attribute [local go_sem] Oper.semAt_some
section
variable {bd bt g bf gr bc bh : Nat} {fn at' : Int} {R : List Int} {y : Ins} {task it next : Int} {W : World} {Q : Prg}
set_option maxHeartbeats 4000000
set_option maxRecDepth 100000
theorem do_any {f : FuncId} {X : World → Prop} {p : Nat → Option TypeId → Bool} {next' : Int} (hd : W.heap[bd]? = some (dgo bt bf bh y task it next 0)) (h : Th bt g bf gr bc fn at' R 0 W) (hc : Cod bc Q W) (hf : fnO y.op deedL = some f)
    (hdo : ∀ w, Ext W w → Calls Tryz.prog f #[.pointer (some ⟨bd, 0, none⟩)] w fun e w' => e = .returned (.tuple #[]) ∧ X w' ∧ w'.heap[bd]? = some (dgo bt bf bh y task it next' 0) ∧ Kept p w w') (hp : ∀ b t, W.heap.size ≤ b → p b t = true)
    (hXf : ∀ w, X w → ∃ (fn at2 : Int) (A : Option Addr) (n c : Nat), w.heap[bf]? = some (.cells #[.int .i64 fn, .int .i64 at2, .slice A n c] 203 (0, 0))) (hXe : ∀ w w', X w → Ext w w' → X w') (hdf : bd ≠ bf)
    (hcl : ∀ w, (callFunc f #[.pointer (some ⟨bd, 0, none⟩)]).run Tryz.prog w = .ok (.enter f #[.pointer (some ⟨bd, 0, none⟩)]) w) :
    Calls Tryz.prog 122 #[.pointer (some ⟨bd, 0, none⟩)] W fun e W' => e = .returned (.tuple #[]) ∧ (∃ w, X w ∧ Kept p W w ∧ W' = w.setCell ⟨bf, 1, none⟩ (.int .i64 next')) ∧ W'.heap[bd]? = some (dgo bt bf bh y task it next' 0) := by
  obtain ⟨W1, hW1⟩ : ∃ W1, W1 = W.alloc (.cells #[.pointer (some ⟨bd, 0, none⟩)] 300) := ⟨_, rfl⟩
  have hx1 : Ext W W1 := by rw [hW1]; exact Ext.one _ _
  have hb1 : W1.heap[W.heap.size]? = some (.cells #[.pointer (some ⟨bd, 0, none⟩)] 300 (0, 0)) := by rw [hW1]; exact World.alloc_heap_new _ _
  have HX1 := Lib.hid hx1
  have HB1 := Lib.hid hb1
  have HW := Lib.hid hW1
  have HD := Lib.hid hd
  have HT := Lib.hid h
  have HC := Lib.hid hc
  have HF := Lib.hid hf
  have HDO := Lib.hid hdo
  have HP := Lib.hid hp
  have HXF := Lib.hid hXf
  have HXE := Lib.hid hXe
  clear hW1 hd h hc hf hdo hx1 hb1 hp hXf hXe
  go_enter_defers Tryz.func122, Tryz.ntmps122
  go_upto_region 1 with (fail)
  change Code.wp _ _ _ _ (W.alloc (.cells #[.pointer (some ⟨bd, 0, none⟩)] 300))
  rw [← HW.out]
  go_upto_region 2 with (fail)
  refine wp_region_still_tail 17 (by kernel_rfl) (by kernel_rfl) ?_
  simp only [List.take_succ_cons, List.take_zero, List.drop_succ_cons, List.drop_zero]
  obtain ⟨W2, hW2⟩ : ∃ W2 : World, W2 = { W1 with drawn := W1.drawn + 1 } := ⟨_, rfl⟩
  rw [← hW2]
  have hx2 : Ext W1 W2 := by rw [hW2]; exact ⟨rfl, rfl, rfl, Nat.le_refl _, fun _ _ h _ => h⟩
  clear hW2
  have hx := HX1.out.trans hx2
  have kx := hx.kept (fun _ _ => true)
  have b0 : W2.cell? ⟨W.heap.size, 0, none⟩ = some (.pointer (some ⟨bd, 0, none⟩)) := by simp [World.cell?, (hx2.kept (fun _ _ => true)).same _ _ HB1.out rfl]
  have bl : W.heap.size < W2.heap.size := Nat.lt_of_lt_of_le (Array.getElem?_eq_some_iff.1 HB1.out).1 hx2.size
  obtain ⟨c0, c1, c2, c3, c4, c5, c6, c8, c10, c12, c13, c14, c15, c16, c17, c18, c19, c20, cl⟩ := dgo_cells (kx.same _ _ HD.out rfl)
  obtain ⟨t0, t1, t2, tl, s0, sl, f0, f1, f2, fl⟩ := (HT.out.ext hx).cells
  obtain ⟨bm, m1, m2⟩ := (HC.out.ext hx).ex
  obtain ⟨m8, ml⟩ := codo_map m1
  have hlk := look_deed W2 bm y.op f m2 HF.out
  have HX2 := Lib.hid hx
  have HX12 := Lib.hid hx2
  clear hx2 hx kx m1 m2
  repeat still_step
  refine wpStill_nil ?_
  change wpList _ _ _ _ _ W2
  clear c0 c1 c2 c3 c4 c5 c6 c8 c10 c12 c13 c14 c15 c16 c17 c18 c19 c20 cl t0 t1 t2 tl s0 sl f0 f1 f2 fl m8 ml hlk b0 bl
  go_wp2_with fail
  refine (HDO.out W2 HX2.out).mono ?_
  rintro e w3 ⟨rfl, h3, hd3, k3⟩
  have hB2 := (HX12.out.kept (fun _ _ => true)).same _ _ HB1.out rfl
  have hB3 := k3.same _ _ hB2 (HP.out _ _ (Nat.le_refl _))
  have b0 : w3.cell? ⟨W.heap.size, 0, none⟩ = some (.pointer (some ⟨bd, 0, none⟩)) := by simp [World.cell?, hB3]
  have bl : W.heap.size < w3.heap.size := (Array.getElem?_eq_some_iff.1 hB3).1
  obtain ⟨c0, c1, c2, c3, c4, c5, c6, c8, c10, c12, c13, c14, c15, c16, c17, c18, c19, c20, cl⟩ := dgo_cells hd3
  have HT3 := Lib.hid h3
  have HD3 := Lib.hid hd3
  have HB3 := Lib.hid hB3
  have HK3 := Lib.hid ((HX2.out.kept p).trans k3)
  clear h3 k3 hd3 hB2 hB3
  go_upto_region 4 with (fail)
  refine wp_region_still_tail 10 (by kernel_rfl) (by kernel_rfl) ?_
  simp only [List.take_succ_cons, List.take_zero, List.drop_succ_cons, List.drop_zero]
  obtain ⟨W4, hW4⟩ : ∃ W4 : World, W4 = { w3 with drawn := w3.drawn + 1 } := ⟨_, rfl⟩
  rw [← hW4]
  have hx4 : Ext w3 W4 := by rw [hW4]; exact ⟨rfl, rfl, rfl, Nat.le_refl _, fun _ _ h _ => h⟩
  clear hW4 c0 c1 c2 c3 c4 c5 c6 c8 c10 c12 c13 c14 c15 c16 c17 c18 c19 c20 cl b0 bl
  have k4 := hx4.kept (fun _ _ => true)
  have b0 : W4.cell? ⟨W.heap.size, 0, none⟩ = some (.pointer (some ⟨bd, 0, none⟩)) := by simp [World.cell?, k4.same _ _ HB3.out rfl]
  have bl : W.heap.size < W4.heap.size := (Array.getElem?_eq_some_iff.1 (k4.same _ _ HB3.out rfl)).1
  have hd4 := k4.same _ _ HD3.out rfl
  obtain ⟨c0, c1, c2, c3, c4, c5, c6, c8, c10, c12, c13, c14, c15, c16, c17, c18, c19, c20, cl⟩ := dgo_cells hd4
  have h4 := HXE.out _ _ HT3.out hx4
  obtain ⟨fn2, at2, gr2, n2, cc2, hbf⟩ := HXF.out _ h4
  have f1 : W4.cell? ⟨bf, 1, none⟩ = some (.int .i64 at2) := by simp [World.cell?, hbf]
  have fz := frozen_of_row W4 bf 1 _ _ hbf
  have fl := (Array.getElem?_eq_some_iff.1 hbf).1
  have p3 : Kept (ne' bf) W4 (W4.setCell ⟨bf, 1, none⟩ (.int .i64 next')) := Kept.setCell _ fun o ho => by simp [ne']
  have hd5 := p3.same _ _ hd4 (by simp [ne', hdf])
  have HFIN := Lib.hid (show (∃ w, X w ∧ Kept p W w ∧ W4.setCell ⟨bf, 1, none⟩ (.int .i64 next') = w.setCell ⟨bf, 1, none⟩ (.int .i64 next')) ∧ (W4.setCell ⟨bf, 1, none⟩ (.int .i64 next')).heap[bd]? = some (dgo bt bf bh y task it next' 0) from ⟨⟨W4, h4, HK3.out.trans (hx4.kept _), rfl⟩, hd5⟩)
  clear hx4 k4 hd4 h4 p3 hd5 hbf
  repeat still_step
  refine wpStill_nil ?_
  change wpList _ _ _ _ _ W4
  go_wp2_with fail
  refine leaves_cons (f := 185) (args := #[.pointer (some ⟨W.heap.size, 0, none⟩)]) (by simp) (by simp [go_sem]) ?_
  refine (catch_idle W.heap.size _).mono ?_
  rintro e u' w'' ⟨rfl, rfl, rfl⟩
  simp [Leaves, settle, results, Tryz.results122, go_sem]
  exact HFIN.out
/-- A thread that is over. -/
def ThO (bt g bc : Nat) (w : World) : Prop := w.heap[bt]? = some (.cells #[.pointer (some ⟨bc, 0, none⟩), .slice (some ⟨g, 0, none⟩) 0 1, .int .i64 0] 290 (0, 0))
theorem deed18_ok (hd : W.heap[bd]? = some (dgo bt bf bh y task it next 0)) (h : Th bt g bf gr bc fn at' R 0 W) (hb : bd ≠ bt) (hfb : bf ≠ bt) : Calls Tryz.prog 245 #[.pointer (some ⟨bd, 0, none⟩)] W fun e W' => e = .returned (.tuple #[]) ∧ (ThO bt g bc W' ∧ ∃ (fn at2 : Int) (A : Option Addr) (n c : Nat), W'.heap[bf]? = some (.cells #[.int .i64 fn, .int .i64 at2, .slice A n c] 203 (0, 0))) ∧ W'.heap[bd]? = some (dgo bt bf bh y task it next 0) ∧ Kept (ne' bt) W W' := by
  have HD := Lib.hid hd
  have HT := Lib.hid h
  clear hd h
  go_enter Tryz.func245, Tryz.ntmps245
  refine wp_region_still_tail 23 (by kernel_rfl) (by kernel_rfl) ?_
  simp only [List.take_succ_cons, List.take_zero, List.drop_succ_cons, List.drop_zero]
  obtain ⟨W2, hW2⟩ : ∃ W2 : World, W2 = { W with drawn := W.drawn + 1 } := ⟨_, rfl⟩
  rw [← hW2]
  have hx2 : Ext W W2 := by rw [hW2]; exact ⟨rfl, rfl, rfl, Nat.le_refl _, fun _ _ h _ => h⟩
  clear hW2
  have hd := (hx2.kept (fun _ _ => true)).same _ _ HD.out rfl
  have h := HT.out.ext hx2
  obtain ⟨c0, c1, c2, c3, c4, c5, c6, c8, c10, c12, c13, c14, c15, c16, c17, c18, c19, c20, cl⟩ := dgo_cells hd
  obtain ⟨t0, t1, t2, tl, s0, sl, f0, f1, f2, fl⟩ := h.cells
  have tz := frozen_of_row W2 bt 1 _ _ h.t
  have k2 : Kept (ne' bt) W2 (W2.setCell ⟨bt, 1, none⟩ (.slice (some ⟨g, 0, none⟩) 0 1)) := Kept.setCell _ fun o ho => by simp [ne']
  have q1 : ThO bt g bc (W2.setCell ⟨bt, 1, none⟩ (.slice (some ⟨g, 0, none⟩) 0 1)) := by
    unfold ThO
    rw [heap_setCell_same W2 bt 1 _ _ _ h.t]; rfl
  have hfr : ∃ (fn at2 : Int) (A : Option Addr) (n c : Nat), (W2.setCell ⟨bt, 1, none⟩ (.slice (some ⟨g, 0, none⟩) 0 1)).heap[bf]? = some (.cells #[.int .i64 fn, .int .i64 at2, .slice A n c] 203 (0, 0)) := ⟨_, _, _, _, _, k2.same _ _ h.f (by simp [ne', hfb])⟩
  have HFIN := Lib.hid (And.intro (And.intro q1 hfr) (And.intro (k2.same _ _ hd (by simp [ne', hb])) ((hx2.kept (ne' bt)).trans k2)))
  clear hd h k2 q1 hfr hx2
  have hwz : IntKind.i64.wrap 0 = 0 := by decide
  repeat still_step
  refine wpStill_nil ?_
  change wpList _ _ _ _ _ W2
  go_wp2_with fail
  go_end0
  exact ⟨rfl, HFIN.out⟩
end
section
variable {bt g bf gr bc bh : Nat} {k : Nat} {R : List Int} {W : World} {Q : Prg}
set_option maxHeartbeats 4000000
set_option maxRecDepth 100000
theorem Step_ret {i : Nat} {y : Ins} {task it : Int} (h : Th bt g bf gr bc i k R 0 W) (ha : Apart bt g bf gr W) (hc : Cod bc Q W) (hi : i < Q.fns.length) (hk : k < Q.fns[i].code.length) (hy : Q.fns[i].code[k] = y) (hks : k ≤ 1000) (ho : y.op = 33) :
    Calls Tryz.prog 65 #[.pointer (some ⟨bt, 0, none⟩), .pointer (some ⟨bh, 0, none⟩), .int .i64 task, .int .i64 it] W fun e W' => e = .returned (.tuple #[zaskV, .int .i64 0]) ∧ ThO bt g bc W' ∧ Kept (nF bt bf) W W' := by
  obtain ⟨l1, l2, l3⟩ := h.lt
  have l4 := ha.lr
  refine Step_any (X := fun W' => ThO bt g bc W' ∧ Kept (nF bt bf) W W') (p := nF bt bf) h hc hi hk hy hks (by rw [ho]; decide) (by rw [ho]; rfl) ?_ ?_ ?_
  · intro bd w hb hx hd
    have hne : bd ≠ bt := by omega
    have hnf : bd ≠ bf := by omega
    refine (do_any (X := fun w' => ThO bt g bc w' ∧ ∃ (fn at2 : Int) (A : Option Addr) (n c : Nat), w'.heap[bf]? = some (.cells #[.int .i64 fn, .int .i64 at2, .slice A n c] 203 (0, 0))) (p := ne' bt) hd (h.ext hx) (hc.ext hx) (f := 245) (by rw [ho]; rfl) (fun w2 hx2 => deed18_ok ((hx2.kept (fun _ _ => true)).same _ _ hd rfl) (h.ext (hx.trans hx2)) hne ha.ft) ?_ ?_ ?_ hnf (fun _ => by kernel_rfl)).mono ?_
    · intro b t hb2
      have := hx.size
      simp only [ne', bne_iff_ne]; omega
    · exact fun w h => h.2
    · exact fun w w' h k => ⟨(k.kept (fun _ _ => true)).same _ _ h.1 rfl, by obtain ⟨_, _, _, _, _, h2⟩ := h.2; exact ⟨_, _, _, _, _, (k.kept (fun _ _ => true)).same _ _ h2 rfl⟩⟩
    · rintro e w' ⟨rfl, ⟨w2, ⟨q1, q2⟩, q3, rfl⟩, q4⟩
      have k2 : Kept (ne' bf) w2 (w2.setCell ⟨bf, 1, none⟩ (.int .i64 ((k : Int) + 1))) := Kept.setCell _ fun o ho => by simp [ne']
      have kk : Kept (nF bt bf) w (w2.setCell ⟨bf, 1, none⟩ (.int .i64 ((k : Int) + 1))) := (q3.mono fun b t _ hp => by simp [nF] at hp; simp [ne', hp.1]).trans (k2.mono fun b t _ hp => by simp [nF] at hp; simp [ne', hp.2])
      exact ⟨rfl, ⟨k2.same _ _ q1 (by simp [ne', ha.ft.symm]), (hx.kept _).trans kk⟩, q4, kk⟩
  · intro b t hb
    simp only [nF, Bool.and_eq_true, bne_iff_ne]; omega
  · intro w w' k h
    refine ⟨k.same _ _ h.1 ?_, keep_new h.2 k⟩
    simp only [ne', bne_iff_ne]; omega
end
end Go.Proofs.YtfljmdpigckpkaaGreatDoor

namespace Go.Proofs.YtfljmdpigckpkaaGreatDoor
open Go.RowKit Go.Shelf Go.Maps Go.ChangeMaps
attribute [local go_sem] Oper.semAt_some
theorem Kept.to {p q : Nat → Option TypeId → Bool} {w w' : World} (k : Kept p w w') (h : ∀ b o, w.heap[b]? = some o → q b (tag o) = true → p b (tag o) = true) : Kept q w w' := ⟨k.os, k.tape, k.output, k.size, fun b o hb hq => k.same b o hb (h b o hb hq)⟩
set_option maxRecDepth 100000 in
theorem catchM_idle (r : Nat) (w : World) : CallsD Tryz.prog 304 #[.pointer (some ⟨r, 0, none⟩)] .returning w fun e u' w' => e = .returned (.tuple #[]) ∧ u' = .returning ∧ w' = w := by
  refine callsD_of_wpS Tryz.func304 rfl fun c₀ cs hu => ?_
  apply wpS_seq
  apply wpS_region
  simp [wpOpsS, go_sem, recoverD, hu, Tryz.ntmps304, Exit.thenS]
  apply wpS_seq
  apply wpS_region
  simp [wpOpsS, go_sem, Exit.thenS]
  refine wpS_cond (t := false) (by simp [Act.eval, Array.replicate]) ?_
  simp only [Bool.false_eq_true, if_false]
  refine wpS_of_wp (wp_skip ?_)
  cases c₀
  simp_all [bodyPostS, results, Tryz.results304]
theorem look_no (w : World) (b : Nat) (hb : w.heap[b]? = some (dobj mdeedL)) :
    (Instr.lookup 64 (.map (some b)) (.int .i64 0) true).run Tryz.prog w = .ok (.tuple #[.nilFunc, .bool false]) w := by
  have hc : ∀ e m W, (Instr.checkKey e (m + 1) 22 (.int .i64 0)).run Tryz.prog W = .ok () W := fun e m W => MapKept.run_checkKey (k := .int .i64 0) Tryz.underlying22 rfl e m
  obtain ⟨j, hj⟩ := find_entD 0 mdeedL 0 0
  have hdk : fnO 0 mdeedL = none := rfl
  rw [hdk, Option.map_none] at hj
  unfold dobj at hb
  simp [Instr.lookup, run_underlying Tryz.underlying64, MapKept.run_getObj_map hb, hc, Instr.findKey, run_underlying Tryz.underlying22, hj, Result.andThen]
theorem look_store (w : World) (b : Nat) (hb : w.heap[b]? = some (dobj mdeedL)) :
    (Instr.lookup 64 (.map (some b)) (.int .i64 10) true).run Tryz.prog w = .ok (.tuple #[.func (.func 139) #[] #[], .bool true]) w := by
  have hc : ∀ e m W, (Instr.checkKey e (m + 1) 22 (.int .i64 10)).run Tryz.prog W = .ok () W := fun e m W => MapKept.run_checkKey (k := .int .i64 10) Tryz.underlying22 rfl e m
  obtain ⟨j, hj⟩ := find_entD 10 mdeedL 0 0
  have hdk : fnO 10 mdeedL = some 139 := rfl
  rw [hdk, Option.map_some] at hj
  unfold dobj at hb
  simp [Instr.lookup, run_underlying Tryz.underlying64, MapKept.run_getObj_map hb, hc, Instr.findKey, run_underlying Tryz.underlying22, hj, Result.andThen]
set_option maxRecDepth 100000 in
theorem must_yes (t : Int) (w : World) : Calls Tryz.prog 248 #[.bool true, .int .i64 t] w fun e w' => e = .returned (.tuple #[]) ∧ w' = w := by
  go_enter Tryz.func248, Tryz.ntmps248
  go_wp2_with fail
  go_end0
  exact ⟨rfl, rfl⟩
section
variable {W3 w w' : World} {L : Lay} {s : Sta}
/-- A block of another kind has changed. -/
theorem MA.other (a : MA W3 L s w) {x : Nat} {o : Obj} (hx : w.heap[x]? = some o) (k : Kept (ne' x) w w') (ht : tag o = some 338 ∨ tag o = some 255) (hl : W3.heap.size ≤ x) : MA W3 L s w' := by
  obtain ⟨lv, mv, m1, m2, m3, m4⟩ := a.m
  obtain ⟨o0, o1, p0, p1, q1, q2, q3⟩ := a.q
  have hs : ∀ b o', w.heap[b]? = some o' → tag o' ≠ some 338 ∧ tag o' ≠ some 255 → w'.heap[b]? = some o' := fun b o' hb h => same_of k hx hb (by
    rcases ht with e | e
    · rw [e]; exact h.1
    · rw [e]; exact h.2)
  have hr : ∀ {B n m : Nat} {e : TypeId} {v : Value} {xs : List Value}, w.ownsRow B e n v m xs → e ≠ 338 ∧ e ≠ 255 → w'.ownsRow B e n v m xs := fun h he => row_of k hx h (by rcases ht with e | e <;> rw [e] <;> simp [he])
  have hq : tag o ≠ none ∧ tag o ≠ some 258 ∧ tag o ≠ some 278 := by rcases ht with e | e <;> rw [e] <;> decide
  have h4 : tag o ≠ some 290 ∧ tag o ≠ some 222 ∧ tag o ≠ some 203 ∧ tag o ≠ some 2 := by rcases ht with e | e <;> rw [e] <;> decide
  refine ⟨ext_ne a.x3 k hl, ⟨lv, mv, hs _ _ m1 (by rw [MV.tag]; decide), hr m2 (by decide), hr m3 (by decide), m4⟩, hs _ _ a.d (by decide), hs _ _ a.h (by decide), hr a.G (by decide), hr a.T (by decide), hs _ _ a.t (by rw [TV.tag]; decide), hr a.P (by decide), hs _ _ a.l0 (by rw [LV.tag]; decide), hs _ _ a.l1 (by rw [LV.tag]; decide),
    ⟨o0, o1, p0, p1, qv_of k hx hq q1, qv_of k hx hq q2, q3⟩, a.tri, a.lo, a.ne, fun k' R hh => ?_⟩
  obtain ⟨t1, t2, t3⟩ := a.th k' R hh
  exact ⟨th_of k hx h4 t1, t2.ext k.size, t3⟩
/-- An instruction, ahead of it. -/
def dv0 (L : Lay) : DV := ⟨L.bm, 1, 0, 0, 0, 0, 0, .slice none 0 0, 0, 0, 0⟩
/-- Behind its step. -/
def dv1 (L : Lay) (o si n v l : Int) : DV := ⟨L.bm, 1, o, si, n, v, l, .slice none 0 0, 0, 0, 0⟩
def dset (w : World) (d : Nat) (o si n v l : Int) : World := (((((w.setCell ⟨d, 2, none⟩ (.int .i64 o)).setCell ⟨d, 3, none⟩ (.int .i64 si)).setCell ⟨d, 4, none⟩ (.int .i64 n)).setCell ⟨d, 5, none⟩ (.int .i64 v)).setCell ⟨d, 6, none⟩ (.int .i64 l)).setCell ⟨d, 7, none⟩ (.slice none 0 0)
theorem dset_ok {d : Nat} (h : w.heap[d]? = some (dv0 L).o) (o si n v l : Int) : (dset w d o si n v l).heap[d]? = some (dv1 L o si n v l).o ∧ Kept (ne' d) w (dset w d o si n v l) :=
  set_range (b := d) (t := 338) [.int .i64 o, .int .i64 si, .int .i64 n, .int .i64 v, .int .i64 l, .slice none 0 0, .int .i64 0, .int .i64 0, .int .i64 0] [.pointer (some ⟨L.bm, 0, none⟩), .int .i64 1] [.int .i64 0, .int .i64 0, .int .i64 0, .int .i64 0, .int .i64 0, .slice none 0 0, .int .i64 0, .int .i64 0, .int .i64 0] w h rfl |> fun _ => by
    have k : ∀ (w : World) (i : Nat) (u : Value), Kept (ne' d) w (w.setCell ⟨d, i, none⟩ u) := fun w i u => Kept.setCell _ fun o ho => by simp [ne']
    refine ⟨?_, (((((k _ _ _).trans (k _ _ _)).trans (k _ _ _)).trans (k _ _ _)).trans (k _ _ _)).trans (k _ _ _)⟩
    unfold dset
    have h1 := heap_setCell_same w d 2 _ _ (.int .i64 o) h
    have h2 := heap_setCell_same _ d 3 _ _ (.int .i64 si) h1
    have h3 := heap_setCell_same _ d 4 _ _ (.int .i64 n) h2
    have h4 := heap_setCell_same _ d 5 _ _ (.int .i64 v) h3
    have h5 := heap_setCell_same _ d 6 _ _ (.int .i64 l) h4
    have h6 := heap_setCell_same _ d 7 _ _ (.slice none 0 0) h5
    rw [h6]; rfl
end
section
variable {W3 w w' : World} {L : Lay} {s : Sta}
set_option maxHeartbeats 8000000
set_option maxRecDepth 100000
end
end Go.Proofs.YtfljmdpigckpkaaGreatDoor

namespace Go.Proofs.YtfljmdpigckpkaaGreatDoor
open Go.RowKit Go.Shelf
attribute [local go_sem] Oper.semAt_some
section
variable {W3 w w' : World} {L : Lay} {s : Sta}
set_option maxHeartbeats 8000000
set_option maxRecDepth 100000
theorem instr_own (a : MA W3 L s w) (hth : s.th = .pointer (some ⟨L.bt, 0, none⟩)) {d : Nat} (hd : w.heap[d]? = some (dv0 L).o) (hld : W3.heap.size ≤ d) {s1 : Sta} {si n v l : Int} {TH : World → Prop}
    (hst : ∀ w', Ext w w' → Calls Tryz.prog 65 #[.pointer (some ⟨L.bt, 0, none⟩), .pointer (some ⟨L.bh, 0, none⟩), .int .i64 1, .int .i64 0] w' fun e w2 => e = .returned (.tuple #[.agg #[.int .i64 0, .int .i64 si, .int .i64 n, .int .i64 v, .int .i64 l, .slice none 0 0], .int .i64 0]) ∧ MA W3 L s1 w2 ∧ TH w2 ∧ Kept pD w' w2) (hs1 : s1.th = s.th)
    (hTx : ∀ w w', TH w → Kept (ne' d) w w' → TH w') (htr : ∀ w, TH w → Calls Tryz.prog 305 #[.pointer (some ⟨L.bt, 0, none⟩)] w fun e w' => e = .returned (.int .i64 0) ∧ w' = w) :
    Calls Tryz.prog 261 #[.pointer (some ⟨d, 0, none⟩)] w fun e w' => e = .returned (.tuple #[]) ∧ MA W3 L s1 w' ∧ TH w' ∧ w'.heap[d]? = some (dv1 L 0 si n v l).o := by
  obtain ⟨W1, hW1⟩ : ∃ W1, W1 = w.alloc (.cells #[.pointer (some ⟨d, 0, none⟩)] 255) := ⟨_, rfl⟩
  have hx1 : Ext w W1 := by rw [hW1]; exact Ext.one _ _
  have hb1 : W1.heap[w.heap.size]? = some (.cells #[.pointer (some ⟨d, 0, none⟩)] 255 (0, 0)) := by rw [hW1]; exact World.alloc_heap_new _ _
  have hdl := (Array.getElem?_eq_some_iff.1 hd).1
  have a1 := a.ext hx1
  have hd1 := (hx1.kept (fun _ _ => true)).same _ _ hd rfl
  have hb0 : W1.cell? ⟨w.heap.size, 0, none⟩ = some (.pointer (some ⟨d, 0, none⟩)) := by simp [World.cell?, hb1]
  have hbl := (Array.getElem?_eq_some_iff.1 hb1).1
  obtain ⟨lv, mv, m1, _⟩ := a1.m
  obtain ⟨c0, c9, c10, c11, c12, c15, c16, c17, c18, c19, c20, cl, cz⟩ := mv_cells m1
  obtain ⟨t0, t4, t10, t11, t12, t15, tl, tz⟩ := a1.tcells
  rw [hth] at t15
  have ct := a1.task
  obtain ⟨l1, l2⟩ := a1.lts
  obtain ⟨d0, d1, d2, d3, d4, d5, d6, d7, d8, d9, d10, dl, dz⟩ := DV.cells hd1
  dsimp only [dv0] at d0 d1
  have HX1 := Lib.hid hx1
  have HB1 := Lib.hid hb1
  have HW := Lib.hid hW1
  have HA1 := Lib.hid a1
  have HD1 := Lib.hid hd1
  have HDL := Lib.hid hdl
  have HLD := Lib.hid hld
  have HST := Lib.hid hst
  have HTX := Lib.hid hTx
  have HTR := Lib.hid htr
  have HS1 := Lib.hid (hs1.trans hth)
  have HTH := Lib.hid hth
  clear a hd a1 hd1 hx1 hb1 hW1 m1 hdl hld hst hTx htr hs1 hth
  go_enter_defers Tryz.func261, Tryz.ntmps261
  go_upto_region 1 with (fail)
  change Code.wp _ _ _ _ (w.alloc (.cells #[.pointer (some ⟨d, 0, none⟩)] 255))
  rw [← HW.out]
  generalize hr : w.heap.size = r at *
  go_upto_region 2 with (fail)
  go_quiet (fail)
  clear c0 c9 c10 c11 c12 c15 c16 c17 c18 c19 c20 cl cz t0 t4 t10 t11 t12 t15 tl tz ct l1 l2 d0 d1 d2 d3 d4 d5 d6 d7 d8 d9 d10 dl dz hb0 hbl
  have HX2 := Lib.hid (HX1.out.trans (Ext.drewN W1 nq))
  have HA2 := Lib.hid (HA1.out.ext (Ext.drewN W1 nq))
  have HB2 := Lib.hid (((Ext.drewN W1 nq).kept (fun _ _ => true)).same _ _ HB1.out rfl)
  have HD2 := Lib.hid (((Ext.drewN W1 nq).kept (fun _ _ => true)).same _ _ HD1.out rfl)
  clear HW
  generalize W1.drewN nq = W2 at *
  have hmc : ∀ (w : World) (s : Sta), MA W3 L s w → w.cell? ⟨L.bm, 10, none⟩ = some (.pointer (some ⟨L.bh, 0, none⟩)) := fun _ _ a => by
    obtain ⟨lv, mv, m1, _⟩ := a.m
    exact (mv_cells m1).2.2.1
  have HMC := Lib.hid hmc
  clear hmc
  go_upto_region 3 with (fail)
  have x1 : W2.cell? ⟨r, 0, none⟩ = some (.pointer (some ⟨d, 0, none⟩)) := by simp [World.cell?, HB2.out]
  have x2 : W2.cell? ⟨L.b1, 15, none⟩ = some (.pointer (some ⟨L.bt, 0, none⟩)) := by
    obtain ⟨-, -, -, -, -, t15, -⟩ := HA2.out.tcells
    rw [t15]; exact congrArg some HTH.out
  have x3 : W2.cell? ⟨d, 0, none⟩ = some (.pointer (some ⟨L.bm, 0, none⟩)) := (DV.cells HD2.out).1
  have x4 : W2.cell? ⟨L.bm, 10, none⟩ = some (.pointer (some ⟨L.bh, 0, none⟩)) := HMC.out _ _ HA2.out
  have x5 : W2.cell? ⟨d, 1, none⟩ = some (.int .i64 1) := (DV.cells HD2.out).2.1
  have x6 : W2.cell? ⟨L.b1, 10, none⟩ = some (.int .i64 0) := by
    obtain ⟨-, -, t10, -, -, -, -⟩ := HA2.out.tcells
    exact t10
  go_region_held3 (fun w' => w'.cell? ⟨r, 0, none⟩ = some (.pointer (some ⟨d, 0, none⟩)) ∧ w'.cell? ⟨L.b1, 15, none⟩ = some (.pointer (some ⟨L.bt, 0, none⟩)) ∧ w'.cell? ⟨d, 0, none⟩ = some (.pointer (some ⟨L.bm, 0, none⟩)) ∧ w'.cell? ⟨L.bm, 10, none⟩ = some (.pointer (some ⟨L.bh, 0, none⟩)) ∧ w'.cell? ⟨d, 1, none⟩ = some (.int .i64 1) ∧ w'.cell? ⟨L.b1, 10, none⟩ = some (.int .i64 0)) (first | go_keep | with_reducible exact ⟨x1, x2, x3, x4, x5, x6⟩ | with_reducible exact ⟨y1, y2, y3, y4, y5, y6⟩ | with_reducible exact ⟨z1, z2, z3, z4, z5, z6⟩ | with_reducible exact ⟨v1, v2, v3, v4, v5, v6⟩) (first
    | (go_at_call 65; refine (HST.out _ (HX2.out.trans (Ext.drew _))).mono ?_; rintro e w5 ⟨rfl, a5, th5, k5⟩; have hb5 := k5.same _ _ HB2.out rfl; have hd5 := k5.same _ _ HD2.out rfl; obtain ⟨e0, e1, e2, e3, e4, e5, e6, e7, e8, e9, e10, el, ez⟩ := DV.cells hd5; dsimp only [dv0] at e0 e1; have y1 : w5.cell? ⟨r, 0, none⟩ = some (.pointer (some ⟨d, 0, none⟩)) := (by simp [World.cell?, hb5]); have y2 : w5.cell? ⟨L.b1, 15, none⟩ = some (.pointer (some ⟨L.bt, 0, none⟩)) := (by have q := a5.tcells.2.2.2.2.2.1; rw [HS1.out] at q; exact q); have y3 := e0; have y4 := HMC.out _ _ a5; have y5 := e1; have y6 := a5.tcells.2.2.1; obtain ⟨u1, u2⟩ := dset_ok hd5 0 si n v l; have hrd : r ≠ d := (by have := HDL.out; omega); have hmd : L.bm ≠ d := (by obtain ⟨lv, mv, m1, _⟩ := a5.m; exact tags_ne m1 hd5 (by rw [MV.tag, DV.tag]; decide)); have htd : L.b1 ≠ d := tags_ne a5.t hd5 (by rw [TV.tag, DV.tag]; decide); have z1 := u2.cell y1 (fun _ _ => by simp [ne', hrd]); have z2 := u2.cell y2 (fun _ _ => by simp [ne', htd]); have z3 := (DV.cells u1).1; have z4 := u2.cell y4 (fun _ _ => by simp [ne', hmd]); have z5 := (DV.cells u1).2.1; have z6 := u2.cell y6 (fun _ _ => by simp [ne', htd]); dsimp only [dv1] at z3 z5; have zz := (DV.cells u1).2.2.2.2.2.2.2.2.2.1; have zf := (DV.cells u1).2.2.2.2.2.2.2.2.2.2.2.2; dsimp only [dv1] at zz; have u3 := Kept.one d (dset w5 d 0 si n v l) 9 (.int .i64 0); have v1 := u3.cell z1 (fun _ _ => by simp [ne', hrd]); have v2 := u3.cell z2 (fun _ _ => by simp [ne', htd]); have v3 := (DV.cells (DV.set_err u1 0)).1; have v4 := u3.cell z4 (fun _ _ => by simp [ne', hmd]); have v5 := (DV.cells (DV.set_err u1 0)).2.1; have v6 := u3.cell z6 (fun _ _ => by simp [ne', htd]); dsimp only [dv1] at v3 v5; unfold dset at z1 z2 z3 z4 z5 z6 zz zf v1 v2 v3 v4 v5 v6; have HF := Lib.hid (And.intro a5 (And.intro th5 (And.intro hb5 (And.intro hd5 (And.intro hrd (And.intro u1 u2)))))); clear a5 th5 hb5 hd5 k5 u1 u2 hrd hmd htd))
  obtain ⟨a5, th5, hb5, hd5, hrd, u1, u2⟩ := HF.out
  have k6 := u2.trans (Kept.one d (dset w5 d 0 si n v l) 9 (.int .i64 0))
  have hd6 := DV.set_err u1 0
  replace hd6 : ((dset w5 d 0 si n v l).setCell ⟨d, 9, none⟩ (.int .i64 0)).heap[d]? = some (dv1 L 0 si n v l).o := hd6
  have a6 := a5.other hd5 k6 (.inl (DV.tag _)) HLD.out
  have th6 := HTX.out _ _ th5 k6
  have hb6 := k6.same _ _ hb5 (by simp [ne', hrd])
  clear x1 x2 x3 x4 x5 x6 y1 y2 y3 y4 y5 y6 z1 z2 z3 z4 z5 z6 v1 v2 v3 v4 v5 v6 zz zf e0 e1 e2 e3 e4 e5 e6 e7 e8 e9 e10 el ez a5 th5 hb5 hd5 u1 u2 k6 u3
  rename_i hh
  clear hh
  change Exit.then _ _ _ _ ((dset w5 d 0 si n v l).setCell ⟨d, 9, none⟩ (.int .i64 0))
  have HA6 := Lib.hid a6
  have HD6 := Lib.hid hd6
  have HT6 := Lib.hid th6
  have HB6 := Lib.hid hb6
  clear a6 hd6 th6 hb6 HF
  generalize (dset w5 d 0 si n v l).setCell _ _ = w6 at *
  have x1 : w6.cell? ⟨r, 0, none⟩ = some (.pointer (some ⟨d, 0, none⟩)) := by simp [World.cell?, HB6.out]
  have x2 : w6.cell? ⟨L.b1, 15, none⟩ = some (.pointer (some ⟨L.bt, 0, none⟩)) := by
    obtain ⟨-, -, -, -, -, t15, -⟩ := HA6.out.tcells
    rw [t15]; exact congrArg some HS1.out
  have HTQ := Lib.hid (fun k => HTR.out (w6.drewN k) (HTX.out _ _ HT6.out ((Ext.drewN w6 k).kept _)))
  go_upto_region 4 with (fail)
  go_quiet (first
    | (go_at_call 305; exact Calls.quiet_of_same (HTQ.out _))
    | (go_at_call 248; exact Calls.quiet_of_same (must_yes _ _)))
  clear x1 x2
  have HA7 := Lib.hid (HA6.out.ext (Ext.drewN w6 nq))
  have HD7 := Lib.hid (((Ext.drewN w6 nq).kept (fun _ _ => true)).same _ _ HD6.out rfl)
  have HT7 := Lib.hid (HTX.out _ _ HT6.out ((Ext.drewN w6 nq).kept _))
  have HB7 := Lib.hid (((Ext.drewN w6 nq).kept (fun _ _ => true)).same _ _ HB6.out rfl)
  generalize w6.drewN nq = w7 at *
  have x1 : w7.cell? ⟨r, 0, none⟩ = some (.pointer (some ⟨d, 0, none⟩)) := by simp [World.cell?, HB7.out]
  obtain ⟨e0, e1, e2, e3, e4, e5, e6, e7, e8, e9, e10, el, ez⟩ := DV.cells HD7.out
  dsimp only [dv1] at e0 e1 e2 e7
  obtain ⟨lv7, mv7, m7, _⟩ := HA7.out.m
  obtain ⟨-, c9, -, -, -, -, -, -, -, -, -, -, -⟩ := mv_cells m7
  clear m7
  go_upto_region 6 with (fail)
  go_rounds 1
  have hlk := fun k => look_no (w7.drewN k) L.bd HA7.out.d
  go_upto_region 10 with (fail)
  go_quiet (fail)
  clear hlk x1 e0 e1 e2 e3 e4 e5 e6 e7 e8 e9 e10 el ez c9
  have HFIN := Lib.hid (And.intro (HA7.out.ext (Ext.drewN w7 nq)) (And.intro (HTX.out _ _ HT7.out ((Ext.drewN w7 nq).kept _)) (((Ext.drewN w7 nq).kept (fun _ _ => true)).same _ _ HD7.out rfl)))
  go_wp2_with fail
  refine leaves_cons (f := 304) (args := #[.pointer (some ⟨r, 0, none⟩)]) (by simp) (by simp [go_sem]) ?_
  refine (catchM_idle r _).mono ?_
  rintro e u' w'' ⟨rfl, rfl, rfl⟩
  simp [Leaves, settle, results, Tryz.results261, go_sem]
  exact HFIN.out
end
end Go.Proofs.YtfljmdpigckpkaaGreatDoor
