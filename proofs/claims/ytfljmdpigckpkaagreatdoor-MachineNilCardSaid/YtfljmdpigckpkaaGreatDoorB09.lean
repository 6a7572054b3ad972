/- The program's deeds: what each instruction does, as a map. Written by genVO.py; The program's New: the code of a program that may be; The program's takes, frame, Begin: a thread of one frame, at a function's beginning; The program's frame, Begin: a thread of one frame, at a function's beginning; The program's threads: isNone, Over, Trap, running; The program's running: the frame that runs, and its next instruction; A step while it is done, in memory; b, c, set; must; an empty heap's Is. Written by genVU.py. -/
import Derived.Test.YtfljmdpigckpkaaGreatDoorB08
import Derived.Maps.Own
import Derived.Maps.OwnSet
import Derived.Test.YtfljmdpigckpkaaGreatDoorB06
import Derived.Laws.Rows
import Derived.Laws.IdiomCopy
namespace Go.Proofs.YtfljmdpigckpkaaGreatDoor
open Go.RowKit Go.Shelf Go.Maps Go.ChangeMaps
attribute [local go_sem] Oper.semAt_some
/-- The entries of a map of functions that were put in one behind the other. -/
def entD : Nat → List (Int × FuncId) → List MapEntry
  | _, [] => []
  | n, s :: r => ⟨.int .i64 s.1, .func (.func s.2) #[] #[], n⟩ :: entD (n + 1) r
theorem entD_snoc : ∀ (ws : List (Int × FuncId)) (n : Nat) (s : Int × FuncId), entD n (ws ++ [s]) = entD n ws ++ [⟨.int .i64 s.1, .func (.func s.2) #[] #[], n + ws.length⟩]
  | [], n, s => by simp [entD]
  | x :: r, n, s => by
    simp only [List.cons_append, entD, entD_snoc r (n + 1) s, List.length_cons]
    congr 4
    omega
/-- The function of an operation. -/
def fnO (k : Int) : List (Int × FuncId) → Option FuncId
  | [] => none
  | s :: r => if k = s.1 then some s.2 else fnO k r
theorem find_entD (k : Int) : ∀ (ws : List (Int × FuncId)) (n i : Nat), ∃ j, Instr.findNow (.int .i64) (.int .i64 k) (entD n ws) i = some ((fnO k ws).map fun f => (j, .func (.func f) #[] #[]))
  | [], n, i => ⟨0, by simp [entD, Instr.findNow, fnO]⟩
  | s :: r, n, i => by
    obtain ⟨j, ih⟩ := find_entD k r (n + 1) (i + 1)
    simp only [entD, Instr.findNow, Instr.sameNow, fnO]
    by_cases h : k = s.1
    · exact ⟨i, by simp [h]⟩
    · refine ⟨j, ?_⟩
      have h1 : (k == s.1) = false := by simpa using h
      simp only [h1, ih, if_neg h, if_true]
theorem push_setD (a : Array Obj) (x y : Obj) : (a.push x).setIfInBounds a.size y = a.push y := by
  apply Array.ext_getElem?
  intro i
  rw [Array.getElem?_setIfInBounds, Array.getElem?_push, Array.getElem?_push]
  by_cases h : a.size = i
  · subst h; simp
  · have : ¬ i = a.size := fun e => h e.symm
    simp [h, this]
def dobj (ws : List (Int × FuncId)) : Obj := .map (entD 0 ws).toArray ws.length
theorem ins_runD (w : World) (ws : List (Int × FuncId)) (k : Int) (f : FuncId) (h : fnO k ws = none) :
    (Instr.mapUpdate 250 (.map (some w.heap.size)) (.int .i64 k) (.func (.func f) #[] #[])).run Tryz.prog (w.alloc (dobj ws)) = .ok () (w.alloc (dobj (ws ++ [(k, f)]))) := by
  obtain ⟨j, hj⟩ := find_entD k ws 0 0
  rw [h, Option.map_none] at hj
  have hb : (w.alloc (dobj ws)).heap[w.heap.size]? = some (.map (entD 0 ws).toArray ws.length) := heap_alloc_new w _
  have hc : ∀ m W, (Instr.checkKey false (m + 1) 22 (.int .i64 k)).run Tryz.prog W = .ok () W := fun m W => MapKept.run_checkKey (k := .int .i64 k) Tryz.underlying22 rfl false m
  have hset : ∀ o, (setObj w.heap.size o).run Tryz.prog (w.alloc (dobj ws)) = .ok () (w.alloc o) := fun o => by
    rw [MapKept.run_setObj_map o hb]
    simp [World.alloc, -World.alloc_eq, push_setD, dobj]
  have he : dobj (ws ++ [(k, f)]) = .map ((entD 0 ws).toArray.push ⟨.int .i64 k, .func (.func f) #[] #[], ws.length⟩) (ws.length + 1) := by
    unfold dobj
    rw [entD_snoc]
    simp
  rw [he]
  simp [Instr.mapUpdate, run_underlying Tryz.underlying250, MapKept.run_getObj_map hb, hc, Instr.findKey, run_underlying Tryz.underlying22, hj, Result.andThen, hset]
def deedL : List (Int × FuncId) := [(1, 211), (2, 213), (3, 215), (4, 217), (5, 218), (6, 219), (7, 221), (8, 222), (11, 223), (12, 225), (13, 228), (14, 231), (15, 232), (16, 234), (17, 235), (18, 236), (19, 238), (20, 239), (21, 241), (22, 242), (31, 243), (32, 244), (33, 245)]
def dk (i : Nat) : List (Int × FuncId) := deedL.take i
theorem ins_dk (w : World) (i j : Nat) (k : Int) (f : FuncId) (hs : deedL[i]? = some (k, f)) (h : fnO k (deedL.take i) = none) (hj : j = i + 1) :
    (Instr.mapUpdate 250 (.map (some w.heap.size)) (.int .i64 k) (.func (.func f) #[] #[])).run Tryz.prog (w.alloc (dobj (dk i))) = .ok () (w.alloc (dobj (dk j))) := by
  subst hj
  have hr := ins_runD w (dk i) k f h
  rw [hr]
  unfold dk
  rw [List.take_add_one, hs]
  rfl
set_option maxRecDepth 100000 in
set_option maxHeartbeats 4000000 in
theorem deeds_ok (w : World) : Calls Tryz.prog 137 #[] w fun e w' => e = .returned (.map (some w.heap.size)) ∧ w' = w.alloc (dobj (dk 23)) := by
  have hmm : ∀ u : World, (Instr.makeMap 250 none).run Tryz.prog u = .ok (.map (some u.heap.size)) (u.alloc (dobj (dk 0))) := fun u => rfl
  have i0 := ins_dk w 0 1 1 211 rfl (by decide) rfl
  have i1 := ins_dk w 1 2 2 213 rfl (by decide) rfl
  have i2 := ins_dk w 2 3 3 215 rfl (by decide) rfl
  have i3 := ins_dk w 3 4 4 217 rfl (by decide) rfl
  have i4 := ins_dk w 4 5 5 218 rfl (by decide) rfl
  have i5 := ins_dk w 5 6 6 219 rfl (by decide) rfl
  have i6 := ins_dk w 6 7 7 221 rfl (by decide) rfl
  have i7 := ins_dk w 7 8 8 222 rfl (by decide) rfl
  have i8 := ins_dk w 8 9 11 223 rfl (by decide) rfl
  have i9 := ins_dk w 9 10 12 225 rfl (by decide) rfl
  have i10 := ins_dk w 10 11 13 228 rfl (by decide) rfl
  have i11 := ins_dk w 11 12 14 231 rfl (by decide) rfl
  have i12 := ins_dk w 12 13 15 232 rfl (by decide) rfl
  have i13 := ins_dk w 13 14 16 234 rfl (by decide) rfl
  have i14 := ins_dk w 14 15 17 235 rfl (by decide) rfl
  have i15 := ins_dk w 15 16 18 236 rfl (by decide) rfl
  have i16 := ins_dk w 16 17 19 238 rfl (by decide) rfl
  have i17 := ins_dk w 17 18 20 239 rfl (by decide) rfl
  have i18 := ins_dk w 18 19 21 241 rfl (by decide) rfl
  have i19 := ins_dk w 19 20 22 242 rfl (by decide) rfl
  have i20 := ins_dk w 20 21 31 243 rfl (by decide) rfl
  have i21 := ins_dk w 21 22 32 244 rfl (by decide) rfl
  have i22 := ins_dk w 22 23 33 245 rfl (by decide) rfl
  go_enter Tryz.func137, Tryz.ntmps137
  go_wp2
  go_ret
  exact ⟨rfl, rfl⟩
theorem look_deed (w : World) (b : Nat) (k : Int) (f : FuncId) (hb : w.heap[b]? = some (dobj (dk 23))) (hk : fnO k deedL = some f) :
    (Instr.lookup 250 (.map (some b)) (.int .i64 k) false).run Tryz.prog w = .ok (.func (.func f) #[] #[]) w := by
  have hc : ∀ e m W, (Instr.checkKey e (m + 1) 22 (.int .i64 k)).run Tryz.prog W = .ok () W := fun e m W => MapKept.run_checkKey (k := .int .i64 k) Tryz.underlying22 rfl e m
  obtain ⟨j, hj⟩ := find_entD k (dk 23) 0 0
  have hdk : fnO k (dk 23) = some f := hk
  rw [hdk, Option.map_some] at hj
  unfold dobj at hb
  simp [Instr.lookup, run_underlying Tryz.underlying250, MapKept.run_getObj_map hb, hc, Instr.findKey, run_underlying Tryz.underlying22, hj, Result.andThen]
end Go.Proofs.YtfljmdpigckpkaaGreatDoor

namespace Go.Proofs.YtfljmdpigckpkaaGreatDoor
open Go.RowKit Go.Shelf
attribute [local go_sem] Oper.semAt_some
theorem GoodP.small {P : Prg} (h : GoodP P) (hL : NoL P) : SmallP P := by
  have p := h.may.parts
  have hs := h.may.sites.2
  refine ⟨by have := p.n0; omega, by have := p.n1; omega, by have := p.n2; omega, by have := p.n5; omega, by have := p.n3; omega, by have := p.n4; omega, by omega, fun i y hy => ?_, fun i f hf => ?_⟩
  · obtain ⟨hi, rfl⟩ := List.getElem?_eq_some_iff.1 hy
    have := p.cls i hi
    omega
  · obtain ⟨hi, rfl⟩ := List.getElem?_eq_some_iff.1 hf
    have := (h.may.fns i hi).code
    refine ⟨by omega, fun k x hx => ?_⟩
    obtain ⟨hk, rfl⟩ := List.getElem?_eq_some_iff.1 hx
    rw [hL i hi k hk]
    simp
def codo (Q : Prg) (bm : Nat) : Obj := .cells #[.slice Q.loopsA Q.loops.length Q.loopsC, .slice Q.clssA Q.clss.length Q.clssC, .slice Q.glbsA Q.glbs.length Q.glbsC, .slice Q.fnsA Q.fns.length Q.fnsC, .slice Q.cmpsA Q.cmps.length Q.cmpsC, .slice Q.evtsA Q.evts.length Q.evtsC, .int .i64 Q.main, .slice Q.sitsA Q.sits.length Q.sitsC, .map (some bm)] 253 (0, 0)
/-- A code in memory. -/
structure Cod (bc : Nat) (Q : Prg) (w : World) : Prop where
  ex : ∃ bm, w.heap[bc]? = some (codo Q bm) ∧ w.heap[bm]? = some (dobj (dk 23))
  pin : Q.In w
theorem Cod.ext {bc : Nat} {Q : Prg} {w w' : World} (h : Cod bc Q w) (k : Ext w w') : Cod bc Q w' := by
  obtain ⟨bm, h1, h2⟩ := h.ex
  have kk := k.kept (fun _ _ => true)
  exact ⟨⟨bm, kk.same _ _ h1 rfl, kk.same _ _ h2 rfl⟩, h.pin.kept k⟩
set_option maxHeartbeats 4000000 in
set_option maxRecDepth 100000 in
theorem New_ok {P : Prg} {W : World} (hT : Tab W) (h : P.In W) (hg : GoodP P) (hL : NoL P) : Calls Tryz.prog 86 #[P.v] W fun e W' => ∃ bc Q, e = .returned (.tuple #[.pointer (some ⟨bc, 0, none⟩), .int .i64 0]) ∧ Cod bc Q W' ∧ PrgLike P Q ∧ Ext W W' ∧ W.heap.size ≤ bc := by
  have HM := Lib.hid (fun (w : World) (k : Ext W w) => mayBe_ok (hT.ext k) (h.kept k) hg hL)
  have HC := Lib.hid (fun (w : World) (k : Ext W w) => copied_ok (h.kept k) (hg.small hL))
  unfold Prg.v at HM HC ⊢
  obtain ⟨W1, hW1⟩ : ∃ W1, W1 = W.alloc P.o := ⟨_, rfl⟩
  have hE1 : Ext W W1 := by rw [hW1]; exact Ext.one _ _
  have hb1 : W1.heap[W.heap.size]? = some P.o := by rw [hW1]; exact World.alloc_heap_new _ _
  obtain ⟨x0, x1, x2, x3, x4, x5, x6, x7, xl⟩ := Prg.o_cells hb1
  have E1 := Lib.hid hE1
  have HB1 := Lib.hid hb1
  have HW := Lib.hid hW1
  clear hE1 hb1 hW1 h hg hT hL
  go_enter Tryz.func86, Tryz.ntmps86
  go_upto_region 1 with (fail)
  change Code.wp _ _ _ _ (W.alloc P.o)
  rw [← HW.out]
  go_wp2_with (first
    | (go_at_call 137; refine (deeds_ok _).mono ?_; rintro e w4 ⟨rfl, hw4⟩; have HW4 := Lib.hid hw4; clear hw4)
    | (go_at_call 136; refine (HC.out _ E2.out).mono ?_; rintro e w3 ⟨Q, rfl, hlk, hq, hx3⟩; have HLK := Lib.hid hlk; have HQ := Lib.hid hq; have E3 := Lib.hid (E2.out.trans hx3); clear hx3 hq hlk)
    | (go_at_call 135; refine (HM.out _ E1.out).mono ?_; rintro e w2 ⟨rfl, hx2⟩; have E2 := Lib.hid (E1.out.trans hx2); have HB2 := Lib.hid ((hx2.kept (fun _ _ => true)).same _ _ HB1.out rfl); obtain ⟨q0, q1, q2, q3, q4, q5, q6, q7, ql⟩ := Prg.o_cells HB2.out; clear hx2))
  have hx4 : Ext w3 w4 := by rw [HW4.out]; exact Ext.one _ _
  have hm4 : w4.heap[w3.heap.size]? = some (dobj (dk 23)) := by rw [HW4.out]; exact World.alloc_heap_new _ _
  have hx5 : Ext w4 (w4.alloc (codo Q w3.heap.size)) := Ext.one _ _
  have hc5 : (w4.alloc (codo Q w3.heap.size)).heap[w4.heap.size]? = some (codo Q w3.heap.size) := World.alloc_heap_new _ _
  go_ret2
  refine ⟨w4.heap.size, Q, rfl, ⟨⟨w3.heap.size, hc5, (hx5.kept (fun _ _ => true)).same _ _ hm4 rfl⟩, (HQ.out.kept hx4).kept hx5⟩, HLK.out, (E3.out.trans hx4).trans hx5, Nat.le_trans E3.out.size hx4.size⟩
end Go.Proofs.YtfljmdpigckpkaaGreatDoor

namespace Go.Proofs.YtfljmdpigckpkaaGreatDoor
open Go.RowKit Go.Shelf
attribute [local go_sem] Oper.semAt_some
theorem codo_cells {w : World} {b bm : Nat} {Q : Prg} (h : w.heap[b]? = some (codo Q bm)) : w.cell? ⟨b, 3, none⟩ = some (.slice Q.fnsA Q.fns.length Q.fnsC) ∧ w.cell? ⟨b, 8, none⟩ = some (.map (some bm)) ∧ b < w.heap.size := by
  refine ⟨?_, ?_, (Array.getElem?_eq_some_iff.1 h).1⟩
  all_goals simp [World.cell?, h, codo]
@[go_sem] theorem eqc_ns (b : Nat) (w : World) : (binOp .eql 63 (.pointer none) (.pointer (some ⟨b, 0, none⟩))).run Tryz.prog w = .ok (.bool false) w := by kernel_rfl
@[go_sem] theorem eqc_sn (b : Nat) (w : World) : (binOp .eql 63 (.pointer (some ⟨b, 0, none⟩)) (.pointer none)).run Tryz.prog w = .ok (.bool false) w := by kernel_rfl
@[go_sem] theorem eqc_nn (w : World) : (binOp .eql 63 (.pointer none) (.pointer none)).run Tryz.prog w = .ok (.bool true) w := by kernel_rfl
set_option maxHeartbeats 1000000 in
set_option maxRecDepth 100000 in
theorem takes_yes {bc : Nat} {Q : Prg} {W : World} (h : Cod bc Q W) {i : Nat} (hi : i < Q.fns.length) {n : Int} (hn : Q.fns[i].caps = n) : Calls Tryz.prog 178 #[.pointer (some ⟨bc, 0, none⟩), .int .i64 i, .int .i64 n] W fun e W' => e = .returned (.bool true) ∧ W' = W := by
  obtain ⟨bm, h1, _⟩ := h.ex
  obtain ⟨x3, _, xl⟩ := codo_cells h1
  obtain ⟨g, off, e1, hl, _, _, c1, _, _⟩ := Prg.fn_at h.pin hi
  rw [hn] at c1
  rw [e1] at x3
  have HA := Lib.hid (inI_intro (n := (i : Int)) (m := Q.fns.length) (by omega) (by omega) ▸ amongI_ok i Q.fns.length W)
  have z0 : (i : Int) < (Q.fns.length : Int) := by omega
  have z1 : (n == n) = true := by simp
  clear e1 h1 h hn
  go_enter Tryz.func178, Tryz.ntmps178
  go_wp2_with (go_at_call 272; refine HA.out.mono ?_; rintro e w2 ⟨rfl, hw⟩; rw [hw]; clear hw)
  go_ret
  exact ⟨rfl, rfl⟩
set_option maxHeartbeats 1000000 in
set_option maxRecDepth 100000 in
theorem takes_none {bc : Nat} {Q : Prg} {W : World} (h : Cod bc Q W) {i : Int} (hi : inI i Q.fns.length = false) (n : Int) : Calls Tryz.prog 178 #[.pointer (some ⟨bc, 0, none⟩), .int .i64 i, .int .i64 n] W fun e W' => e = .returned (.bool false) ∧ W' = W := by
  obtain ⟨bm, h1, _⟩ := h.ex
  obtain ⟨x3, _, xl⟩ := codo_cells h1
  have HA := Lib.hid (hi ▸ amongI_ok i Q.fns.length W)
  clear h1 h hi
  go_enter Tryz.func178, Tryz.ntmps178
  go_wp2_with (go_at_call 272; refine HA.out.mono ?_; rintro e w2 ⟨rfl, hw⟩; rw [hw]; clear hw)
  go_ret
  exact ⟨rfl, rfl⟩
set_option maxHeartbeats 1000000 in
set_option maxRecDepth 100000 in
theorem takes_no {bc : Nat} {Q : Prg} {W : World} (h : Cod bc Q W) {i : Nat} (hi : i < Q.fns.length) {n : Int} (hn : (n == Q.fns[i].caps) = false) : Calls Tryz.prog 178 #[.pointer (some ⟨bc, 0, none⟩), .int .i64 i, .int .i64 n] W fun e W' => e = .returned (.bool false) ∧ W' = W := by
  obtain ⟨bm, h1, _⟩ := h.ex
  obtain ⟨x3, _, xl⟩ := codo_cells h1
  obtain ⟨g, off, e1, hl, _, _, c1, _, _⟩ := Prg.fn_at h.pin hi
  generalize Q.fns[i].caps = m at c1 hn
  rw [e1] at x3
  have HA := Lib.hid (inI_intro (n := (i : Int)) (m := Q.fns.length) (by omega) (by omega) ▸ amongI_ok i Q.fns.length W)
  have z0 : (i : Int) < (Q.fns.length : Int) := by omega
  clear e1 h1 h
  go_enter Tryz.func178, Tryz.ntmps178
  go_wp2_with (go_at_call 272; refine HA.out.mono ?_; rintro e w2 ⟨rfl, hw⟩; rw [hw]; clear hw)
  go_ret
  exact ⟨by rw [← hn]; rfl, rfl⟩
end Go.Proofs.YtfljmdpigckpkaaGreatDoor

namespace Go.Proofs.YtfljmdpigckpkaaGreatDoor
open Go.RowKit Go.Shelf
attribute [local go_sem] Oper.semAt_some
theorem infoL : (Tryz.prog.info? 2).map (fun i => (i.zero, i.size, i.bytes)) = some (some (.int .i64 0), 1, 8) := by kernel_rfl
theorem zerosL (n : Nat) : (madeCells (Value.int .i64 0).cells (n * 1)).toList = rowV iV (List.replicate n 0) := by
  apply List.ext_getElem
  · simp [madeCells, rowV, Value.cells]
  · intro i h1 h2
    simp [madeCells, rowV, Value.cells, iV, Nat.mod_one]
/-- A thread of one frame. -/
structure Th (bt g bf gr bc : Nat) (fn at' : Int) (R : List Int) (tr : Int) (w : World) : Prop where
  t : w.heap[bt]? = some (.cells #[.pointer (some ⟨bc, 0, none⟩), .slice (some ⟨g, 0, none⟩) 1 1, .int .i64 tr] 290 (0, 0))
  s : w.heap[g]? = some (.cells #[.pointer (some ⟨bf, 0, none⟩)] 222 (0, 0))
  f : w.heap[bf]? = some (.cells #[.int .i64 fn, .int .i64 at', .slice (some ⟨gr, 0, none⟩) R.length R.length] 203 (0, 0))
  r : w.ownsRow 0 2 1 (.slice (some ⟨gr, 0, none⟩) R.length R.length) R.length (rowV iV R)
theorem Th.ext {bt g bf gr bc : Nat} {fn at' : Int} {R : List Int} {tr : Int} {w w' : World} (h : Th bt g bf gr bc fn at' R tr w) (k : Ext w w') : Th bt g bf gr bc fn at' R tr w' := by
  have kk := k.kept (fun _ _ => true)
  exact ⟨kk.same _ _ h.t rfl, kk.same _ _ h.s rfl, kk.same _ _ h.f rfl, kk.row h.r fun _ _ => rfl⟩
set_option maxHeartbeats 2000000 in
set_option maxRecDepth 100000 in
theorem frame_ok {bc : Nat} {Q : Prg} {W : World} (h : Cod bc Q W) {i : Nat} (hi : i < Q.fns.length) {n : Nat} (hn : Q.fns[i].regs = n) (hn2 : n ≤ 1000) (A : Option Addr) (c : Nat) : Calls Tryz.prog 179 #[.pointer (some ⟨bc, 0, none⟩), .int .i64 i, .slice A 0 c] W fun e W' => ∃ bf gr, e = .returned (.pointer (some ⟨bf, 0, none⟩)) ∧ W'.heap[bf]? = some (.cells #[.int .i64 i, .int .i64 0, .slice (some ⟨gr, 0, none⟩) n n] 203 (0, 0)) ∧ W'.ownsRow 0 2 1 (.slice (some ⟨gr, 0, none⟩) n n) n (rowV iV (List.replicate n 0)) ∧ Ext W W' ∧ W.heap.size ≤ bf ∧ W.heap.size ≤ gr := by
  obtain ⟨bm, h1, _⟩ := h.ex
  obtain ⟨x3, _, xl⟩ := codo_cells h1
  obtain ⟨g, off, e1, hl, _, _, _, c2, _⟩ := Prg.fn_at h.pin hi
  rw [hn] at c2
  rw [e1] at x3
  have z0 : (i : Int) < (Q.fns.length : Int) := by omega
  obtain ⟨i0, hi0, hz0, hz1, hz2⟩ := infoParts infoL
  obtain ⟨w2, hm, how, hgr⟩ := run_makeSlice_full (P := Tryz.prog) (w := W) 0 46 2 i0 (.int .i64 0) 1 Tryz.underlying46 hi0 hz0 hz1 .i64 .i64 n (by omega) (by rw [hz2]; omega) (by unfold maxLen; omega) (Nat.zero_le _)
  rw [zerosL] at how
  have hx2 : Ext W w2 := Kept.grown hgr fun j o e => by cases e
  have HX2 := Lib.hid hx2
  have HOW := Lib.hid how
  have hcp : ∀ (ty : TypeId) (w : World), (Builtin.copy_ #[46, 46] ty #[.slice (some ⟨W.heap.size, 0, none⟩) n n, .slice A 0 c]).run Tryz.prog w = .ok (goInt 0) w := fun ty w => run_copy_none w _ _ ty 2 _ _ n n 0 c Tryz.underlying46 (by kernel_rfl) (by simp)
  clear how hgr hx2 e1 h1 h hn
  go_enter Tryz.func179, Tryz.ntmps179
  go_wp2_with fail
  have hb3 : (w2.alloc (.cells #[.int .i64 i, .int .i64 0, .slice (some ⟨W.heap.size, 0, none⟩) n n] 203 (0, 0))).heap[w2.heap.size]? = some (.cells #[.int .i64 i, .int .i64 0, .slice (some ⟨W.heap.size, 0, none⟩) n n] 203 (0, 0)) := World.alloc_heap_new _ _
  have hx3 : Ext w2 (w2.alloc (.cells #[.int .i64 i, .int .i64 0, .slice (some ⟨W.heap.size, 0, none⟩) n n] 203 (0, 0))) := Ext.one _ _
  go_ret
  exact ⟨_, _, rfl, hb3, (hx3.kept (fun _ _ => true)).row HOW.out fun _ _ => rfl, HX2.out.trans hx3, HX2.out.size, Nat.le_refl _⟩
set_option maxHeartbeats 2000000 in
set_option maxRecDepth 100000 in
theorem Begin_ok {bc : Nat} {Q : Prg} {W : World} (h : Cod bc Q W) {i : Nat} (hi : i < Q.fns.length) (hc : Q.fns[i].caps = 0) {n : Nat} (hn : Q.fns[i].regs = n) (hn2 : n ≤ 1000) (A : Option Addr) (c : Nat) : Calls Tryz.prog 112 #[.pointer (some ⟨bc, 0, none⟩), .int .i64 i, .slice A 0 c] W fun e W' => ∃ bt g bf gr, e = .returned (.tuple #[.pointer (some ⟨bt, 0, none⟩), .int .i64 0]) ∧ Th bt g bf gr bc i 0 (List.replicate n 0) 0 W' ∧ Ext W W' ∧ W.heap.size ≤ bt ∧ W.heap.size ≤ g ∧ W.heap.size ≤ bf ∧ W.heap.size ≤ gr ∧ bt ≠ g ∧ bf ≠ g ∧ bf ≠ bt ∧ gr ≠ bt ∧ gr ≠ g ∧ gr ≠ bf := by
  have HT := Lib.hid (fun w (k : Ext W w) => takes_yes (h.ext k) hi hc)
  have HF := Lib.hid (fun w (k : Ext W w) => frame_ok (h.ext k) hi hn hn2 A c)
  clear h hc hn
  go_enter Tryz.func112, Tryz.ntmps112
  go_wp2_with (first
    | (go_at_call 179; refine (HF.out _ (Ext.refl _)).mono ?_; rintro e w2 ⟨bf, gr, rfl, hb2, hr2, hx2, hg1, hg2⟩; have HB2 := Lib.hid hb2; have HR2 := Lib.hid hr2; have HX2 := Lib.hid hx2; clear hb2 hr2 hx2)
    | (go_at_call 178; refine (HT.out _ (Ext.refl _)).mono ?_; rintro e w2 ⟨rfl, hw⟩; rw [hw]; clear hw))
  obtain ⟨w3, hw3⟩ : ∃ w3, w3 = w2.alloc (.cells #[.pointer (some ⟨bf, 0, none⟩)] 222 (0, 0)) := ⟨_, rfl⟩
  obtain ⟨w4, hw4⟩ : ∃ w4, w4 = w3.alloc (.cells #[.pointer (some ⟨bc, 0, none⟩), .slice (some ⟨w2.heap.size, 0, none⟩) 1 1, .int .i64 0] 290 (0, 0)) := ⟨_, rfl⟩
  have hx3 : Ext w2 w3 := by rw [hw3]; exact Ext.one _ _
  have hx4 : Ext w3 w4 := by rw [hw4]; exact Ext.one _ _
  have hb3 : w3.heap[w2.heap.size]? = some (.cells #[.pointer (some ⟨bf, 0, none⟩)] 222 (0, 0)) := by rw [hw3]; exact World.alloc_heap_new _ _
  have hs3 : w3.heap.size = w2.heap.size + 1 := by rw [hw3, World.size_alloc]
  have hb4 : w4.heap[w2.heap.size + 1]? = some (.cells #[.pointer (some ⟨bc, 0, none⟩), .slice (some ⟨w2.heap.size, 0, none⟩) 1 1, .int .i64 0] 290 (0, 0)) := by
    rw [hw4, ← hs3]
    exact World.alloc_heap_new _ _
  have hne : gr ≠ bf := fun e => by
    subst e
    have := (own_tag HR2.out gr _ rfl HB2.out).1
    simp [tag] at this
  have l1 := (Array.getElem?_eq_some_iff.1 HB2.out).1
  have l2 := own_lt HR2.out gr rfl
  have hsz := HX2.out.size
  have hx := hx3.trans hx4
  have hth : Th (w2.heap.size + 1) w2.heap.size bf gr bc i 0 (List.replicate n 0) 0 w4 := by
    refine ⟨hb4, (hx4.kept (fun _ _ => true)).same _ _ hb3 rfl, ?_, ?_⟩
    · rw [List.length_replicate]
      exact (hx.kept (fun _ _ => true)).same _ _ HB2.out rfl
    · rw [List.length_replicate]
      exact (hx.kept (fun _ _ => true)).row HR2.out fun _ _ => rfl
  rw [hw4, hw3] at hth
  rw [hw4, hw3] at hx
  go_ret2
  exact ⟨_, _, _, _, rfl, hth, HX2.out.trans hx, by omega, hsz, hg1, hg2, by omega, by omega, by omega, by omega, by omega, hne⟩
end Go.Proofs.YtfljmdpigckpkaaGreatDoor

namespace Go.Proofs.YtfljmdpigckpkaaGreatDoor
open Go.RowKit Go.Shelf
attribute [local go_sem] Oper.semAt_some
@[go_sem] theorem eqt_ns (b : Nat) (w : World) : (binOp .eql 119 (.pointer none) (.pointer (some ⟨b, 0, none⟩))).run Tryz.prog w = .ok (.bool false) w := by kernel_rfl
@[go_sem] theorem eqt_sn (b : Nat) (w : World) : (binOp .eql 119 (.pointer (some ⟨b, 0, none⟩)) (.pointer none)).run Tryz.prog w = .ok (.bool false) w := by kernel_rfl
@[go_sem] theorem eqt_nn (w : World) : (binOp .eql 119 (.pointer none) (.pointer none)).run Tryz.prog w = .ok (.bool true) w := by kernel_rfl
section
variable {bt g bf gr bc : Nat} {fn at' : Int} {R : List Int} {tr : Int} {W : World}
theorem Th.cells (h : Th bt g bf gr bc fn at' R tr W) : W.cell? ⟨bt, 0, none⟩ = some (.pointer (some ⟨bc, 0, none⟩)) ∧ W.cell? ⟨bt, 1, none⟩ = some (.slice (some ⟨g, 0, none⟩) 1 1) ∧ W.cell? ⟨bt, 2, none⟩ = some (.int .i64 tr) ∧ bt < W.heap.size ∧ W.cell? ⟨g, 0, none⟩ = some (.pointer (some ⟨bf, 0, none⟩)) ∧ g < W.heap.size ∧ W.cell? ⟨bf, 0, none⟩ = some (.int .i64 fn) ∧ W.cell? ⟨bf, 1, none⟩ = some (.int .i64 at') ∧ W.cell? ⟨bf, 2, none⟩ = some (.slice (some ⟨gr, 0, none⟩) R.length R.length) ∧ bf < W.heap.size := by
  refine ⟨?_, ?_, ?_, (Array.getElem?_eq_some_iff.1 h.t).1, ?_, (Array.getElem?_eq_some_iff.1 h.s).1, ?_, ?_, ?_, (Array.getElem?_eq_some_iff.1 h.f).1⟩
  all_goals simp [World.cell?, h.t, h.s, h.f]
set_option maxRecDepth 100000 in
theorem isNone_nil (W : World) : Calls Tryz.prog 118 #[.pointer none] W fun e W' => e = .returned (.bool true) ∧ W' = W := by
  go_enter Tryz.func118, Tryz.ntmps118
  go_wp2_with fail
  go_ret
  exact ⟨rfl, rfl⟩
set_option maxRecDepth 100000 in
theorem isNone_th (h : Th bt g bf gr bc fn at' R tr W) : Calls Tryz.prog 118 #[.pointer (some ⟨bt, 0, none⟩)] W fun e W' => e = .returned (.bool false) ∧ W' = W := by
  obtain ⟨t0, t1, t2, tl, s0, sl, f0, f1, f2, fl⟩ := h.cells
  clear h
  go_enter Tryz.func118, Tryz.ntmps118
  go_wp2_with fail
  go_ret
  exact ⟨rfl, rfl⟩
set_option maxRecDepth 100000 in
theorem Over_nil (W : World) : Calls Tryz.prog 184 #[.pointer none] W fun e W' => e = .returned (.bool true) ∧ W' = W := by
  have H := Lib.hid (isNone_nil W)
  go_enter Tryz.func184, Tryz.ntmps184
  go_wp2_with (go_at_call 118; refine H.out.mono ?_; rintro e w2 ⟨rfl, hw⟩; rw [hw]; clear hw)
  go_ret
  exact ⟨rfl, rfl⟩
set_option maxRecDepth 100000 in
theorem Over_th (h : Th bt g bf gr bc fn at' R tr W) : Calls Tryz.prog 184 #[.pointer (some ⟨bt, 0, none⟩)] W fun e W' => e = .returned (.bool (tr != 0)) ∧ W' = W := by
  obtain ⟨t0, t1, t2, tl, s0, sl, f0, f1, f2, fl⟩ := h.cells
  have H := Lib.hid (isNone_th h)
  clear h
  cases hz : (tr != 0) with
  | true =>
    go_enter Tryz.func184, Tryz.ntmps184
    go_wp2_with (go_at_call 118; refine H.out.mono ?_; rintro e w2 ⟨rfl, hw⟩; rw [hw]; clear hw)
    go_ret
    exact ⟨by rw [← hz]; rfl, rfl⟩
  | false =>
    go_enter Tryz.func184, Tryz.ntmps184
    go_wp2_with (go_at_call 118; refine H.out.mono ?_; rintro e w2 ⟨rfl, hw⟩; rw [hw]; clear hw)
    go_ret
    exact ⟨by rw [← hz]; rfl, rfl⟩
set_option maxRecDepth 100000 in
theorem Trap_th (h : Th bt g bf gr bc fn at' R tr W) : Calls Tryz.prog 305 #[.pointer (some ⟨bt, 0, none⟩)] W fun e W' => e = .returned (.int .i64 tr) ∧ W' = W := by
  obtain ⟨t0, t1, t2, tl, s0, sl, f0, f1, f2, fl⟩ := h.cells
  clear h
  go_enter Tryz.func305, Tryz.ntmps305
  go_wp2_with fail
  go_ret
  exact ⟨rfl, rfl⟩
set_option maxRecDepth 100000 in
theorem Trap_nil (W : World) : Calls Tryz.prog 305 #[.pointer none] W fun e W' => e = .returned (.int .i64 0) ∧ W' = W := by
  go_enter Tryz.func305, Tryz.ntmps305
  go_wp2_with fail
  go_ret
  exact ⟨rfl, rfl⟩
end
end Go.Proofs.YtfljmdpigckpkaaGreatDoor

namespace Go.Proofs.YtfljmdpigckpkaaGreatDoor
open Go.RowKit Go.Shelf
attribute [local go_sem] Oper.semAt_some
def inso (o a b c n l s i : Value) : Obj := .cells #[o, a, b, c, n, l, s, i] 25 (0, 0)
def zins : Obj := inso (.int .i64 0) (.int .i64 0) (.int .i64 0) (.int .i64 0) (.int .i64 0) (.slice none 0 0) (.int .i64 0) (.int .i64 0)
theorem inso_cells {w : World} {b : Nat} {v0 v1 v2 v3 v4 v5 v6 v7 : Value} (h : w.heap[b]? = some (inso v0 v1 v2 v3 v4 v5 v6 v7)) : w.cell? ⟨b, 0, none⟩ = some v0 ∧ w.cell? ⟨b, 1, none⟩ = some v1 ∧ w.cell? ⟨b, 2, none⟩ = some v2 ∧ w.cell? ⟨b, 3, none⟩ = some v3 ∧ w.cell? ⟨b, 4, none⟩ = some v4 ∧ w.cell? ⟨b, 5, none⟩ = some v5 ∧ w.cell? ⟨b, 6, none⟩ = some v6 ∧ w.cell? ⟨b, 7, none⟩ = some v7 ∧ b < w.heap.size ∧ ∀ n, w.frozen? ⟨b, n, none⟩ = false := by
  refine ⟨?_, ?_, ?_, ?_, ?_, ?_, ?_, ?_, (Array.getElem?_eq_some_iff.1 h).1, fun n => frozen_of_row w b n _ _ h⟩
  all_goals simp [World.cell?, h, inso]
theorem inso_set0 {w : World} {b : Nat} {v0 v1 v2 v3 v4 v5 v6 v7 : Value} (h : w.heap[b]? = some (inso v0 v1 v2 v3 v4 v5 v6 v7)) (u : Value) : (w.setCell ⟨b, 0, none⟩ u).heap[b]? = some (inso u v1 v2 v3 v4 v5 v6 v7) := by
  rw [heap_setCell_same w b 0 _ _ u h]; rfl
theorem inso_set1 {w : World} {b : Nat} {v0 v1 v2 v3 v4 v5 v6 v7 : Value} (h : w.heap[b]? = some (inso v0 v1 v2 v3 v4 v5 v6 v7)) (u : Value) : (w.setCell ⟨b, 1, none⟩ u).heap[b]? = some (inso v0 u v2 v3 v4 v5 v6 v7) := by
  rw [heap_setCell_same w b 1 _ _ u h]; rfl
theorem inso_set2 {w : World} {b : Nat} {v0 v1 v2 v3 v4 v5 v6 v7 : Value} (h : w.heap[b]? = some (inso v0 v1 v2 v3 v4 v5 v6 v7)) (u : Value) : (w.setCell ⟨b, 2, none⟩ u).heap[b]? = some (inso v0 v1 u v3 v4 v5 v6 v7) := by
  rw [heap_setCell_same w b 2 _ _ u h]; rfl
theorem inso_set3 {w : World} {b : Nat} {v0 v1 v2 v3 v4 v5 v6 v7 : Value} (h : w.heap[b]? = some (inso v0 v1 v2 v3 v4 v5 v6 v7)) (u : Value) : (w.setCell ⟨b, 3, none⟩ u).heap[b]? = some (inso v0 v1 v2 u v4 v5 v6 v7) := by
  rw [heap_setCell_same w b 3 _ _ u h]; rfl
theorem inso_set4 {w : World} {b : Nat} {v0 v1 v2 v3 v4 v5 v6 v7 : Value} (h : w.heap[b]? = some (inso v0 v1 v2 v3 v4 v5 v6 v7)) (u : Value) : (w.setCell ⟨b, 4, none⟩ u).heap[b]? = some (inso v0 v1 v2 v3 u v5 v6 v7) := by
  rw [heap_setCell_same w b 4 _ _ u h]; rfl
theorem inso_set5 {w : World} {b : Nat} {v0 v1 v2 v3 v4 v5 v6 v7 : Value} (h : w.heap[b]? = some (inso v0 v1 v2 v3 v4 v5 v6 v7)) (u : Value) : (w.setCell ⟨b, 5, none⟩ u).heap[b]? = some (inso v0 v1 v2 v3 v4 u v6 v7) := by
  rw [heap_setCell_same w b 5 _ _ u h]; rfl
theorem inso_set6 {w : World} {b : Nat} {v0 v1 v2 v3 v4 v5 v6 v7 : Value} (h : w.heap[b]? = some (inso v0 v1 v2 v3 v4 v5 v6 v7)) (u : Value) : (w.setCell ⟨b, 6, none⟩ u).heap[b]? = some (inso v0 v1 v2 v3 v4 v5 u v7) := by
  rw [heap_setCell_same w b 6 _ _ u h]; rfl
theorem inso_set7 {w : World} {b : Nat} {v0 v1 v2 v3 v4 v5 v6 v7 : Value} (h : w.heap[b]? = some (inso v0 v1 v2 v3 v4 v5 v6 v7)) (u : Value) : (w.setCell ⟨b, 7, none⟩ u).heap[b]? = some (inso v0 v1 v2 v3 v4 v5 v6 u) := by
  rw [heap_setCell_same w b 7 _ _ u h]; rfl
theorem inso_all {w : World} {b : Nat} {v0 v1 v2 v3 v4 v5 v6 v7 : Value} (h : w.heap[b]? = some (inso v0 v1 v2 v3 v4 v5 v6 v7)) (u0 u1 u2 u3 u4 u5 u6 u7 : Value) : ((((((((w.setCell ⟨b, 0, none⟩ u0).setCell ⟨b, 1, none⟩ u1).setCell ⟨b, 2, none⟩ u2).setCell ⟨b, 3, none⟩ u3).setCell ⟨b, 4, none⟩ u4).setCell ⟨b, 5, none⟩ u5).setCell ⟨b, 6, none⟩ u6).setCell ⟨b, 7, none⟩ u7).heap[b]? = some (inso u0 u1 u2 u3 u4 u5 u6 u7) ∧ Kept (ne' b) w ((((((((w.setCell ⟨b, 0, none⟩ u0).setCell ⟨b, 1, none⟩ u1).setCell ⟨b, 2, none⟩ u2).setCell ⟨b, 3, none⟩ u3).setCell ⟨b, 4, none⟩ u4).setCell ⟨b, 5, none⟩ u5).setCell ⟨b, 6, none⟩ u6).setCell ⟨b, 7, none⟩ u7) := by
  have hk : ∀ (w : World) (i : Nat) (u : Value), Kept (ne' b) w (w.setCell ⟨b, i, none⟩ u) := fun w i u => Kept.setCell _ fun o ho => by simp [ne']
  exact ⟨(inso_set7 (inso_set6 (inso_set5 (inso_set4 (inso_set3 (inso_set2 (inso_set1 (inso_set0 h u0) u1) u2) u3) u4) u5) u6) u7), (((((((hk _ 0 u0).trans (hk _ 1 u1)).trans (hk _ 2 u2)).trans (hk _ 3 u3)).trans (hk _ 4 u4)).trans (hk _ 5 u5)).trans (hk _ 6 u6)).trans (hk _ 7 u7)⟩
section
variable {bt g bf gr bc : Nat} {k : Nat} {R : List Int} {W : World} {Q : Prg}
set_option maxRecDepth 100000 in
theorem running_none (W : World) : Calls Tryz.prog 119 #[.pointer none] W fun e W' => e = .returned (.tuple #[.pointer none, .agg #[.int .i64 0, .int .i64 0, .int .i64 0, .int .i64 0, .int .i64 0, .slice none 0 0, .int .i64 0, .int .i64 0], .bool false]) ∧ Ext W W' := by
  have H := Lib.hid (fun w => Over_nil w)
  go_enter Tryz.func119, Tryz.ntmps119
  go_wp2_with (go_at_call 184; refine (H.out _).mono ?_; rintro e w2 ⟨rfl, hw⟩; rw [hw]; clear hw)
  refine bodyPost_ret (v := .tuple #[.pointer none, .agg #[.int .i64 0, .int .i64 0, .int .i64 0, .int .i64 0, .int .i64 0, .slice none 0 0, .int .i64 0, .int .i64 0], .bool false]) (by simp [results, Tryz.results119, go_sem]) rfl ⟨rfl, Ext.one _ _⟩
set_option maxHeartbeats 4000000 in
set_option maxRecDepth 100000 in
theorem running_th {i : Nat} (h : Th bt g bf gr bc i k R 0 W) (hc : Cod bc Q W) (hi : i < Q.fns.length) (hk : k < Q.fns[i].code.length) {y : Ins} (hy : Q.fns[i].code[k] = y) : Calls Tryz.prog 119 #[.pointer (some ⟨bt, 0, none⟩)] W fun e W' => e = .returned (.tuple #[.pointer (some ⟨bf, 0, none⟩), y.v, .bool true]) ∧ Ext W W' := by
  obtain ⟨W1, hW1⟩ : ∃ W1, W1 = W.alloc zins := ⟨_, rfl⟩
  have hx : Ext W W1 := by rw [hW1]; exact Ext.one _ _
  have hb : W1.heap[W.heap.size]? = some zins := by rw [hW1]; exact World.alloc_heap_new _ _
  have h' := h.ext hx
  have HO := Lib.hid (Over_th h')
  obtain ⟨t0, t1, t2, tl, s0, sl, f0, f1, f2, fl⟩ := h'.cells
  have HX := Lib.hid hx
  have HB := Lib.hid hb
  have HW := Lib.hid hW1
  have HT := Lib.hid h'
  have HC := Lib.hid (hc.ext hx)
  have HI := Lib.hid hi
  have HK := Lib.hid hk
  have HY := Lib.hid hy
  clear hx hb hW1 h h' hc hy
  go_enter Tryz.func119, Tryz.ntmps119
  go_upto_region 1 with (fail)
  change Code.wp _ _ _ _ (W.alloc zins)
  rw [← HW.out]
  go_wp2_with (go_at_call 184; refine HO.out.mono ?_; rintro e w2 ⟨rfl, hw⟩; rw [hw]; clear hw)
  go_quiet (fail)
  clear t0 t1 t2 tl s0 sl f0 f1 f2 fl
  go_wp2_with fail
  obtain ⟨W2, hW2⟩ : ∃ W2 : World, W2 = { (W1.drewN nq) with drawn := (W1.drewN nq).drawn + 1 } := ⟨_, rfl⟩
  refine wp_region_still_tail 23 (by kernel_rfl) (by kernel_rfl) ?_
  simp only [List.take_succ_cons, List.take_zero, List.drop_succ_cons, List.drop_zero]
  rw [← hW2]
  have hx2 : Ext W1 W2 := by rw [hW2]; exact ⟨rfl, rfl, rfl, Nat.le_refl _, fun _ _ h _ => h⟩
  clear hW2
  have hb := (hx2.kept (fun _ _ => true)).same _ _ HB.out rfl
  obtain ⟨bm, h1, _⟩ := (HC.out.ext hx2).ex
  obtain ⟨x3, _, xl⟩ := codo_cells h1
  obtain ⟨gF, oF, e1, hl1, hfi, _, _, _, c3⟩ := Prg.fn_at (HC.out.ext hx2).pin HI.out
  obtain ⟨gC, oC, e2, hl2, _, d0, d1, d2, d3, d4, d5, d6, d7⟩ := Fn.ins_at hfi HK.out
  rw [HY.out] at d0 d1 d2 d3 d4 d5 d6 d7
  obtain ⟨t0, t1, t2, tl, s0, sl, f0, f1, f2, fl⟩ := (HT.out.ext hx2).cells
  obtain ⟨z0, z1, z2, z3, z4, z5, z6, z7, zl, zf⟩ := inso_cells hb
  have q0 : (i : Int) < (Q.fns.length : Int) := by have := HI.out; omega
  have q1 : (k : Int) < (Q.fns[i].code.length : Int) := by have := HK.out; omega
  have HB2 := Lib.hid hb
  have HX2 := Lib.hid (HX.out.trans hx2)
  clear hx2 hb h1 hfi
  generalize Q.fns[i] = F at *
  rw [e1] at x3
  rw [e2] at c3
  clear e1 e2
  repeat still_step
  refine wpStill_nil ?_
  change wpList _ _ _ _ _ W2
  go_wp2_with fail
  obtain ⟨p1, p2⟩ := inso_all HB2.out (.int .i64 y.op) (.int .i64 y.a) (.int .i64 y.b) (.int .i64 y.c) (.int .i64 y.n) (.slice y.lA y.l.length y.lC) (.int .i64 y.site) (.int .i64 y.line)
  have HF := Lib.hid (ext_ne HX2.out p2 (Nat.le_refl _))
  clear z0 z1 z2 z3 z4 z5 z6 z7 zl zf
  obtain ⟨z0, z1, z2, z3, z4, z5, z6, z7, zl, zf⟩ := inso_cells p1
  refine bodyPost_ret (v := .tuple #[.pointer (some ⟨bf, 0, none⟩), y.v, .bool true]) (by simp [results, Tryz.results119, go_sem, Ins.v, z0, z1, z2, z3, z4, z5, z6, z7]) rfl ⟨rfl, HF.out⟩
end
end Go.Proofs.YtfljmdpigckpkaaGreatDoor

namespace Go.Proofs.YtfljmdpigckpkaaGreatDoor
open Go.RowKit Go.Shelf
attribute [local go_sem] Oper.semAt_some
/-- What a step is given and answers, while it is done. -/
def dgo (bt bf bh : Nat) (y : Ins) (task it next err : Int) : Obj := .cells #[.pointer (some ⟨bt, 0, none⟩), .pointer (some ⟨bf, 0, none⟩), .int .i64 y.op, .int .i64 y.a, .int .i64 y.b, .int .i64 y.c, .int .i64 y.n, .slice y.lA y.l.length y.lC, .int .i64 y.site, .int .i64 y.line, .pointer (some ⟨bh, 0, none⟩), .int .i64 task, .int .i64 it, .int .i64 next, .int .i64 0, .int .i64 0, .int .i64 0, .int .i64 0, .int .i64 0, .slice none 0 0, .int .i64 err] 227 (0, 0)
theorem dgo_cells {w : World} {b bt bf bh : Nat} {y : Ins} {task it next err : Int} (h : w.heap[b]? = some (dgo bt bf bh y task it next err)) : w.cell? ⟨b, 0, none⟩ = some (.pointer (some ⟨bt, 0, none⟩)) ∧ w.cell? ⟨b, 1, none⟩ = some (.pointer (some ⟨bf, 0, none⟩)) ∧ w.cell? ⟨b, 2, none⟩ = some (.int .i64 y.op) ∧ w.cell? ⟨b, 3, none⟩ = some (.int .i64 y.a) ∧ w.cell? ⟨b, 4, none⟩ = some (.int .i64 y.b) ∧ w.cell? ⟨b, 5, none⟩ = some (.int .i64 y.c) ∧ w.cell? ⟨b, 6, none⟩ = some (.int .i64 y.n) ∧ w.cell? ⟨b, 8, none⟩ = some (.int .i64 y.site) ∧ w.cell? ⟨b, 10, none⟩ = some (.pointer (some ⟨bh, 0, none⟩)) ∧ w.cell? ⟨b, 12, none⟩ = some (.int .i64 it) ∧ w.cell? ⟨b, 13, none⟩ = some (.int .i64 next) ∧ w.cell? ⟨b, 14, none⟩ = some (.int .i64 0) ∧ w.cell? ⟨b, 15, none⟩ = some (.int .i64 0) ∧ w.cell? ⟨b, 16, none⟩ = some (.int .i64 0) ∧ w.cell? ⟨b, 17, none⟩ = some (.int .i64 0) ∧ w.cell? ⟨b, 18, none⟩ = some (.int .i64 0) ∧ w.cell? ⟨b, 19, none⟩ = some (.slice none 0 0) ∧ w.cell? ⟨b, 20, none⟩ = some (.int .i64 err) ∧ b < w.heap.size := by
  refine ⟨?_, ?_, ?_, ?_, ?_, ?_, ?_, ?_, ?_, ?_, ?_, ?_, ?_, ?_, ?_, ?_, ?_, ?_, (Array.getElem?_eq_some_iff.1 h).1⟩
  all_goals simp [World.cell?, h, dgo]
section
variable {bd bt g bf gr bc bh : Nat} {fn at' : Int} {R : List Int} {tr : Int} {y : Ins} {task it next err : Int} {W : World}
theorem Th.reg (h : Th bt g bf gr bc fn at' R tr W) {k : Nat} (hk : k < R.length) : W.cell? ⟨gr, k, none⟩ = some (.int .i64 (R.getD k 0)) ∧ gr < W.heap.size := by
  obtain ⟨g', c', e, h1, h2⟩ := own1_cell h.r hk
  obtain rfl : gr = g' := by injection e with e; injection e with e; injection e
  rw [h1]
  simp [iV, List.getD_eq_getElem?_getD, hk, h2]
theorem Th.setReg (h : Th bt g bf gr bc fn at' R tr W) (hb : bt ≠ gr) (hg : g ≠ gr) (hf : bf ≠ gr) {k : Nat} (hk : k < R.length) (n : Int) : Th bt g bf gr bc fn at' (R.set k n) tr (W.setCell ⟨gr, k, none⟩ (.int .i64 n)) ∧ (∀ m, W.frozen? ⟨gr, m, none⟩ = false) ∧ Kept (ne' gr) W (W.setCell ⟨gr, k, none⟩ (.int .i64 n)) := by
  obtain ⟨g', c', e, h1, h2, _, _, _, hkp⟩ := own1_set h.r hk n
  obtain rfl : gr = g' := by injection e with e; injection e with e; injection e
  have kk : Kept (ne' gr) W (W.setCell ⟨gr, k, none⟩ (iV n)) := hkp.mono fun b t _ hp => by simpa [ne'] using hp
  refine ⟨⟨kk.same _ _ h.t (by simp [ne', hb]), kk.same _ _ h.s (by simp [ne', hg]), ?_, ?_⟩, h2, kk⟩
  · rw [List.length_set]
    exact kk.same _ _ h.f (by simp [ne', hf])
  · rw [List.length_set]
    exact h1
set_option maxRecDepth 100000 in
theorem doA_ok (hd : W.heap[bd]? = some (dgo bt bf bh y task it next err)) (h : Th bt g bf gr bc fn at' R tr W) {k : Nat} (hy : y.a = k) (hk : k < R.length) : Calls Tryz.prog 230 #[.pointer (some ⟨bd, 0, none⟩)] W fun e W' => e = .returned (.int .i64 (R.getD k 0)) ∧ ∃ n, W' = W.drewN n := by
  obtain ⟨c0, c1, c2, c3, c4, c5, c6, c8, c10, c12, c13, c14, c15, c16, c17, c18, c19, c20, cl⟩ := dgo_cells hd
  obtain ⟨t0, t1, t2, tl, s0, sl, f0, f1, f2, fl⟩ := h.cells
  obtain ⟨r0, rl⟩ := h.reg hk
  rw [hy] at c3
  have z0 : (k : Int) < (R.length : Int) := by omega
  generalize R.getD k 0 = v at r0
  clear hd h hy hk
  go_enter Tryz.func230, Tryz.ntmps230
  go_wp2_with fail
  go_quiet (fail)
  go_wp2_with fail
  go_ret
  exact ⟨rfl, _, rfl⟩
set_option maxRecDepth 100000 in
theorem doB_ok (hd : W.heap[bd]? = some (dgo bt bf bh y task it next err)) (h : Th bt g bf gr bc fn at' R tr W) {k : Nat} (hy : y.b = k) (hk : k < R.length) : Calls Tryz.prog 214 #[.pointer (some ⟨bd, 0, none⟩)] W fun e W' => e = .returned (.int .i64 (R.getD k 0)) ∧ ∃ n, W' = W.drewN n := by
  obtain ⟨c0, c1, c2, c3, c4, c5, c6, c8, c10, c12, c13, c14, c15, c16, c17, c18, c19, c20, cl⟩ := dgo_cells hd
  obtain ⟨t0, t1, t2, tl, s0, sl, f0, f1, f2, fl⟩ := h.cells
  obtain ⟨r0, rl⟩ := h.reg hk
  rw [hy] at c4
  have z0 : (k : Int) < (R.length : Int) := by omega
  generalize R.getD k 0 = v at r0
  clear hd h hy hk
  go_enter Tryz.func214, Tryz.ntmps214
  go_wp2_with fail
  go_quiet (fail)
  go_wp2_with fail
  go_ret
  exact ⟨rfl, _, rfl⟩
set_option maxRecDepth 100000 in
theorem doC_ok (hd : W.heap[bd]? = some (dgo bt bf bh y task it next err)) (h : Th bt g bf gr bc fn at' R tr W) {k : Nat} (hy : y.c = k) (hk : k < R.length) : Calls Tryz.prog 216 #[.pointer (some ⟨bd, 0, none⟩)] W fun e W' => e = .returned (.int .i64 (R.getD k 0)) ∧ ∃ n, W' = W.drewN n := by
  obtain ⟨c0, c1, c2, c3, c4, c5, c6, c8, c10, c12, c13, c14, c15, c16, c17, c18, c19, c20, cl⟩ := dgo_cells hd
  obtain ⟨t0, t1, t2, tl, s0, sl, f0, f1, f2, fl⟩ := h.cells
  obtain ⟨r0, rl⟩ := h.reg hk
  rw [hy] at c5
  have z0 : (k : Int) < (R.length : Int) := by omega
  generalize R.getD k 0 = v at r0
  clear hd h hy hk
  go_enter Tryz.func216, Tryz.ntmps216
  go_wp2_with fail
  go_quiet (fail)
  go_wp2_with fail
  go_ret
  exact ⟨rfl, _, rfl⟩
set_option maxHeartbeats 2000000 in
set_option maxRecDepth 100000 in
theorem doSet_ok (hd : W.heap[bd]? = some (dgo bt bf bh y task it next err)) (h : Th bt g bf gr bc fn at' R tr W) (hb : bt ≠ gr) (hg : g ≠ gr) (hf : bf ≠ gr) {k : Nat} (hy : y.a = k) (hk : k < R.length) (n : Int) : Calls Tryz.prog 212 #[.pointer (some ⟨bd, 0, none⟩), .int .i64 n] W fun e W' => e = .returned (.tuple #[]) ∧ Th bt g bf gr bc fn at' (R.set k n) tr W' ∧ Kept (ne' gr) W W' := by
  have hx : Ext W W.drew := Ext.drew _
  obtain ⟨W1, hW1⟩ : ∃ W1, W1 = W.drew := ⟨_, rfl⟩
  rw [← hW1] at hx
  have hd1 := (hx.kept (fun _ _ => true)).same _ _ hd rfl
  have h1 := h.ext hx
  obtain ⟨c0, c1, c2, c3, c4, c5, c6, c8, c10, c12, c13, c14, c15, c16, c17, c18, c19, c20, cl⟩ := dgo_cells hd1
  obtain ⟨t0, t1, t2, tl, s0, sl, f0, f1, f2, fl⟩ := h1.cells
  obtain ⟨r0, rl⟩ := h1.reg hk
  obtain ⟨p1, p2, p3⟩ := h1.setReg hb hg hf hk n
  rw [hy] at c3
  have z0 : (k : Int) < (R.length : Int) := by omega
  generalize R.getD k 0 = v at r0
  have HP := Lib.hid (And.intro p1 ((hx.kept _).trans p3))
  have HW := Lib.hid hW1
  clear hd h hy hk hd1 h1 p1 p3 hx hW1
  go_enter Tryz.func212, Tryz.ntmps212
  refine wp_region_still_tail 14 (by kernel_rfl) (by kernel_rfl) ?_
  simp only [List.take_succ_cons, List.take_zero, List.drop_succ_cons, List.drop_zero]
  change wpStill _ _ W.drew _ _ _
  rw [← HW.out]
  repeat still_step
  refine wpStill_nil ?_
  change wpList _ _ _ _ _ W.drew
  rw [← HW.out]
  go_wp2_with fail
  go_end0
  exact ⟨rfl, HP.out.1, HP.out.2⟩
end
/-- A heap without objects. -/
def heapo : Obj := .cells #[.slice none 0 0, .map none] 230 (0, 0)
theorem heapo_cells {w : World} {b : Nat} (h : w.heap[b]? = some heapo) : w.cell? ⟨b, 0, none⟩ = some (.slice none 0 0) ∧ w.cell? ⟨b, 1, none⟩ = some (.map none) ∧ b < w.heap.size := by
  refine ⟨?_, ?_, (Array.getElem?_eq_some_iff.1 h).1⟩
  all_goals simp [World.cell?, h, heapo]
@[go_sem] theorem eqh_sn (b : Nat) (w : World) : (binOp .eql 65 (.pointer (some ⟨b, 0, none⟩)) (.pointer none)).run Tryz.prog w = .ok (.bool false) w := by kernel_rfl
@[go_sem] theorem eqh_nn (w : World) : (binOp .eql 65 (.pointer none) (.pointer none)).run Tryz.prog w = .ok (.bool true) w := by kernel_rfl
set_option maxRecDepth 100000 in
theorem find_none {b : Nat} {W : World} (h : W.heap[b]? = some heapo) (id : Int) : Calls Tryz.prog 324 #[.pointer (some ⟨b, 0, none⟩), .int .i64 id] W fun e W' => e = .returned (.tuple #[.pointer none, .int .i64 13]) ∧ W' = W := by
  obtain ⟨h0, h1, hl⟩ := heapo_cells h
  clear h
  by_cases z0 : id < 1
  · go_enter Tryz.func324, Tryz.ntmps324
    go_wp2_with fail
    go_ret2
    exact ⟨rfl, rfl⟩
  · have z1 : id > 0 := by omega
    go_enter Tryz.func324, Tryz.ntmps324
    go_wp2_with fail
    go_ret2
    exact ⟨rfl, rfl⟩
set_option maxRecDepth 100000 in
theorem Is_none {b : Nat} {W : World} (h : W.heap[b]? = some heapo) (id k : Int) : Calls Tryz.prog 292 #[.pointer (some ⟨b, 0, none⟩), .int .i64 id, .int .i64 k] W fun e W' => e = .returned (.bool false) ∧ W' = W := by
  have H := Lib.hid (find_none h id)
  clear h
  go_enter Tryz.func292, Tryz.ntmps292
  go_wp2_with (go_at_call 324; refine H.out.mono ?_; rintro e w2 ⟨rfl, hw⟩; rw [hw]; clear hw)
  go_ret
  exact ⟨rfl, rfl⟩
/-- A trap, as it is thrown. -/
def trapV (t : Int) : Value := .iface 116 (.int .i64 t)
set_option maxRecDepth 100000 in
theorem must_no (t : Int) (W : World) : Calls Tryz.prog 291 #[.bool false, .int .i64 t] W fun e W' => e = .panicked [{ v := trapV t, recovered := false }] ∧ W' = W := by
  go_enter Tryz.func291, Tryz.ntmps291
  go_wp2_with fail
  exact ⟨rfl, rfl, rfl⟩
section
variable {bd bt g bf gr bc bh : Nat} {fn at' : Int} {R : List Int} {tr : Int} {y : Ins} {task it next err : Int} {W : World}
set_option maxRecDepth 100000 in
theorem cell_no (hd : W.heap[bd]? = some (dgo bt bf bh y task it next err)) (hh : W.heap[bh]? = some heapo) (id : Int) : Calls Tryz.prog 227 #[.pointer (some ⟨bd, 0, none⟩), .int .i64 id] W fun e W' => e = .panicked [{ v := trapV 1, recovered := false }] ∧ Ext W W' := by
  obtain ⟨W1, hW1⟩ : ∃ W1, W1 = W.alloc (.cells #[.int .i64 0, .int .i64 0, .int .i64 0] 126) := ⟨_, rfl⟩
  have hx : Ext W W1 := by rw [hW1]; exact Ext.one _ _
  have hd1 := (hx.kept (fun _ _ => true)).same _ _ hd rfl
  have hh1 := (hx.kept (fun _ _ => true)).same _ _ hh rfl
  obtain ⟨c0, c1, c2, c3, c4, c5, c6, c8, c10, c12, c13, c14, c15, c16, c17, c18, c19, c20, cl⟩ := dgo_cells hd1
  have HI := Lib.hid (Is_none hh1 id 3)
  have HM := Lib.hid (must_no 1 W1)
  have HW := Lib.hid hW1
  have HX := Lib.hid hx
  clear hd hh hd1 hh1 hW1 hx
  go_enter Tryz.func227, Tryz.ntmps227
  go_upto_region 1 with (fail)
  change Code.wp _ _ _ _ (W.alloc (.cells #[.int .i64 0, .int .i64 0, .int .i64 0] 126))
  rw [← HW.out]
  go_wp2_with (first
    | (go_at_call 292; refine HI.out.mono ?_; rintro e w2 ⟨rfl, hw⟩; rw [hw]; clear hw)
    | (go_at_call 291; refine HM.out.mono ?_; rintro e w2 ⟨rfl, hw⟩; rw [hw]; clear hw))
  exact ⟨rfl, rfl, HX.out⟩
end
end Go.Proofs.YtfljmdpigckpkaaGreatDoor
