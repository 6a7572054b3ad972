/- The program's New: the code of a program that may be. -/
import Derived.Test.YtfljmdpigckpkaaGreatDoorSvI
import Derived.Test.YtfljmdpigckpkaaGreatDoorSvO
namespace Go.Proofs.YtfljmdpigckpkaaGreatDoor
open Go.RowKit Go.Shelf
attribute [local go_sem] Oper.semAt_some
theorem GoodP.small {P : Prg} (h : GoodP P) (hL : NoL P) : SmallP P := by
  have p := h.may.parts
  have hs := h.may.sites.2
  refine ⟨by have := p.n0; omega, by have := p.n1; omega, by have := p.n2; omega, by have := p.n5; omega, by have := p.n3; omega, by have := p.n4; omega, by omega, fun i y hy => ?_, fun i f hf => ?_⟩
  · obtain ⟨hi, rfl⟩ := List.getElem?_eq_some_iff.1 hy
    have := p.cls i hi
    omega
  · obtain ⟨hi, rfl⟩ := List.getElem?_eq_some_iff.1 hf
    have := (h.may.fns i hi).code
    refine ⟨by omega, fun k x hx => ?_⟩
    obtain ⟨hk, rfl⟩ := List.getElem?_eq_some_iff.1 hx
    rw [hL i hi k hk]
    simp
def codo (Q : Prg) (bm : Nat) : Obj := .cells #[.slice Q.loopsA Q.loops.length Q.loopsC, .slice Q.clssA Q.clss.length Q.clssC, .slice Q.glbsA Q.glbs.length Q.glbsC, .slice Q.fnsA Q.fns.length Q.fnsC, .slice Q.cmpsA Q.cmps.length Q.cmpsC, .slice Q.evtsA Q.evts.length Q.evtsC, .int .i64 Q.main, .slice Q.sitsA Q.sits.length Q.sitsC, .map (some bm)] 253 (0, 0)
/-- A code in memory. -/
structure Cod (bc : Nat) (Q : Prg) (w : World) : Prop where
  ex : ∃ bm, w.heap[bc]? = some (codo Q bm) ∧ w.heap[bm]? = some (dobj (dk 23))
  pin : Q.In w
theorem Cod.ext {bc : Nat} {Q : Prg} {w w' : World} (h : Cod bc Q w) (k : Ext w w') : Cod bc Q w' := by
  obtain ⟨bm, h1, h2⟩ := h.ex
  have kk := k.kept (fun _ _ => true)
  exact ⟨⟨bm, kk.same _ _ h1 rfl, kk.same _ _ h2 rfl⟩, h.pin.kept k⟩
set_option maxHeartbeats 4000000 in
set_option maxRecDepth 100000 in
theorem New_ok {P : Prg} {W : World} (hT : Tab W) (h : P.In W) (hg : GoodP P) (hL : NoL P) : Calls Tryz.prog 86 #[P.v] W fun e W' => ∃ bc Q, e = .returned (.tuple #[.pointer (some ⟨bc, 0, none⟩), .int .i64 0]) ∧ Cod bc Q W' ∧ PrgLike P Q ∧ Ext W W' ∧ W.heap.size ≤ bc := by
  have HM := Lib.hid (fun (w : World) (k : Ext W w) => mayBe_ok (hT.ext k) (h.kept k) hg hL)
  have HC := Lib.hid (fun (w : World) (k : Ext W w) => copied_ok (h.kept k) (hg.small hL))
  unfold Prg.v at HM HC ⊢
  obtain ⟨W1, hW1⟩ : ∃ W1, W1 = W.alloc P.o := ⟨_, rfl⟩
  have hE1 : Ext W W1 := by rw [hW1]; exact Ext.one _ _
  have hb1 : W1.heap[W.heap.size]? = some P.o := by rw [hW1]; exact World.alloc_heap_new _ _
  obtain ⟨x0, x1, x2, x3, x4, x5, x6, x7, xl⟩ := Prg.o_cells hb1
  have E1 := Lib.hid hE1
  have HB1 := Lib.hid hb1
  have HW := Lib.hid hW1
  clear hE1 hb1 hW1 h hg hT hL
  go_enter Tryz.func86, Tryz.ntmps86
  go_upto_region 1 with (fail)
  change Code.wp _ _ _ _ (W.alloc P.o)
  rw [← HW.out]
  go_wp2_with (first
    | (go_at_call 137; refine (deeds_ok _).mono ?_; rintro e w4 ⟨rfl, hw4⟩; have HW4 := Lib.hid hw4; clear hw4)
    | (go_at_call 136; refine (HC.out _ E2.out).mono ?_; rintro e w3 ⟨Q, rfl, hlk, hq, hx3⟩; have HLK := Lib.hid hlk; have HQ := Lib.hid hq; have E3 := Lib.hid (E2.out.trans hx3); clear hx3 hq hlk)
    | (go_at_call 135; refine (HM.out _ E1.out).mono ?_; rintro e w2 ⟨rfl, hx2⟩; have E2 := Lib.hid (E1.out.trans hx2); have HB2 := Lib.hid ((hx2.kept (fun _ _ => true)).same _ _ HB1.out rfl); obtain ⟨q0, q1, q2, q3, q4, q5, q6, q7, ql⟩ := Prg.o_cells HB2.out; clear hx2))
  have hx4 : Ext w3 w4 := by rw [HW4.out]; exact Ext.one _ _
  have hm4 : w4.heap[w3.heap.size]? = some (dobj (dk 23)) := by rw [HW4.out]; exact World.alloc_heap_new _ _
  have hx5 : Ext w4 (w4.alloc (codo Q w3.heap.size)) := Ext.one _ _
  have hc5 : (w4.alloc (codo Q w3.heap.size)).heap[w4.heap.size]? = some (codo Q w3.heap.size) := World.alloc_heap_new _ _
  go_ret2
  refine ⟨w4.heap.size, Q, rfl, ⟨⟨w3.heap.size, hc5, (hx5.kept (fun _ _ => true)).same _ _ hm4 rfl⟩, (HQ.out.kept hx4).kept hx5⟩, HLK.out, (E3.out.trans hx4).trans hx5, Nat.le_trans E3.out.size hx4.size⟩
end Go.Proofs.YtfljmdpigckpkaaGreatDoor
