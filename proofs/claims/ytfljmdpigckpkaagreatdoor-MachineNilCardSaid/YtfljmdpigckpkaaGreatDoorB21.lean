/- Queue.Due, Queue.Next; Queue.Next; slices.Clone of entries; Queue.All; The document's queue: items in the order in which they were put; which place a task's item has; what comes first; What comes first of the document's queue. -/
import Derived.Test.YtfljmdpigckpkaaGreatDoorB20
import Derived.Deep.DeepCutAuto
import Derived.Deep.RegionHeld3
import Derived.StillTailTactics
import Derived.BigRegion
import Derived.Deep.RegionLaw
import Derived.Deep.AppendLies
namespace Go.Proofs.YtfljmdpigckpkaaGreatDoor.QQ
open Go.RowKit Go.Shelf
attribute [local go_sem] Oper.semAt_some

def itV (t : Int) (f : Bool) (d : Int) : Value := .agg #[.int .i64 t, .bool f, .int .i64 d]
def Ent.it (x : Ent) : Value := itV x.task x.front x.due
/-- What Due and Take answer. -/
def dueV : Option Ent → Value
  | none => .tuple #[itV 0 false 0, .bool false]
  | some x => .tuple #[x.it, .bool true]
theorem cell_put {W : World} {D : Nat} {o : Obj} {a : Addr} {v : Value} (h : W.cell? a = some v) (hn : ∀ o, W.heap[D]? = some o → tag o = none) : (W.putObj D o).cell? a = some v := by
  refine (World.cell?_of_block ?_).trans h
  refine World.putObj_heap_other fun e => ?_
  have hlt := World.block_lt_of_cell? W a h
  have h1 := hn _ (by rw [← e]; exact Array.getElem?_eq_getElem hlt)
  unfold World.cell? at h
  rw [Array.getElem?_eq_getElem hlt] at h
  cases hc : W.heap[a.block] with
  | cells cur t fr => rw [hc] at h1; cases h1
  | _ => simp [hc] at h
theorem putOld {W : World} {B D : Nat} {o : Obj} {W0 : World} (h : Kept (pOld B) W0 W) (hD : B ≤ D) : Kept (pOld B) W0 (W.putObj D o) := h.trans (Kept.putObj fun o _ => by simp [pOld]; omega)
theorem setOld {W : World} {B : Nat} {a : Addr} {v : Value} {W0 : World} (h : Kept (pOld B) W0 W) (hD : B ≤ a.block) : Kept (pOld B) W0 (W.setCell a v) := h.trans (Kept.setCell v fun o _ => by simp [pOld]; omega)
theorem extOld {W0 W W' : World} {B : Nat} (h : Kept (pOld B) W0 W) (k : Ext W W') : Kept (pOld B) W0 W' := h.trans (k.kept _)
theorem rOld {W0 W W' : World} {B B' : Nat} (h : Kept (pOld B) W0 W) (k : Kept (pR B') W W') (hB : B ≤ B') : Kept (pOld B) W0 W' := h.trans (k.mono fun b t _ hb => by simp [pOld, pR] at *; omega)
theorem pR_low {B b : Nat} (h : b < B) (t : Option TypeId) : pR B b t = true := by simp [pR, h]

theorem set3 {W : World} {b : Nat} {a0 a1 a2 : Value} {t : TypeId} (h : W.heap[b]? = some (.cells #[a0, a1, a2] t (0, 0))) (v0 v1 v2 : Value) :
    (((W.setCell ⟨b, 0, none⟩ v0).setCell ⟨b, 1, none⟩ v1).setCell ⟨b, 2, none⟩ v2).heap[b]? = some (.cells #[v0, v1, v2] t (0, 0)) ∧ ∀ p : PP, p b (some t) = false → Kept p W (((W.setCell ⟨b, 0, none⟩ v0).setCell ⟨b, 1, none⟩ v1).setCell ⟨b, 2, none⟩ v2) := by
  have h1 := heap_setCell_same W b 0 _ _ v0 h
  have h2 := heap_setCell_same _ b 1 _ _ v1 h1
  have h3 := heap_setCell_same _ b 2 _ _ v2 h2
  refine ⟨by rw [h3]; simp, fun p hp => ?_⟩
  exact ((Kept.setCell v0 fun o ho => by rw [h] at ho; cases ho; exact hp).trans (Kept.setCell v1 fun o ho => by rw [h1] at ho; cases ho; exact hp)).trans (Kept.setCell v2 fun o ho => by rw [h2] at ho; cases ho; exact hp)
theorem set1 {W : World} {b : Nat} {a0 : Value} {t : TypeId} (h : W.heap[b]? = some (.cells #[a0] t (0, 0))) (v0 : Value) :
    (W.setCell ⟨b, 0, none⟩ v0).heap[b]? = some (.cells #[v0] t (0, 0)) ∧ ∀ p : PP, p b (some t) = false → Kept p W (W.setCell ⟨b, 0, none⟩ v0) := by
  have h1 := heap_setCell_same W b 0 _ _ v0 h
  exact ⟨by rw [h1]; simp, fun p hp => Kept.setCell v0 fun o ho => by rw [h] at ho; cases ho; exact hp⟩
/-- An item, and whether there is one, in their boxes. -/
def Res (W : World) (t : Int) (f : Bool) (d : Int) (b : Bool) (W' : World) : Prop :=
  W'.heap[W.heap.size]? = some (.cells #[.int .i64 t, .bool f, .int .i64 d] 102 (0, 0)) ∧ W'.heap[W.heap.size + 1]? = some (.cells #[.bool b] 4 (0, 0))
theorem Res.set {W W' : World} {t d : Int} {f b : Bool} (h : Res W t f d b W') (t' : Int) (f' : Bool) (d' : Int) (b' : Bool) {W2 : World}
    (e : W2 = (((W'.setCell ⟨W.heap.size, 0, none⟩ (.int .i64 t')).setCell ⟨W.heap.size, 1, none⟩ (.bool f')).setCell ⟨W.heap.size, 2, none⟩ (.int .i64 d')).setCell ⟨W.heap.size + 1, 0, none⟩ (.bool b')) :
    Res W t' f' d' b' W2 ∧ ∀ p : PP, p W.heap.size (some 102) = false → p (W.heap.size + 1) (some 4) = false → Kept p W' W2 := by
  obtain ⟨h1, k1⟩ := set3 h.1 (.int .i64 t') (.bool f') (.int .i64 d')
  have h2 := (k1 (fun b t => b != W.heap.size) (by simp)).same _ _ h.2 (by simp)
  obtain ⟨h3, k3⟩ := set1 h2 (.bool b')
  subst e
  exact ⟨⟨(k3 (fun b t => b != W.heap.size + 1) (by simp)).same _ _ h1 (by simp), h3⟩, fun p hp hp2 => (k1 p hp).trans (k3 p hp2)⟩
theorem Res.of {W W' W2 : World} {t d : Int} {f b : Bool} {p : PP} (h : Res W t f d b W') (k : Kept p W' W2) (h1 : p W.heap.size (some 102) = true) (h2 : p (W.heap.size + 1) (some 4) = true) : Res W t f d b W2 := ⟨k.same _ _ h.1 h1, k.same _ _ h.2 h2⟩
theorem Res.cells {W W' : World} {t d : Int} {f b : Bool} (h : Res W t f d b W') : (W'.cell? ⟨W.heap.size, 0, none⟩ = some (.int .i64 t) ∧ W'.cell? ⟨W.heap.size, 1, none⟩ = some (.bool f) ∧ W'.cell? ⟨W.heap.size, 2, none⟩ = some (.int .i64 d) ∧ W'.cell? ⟨W.heap.size + 1, 0, none⟩ = some (.bool b)) ∧
    (∀ n, W'.frozen? ⟨W.heap.size, n, none⟩ = false) ∧ ∀ n, W'.frozen? ⟨W.heap.size + 1, n, none⟩ = false :=
  ⟨⟨by simp [World.cell?, h.1], by simp [World.cell?, h.1], by simp [World.cell?, h.1], by simp [World.cell?, h.2]⟩, fun n => frozen_of_row W' _ n _ _ h.1, fun n => frozen_of_row W' _ n _ _ h.2⟩
theorem Res.ne {W W' : World} {t d : Int} {f b : Bool} (h : Res W t f d b W') {bx : Nat} {x : Ent} (hb : W'.heap[bx]? = some (ento x)) : bx ≠ W.heap.size ∧ bx ≠ W.heap.size + 1 :=
  ⟨fun e => by have := h.1; rw [← e, hb] at this; simp [ento] at this, fun e => by have := h.2; rw [← e, hb] at this; simp [ento] at this⟩

section
variable {l : List Ent} {qv : Value} {now : Int}
set_option maxHeartbeats 1000000 in
set_option maxRecDepth 100000 in
theorem due_ok (q : Option Addr) (W : World) : Calls Tryz.prog 161 #[.pointer q, .int .i64 now] W fun e W' =>
    e = .returned (.func (.func 263) #[] #[.pointer (some ⟨W.heap.size, 0, none⟩), .pointer (some ⟨W.heap.size + 1, 0, none⟩)]) ∧ W' = (W.alloc (.cells #[.pointer q] 171 (0, 0))).alloc (.cells #[.int .i64 now] 2 (0, 0)) := by
  have hmf : ∀ (fn : Go.Fn) (first cap : Array Value) (w : World), (Instr.makeFunc fn first cap).run Tryz.prog w = .ok (.func fn first cap) w := fun _ _ _ _ => rfl
  go_enter Tryz.func161, Tryz.ntmps161
  go_wp2
  go_ret
  exact ⟨rfl, rfl⟩
theorem eg55 (args : Array Value) (w : World) : (callFunc 263 args).run Tryz.prog w = .ok (.enter 263 args) w := by kernel_rfl
theorem EV.ptr {W : World} (h : EV qv l W) : ∃ q, qv = .pointer q := by
  rcases h with ⟨rfl, _⟩ | ⟨_, _, _, _, rfl, _⟩
  · exact ⟨_, rfl⟩
  · exact ⟨_, rfl⟩

set_option maxHeartbeats 1000000 in
set_option maxRecDepth 100000 in
theorem Due_ok (ht : Tri l) (hh : Heap eLt (nth l) l.length) (hsm : l.length ≤ 900000) (W : World) (hE : EV qv l W) :
    Calls Tryz.prog 101 #[qv, .int .i64 now] W fun e W' => e = .returned (dueV ((srt l).takeWhile (dueAt now)).head?) ∧ Ext W W' := by
  obtain ⟨q, rfl⟩ := hE.ptr
  refine (callsIn_wide (n := 3)).1 (callsIn_of_wp_marks (F := Fence.wide) Tryz.func101 rfl trivial ?_ rfl)
  simp only [Tryz.ntmps101, List.size_toArray, List.length_cons, List.length_nil, Nat.reduceAdd, Nat.reduceSub, Array.replicate_succ, Array.replicate_zero, List.push_toArray, List.append_toArray, List.nil_append, List.cons_append]
  obtain ⟨W1, hW1⟩ : ∃ W1, W1 = (W.alloc (.cells #[.int .i64 0, .bool false, .int .i64 0] 102 (0, 0))).alloc (.cells #[.bool false] 4 (0, 0)) := ⟨_, rfl⟩
  have hE1 : Ext W W1 := by rw [hW1]; exact Ext.two _ _ _
  have hs1 : W1.heap.size = W.heap.size + 2 := by rw [hW1]; simp
  have hr0 : W1.heap[W.heap.size]? = some (.cells #[.int .i64 0, .bool false, .int .i64 0] 102 (0, 0)) := by rw [hW1]; exact (Below.heap_alloc _ _ _ (by simp)).trans (World.alloc_heap_new _ _)
  have hr1 : W1.heap[W.heap.size + 1]? = some (.cells #[.bool false] 4 (0, 0)) := by rw [hW1]; have := World.alloc_heap_new (W.alloc (.cells #[.int .i64 0, .bool false, .int .i64 0] 102 (0, 0))) (.cells #[.bool false] 4 (0, 0)); rwa [World.size_alloc] at this
  have hEV := hE.ext hE1
  have HW := Lib.hid hW1
  have HE1 := Lib.hid hE1
  have HEV := Lib.hid hEV
  have HR0 := Lib.hid hr0
  have HR1 := Lib.hid hr1
  have HS1 := Lib.hid hs1
  clear hW1 hE1 hr0 hr1 hEV hE hs1
  generalize hQ : bodyPostM Fence.wide 3 Tryz.prog _ _ = Q
  have HQ := Lib.hid hQ
  clear hQ
  gi_wp2
  refine ⟨trivial, ?_⟩
  change CallsIn _ _ _ _ _ ((W.alloc (.cells #[.int .i64 0, .bool false, .int .i64 0] 102 (0, 0))).alloc (.cells #[.bool false] 4 (0, 0))) _
  rw [← HW.out]
  refine callsIn_wide.2 ((due_ok q W1).mono ?_)
  rintro e w2 ⟨rfl, hw2⟩
  have HW2 := Lib.hid hw2
  clear hw2
  have hE2 : Ext W1 w2 := by rw [HW2.out]; exact Ext.two _ _ _
  have hq1 : w2.heap[W1.heap.size]? = some (.cells #[.pointer q] 171 (0, 0)) := by rw [HW2.out]; exact (Below.heap_alloc _ _ _ (by simp)).trans (World.alloc_heap_new _ _)
  have hq2 : w2.heap[W1.heap.size + 1]? = some (.cells #[.int .i64 now] 2 (0, 0)) := by rw [HW2.out]; have := World.alloc_heap_new (W1.alloc (.cells #[.pointer q] 171 (0, 0))) (.cells #[.int .i64 now] 2 (0, 0)); rwa [World.size_alloc] at this
  have hseq := due_seq ht hh hsm w2 (HEV.out.ext hE2) hq1 hq2
  have hs2 : W.heap.size + 2 ≤ w2.heap.size := by have := hE2.size; have := HS1.out; omega
  have hK := Ext.trans HE1.out hE2
  have hres : Res W 0 false 0 false w2 := ⟨(hE2.kept (fun _ _ => true)).same _ _ HR0.out rfl, (hE2.kept (fun _ _ => true)).same _ _ HR1.out rfl⟩
  gi_wp2
  refine range_q (a := ⟨#[.pointer q, .int .i64 now, undef, undef, .pointer (some ⟨W.heap.size, 0, none⟩), .pointer (some ⟨W.heap.size + 1, 0, none⟩), undef, .pointer q, .int .i64 now, .func (.func 263) #[] #[.pointer (some ⟨W1.heap.size, 0, none⟩), .pointer (some ⟨W1.heap.size + 1, 0, none⟩)], undef, undef, undef, undef], []⟩)
    (gf := 263) (lb := #[.pointer (some ⟨W1.heap.size, 0, none⟩), .pointer (some ⟨W1.heap.size + 1, 0, none⟩)]) rfl eg55 hseq (fun _ => rfl)
    (fun pre W' => pre = [] ∧ Kept (pR w2.heap.size) w2 W')
    (fun c pre W' => c = .ret ∧ ∃ x, pre = [x] ∧ Kept (pOld W.heap.size) W W' ∧ Res W x.task x.front x.due true W')
    (fun s X Y h k => ⟨h.1, h.2.trans k⟩)
    (fun c s X Y ⟨h, x, e, h1, h2⟩ k => ⟨h, x, e, rOld h1 k (by omega), h2.of k (pR_low (by omega) _) (pR_low (by omega) _)⟩)
    ⟨rfl, Kept.refl _ _⟩
    (fun x a' W' => ∃ bx, a' = ⟨#[.pointer q, .int .i64 now, undef, undef, .pointer (some ⟨W.heap.size, 0, none⟩), .pointer (some ⟨W.heap.size + 1, 0, none⟩), .pointer (some ⟨bx, 0, none⟩), .pointer q, .int .i64 now, .func (.func 263) #[] #[.pointer (some ⟨W1.heap.size, 0, none⟩), .pointer (some ⟨W1.heap.size + 1, 0, none⟩)], x.val, undef, undef, undef], []⟩ ∧ W'.heap[bx]? = some (ento x))
    (fun x a' X Y ⟨bx, e, h⟩ k => ⟨bx, e, k.same _ _ h (by simp [pR, tag, ento])⟩)
    ?assign ?body ?done ?stop
  case assign =>
    rintro lq pre x W' K hI hpre hK
    have HK := Lib.hid hK
    have HI := Lib.hid hI
    clear hK hI
    unfold Ent.val
    gi_wp2
    exact HK.out _ _ (Kept.alloc _ _ _) ⟨HI.out.1, HI.out.2.trans (Kept.alloc _ _ _)⟩ ⟨_, rfl, World.alloc_heap_new _ _⟩
  case body =>
    rintro lq pre x a' W' hlq hpre ⟨rfl, hI⟩ ⟨bx, rfl, hbx⟩
    obtain ⟨x0, x1, x2, x3⟩ := ento_cells hbx
    have hres' := hres.of hI (pR_low (by omega) _) (pR_low (by omega) _)
    obtain ⟨⟨b0, b1, b2, b3⟩, f0, f1⟩ := hres'.cells
    obtain ⟨hbne, hbne2⟩ := hres'.ne hbx
    have HII := Lib.hid hI
    have HRS := Lib.hid hres'
    clear hbx hI hres hres' hq1 hq2 hseq hpre
    gi_wp2
    obtain ⟨r1, r2⟩ := HRS.out.set x.task x.front x.due true rfl
    refine ⟨r2 _ rfl rfl, rfl, x, rfl, ?_, r1⟩
    exact ((hK.kept _).trans (HII.out.mono fun b t _ hb => by simp [pOld, pR] at *; omega)).trans (r2 _ (by simp [pOld]) (by simp [pOld]))
  case done =>
    rintro W' ⟨hpre, hI⟩ hD
    have hnil : ((srt l).takeWhile (dueAt now)).head? = none := by rw [hpre]; rfl
    have hres' := hres.of hI (pR_low (by omega) _) (pR_low (by omega) _)
    obtain ⟨⟨b0, b1, b2, b3⟩, f0, f1⟩ := hres'.cells
    have HII := Lib.hid hI
    have HRS := Lib.hid hres'
    have HNIL := Lib.hid hnil
    have HDD := Lib.hid hD
    clear hI hres hres' hq1 hq2 hseq hpre hnil hD
    gi_wp2
    obtain ⟨r1, r2⟩ := HRS.out.set 0 false 0 false rfl
    have k1 := r2 (fun b t => !(b == W.heap.size || b == W.heap.size + 1)) (by simp) (by simp)
    have k2 := r2 (pOld W.heap.size) (by simp [pOld]) (by simp [pOld])
    have hD := k1.same _ _ HDD.out (by simp; omega)
    have hkk := ((hK.kept (pOld W.heap.size)).trans (HII.out.mono fun b t _ hb => by simp [pOld, pR] at *; omega)).trans k2
    generalize (((W'.setCell ⟨W.heap.size, 0, none⟩ (.int .i64 0)).setCell ⟨W.heap.size, 1, none⟩ (.bool false)).setCell ⟨W.heap.size, 2, none⟩ (.int .i64 0)).setCell ⟨W.heap.size + 1, 0, none⟩ (.bool false) = Wz at r1 hD hkk
    rw [← HQ.out]
    have r3 := r1.of (Kept.putObj (p := fun _ t => t.isSome) (o' := .deferred none) fun o ho => by rw [dtag hD o ho]; rfl) rfl rfl
    obtain ⟨⟨c0, c1, c2, c3⟩, _, _⟩ := r3.cells
    refine leave1 hD ⟨dueV none, by simp [results, Tryz.results101, go_sem, c0, c1, c2, c3]; rfl, ?_, putOld hkk (by omega)⟩
    rw [HNIL.out]
  case stop =>
    rintro c pre x W' hpre ⟨rfl, y, hy, hkk, hres'⟩ hD
    have hnil : ((srt l).takeWhile (dueAt now)).head? = some y := by
      have h1 : pre ++ [x] = [y] := hy
      rw [h1] at hpre
      obtain ⟨t, ht⟩ := hpre
      rw [← ht]; rfl
    have HKK := Lib.hid hkk
    have HRS := Lib.hid hres'
    have HNIL := Lib.hid hnil
    have HDD := Lib.hid hD
    clear hkk hres hres' hq1 hq2 hseq hpre hnil hD hy
    gi_wp2
    rw [← HQ.out]
    have r3 := HRS.out.of (Kept.putObj (p := fun _ t => t.isSome) (o' := .deferred none) fun o ho => by rw [dtag HDD.out o ho]; rfl) rfl rfl
    obtain ⟨⟨c0, c1, c2, c3⟩, _, _⟩ := r3.cells
    refine leave1 HDD.out ⟨dueV (some y), by simp [results, Tryz.results101, go_sem, c0, c1, c2, c3]; rfl, ?_, putOld HKK.out (by omega)⟩
    rw [HNIL.out]
end
end Go.Proofs.YtfljmdpigckpkaaGreatDoor.QQ

namespace Go.Proofs.YtfljmdpigckpkaaGreatDoor.QQ
open Go.RowKit Go.Shelf
attribute [local go_sem] Oper.semAt_some

/-- What Next answers. -/
def nextV : Option Ent → Value
  | none => .tuple #[.int .i64 0, .bool false]
  | some x => .tuple #[.int .i64 x.due, .bool true]
/-- A number, and whether there is one, in their boxes. -/
def Rn (W : World) (d : Int) (b : Bool) (W' : World) : Prop :=
  W'.heap[W.heap.size]? = some (.cells #[.int .i64 d] 2 (0, 0)) ∧ W'.heap[W.heap.size + 1]? = some (.cells #[.bool b] 4 (0, 0))
theorem Rn.set {W W' : World} {d : Int} {b : Bool} (h : Rn W d b W') (d' : Int) (b' : Bool) {W2 : World} (e : W2 = (W'.setCell ⟨W.heap.size, 0, none⟩ (.int .i64 d')).setCell ⟨W.heap.size + 1, 0, none⟩ (.bool b')) :
    Rn W d' b' W2 ∧ ∀ p : PP, p W.heap.size (some 2) = false → p (W.heap.size + 1) (some 4) = false → Kept p W' W2 := by
  obtain ⟨h1, k1⟩ := set1 h.1 (.int .i64 d')
  have h2 := (k1 (fun b t => b != W.heap.size) (by simp)).same _ _ h.2 (by simp)
  obtain ⟨h3, k3⟩ := set1 h2 (.bool b')
  subst e
  exact ⟨⟨(k3 (fun b t => b != W.heap.size + 1) (by simp)).same _ _ h1 (by simp), h3⟩, fun p hp hp2 => (k1 p hp).trans (k3 p hp2)⟩
theorem Rn.of {W W' W2 : World} {d : Int} {b : Bool} {p : PP} (h : Rn W d b W') (k : Kept p W' W2) (h1 : p W.heap.size (some 2) = true) (h2 : p (W.heap.size + 1) (some 4) = true) : Rn W d b W2 := ⟨k.same _ _ h.1 h1, k.same _ _ h.2 h2⟩
theorem Rn.cells {W W' : World} {d : Int} {b : Bool} (h : Rn W d b W') : (W'.cell? ⟨W.heap.size, 0, none⟩ = some (.int .i64 d) ∧ W'.cell? ⟨W.heap.size + 1, 0, none⟩ = some (.bool b)) ∧ (∀ n, W'.frozen? ⟨W.heap.size, n, none⟩ = false) ∧ ∀ n, W'.frozen? ⟨W.heap.size + 1, n, none⟩ = false :=
  ⟨⟨by simp [World.cell?, h.1], by simp [World.cell?, h.2]⟩, fun n => frozen_of_row W' _ n _ _ h.1, fun n => frozen_of_row W' _ n _ _ h.2⟩
theorem Rn.ne {W W' : World} {d : Int} {b : Bool} (h : Rn W d b W') {bx : Nat} {x : Ent} (hb : W'.heap[bx]? = some (ento x)) : bx ≠ W.heap.size ∧ bx ≠ W.heap.size + 1 :=
  ⟨fun e => by have := h.1; rw [← e, hb] at this; simp [ento] at this, fun e => by have := h.2; rw [← e, hb] at this; simp [ento] at this⟩
theorem find_pre {α : Type} {p : α → Bool} {L pre : List α} {x : α} (h : pre ++ [x] <+: L) (hp : ∀ y, y ∈ pre → p y = false) (hx : p x = true) : L.find? p = some x := by
  obtain ⟨t, rfl⟩ := h
  rw [List.append_assoc, List.find?_append, List.find?_eq_none.2 (by intro y hy; simp [hp y hy])]
  simp [hx]

section
variable {l : List Ent} {qv : Value}
end
end Go.Proofs.YtfljmdpigckpkaaGreatDoor.QQ

namespace Go.Proofs.YtfljmdpigckpkaaGreatDoor.QQ
open Go.RowKit Go.Shelf
attribute [local go_sem] Oper.semAt_some

@[go_sem] theorem eqnil_none (n c : Nat) (w : World) : (binOp .eql 256 (.slice none n c) (.slice none 0 0)).run Tryz.prog w = .ok (.bool true) w := by kernel_rfl
@[go_sem] theorem eqnil_some (ad : Addr) (n c : Nat) (w : World) : (binOp .eql 256 (.slice (some ad) n c) (.slice none 0 0)).run Tryz.prog w = .ok (.bool false) w := by kernel_rfl
theorem add_block (g j : Nat) : ((⟨g, 0, none⟩ : Addr).add j).block = g := by unfold Addr.add; split <;> rfl
theorem row4_one (l : List Ent) : ∀ u ∈ row4 l, u.oneCell' = true := by
  intro u hu
  unfold row4 at hu
  obtain ⟨x, _, hx⟩ := List.mem_flatMap.1 hu
  simp [Ent.cells] at hx
  rcases hx with rfl | rfl | rfl | rfl <;> rfl
theorem own_slice {W : World} {base : Nat} {e : TypeId} {size : Nat} {v : Value} {n : Nat} {xs : List Value} (h : W.ownsRow base e size v n xs) : ∃ A c, v = .slice A n c := by
  rcases h.2 with ⟨rfl, h0⟩ | ⟨g, cap, _, rfl, _⟩
  · exact ⟨none, 0, by rw [h0]⟩
  · exact ⟨_, cap, rfl⟩
section
variable {l : List Ent} {qv : Value}
set_option maxHeartbeats 1000000 in
set_option maxRecDepth 100000 in
theorem clone_ok (A : Option Addr) (c : Nat) (W : World) (how : W.ownsRow 0 278 4 (.slice A l.length c) l.length (row4 l)) (hsm : l.length ≤ 900000) :
    Calls Tryz.prog 190 #[.slice A l.length c] W fun e W' => ∃ A' c', e = .returned (.slice A' l.length c') ∧ Ext W W' ∧ W'.ownsRow W.heap.size 278 4 (.slice A' l.length c') l.length (row4 l) := by
  cases A with
  | none =>
    have h0 : l = [] := by
      rcases how.2 with ⟨_, h⟩ | ⟨g, cap, cur, e, _⟩
      · exact List.eq_nil_of_length_eq_zero h
      · cases e
    subst h0
    have hc0 : c = 0 := by
      rcases how.2 with ⟨h, _⟩ | ⟨g, cap, cur, e, _⟩
      · cases h; rfl
      · cases e
    subst hc0
    clear how
    go_enter Tryz.func190, Tryz.ntmps190
    go_wp2
    go_ret
    exact ⟨none, 0, rfl, Ext.refl _, World.ownsRow_nil _ _ _ _⟩
  | some ad =>
    obtain ⟨i0, hi0, hz0, hz1, hz2⟩ := info_parts infoEnt
    obtain ⟨g, rfl, hglt⟩ : ∃ g, ad = ⟨g, 0, none⟩ ∧ g < W.heap.size := by
      rcases how.2 with ⟨h, _⟩ | ⟨g, cap, cur, e, _, h2, _⟩
      · cases h
      · injection e with e _ _; injection e with e; exact ⟨g, e, (Array.getElem?_eq_some_iff.1 h2).1⟩
    have hcs : ∀ (o : Obj) (j : Nat) (u : Value), (row4 l)[j]? = some u → (W.alloc o).cell? ((⟨g, 0, none⟩ : Addr).add j) = some u := fun o j u hj => (World.cell?_of_block (a := (⟨g, 0, none⟩ : Addr).add j) (by rw [add_block]; exact Below.heap_alloc W o g hglt)).trans (how.cells (g := g) rfl j u hj)
    have hnew : (W.alloc (.cells #[] 278 (0, 0))).ownsRow W.heap.size 278 4 (.slice (some ⟨W.heap.size, 0, none⟩) 0 0) 0 [] := ⟨rfl, .inr ⟨W.heap.size, 0, #[], rfl, Nat.le_refl _, World.alloc_heap_new _ _, Nat.le_refl _, by unfold maxLen; omega, rfl, rfl⟩⟩
    have HOW := Lib.hid hcs
    have HN := Lib.hid hnew
    have HONE := Lib.hid (row4_one l)
    have HLEN := Lib.hid (row4_len l)
    clear how hcs hnew
    go_enter Tryz.func190, Tryz.ntmps190
    go_wp2_with (at_builtin; refine wpList_append_own_at _ rfl _ _ 256 rfl W.heap.size 278 i0 (.agg #[.int .i64 0, .bool false, .int .i64 0, .int .i64 0]) 4 32 Tryz.underlying256 hi0 hz0 hz1 hz2 rfl (by decide) (.slice (some ⟨W.heap.size, 0, none⟩) 0 0) 0 [] rfl HN.out ⟨g, 0, none⟩ l.length c (row4 l) rfl HLEN.out (HOW.out _) HONE.out (by unfold maxLen; omega) (by omega) (by simp) ?_; intro v' w1 hown1 hgrow1 hnil1 hat1)
    obtain ⟨A', c', rfl⟩ := own_slice hown1
    have e : (Value.slice A' (0 + l.length) c') = .slice A' l.length c' := by rw [Nat.zero_add]
    rw [e] at hown1 ⊢
    go_ret
    refine ⟨A', c', rfl, ?_, by rw [Nat.zero_add, List.nil_append] at hown1; exact hown1⟩
    have k1 : Kept (pOld W.heap.size) W (W.alloc (.cells #[] 278 (0, 0))) := Kept.alloc _ _ _
    exact k1.trans (Kept.grown hgrow1 fun j o e _ => by injection e with e; subst e; simp [pOld])
set_option maxHeartbeats 1000000 in
set_option maxRecDepth 100000 in
theorem All_ok (W : World) (hE : EV qv l W) (hsm : l.length ≤ 900000) :
    Calls Tryz.prog 196 #[qv] W fun e W' => ∃ bl A c, e = .returned (.func (.func 279) #[] #[.pointer (some ⟨bl, 0, none⟩)]) ∧ Ext W W' ∧ W.heap.size ≤ bl ∧ W'.heap[bl]? = some (.cells #[.slice A l.length c] 256 (0, 0)) ∧ W'.ownsRow W.heap.size 278 4 (.slice A l.length c) l.length (row4 l) := by
  have hmf : ∀ (fn : Go.Fn) (first cap : Array Value) (w : World), (Instr.makeFunc fn first cap).run Tryz.prog w = .ok (.func fn first cap) w := fun _ _ _ _ => rfl
  have hen := entries_ok hE
  go_enter Tryz.func196, Tryz.ntmps196
  go_wp2_with fail
  refine hen.mono ?_
  rintro e w1 ⟨A, c, rfl, hw1, how⟩
  subst hw1
  clear hen
  go_wp2_with fail
  refine (clone_ok A c _ how hsm).mono ?_
  rintro e w2 ⟨A', c', rfl, hx, how2⟩
  have HX := Lib.hid hx
  have HOW := Lib.hid how2
  clear hx how how2
  go_wp2_with fail
  go_ret
  exact ⟨_, A', c', rfl, HX.out.trans (Ext.one _ _), HX.out.size, World.alloc_heap_new _ _, ((Ext.one _ _).kept (fun _ _ => true)).row HOW.out fun _ _ => rfl⟩
theorem eg45 (args : Array Value) (w : World) : (callFunc 279 args).run Tryz.prog w = .ok (.enter 279 args) w := by kernel_rfl
end
end Go.Proofs.YtfljmdpigckpkaaGreatDoor.QQ

namespace Go.Proofs.YtfljmdpigckpkaaGreatDoor.QQ
open Go.RowKit Go.Shelf
attribute [local go_sem] Oper.semAt_some

def Ent.it3 (x : Ent) : List Value := [.int .i64 x.task, .bool x.front, .int .i64 x.due]
def row3 (l : List Ent) : List Value := l.flatMap Ent.it3
theorem row3_len (l : List Ent) : (row3 l).length = l.length * 3 := by
  unfold row3; induction l with
  | nil => rfl
  | cons x r ih => simp [List.flatMap_cons, Ent.it3, ih]; omega
theorem row3_snoc (l : List Ent) (x : Ent) : row3 (l ++ [x]) = row3 l ++ x.it3 := by simp [row3]
theorem row3_app (l m : List Ent) : row3 (l ++ m) = row3 l ++ row3 m := by simp [row3]
theorem row3_get {l : List Ent} : ∀ {i : Nat}, i < l.length → ∀ k, k < 3 → (row3 l)[i * 3 + k]? = (nth l i).it3[k]? := by
  induction l with
  | nil => intro i h; simp at h
  | cons x r ih =>
    intro i h k hk
    cases i with
    | zero =>
      have : nth (x :: r) 0 = x := rfl
      rw [this]
      simp only [row3, List.flatMap_cons, Nat.zero_mul, Nat.zero_add]
      rw [List.getElem?_append_left (by simp [Ent.it3]; omega)]
    | succ i =>
      have h1 := ih (i := i) (by simpa using h) k hk
      have : nth (x :: r) (i + 1) = nth r i := rfl
      rw [this, ← h1]
      simp only [row3, List.flatMap_cons]
      rw [List.getElem?_append_right (by simp [Ent.it3]; omega)]
      congr 1
      simp [Ent.it3]; omega
theorem row3_one (l : List Ent) : ∀ u ∈ row3 l, u.oneCell' = true := by
  intro u hu
  unfold row3 at hu
  obtain ⟨x, _, hx⟩ := List.mem_flatMap.1 hu
  simp [Ent.it3] at hx
  rcases hx with rfl | rfl | rfl <;> rfl
theorem own_tag {W : World} {B : Nat} {e : TypeId} {size : Nat} {v : Value} {n : Nat} {xs : List Value} (h : W.ownsRow B e size v n xs) : ∀ g o, v.ownBlock = some g → W.heap[g]? = some o → tag o = some e ∧ B ≤ g := fun g o hv ho => by
  rcases h.2 with ⟨h0, _⟩ | ⟨g', cap, cur, e, hb, k1, _⟩
  · rw [h0] at hv; cases hv
  · rw [e] at hv
    have : g' = g := by simpa [Value.ownBlock] using hv
    subst this
    rw [k1] at ho; cases ho; exact ⟨rfl, hb⟩
theorem own_is {W : World} {B : Nat} {e : TypeId} {size : Nat} {v : Value} {n : Nat} {xs : List Value} (h : W.ownsRow B e size v n xs) : ∀ g, v.ownBlock = some g → ∃ o, W.heap[g]? = some o ∧ tag o = some e := fun g hv => by
  rcases h.2 with ⟨h0, _⟩ | ⟨g', cap, cur, e, hb, k1, _⟩
  · rw [h0] at hv; cases hv
  · rw [e] at hv
    have : g' = g := by simpa [Value.ownBlock] using hv
    subst this
    exact ⟨_, k1, rfl⟩
theorem own_slice3 {W : World} {base : Nat} {e : TypeId} {size : Nat} {v : Value} {n : Nat} {xs : List Value} (h : W.ownsRow base e size v n xs) : ∃ A c, v = .slice A n c := by
  rcases h.2 with ⟨rfl, h0⟩ | ⟨g, cap, _, rfl, _⟩
  · exact ⟨none, 0, by rw [h0]⟩
  · exact ⟨_, cap, rfl⟩
theorem own3_cells {W : World} {B : Nat} {A : Option Addr} {c : Nat} {l : List Ent} (h : W.ownsRow B 102 3 (.slice A l.length c) l.length (row3 l)) {i : Nat} (hi : i < l.length) :
    ∃ g, A = some ⟨g, 0, none⟩ ∧ W.cell? ⟨g, i * 3, none⟩ = some (.int .i64 (nth l i).task) ∧ W.cell? ⟨g, i * 3 + 1, none⟩ = some (.bool (nth l i).front) ∧ W.cell? ⟨g, i * 3 + 2, none⟩ = some (.int .i64 (nth l i).due) := by
  rcases h.2 with ⟨_, h0⟩ | ⟨g, cap, cur, e, _, h1, h2, h3, h4, h5⟩
  · omega
  · injection e with e _ _
    refine ⟨g, e, ?_⟩
    have hc : ∀ k, k < 3 → W.cell? ⟨g, i * 3 + k, none⟩ = (nth l i).it3[k]? := fun k hk => by
      have h6 : cur.toList[i * 3 + k]? = (row3 l)[i * 3 + k]? := by rw [← h5, List.getElem?_take, if_pos (by omega)]
      rw [row3_get hi k hk] at h6
      simp only [World.cell?, h1]
      simpa using h6
    exact ⟨hc 0 (by omega), hc 1 (by omega), hc 2 (by omega)⟩
theorem Kept.rowT {p : Nat → Option TypeId → Bool} {W W' : World} (h : Kept p W W') {base : Nat} {e : TypeId} {size n : Nat} {v : Value} {xs : List Value} (hr : W.ownsRow base e size v n xs) (hp : ∀ g, g < W.heap.size → p g (some e) = true) : W'.ownsRow base e size v n xs := by
  refine ⟨hr.1, ?_⟩
  rcases hr.2 with h1 | ⟨g, cap, cur, rfl, h1, h2, h3⟩
  · exact .inl h1
  · exact .inr ⟨g, cap, cur, rfl, h1, h.same g _ h2 (hp g (Array.getElem?_eq_some_iff.1 h2).1), h3⟩
/-- The document's queue in memory: its items. -/
def RQ (bw : Nat) (E : List Ent) (W : World) : Prop := ∃ v, W.heap[bw]? = some (.cells #[v] 198 (0, 0)) ∧ W.ownsRow 0 102 3 v E.length (row3 E)
theorem RQ.of {p : Nat → Option TypeId → Bool} {bw : Nat} {E : List Ent} {W W' : World} (h : RQ bw E W) (k : Kept p W W') (h1 : p bw (some 198) = true) (h2 : ∀ b, b < W.heap.size → p b (some 102) = true) : RQ bw E W' := by
  obtain ⟨v, h3, h4⟩ := h
  exact ⟨v, k.same _ _ h3 h1, k.rowT h4 h2⟩
theorem RQ.lt {bw : Nat} {E : List Ent} {W : World} (h : RQ bw E W) : bw < W.heap.size := by
  obtain ⟨v, h3, _⟩ := h
  exact (Array.getElem?_eq_some_iff.1 h3).1
theorem RQ.ext {bw : Nat} {E : List Ent} {W W' : World} (h : RQ bw E W) (k : Ext W W') : RQ bw E W' := h.of (k.kept (fun _ _ => true)) rfl fun _ _ => rfl
/-- Where a task's item stands, as the document's queue tells it. -/
def OfE (E : List Ent) (task : Int) (e : Ending) : Prop := (∃ i : Nat, i < E.length ∧ e = .returned (.int .i64 i) ∧ (nth E i).task = task ∧ ∀ k, k < i → (nth E k).task ≠ task) ∨ (e = .returned (.int .i64 (-1)) ∧ ∀ k, k < E.length → (nth E k).task ≠ task)
section
variable {E : List Ent} {bw : Nat} {W : World}
set_option maxHeartbeats 1000000 in
set_option maxRecDepth 100000 in
theorem of_ok (h : RQ bw E W) (hn : E.length ≤ 1000000) (task : Int) :
    Calls Tryz.prog 162 #[.pointer (some ⟨bw, 0, none⟩), .int .i64 task] W fun e W' => OfE E task e ∧ W' = W := by
  have hlt := h.lt
  obtain ⟨v, h1, h2⟩ := h
  obtain ⟨A, c, rfl⟩ := own_slice3 h2
  have c0 : W.cell? ⟨bw, 0, none⟩ = some (.slice A E.length c) := by simp [World.cell?, h1]
  have HO := Lib.hid h2
  clear h1 h2
  go_enter Tryz.func162, Tryz.ntmps162
  go_wp2
  go_loopw [5] (fun v wr => W = wr ∧ ∃ i : Nat, v = .int .i64 i ∧ i ≤ E.length ∧ ∀ k, k < i → (nth E k).task ≠ task) (fun v _ => E.length - (intOf v).toNat)
  case atStart => exact ⟨rfl, 0, rfl, by omega, by simp⟩
  case round =>
    obtain ⟨rfl, i, rfl, hi, hne⟩ := hrel
    have HNE := Lib.hid hne
    clear hne
    rcases Nat.lt_or_ge i E.length with hl | hl
    · obtain ⟨g, rfl, a0, a1, a2⟩ := own3_cells HO.out hl
      have hl' : (i : Int) < (E.length : Int) := by omega
      by_cases ht : (nth E i).task = task
      · rw [ht] at a0
        have HT := Lib.hid ht
        clear ht a1 a2
        go_wp2
        go_ret
        exact ⟨.inl ⟨i, hl, rfl, HT.out, HNE.out⟩, rfl⟩
      · have hb : ((nth E i).task == task) = false := by simpa using ht
        have HT := Lib.hid ht
        clear ht a1 a2
        generalize (nth E i).task = t at a0 hb
        go_wp2
        go_roundw
        case rel => exact ⟨trivial, i + 1, by go_num, by omega, fun k hk => by
          rcases Nat.lt_or_ge k i with h | h
          · exact HNE.out k h
          · have : k = i := by omega
            subst this; exact HT.out⟩
        case measure => simp [intOf]; omega
    · have hl' : ¬ (i : Int) < (E.length : Int) := by omega
      have e : i = E.length := by omega
      go_wp2
      go_ret
      exact ⟨.inr ⟨rfl, by rw [← e]; exact HNE.out⟩, rfl⟩
end
end Go.Proofs.YtfljmdpigckpkaaGreatDoor.QQ

namespace Go.Proofs.YtfljmdpigckpkaaGreatDoor.QQ
open Go.RowKit Go.Shelf
attribute [local go_sem] Oper.semAt_some

/-- Items in the order in which they were put. -/
def Ord (E : List Ent) : Prop := E.Pairwise fun a b => a.nth < b.nth
theorem Ord.lt {E : List Ent} (h : Ord E) {i j : Nat} (hi : i < j) (hj : j < E.length) : (nth E i).nth < (nth E j).nth := by
  rw [nth_lt hj, nth_lt (Nat.lt_trans hi hj)]
  exact List.pairwise_iff_getElem.1 h i j (Nat.lt_trans hi hj) hj hi
theorem first_new {x f : Ent} (h : (x.front || (!f.front && decide (x.due < f.due))) = true) (hn : f.nth < x.nth) : eLt f x = false := by
  unfold eLt
  cases hx : x.front <;> cases hf : f.front <;> simp [hx, hf] at h ⊢ <;> (try split) <;> omega
theorem first_old {x f : Ent} (h : (x.front || (!f.front && decide (x.due < f.due))) = false) (hn : f.nth < x.nth) : eLt x f = false := by
  unfold eLt
  cases hx : x.front <;> cases hf : f.front <;> simp [hx, hf] at h ⊢ <;> (try split) <;> omega
/-- What comes first, as the document's queue tells it. -/
def FirE (E : List Ent) (e : Ending) : Prop := (E = [] ∧ e = .returned (.int .i64 (-1))) ∨ ∃ i : Nat, i < E.length ∧ e = .returned (.int .i64 i) ∧ ∀ k, k < E.length → eLt (nth E k) (nth E i) = false
def FirI (E : List Ent) (i : Nat) (v : Value) : Prop := (i = 0 ∧ v = .int .i64 (-1)) ∨ ∃ f : Nat, f < i ∧ v = .int .i64 f ∧ ∀ k, k < i → eLt (nth E k) (nth E f) = false
section
variable {E : List Ent} {bw : Nat} {W : World}
theorem RQ.cells {W : World} (h : RQ bw E W) {i : Nat} (hi : i < E.length) : ∃ g c, W.cell? ⟨bw, 0, none⟩ = some (.slice (some ⟨g, 0, none⟩) E.length c) ∧ W.cell? ⟨g, i * 3, none⟩ = some (.int .i64 (nth E i).task) ∧ W.cell? ⟨g, i * 3 + 1, none⟩ = some (.bool (nth E i).front) ∧ W.cell? ⟨g, i * 3 + 2, none⟩ = some (.int .i64 (nth E i).due) := by
  obtain ⟨v, h1, h2⟩ := h
  obtain ⟨A, c, rfl⟩ := own_slice3 h2
  obtain ⟨g, rfl, a⟩ := own3_cells h2 hi
  exact ⟨g, c, by simp [World.cell?, h1], a⟩
theorem RQ.slice {W : World} (h : RQ bw E W) : ∃ A c, W.cell? ⟨bw, 0, none⟩ = some (.slice A E.length c) := by
  obtain ⟨v, h1, h2⟩ := h
  obtain ⟨A, c, rfl⟩ := own_slice3 h2
  exact ⟨A, c, by simp [World.cell?, h1]⟩
def ito (x : Ent) : Obj := .cells #[.int .i64 x.task, .bool x.front, .int .i64 x.due] 102 (0, 0)
theorem ito_cells {W : World} {b : Nat} {x : Ent} (h : W.heap[b]? = some (ito x)) : W.cell? ⟨b, 0, none⟩ = some (.int .i64 x.task) ∧ W.cell? ⟨b, 1, none⟩ = some (.bool x.front) ∧ W.cell? ⟨b, 2, none⟩ = some (.int .i64 x.due) := by
  simp [World.cell?, h, ito]
set_option maxHeartbeats 2000000 in
set_option maxRecDepth 100000 in
theorem first_ok (h : RQ bw E W) (ho : Ord E) (hn : E.length ≤ 1000000) :
    Calls Tryz.prog 102 #[.pointer (some ⟨bw, 0, none⟩)] W fun e W' => FirE E e ∧ Ext W W' := by
  have HR := Lib.hid h
  have HO := Lib.hid ho
  clear h ho
  go_enter Tryz.func102, Tryz.ntmps102
  go_wp2
  go_loopw [3, 4] (fun v3 v4 wr => ∃ i : Nat, v4 = .int .i64 i ∧ i ≤ E.length ∧ FirI E i v3 ∧ Ext W wr) (fun _ v4 _ => E.length - (intOf v4).toNat)
  case atStart => exact ⟨0, rfl, by omega, .inl ⟨rfl, rfl⟩, Ext.refl _⟩
  case round =>
    obtain ⟨i, rfl, hi, hf, hx⟩ := hrel
    have HX := Lib.hid hx
    have hr := HR.out.ext hx
    have hlt := hr.lt
    clear hx
    rcases Nat.lt_or_ge i E.length with hl | hl
    · have hl' : (i : Int) < (E.length : Int) := by omega
      obtain ⟨g, c, c0, a0, a1, a2⟩ := hr.cells hl
      rcases hf with ⟨rfl, rfl⟩ | ⟨f, hfi, rfl, hfm⟩
      · generalize nth E 0 = x at a0 a1 a2
        clear hr
        go_wp2
        go_roundw
        case rel => exact ⟨1, rfl, by omega, .inr ⟨0, by omega, rfl, fun k hk => by
          have : k = 0 := by omega
          subst this; exact eLt_swo.irr _⟩, HX.out.trans (Ext.one _ _)⟩
        case measure => simp [intOf]; omega
      · obtain ⟨W1, hW1⟩ : ∃ W1, W1 = wr.alloc (ito (nth E i)) := ⟨_, rfl⟩
        have hE1 : Ext wr W1 := by rw [hW1]; exact Ext.one _ _
        have hx1 : W1.heap[wr.heap.size]? = some (ito (nth E i)) := by rw [hW1]; exact World.alloc_heap_new _ _
        have hs1 : W1.heap.size = wr.heap.size + 1 := by rw [hW1]; simp
        obtain ⟨x0, x1, x2⟩ := ito_cells hx1
        obtain ⟨g', c', c0', b0, b1, b2⟩ := (hr.ext hE1).cells (show f < E.length by omega)
        have hn1 := first_new (x := nth E i) (f := nth E f) (hn := HO.out.lt hfi hl)
        have hn2 := first_old (x := nth E i) (f := nth E f) (hn := HO.out.lt hfi hl)
        have HN1 := Lib.hid hn1
        have HN2 := Lib.hid hn2
        have HM := Lib.hid hfm
        have HW := Lib.hid hW1
        have HE1 := Lib.hid hE1
        have hf0 : ¬ (f : Int) < 0 := by omega
        have hf1 : (f : Int) < (E.length : Int) := by omega
        have fin : ∀ b, ((nth E i).front || (!(nth E f).front && decide ((nth E i).due < (nth E f).due))) = b → ∀ W2 : World, Ext W1 W2 → ∃ j : Nat, (Value.int .i64 ((i : Int) + 1)) = .int .i64 j ∧ j ≤ E.length ∧ FirI E j (if b then .int .i64 i else .int .i64 f) ∧ Ext W W2 := fun b hb W2 h2 => by
          refine ⟨i + 1, by go_num, by omega, .inr ?_, (HX.out.trans HE1.out).trans h2⟩
          cases b with
          | true => exact ⟨i, by omega, rfl, fun k hk => by
              rcases Nat.lt_or_ge k i with h | h
              · exact eLt_swo.ntr _ _ _ (HM.out k h) (HN1.out hb)
              · have : k = i := by omega
                subst this; exact eLt_swo.irr _⟩
          | false => exact ⟨f, by omega, rfl, fun k hk => by
              rcases Nat.lt_or_ge k i with h | h
              · exact HM.out k h
              · have : k = i := by omega
                subst this; exact HN2.out hb⟩
        have FIN := Lib.hid fin
        clear hfm hn1 hn2 hr hE1 hx1 fin hW1
        unfold ito at HW
        cases hxf : (nth E i).front with
        | true =>
          rw [hxf] at x1 a1 HW
          have F := Lib.hid (FIN.out true (by simp [hxf]))
          clear hxf
          generalize nth E i = x at *
          generalize nth E f = y at *
          go_upto_region 6 with (fail)
          change Code.wp _ _ _ _ (wr.alloc (.cells #[.int .i64 x.task, .bool true, .int .i64 x.due] 102 (0, 0)))
          rw [← HW.out]
          go_wp2
          go_roundw
          case rel => exact F.out _ (Ext.one _ _)
          case measure => simp [intOf]; omega
        | false =>
          rw [hxf] at x1 a1 HW
          cases hyf : (nth E f).front with
          | true =>
            rw [hyf] at b1
            have F := Lib.hid (FIN.out false (by simp [hxf, hyf]))
            clear hxf hyf
            generalize nth E i = x at *
            generalize nth E f = y at *
            go_upto_region 6 with (fail)
            change Code.wp _ _ _ _ (wr.alloc (.cells #[.int .i64 x.task, .bool false, .int .i64 x.due] 102 (0, 0)))
            rw [← HW.out]
            go_wp2
            go_roundw
            case rel => exact F.out _ (Ext.one _ _)
            case measure => simp [intOf]; omega
          | false =>
            rw [hyf] at b1
            by_cases hd : (nth E i).due < (nth E f).due
            · have F := Lib.hid (FIN.out true (by simp [hxf, hyf, hd]))
              clear hxf hyf
              generalize nth E i = x at *
              generalize nth E f = y at *
              go_upto_region 6 with (fail)
              change Code.wp _ _ _ _ (wr.alloc (.cells #[.int .i64 x.task, .bool false, .int .i64 x.due] 102 (0, 0)))
              rw [← HW.out]
              go_wp2
              go_roundw
              case rel => exact F.out _ (Ext.one _ _)
              case measure => simp [intOf]; omega
            · have F := Lib.hid (FIN.out false (by simp [hxf, hyf, hd]))
              clear hxf hyf
              generalize nth E i = x at *
              generalize nth E f = y at *
              go_upto_region 6 with (fail)
              change Code.wp _ _ _ _ (wr.alloc (.cells #[.int .i64 x.task, .bool false, .int .i64 x.due] 102 (0, 0)))
              rw [← HW.out]
              go_wp2
              go_roundw
              case rel => exact F.out _ (Ext.one _ _)
              case measure => simp [intOf]; omega
    · have hl' : ¬ (i : Int) < (E.length : Int) := by omega
      have e : i = E.length := by omega
      obtain ⟨A, c, c0⟩ := hr.slice
      have HF := Lib.hid hf
      clear hf hr
      go_wp2
      go_ret
      refine ⟨?_, HX.out⟩
      rcases HF.out with ⟨h1, rfl⟩ | ⟨f, h1, rfl, h2⟩
      · exact .inl ⟨List.eq_nil_of_length_eq_zero (by omega), rfl⟩
      · exact .inr ⟨f, by omega, rfl, by rw [← e]; exact h2⟩
end
end Go.Proofs.YtfljmdpigckpkaaGreatDoor.QQ
