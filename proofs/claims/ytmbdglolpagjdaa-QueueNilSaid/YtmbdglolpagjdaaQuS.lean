/- Queue.Due, Queue.Next. -/
import Derived.Test.YtmbdglolpagjdaaQuR
namespace Go.Proofs.Ytmbdglolpagjdaa
open Go.RowKit Go.Shelf
attribute [local go_sem] Oper.semAt_some

def itV (t : Int) (f : Bool) (d : Int) : Value := .agg #[.int .i64 t, .bool f, .int .i64 d]
def Ent.it (x : Ent) : Value := itV x.task x.front x.due
/-- What Due and Take answer. -/
def dueV : Option Ent → Value
  | none => .tuple #[itV 0 false 0, .bool false]
  | some x => .tuple #[x.it, .bool true]
theorem cell_put {W : World} {D : Nat} {o : Obj} {a : Addr} {v : Value} (h : W.cell? a = some v) (hn : ∀ o, W.heap[D]? = some o → tag o = none) : (W.putObj D o).cell? a = some v := by
  refine (World.cell?_of_block ?_).trans h
  refine World.putObj_heap_other fun e => ?_
  have hlt := World.block_lt_of_cell? W a h
  have h1 := hn _ (by rw [← e]; exact Array.getElem?_eq_getElem hlt)
  unfold World.cell? at h
  rw [Array.getElem?_eq_getElem hlt] at h
  cases hc : W.heap[a.block] with
  | cells cur t fr => rw [hc] at h1; cases h1
  | _ => simp [hc] at h
theorem putOld {W : World} {B D : Nat} {o : Obj} {W0 : World} (h : Kept (pOld B) W0 W) (hD : B ≤ D) : Kept (pOld B) W0 (W.putObj D o) := h.trans (Kept.putObj fun o _ => by simp [pOld]; omega)
theorem setOld {W : World} {B : Nat} {a : Addr} {v : Value} {W0 : World} (h : Kept (pOld B) W0 W) (hD : B ≤ a.block) : Kept (pOld B) W0 (W.setCell a v) := h.trans (Kept.setCell v fun o _ => by simp [pOld]; omega)
theorem extOld {W0 W W' : World} {B : Nat} (h : Kept (pOld B) W0 W) (k : Ext W W') : Kept (pOld B) W0 W' := h.trans (k.kept _)
theorem rOld {W0 W W' : World} {B B' : Nat} (h : Kept (pOld B) W0 W) (k : Kept (pR B') W W') (hB : B ≤ B') : Kept (pOld B) W0 W' := h.trans (k.mono fun b t _ hb => by simp [pOld, pR] at *; omega)
theorem pR_low {B b : Nat} (h : b < B) (t : Option TypeId) : pR B b t = true := by simp [pR, h]

theorem set3 {W : World} {b : Nat} {a0 a1 a2 : Value} {t : TypeId} (h : W.heap[b]? = some (.cells #[a0, a1, a2] t (0, 0))) (v0 v1 v2 : Value) :
    (((W.setCell ⟨b, 0, none⟩ v0).setCell ⟨b, 1, none⟩ v1).setCell ⟨b, 2, none⟩ v2).heap[b]? = some (.cells #[v0, v1, v2] t (0, 0)) ∧ ∀ p : PP, p b (some t) = false → Kept p W (((W.setCell ⟨b, 0, none⟩ v0).setCell ⟨b, 1, none⟩ v1).setCell ⟨b, 2, none⟩ v2) := by
  have h1 := heap_setCell_same W b 0 _ _ v0 h
  have h2 := heap_setCell_same _ b 1 _ _ v1 h1
  have h3 := heap_setCell_same _ b 2 _ _ v2 h2
  refine ⟨by rw [h3]; simp, fun p hp => ?_⟩
  exact ((Kept.setCell v0 fun o ho => by rw [h] at ho; cases ho; exact hp).trans (Kept.setCell v1 fun o ho => by rw [h1] at ho; cases ho; exact hp)).trans (Kept.setCell v2 fun o ho => by rw [h2] at ho; cases ho; exact hp)
theorem set1 {W : World} {b : Nat} {a0 : Value} {t : TypeId} (h : W.heap[b]? = some (.cells #[a0] t (0, 0))) (v0 : Value) :
    (W.setCell ⟨b, 0, none⟩ v0).heap[b]? = some (.cells #[v0] t (0, 0)) ∧ ∀ p : PP, p b (some t) = false → Kept p W (W.setCell ⟨b, 0, none⟩ v0) := by
  have h1 := heap_setCell_same W b 0 _ _ v0 h
  exact ⟨by rw [h1]; simp, fun p hp => Kept.setCell v0 fun o ho => by rw [h] at ho; cases ho; exact hp⟩
/-- An item, and whether there is one, in their boxes. -/
def Res (W : World) (t : Int) (f : Bool) (d : Int) (b : Bool) (W' : World) : Prop :=
  W'.heap[W.heap.size]? = some (.cells #[.int .i64 t, .bool f, .int .i64 d] 32 (0, 0)) ∧ W'.heap[W.heap.size + 1]? = some (.cells #[.bool b] 4 (0, 0))
theorem Res.set {W W' : World} {t d : Int} {f b : Bool} (h : Res W t f d b W') (t' : Int) (f' : Bool) (d' : Int) (b' : Bool) {W2 : World}
    (e : W2 = (((W'.setCell ⟨W.heap.size, 0, none⟩ (.int .i64 t')).setCell ⟨W.heap.size, 1, none⟩ (.bool f')).setCell ⟨W.heap.size, 2, none⟩ (.int .i64 d')).setCell ⟨W.heap.size + 1, 0, none⟩ (.bool b')) :
    Res W t' f' d' b' W2 ∧ ∀ p : PP, p W.heap.size (some 32) = false → p (W.heap.size + 1) (some 4) = false → Kept p W' W2 := by
  obtain ⟨h1, k1⟩ := set3 h.1 (.int .i64 t') (.bool f') (.int .i64 d')
  have h2 := (k1 (fun b t => b != W.heap.size) (by simp)).same _ _ h.2 (by simp)
  obtain ⟨h3, k3⟩ := set1 h2 (.bool b')
  subst e
  exact ⟨⟨(k3 (fun b t => b != W.heap.size + 1) (by simp)).same _ _ h1 (by simp), h3⟩, fun p hp hp2 => (k1 p hp).trans (k3 p hp2)⟩
theorem Res.of {W W' W2 : World} {t d : Int} {f b : Bool} {p : PP} (h : Res W t f d b W') (k : Kept p W' W2) (h1 : p W.heap.size (some 32) = true) (h2 : p (W.heap.size + 1) (some 4) = true) : Res W t f d b W2 := ⟨k.same _ _ h.1 h1, k.same _ _ h.2 h2⟩
theorem Res.cells {W W' : World} {t d : Int} {f b : Bool} (h : Res W t f d b W') : (W'.cell? ⟨W.heap.size, 0, none⟩ = some (.int .i64 t) ∧ W'.cell? ⟨W.heap.size, 1, none⟩ = some (.bool f) ∧ W'.cell? ⟨W.heap.size, 2, none⟩ = some (.int .i64 d) ∧ W'.cell? ⟨W.heap.size + 1, 0, none⟩ = some (.bool b)) ∧
    (∀ n, W'.frozen? ⟨W.heap.size, n, none⟩ = false) ∧ ∀ n, W'.frozen? ⟨W.heap.size + 1, n, none⟩ = false :=
  ⟨⟨by simp [World.cell?, h.1], by simp [World.cell?, h.1], by simp [World.cell?, h.1], by simp [World.cell?, h.2]⟩, fun n => frozen_of_row W' _ n _ _ h.1, fun n => frozen_of_row W' _ n _ _ h.2⟩
theorem Res.ne {W W' : World} {t d : Int} {f b : Bool} (h : Res W t f d b W') {bx : Nat} {x : Ent} (hb : W'.heap[bx]? = some (ento x)) : bx ≠ W.heap.size ∧ bx ≠ W.heap.size + 1 :=
  ⟨fun e => by have := h.1; rw [← e, hb] at this; simp [ento] at this, fun e => by have := h.2; rw [← e, hb] at this; simp [ento] at this⟩

section
variable {l : List Ent} {qv : Value} {now : Int}
set_option maxHeartbeats 1000000 in
set_option maxRecDepth 100000 in
theorem due_ok (q : Option Addr) (W : World) : Calls Try.prog 41 #[.pointer q, .int .i64 now] W fun e W' =>
    e = .returned (.func (.func 55) #[] #[.pointer (some ⟨W.heap.size, 0, none⟩), .pointer (some ⟨W.heap.size + 1, 0, none⟩)]) ∧ W' = (W.alloc (.cells #[.pointer q] 24 (0, 0))).alloc (.cells #[.int .i64 now] 2 (0, 0)) := by
  have hmf : ∀ (fn : Fn) (first cap : Array Value) (w : World), (Instr.makeFunc fn first cap).run Try.prog w = .ok (.func fn first cap) w := fun _ _ _ _ => rfl
  go_enter Try.func41, Try.ntmps41
  go_wp2
  go_ret
  exact ⟨rfl, rfl⟩
theorem eg55 (args : Array Value) (w : World) : (callFunc 55 args).run Try.prog w = .ok (.enter 55 args) w := by kernel_rfl
theorem EV.ptr {W : World} (h : EV qv l W) : ∃ q, qv = .pointer q := by
  rcases h with ⟨rfl, _⟩ | ⟨_, _, _, _, rfl, _⟩
  · exact ⟨_, rfl⟩
  · exact ⟨_, rfl⟩

set_option maxHeartbeats 1000000 in
set_option maxRecDepth 100000 in
theorem Due_ok (ht : Tri l) (hh : Heap eLt (nth l) l.length) (hsm : l.length ≤ 900000) (W : World) (hE : EV qv l W) :
    Calls Try.prog 23 #[qv, .int .i64 now] W fun e W' => e = .returned (dueV ((srt l).takeWhile (dueAt now)).head?) ∧ Ext W W' := by
  obtain ⟨q, rfl⟩ := hE.ptr
  refine (callsIn_wide (n := 3)).1 (callsIn_of_wp_marks (F := Fence.wide) Try.func23 rfl trivial ?_ rfl)
  simp only [Try.ntmps23, List.size_toArray, List.length_cons, List.length_nil, Nat.reduceAdd, Nat.reduceSub, Array.replicate_succ, Array.replicate_zero, List.push_toArray, List.append_toArray, List.nil_append, List.cons_append]
  obtain ⟨W1, hW1⟩ : ∃ W1, W1 = (W.alloc (.cells #[.int .i64 0, .bool false, .int .i64 0] 32 (0, 0))).alloc (.cells #[.bool false] 4 (0, 0)) := ⟨_, rfl⟩
  have hE1 : Ext W W1 := by rw [hW1]; exact Ext.two _ _ _
  have hs1 : W1.heap.size = W.heap.size + 2 := by rw [hW1]; simp
  have hr0 : W1.heap[W.heap.size]? = some (.cells #[.int .i64 0, .bool false, .int .i64 0] 32 (0, 0)) := by rw [hW1]; exact (Below.heap_alloc _ _ _ (by simp)).trans (World.alloc_heap_new _ _)
  have hr1 : W1.heap[W.heap.size + 1]? = some (.cells #[.bool false] 4 (0, 0)) := by rw [hW1]; have := World.alloc_heap_new (W.alloc (.cells #[.int .i64 0, .bool false, .int .i64 0] 32 (0, 0))) (.cells #[.bool false] 4 (0, 0)); rwa [World.size_alloc] at this
  have hEV := hE.ext hE1
  have HW := Lib.hid hW1
  have HE1 := Lib.hid hE1
  have HEV := Lib.hid hEV
  have HR0 := Lib.hid hr0
  have HR1 := Lib.hid hr1
  have HS1 := Lib.hid hs1
  clear hW1 hE1 hr0 hr1 hEV hE hs1
  generalize hQ : bodyPostM Fence.wide 3 Try.prog _ _ = Q
  have HQ := Lib.hid hQ
  clear hQ
  gi_wp2
  refine ⟨trivial, ?_⟩
  change CallsIn _ _ _ _ _ ((W.alloc (.cells #[.int .i64 0, .bool false, .int .i64 0] 32 (0, 0))).alloc (.cells #[.bool false] 4 (0, 0))) _
  rw [← HW.out]
  refine callsIn_wide.2 ((due_ok q W1).mono ?_)
  rintro e w2 ⟨rfl, hw2⟩
  have HW2 := Lib.hid hw2
  clear hw2
  have hE2 : Ext W1 w2 := by rw [HW2.out]; exact Ext.two _ _ _
  have hq1 : w2.heap[W1.heap.size]? = some (.cells #[.pointer q] 24 (0, 0)) := by rw [HW2.out]; exact (Below.heap_alloc _ _ _ (by simp)).trans (World.alloc_heap_new _ _)
  have hq2 : w2.heap[W1.heap.size + 1]? = some (.cells #[.int .i64 now] 2 (0, 0)) := by rw [HW2.out]; have := World.alloc_heap_new (W1.alloc (.cells #[.pointer q] 24 (0, 0))) (.cells #[.int .i64 now] 2 (0, 0)); rwa [World.size_alloc] at this
  have hseq := due_seq ht hh hsm w2 (HEV.out.ext hE2) hq1 hq2
  have hs2 : W.heap.size + 2 ≤ w2.heap.size := by have := hE2.size; have := HS1.out; omega
  have hK := Ext.trans HE1.out hE2
  have hres : Res W 0 false 0 false w2 := ⟨(hE2.kept (fun _ _ => true)).same _ _ HR0.out rfl, (hE2.kept (fun _ _ => true)).same _ _ HR1.out rfl⟩
  gi_wp2
  refine range_q (a := ⟨#[.pointer q, .int .i64 now, undef, undef, .pointer (some ⟨W.heap.size, 0, none⟩), .pointer (some ⟨W.heap.size + 1, 0, none⟩), undef, .pointer q, .int .i64 now, .func (.func 55) #[] #[.pointer (some ⟨W1.heap.size, 0, none⟩), .pointer (some ⟨W1.heap.size + 1, 0, none⟩)], undef, undef, undef, undef], []⟩)
    (gf := 55) (lb := #[.pointer (some ⟨W1.heap.size, 0, none⟩), .pointer (some ⟨W1.heap.size + 1, 0, none⟩)]) rfl eg55 hseq (fun _ => rfl)
    (fun pre W' => pre = [] ∧ Kept (pR w2.heap.size) w2 W')
    (fun c pre W' => c = .ret ∧ ∃ x, pre = [x] ∧ Kept (pOld W.heap.size) W W' ∧ Res W x.task x.front x.due true W')
    (fun s X Y h k => ⟨h.1, h.2.trans k⟩)
    (fun c s X Y ⟨h, x, e, h1, h2⟩ k => ⟨h, x, e, rOld h1 k (by omega), h2.of k (pR_low (by omega) _) (pR_low (by omega) _)⟩)
    ⟨rfl, Kept.refl _ _⟩
    (fun x a' W' => ∃ bx, a' = ⟨#[.pointer q, .int .i64 now, undef, undef, .pointer (some ⟨W.heap.size, 0, none⟩), .pointer (some ⟨W.heap.size + 1, 0, none⟩), .pointer (some ⟨bx, 0, none⟩), .pointer q, .int .i64 now, .func (.func 55) #[] #[.pointer (some ⟨W1.heap.size, 0, none⟩), .pointer (some ⟨W1.heap.size + 1, 0, none⟩)], x.val, undef, undef, undef], []⟩ ∧ W'.heap[bx]? = some (ento x))
    (fun x a' X Y ⟨bx, e, h⟩ k => ⟨bx, e, k.same _ _ h (by simp [pR, tag, ento])⟩)
    ?assign ?body ?done ?stop
  case assign =>
    rintro lq pre x W' K hI hpre hK
    have HK := Lib.hid hK
    have HI := Lib.hid hI
    clear hK hI
    unfold Ent.val
    gi_wp2
    exact HK.out _ _ (Kept.alloc _ _ _) ⟨HI.out.1, HI.out.2.trans (Kept.alloc _ _ _)⟩ ⟨_, rfl, World.alloc_heap_new _ _⟩
  case body =>
    rintro lq pre x a' W' hlq hpre ⟨rfl, hI⟩ ⟨bx, rfl, hbx⟩
    obtain ⟨x0, x1, x2, x3⟩ := ento_cells hbx
    have hres' := hres.of hI (pR_low (by omega) _) (pR_low (by omega) _)
    obtain ⟨⟨b0, b1, b2, b3⟩, f0, f1⟩ := hres'.cells
    obtain ⟨hbne, hbne2⟩ := hres'.ne hbx
    have HII := Lib.hid hI
    have HRS := Lib.hid hres'
    clear hbx hI hres hres' hq1 hq2 hseq hpre
    gi_wp2
    obtain ⟨r1, r2⟩ := HRS.out.set x.task x.front x.due true rfl
    refine ⟨r2 _ rfl rfl, rfl, x, rfl, ?_, r1⟩
    exact ((hK.kept _).trans (HII.out.mono fun b t _ hb => by simp [pOld, pR] at *; omega)).trans (r2 _ (by simp [pOld]) (by simp [pOld]))
  case done =>
    rintro W' ⟨hpre, hI⟩ hD
    have hnil : ((srt l).takeWhile (dueAt now)).head? = none := by rw [hpre]; rfl
    have hres' := hres.of hI (pR_low (by omega) _) (pR_low (by omega) _)
    obtain ⟨⟨b0, b1, b2, b3⟩, f0, f1⟩ := hres'.cells
    have HII := Lib.hid hI
    have HRS := Lib.hid hres'
    have HNIL := Lib.hid hnil
    have HDD := Lib.hid hD
    clear hI hres hres' hq1 hq2 hseq hpre hnil hD
    gi_wp2
    obtain ⟨r1, r2⟩ := HRS.out.set 0 false 0 false rfl
    have k1 := r2 (fun b t => !(b == W.heap.size || b == W.heap.size + 1)) (by simp) (by simp)
    have k2 := r2 (pOld W.heap.size) (by simp [pOld]) (by simp [pOld])
    have hD := k1.same _ _ HDD.out (by simp; omega)
    have hkk := ((hK.kept (pOld W.heap.size)).trans (HII.out.mono fun b t _ hb => by simp [pOld, pR] at *; omega)).trans k2
    generalize (((W'.setCell ⟨W.heap.size, 0, none⟩ (.int .i64 0)).setCell ⟨W.heap.size, 1, none⟩ (.bool false)).setCell ⟨W.heap.size, 2, none⟩ (.int .i64 0)).setCell ⟨W.heap.size + 1, 0, none⟩ (.bool false) = Wz at r1 hD hkk
    rw [← HQ.out]
    have r3 := r1.of (Kept.putObj (p := fun _ t => t.isSome) (o' := .deferred none) fun o ho => by rw [dtag hD o ho]; rfl) rfl rfl
    obtain ⟨⟨c0, c1, c2, c3⟩, _, _⟩ := r3.cells
    refine leave1 hD ⟨dueV none, by simp [results, Try.results23, go_sem, c0, c1, c2, c3]; rfl, ?_, putOld hkk (by omega)⟩
    rw [HNIL.out]
  case stop =>
    rintro c pre x W' hpre ⟨rfl, y, hy, hkk, hres'⟩ hD
    have hnil : ((srt l).takeWhile (dueAt now)).head? = some y := by
      have h1 : pre ++ [x] = [y] := hy
      rw [h1] at hpre
      obtain ⟨t, ht⟩ := hpre
      rw [← ht]; rfl
    have HKK := Lib.hid hkk
    have HRS := Lib.hid hres'
    have HNIL := Lib.hid hnil
    have HDD := Lib.hid hD
    clear hkk hres hres' hq1 hq2 hseq hpre hnil hD hy
    gi_wp2
    rw [← HQ.out]
    have r3 := HRS.out.of (Kept.putObj (p := fun _ t => t.isSome) (o' := .deferred none) fun o ho => by rw [dtag HDD.out o ho]; rfl) rfl rfl
    obtain ⟨⟨c0, c1, c2, c3⟩, _, _⟩ := r3.cells
    refine leave1 HDD.out ⟨dueV (some y), by simp [results, Try.results23, go_sem, c0, c1, c2, c3]; rfl, ?_, putOld HKK.out (by omega)⟩
    rw [HNIL.out]
end
end Go.Proofs.Ytmbdglolpagjdaa
