/- Queue.Next. -/
import Derived.Test.YtmbdglolpagjdaaQuS
namespace Go.Proofs.Ytmbdglolpagjdaa
open Go.RowKit Go.Shelf
attribute [local go_sem] Oper.semAt_some

/-- What Next answers. -/
def nextV : Option Ent → Value
  | none => .tuple #[.int .i64 0, .bool false]
  | some x => .tuple #[.int .i64 x.due, .bool true]
/-- A number, and whether there is one, in their boxes. -/
def Rn (W : World) (d : Int) (b : Bool) (W' : World) : Prop :=
  W'.heap[W.heap.size]? = some (.cells #[.int .i64 d] 2 (0, 0)) ∧ W'.heap[W.heap.size + 1]? = some (.cells #[.bool b] 4 (0, 0))
theorem Rn.set {W W' : World} {d : Int} {b : Bool} (h : Rn W d b W') (d' : Int) (b' : Bool) {W2 : World} (e : W2 = (W'.setCell ⟨W.heap.size, 0, none⟩ (.int .i64 d')).setCell ⟨W.heap.size + 1, 0, none⟩ (.bool b')) :
    Rn W d' b' W2 ∧ ∀ p : PP, p W.heap.size (some 2) = false → p (W.heap.size + 1) (some 4) = false → Kept p W' W2 := by
  obtain ⟨h1, k1⟩ := set1 h.1 (.int .i64 d')
  have h2 := (k1 (fun b t => b != W.heap.size) (by simp)).same _ _ h.2 (by simp)
  obtain ⟨h3, k3⟩ := set1 h2 (.bool b')
  subst e
  exact ⟨⟨(k3 (fun b t => b != W.heap.size + 1) (by simp)).same _ _ h1 (by simp), h3⟩, fun p hp hp2 => (k1 p hp).trans (k3 p hp2)⟩
theorem Rn.of {W W' W2 : World} {d : Int} {b : Bool} {p : PP} (h : Rn W d b W') (k : Kept p W' W2) (h1 : p W.heap.size (some 2) = true) (h2 : p (W.heap.size + 1) (some 4) = true) : Rn W d b W2 := ⟨k.same _ _ h.1 h1, k.same _ _ h.2 h2⟩
theorem Rn.cells {W W' : World} {d : Int} {b : Bool} (h : Rn W d b W') : (W'.cell? ⟨W.heap.size, 0, none⟩ = some (.int .i64 d) ∧ W'.cell? ⟨W.heap.size + 1, 0, none⟩ = some (.bool b)) ∧ (∀ n, W'.frozen? ⟨W.heap.size, n, none⟩ = false) ∧ ∀ n, W'.frozen? ⟨W.heap.size + 1, n, none⟩ = false :=
  ⟨⟨by simp [World.cell?, h.1], by simp [World.cell?, h.2]⟩, fun n => frozen_of_row W' _ n _ _ h.1, fun n => frozen_of_row W' _ n _ _ h.2⟩
theorem Rn.ne {W W' : World} {d : Int} {b : Bool} (h : Rn W d b W') {bx : Nat} {x : Ent} (hb : W'.heap[bx]? = some (ento x)) : bx ≠ W.heap.size ∧ bx ≠ W.heap.size + 1 :=
  ⟨fun e => by have := h.1; rw [← e, hb] at this; simp [ento] at this, fun e => by have := h.2; rw [← e, hb] at this; simp [ento] at this⟩
theorem find_pre {α : Type} {p : α → Bool} {L pre : List α} {x : α} (h : pre ++ [x] <+: L) (hp : ∀ y, y ∈ pre → p y = false) (hx : p x = true) : L.find? p = some x := by
  obtain ⟨t, rfl⟩ := h
  rw [List.append_assoc, List.find?_append, List.find?_eq_none.2 (by intro y hy; simp [hp y hy])]
  simp [hx]

section
variable {l : List Ent} {qv : Value}
set_option maxHeartbeats 1000000 in
set_option maxRecDepth 100000 in
theorem Next_ok (ht : Tri l) (hh : Heap eLt (nth l) l.length) (hsm : l.length ≤ 900000) (W : World) (hE : EV qv l W) :
    Calls Try.prog 22 #[qv] W fun e W' => e = .returned (nextV ((srt l).find? fun x => !x.front)) ∧ Ext W W' := by
  obtain ⟨q, rfl⟩ := hE.ptr
  refine (callsIn_wide (n := 3)).1 (callsIn_of_wp_marks (F := Fence.wide) Try.func22 rfl trivial ?_ rfl)
  simp only [Try.ntmps22, List.size_toArray, List.length_cons, List.length_nil, Nat.reduceAdd, Nat.reduceSub, Array.replicate_succ, Array.replicate_zero, List.push_toArray, List.append_toArray, List.nil_append, List.cons_append]
  obtain ⟨W1, hW1⟩ : ∃ W1, W1 = (W.alloc (.cells #[.int .i64 0] 2 (0, 0))).alloc (.cells #[.bool false] 4 (0, 0)) := ⟨_, rfl⟩
  have hE1 : Ext W W1 := by rw [hW1]; exact Ext.two _ _ _
  have hs1 : W1.heap.size = W.heap.size + 2 := by rw [hW1]; simp
  have hr0 : W1.heap[W.heap.size]? = some (.cells #[.int .i64 0] 2 (0, 0)) := by rw [hW1]; exact (Below.heap_alloc _ _ _ (by simp)).trans (World.alloc_heap_new _ _)
  have hr1 : W1.heap[W.heap.size + 1]? = some (.cells #[.bool false] 4 (0, 0)) := by rw [hW1]; have := World.alloc_heap_new (W.alloc (.cells #[.int .i64 0] 2 (0, 0))) (.cells #[.bool false] 4 (0, 0)); rwa [World.size_alloc] at this
  have hEV := hE.ext hE1
  have HW := Lib.hid hW1
  have HE1 := Lib.hid hE1
  have HEN := Lib.hid (entries_ok hEV)
  have HR0 := Lib.hid hr0
  have HR1 := Lib.hid hr1
  have HS1 := Lib.hid hs1
  clear hW1 hE1 hr0 hr1 hEV hE hs1
  generalize hQ : bodyPostM Fence.wide 3 Try.prog _ _ = Q
  have HQ := Lib.hid hQ
  clear hQ
  gi_wp2
  refine ⟨trivial, ?_⟩
  change CallsIn _ _ _ _ _ ((W.alloc (.cells #[.int .i64 0] 2 (0, 0))).alloc (.cells #[.bool false] 4 (0, 0))) _
  rw [← HW.out]
  refine callsIn_wide.2 (HEN.out.mono ?_)
  rintro e w1 ⟨A, c, rfl, hw1, how⟩
  subst hw1
  have HOW := Lib.hid how
  clear how
  gi_wp2
  refine ⟨trivial, ?_⟩
  refine callsIn_wide.2 ((inOrder_ok A l.length c w1).mono ?_)
  rintro e w2 ⟨rfl, hw2⟩
  have HW2 := Lib.hid hw2
  clear hw2
  have hE2 : Ext w1 w2 := by rw [HW2.out]; exact Ext.one _ _
  have hbl : w2.heap[w1.heap.size]? = some (.cells #[.slice A l.length c] 56 (0, 0)) := by rw [HW2.out]; exact World.alloc_heap_new _ _
  have how2 := (hE2.kept (fun _ _ => true)).row HOW.out fun _ _ => rfl
  have hseq := inOrder_seq ht hh hsm w2 A c hbl how2
  have hs2 : W.heap.size + 2 ≤ w2.heap.size := by have := hE2.size; have := HS1.out; omega
  have hK := Ext.trans HE1.out hE2
  have hres : Rn W 0 false w2 := ⟨(hE2.kept (fun _ _ => true)).same _ _ HR0.out rfl, (hE2.kept (fun _ _ => true)).same _ _ HR1.out rfl⟩
  gi_wp2
  refine range_q (a := ⟨#[.pointer q, undef, .pointer (some ⟨W.heap.size, 0, none⟩), .pointer (some ⟨W.heap.size + 1, 0, none⟩), undef, .pointer q, .slice A l.length c, .func (.func 50) #[] #[.pointer (some ⟨w1.heap.size, 0, none⟩)], undef, undef, undef, undef, undef, undef, undef, undef], []⟩)
    (gf := 50) (lb := #[.pointer (some ⟨w1.heap.size, 0, none⟩)]) rfl eg50 hseq (fun _ => rfl)
    (fun pre W' => (∀ x, x ∈ pre → x.front = true) ∧ Kept (pOld W.heap.size) W W' ∧ Rn W 0 false W')
    (fun c pre W' => c = .ret ∧ ∃ (pre' : List Ent) (x : Ent), pre = pre' ++ [x] ∧ (∀ x, x ∈ pre' → x.front = true) ∧ x.front = false ∧ Kept (pOld W.heap.size) W W' ∧ Rn W x.due true W')
    (fun s X Y h k => ⟨h.1, rOld h.2.1 k (by omega), h.2.2.of k (pR_low (by omega) _) (pR_low (by omega) _)⟩)
    (fun c s X Y ⟨h, pre', x, e, h0, h3, h1, h2⟩ k => ⟨h, pre', x, e, h0, h3, rOld h1 k (by omega), h2.of k (pR_low (by omega) _) (pR_low (by omega) _)⟩)
    ⟨by simp, hK, hres⟩
    (fun x a' W' => ∃ bx, a' = ⟨#[.pointer q, undef, .pointer (some ⟨W.heap.size, 0, none⟩), .pointer (some ⟨W.heap.size + 1, 0, none⟩), .pointer (some ⟨bx, 0, none⟩), .pointer q, .slice A l.length c, .func (.func 50) #[] #[.pointer (some ⟨w1.heap.size, 0, none⟩)], x.val, undef, undef, undef, undef, undef, undef, undef], []⟩ ∧ W'.heap[bx]? = some (ento x))
    (fun x a' X Y ⟨bx, e, h⟩ k => ⟨bx, e, k.same _ _ h (by simp [pR, tag, ento])⟩)
    ?assign ?body ?done ?stop
  case assign =>
    rintro lq pre x W' K hI hpre hK
    have HK := Lib.hid hK
    have HI := Lib.hid hI
    clear hK hI
    unfold Ent.val
    gi_wp2
    exact HK.out _ _ (Kept.alloc _ _ _) ⟨HI.out.1, HI.out.2.1.trans (Kept.alloc _ _ _), HI.out.2.2.of (Kept.alloc (fun _ _ => true) _ _) rfl rfl⟩ ⟨_, rfl, World.alloc_heap_new _ _⟩
  case body =>
    rintro lq pre x a' W' hlq hpre ⟨hIf, hIk, hIr⟩ ⟨bx, rfl, hbx⟩
    obtain ⟨x0, x1, x2, x3⟩ := ento_cells hbx
    obtain ⟨⟨b0, b1⟩, f0, f1⟩ := hIr.cells
    obtain ⟨hbne, hbne2⟩ := hIr.ne hbx
    have HIF := Lib.hid hIf
    have HIK := Lib.hid hIk
    have HIR := Lib.hid hIr
    clear hbx hIf hIk hIr hres hbl how2 hseq hpre
    cases hf : x.front with
    | true =>
      rw [hf] at x1
      have HF := Lib.hid hf
      clear hf
      gi_wp2
      exact ⟨Kept.refl _ _, fun y hy => by
        rcases List.mem_append.1 hy with h | h
        · exact HIF.out y h
        · simp at h; subst h; exact HF.out, HIK.out, HIR.out⟩
    | false =>
      rw [hf] at x1
      have HF := Lib.hid hf
      clear hf
      gi_wp2
      obtain ⟨r1, r2⟩ := HIR.out.set x.due true rfl
      exact ⟨r2 _ rfl rfl, rfl, pre, x, rfl, HIF.out, HF.out, HIK.out.trans (r2 _ (by simp [pOld]) (by simp [pOld])), r1⟩
  case done =>
    rintro W' ⟨hf, hkk, hres'⟩ hD
    have hnil : (srt l).find? (fun x => !x.front) = none := List.find?_eq_none.2 fun y hy => by simp [hf y hy]
    obtain ⟨⟨b0, b1⟩, f0, f1⟩ := hres'.cells
    have HKK := Lib.hid hkk
    have HRS := Lib.hid hres'
    have HNIL := Lib.hid hnil
    have HDD := Lib.hid hD
    clear hkk hres hres' hbl how2 hseq hnil hD hf
    gi_wp2
    obtain ⟨r1, r2⟩ := HRS.out.set 0 false rfl
    have k1 := r2 (fun b t => !(b == W.heap.size || b == W.heap.size + 1)) (by simp) (by simp)
    have k2 := r2 (pOld W.heap.size) (by simp [pOld]) (by simp [pOld])
    have hD := k1.same _ _ HDD.out (by simp; omega)
    have hkk := HKK.out.trans k2
    generalize (W'.setCell ⟨W.heap.size, 0, none⟩ (.int .i64 0)).setCell ⟨W.heap.size + 1, 0, none⟩ (.bool false) = Wz at r1 hD hkk
    rw [← HQ.out]
    have r3 := r1.of (Kept.putObj (p := fun _ t => t.isSome) (o' := .deferred none) fun o ho => by rw [dtag hD o ho]; rfl) rfl rfl
    obtain ⟨⟨c0, c1⟩, _, _⟩ := r3.cells
    refine leave1 hD ⟨nextV none, by simp [results, Try.results22, go_sem, c0, c1]; rfl, ?_, putOld hkk (by omega)⟩
    rw [HNIL.out]
  case stop =>
    rintro c pre x W' hpre ⟨rfl, pre', y, hy, hf, hyf, hkk, hres'⟩ hD
    have hnil : (srt l).find? (fun x => !x.front) = some y := by
      rw [hy] at hpre
      exact find_pre hpre (fun z hz => by simp [hf z hz]) (by simp [hyf])
    have HKK := Lib.hid hkk
    have HRS := Lib.hid hres'
    have HNIL := Lib.hid hnil
    have HDD := Lib.hid hD
    clear hkk hres hres' hbl how2 hseq hpre hnil hD hy hf hyf
    gi_wp2
    rw [← HQ.out]
    have r3 := HRS.out.of (Kept.putObj (p := fun _ t => t.isSome) (o' := .deferred none) fun o ho => by rw [dtag HDD.out o ho]; rfl) rfl rfl
    obtain ⟨⟨c0, c1⟩, _, _⟩ := r3.cells
    refine leave1 HDD.out ⟨nextV (some y), by simp [results, Try.results22, go_sem, c0, c1]; rfl, ?_, putOld HKK.out (by omega)⟩
    rw [HNIL.out]
end
end Go.Proofs.Ytmbdglolpagjdaa
