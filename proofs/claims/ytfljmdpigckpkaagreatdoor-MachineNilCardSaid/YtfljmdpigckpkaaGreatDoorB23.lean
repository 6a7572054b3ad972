/- A queue in memory, whole: its heap, its map of places; has, Len, pile. -/
import Derived.Test.YtfljmdpigckpkaaGreatDoorB21
import Derived.Test.YtfljmdpigckpkaaGreatDoorB22
import Derived.Maps.OwnSet
namespace Go.Proofs.YtfljmdpigckpkaaGreatDoor.QQ
open Go.RowKit Go.Shelf
attribute [local go_sem] Oper.semAt_some

/-- A queue's map says of each entry's task where it stands, and of no other one. -/
structure CQ (l : List Ent) (D : DM) : Prop where
  has : ∀ i, i < l.length → Maps.has D (tk (nth l i).task) = true
  pos : ∀ i, i < l.length → at0 D (nth l i).task = .lit (tk i)
  keys : ∀ t, Maps.has D (tk t) = true → ∃ i, i < l.length ∧ (nth l i).task = t
  size : Maps.size D ≤ l.length
  rng : ∀ i, i < l.length → 0 ≤ (nth l i).task ∧ (nth l i).task ≤ 9223372036854775807
  tidy : Maps.Tidy D
theorem CQ.nil : CQ [] (.map []) := ⟨by simp, by simp, fun t h => by simp [Maps.has] at h, by simp [Maps.size], by simp, Maps.tidy_empty⟩
theorem CQ.con {l : List Ent} {D : DM} (h : CQ l D) (nt : Int) : Con (l.length + 1) nt (fun t => t = nt ∨ ∃ i, i < l.length ∧ (nth l i).task = t) l D :=
  ⟨h.has, h.pos, fun t ht => .inr (h.keys t ht), by have := h.size; split <;> omega, h.rng, h.tidy⟩
theorem CQ.con_in {l : List Ent} {D : DM} (h : CQ l D) {i : Nat} (hi : i < l.length) : Con l.length (nth l i).task (fun t => ∃ i, i < l.length ∧ (nth l i).task = t) l D :=
  ⟨h.has, h.pos, h.keys, by rw [h.has i hi]; simpa using h.size, h.rng, h.tidy⟩
theorem CQ.inj {l : List Ent} {D : DM} (h : CQ l D) {a b : Nat} (ha : a < l.length) (hb : b < l.length) (e : (nth l a).task = (nth l b).task) : a = b := (h.con 0).inj ha hb e
theorem hasE_iff {l : List Ent} {t : Int} : hasE l t = true ↔ ∃ i, i < l.length ∧ (nth l i).task = t := by
  unfold hasE
  rw [List.any_eq_true]
  constructor
  · rintro ⟨x, hx, h⟩
    obtain ⟨i, hi, e⟩ := List.getElem_of_mem hx
    exact ⟨i, hi, by rw [nth_lt hi, e]; simpa using h⟩
  · rintro ⟨i, hi, h⟩
    exact ⟨nth l i, nth_mem hi, by simp [h]⟩
theorem CQ.has_eq {l : List Ent} {D : DM} (h : CQ l D) (t : Int) : Maps.has D (tk t) = hasE l t := by
  cases he : hasE l t with
  | true =>
    obtain ⟨i, hi, e⟩ := hasE_iff.1 he
    rw [← e]; exact h.has i hi
  | false =>
    cases hh : Maps.has D (tk t) with
    | false => rfl
    | true => rw [hasE_iff.2 (h.keys t hh)] at he; cases he
/-- A queue in memory; own names its blocks. -/
structure QV (own : Nat → Bool) (bq : Nat) (l : List Ent) (pu : Int) (W : World) : Prop where
  ex : ∃ v mv, W.heap[bq]? = some (.cells #[v, mv, .int .i64 pu] 258 (0, 0)) ∧ W.ownsRow 0 278 4 v l.length (row4 l) ∧ (∀ g, v.ownBlock = some g → own g = true) ∧
    ((mv = .map none ∧ l = []) ∨ ∃ bm D, mv = .map (some bm) ∧ own bm = true ∧ W.ownsMap Tryz.prog 3 (plainElem Tryz.prog 3) bm (Maps.size D) D ∧ CQ l D)
  ob : own bq = true
  tags : ∀ b, own b = true → ∃ o, W.heap[b]? = some o ∧ (tag o = none ∨ tag o = some 258 ∨ tag o = some 278)
  hp : Heap eLt (nth l) l.length
  len : l.length ≤ 900000
theorem QV.frame {own : Nat → Bool} {bq : Nat} {l : List Ent} {pu : Int} {W W' : World} {p : Nat → Option TypeId → Bool} (h : QV own bq l pu W) (k : Kept p W W') (hp : ∀ b t, own b = true → p b t = true) : QV own bq l pu W' := by
  obtain ⟨⟨v, mv, h1, h2, h3, h4⟩, h5, h6, h7, h8⟩ := h
  refine ⟨⟨v, mv, k.same _ _ h1 (hp _ _ h5), k.row h2 fun g hg => hp _ _ (h3 g hg), h3, h4.imp id ?_⟩, h5, fun b hb => ?_, h7, h8⟩
  · rintro ⟨bm, D, h9, h10, h11, h12⟩
    exact ⟨bm, D, h9, h10, k.map h11 (hp _ _ h10), h12⟩
  · obtain ⟨o, h9, h10⟩ := h6 b hb
    exact ⟨o, k.same _ _ h9 (hp _ _ hb), h10⟩
theorem QV.ext {own : Nat → Bool} {bq : Nat} {l : List Ent} {pu : Int} {W W' : World} (h : QV own bq l pu W) (k : Ext W W') : QV own bq l pu W' := h.frame (k.kept (fun _ _ => true)) fun _ _ _ => rfl
theorem QV.lt {own : Nat → Bool} {bq : Nat} {l : List Ent} {pu : Int} {W : World} (h : QV own bq l pu W) {b : Nat} (hb : own b = true) : b < W.heap.size := by
  obtain ⟨o, h1, _⟩ := h.tags b hb
  exact (Array.getElem?_eq_some_iff.1 h1).1
theorem QV.ev {own : Nat → Bool} {bq : Nat} {l : List Ent} {pu : Int} {W : World} (h : QV own bq l pu W) : EV (.pointer (some ⟨bq, 0, none⟩)) l W := by
  obtain ⟨v, mv, h1, h2, _⟩ := h.ex
  exact .inr ⟨bq, v, mv, pu, rfl, h1, h2⟩
theorem key_wf {a : Int} (h : (Lit.int .i64 a).wf = true) : keyOf Tryz.prog 3 (.int .i64 a) = some (tk a) := Go.Maps.keyOf_int_mk Tryz.underlying3 h
theorem zeroI (w : World) : (zeroValue 3).run Tryz.prog w = .ok (.int .i64 0) w := by kernel_rfl
theorem lookNil (task : Int) (w : World) : (Instr.lookup 214 (.map none) (.int .i64 task) true).run Tryz.prog w = .ok (.tuple #[.int .i64 0, .bool false]) w := by kernel_rfl
section
variable {own : Nat → Bool} {bq : Nat} {l : List Ent} {pu : Int} {W : World}
set_option maxHeartbeats 1000000 in
set_option maxRecDepth 100000 in
theorem has_ok (h : QV own bq l pu W) (task : Int) (ht : (Lit.int .i64 task).wf = true) :
    Calls Tryz.prog 180 #[.pointer (some ⟨bq, 0, none⟩), .int .i64 task] W fun e W' => e = .returned (.bool (hasE l task)) ∧ W' = W := by
  obtain ⟨v, mv, h1, _, _, h4⟩ := h.ex
  have hlt := (Array.getElem?_eq_some_iff.1 h1).1
  have c1 : W.cell? ⟨bq, 1, none⟩ = some mv := by simp [World.cell?, h1]
  have hk := key_wf ht
  clear h1 h ht
  rcases h4 with ⟨rfl, rfl⟩ | ⟨bm, D, rfl, _, hm, hc⟩
  · go_enter Tryz.func180, Tryz.ntmps180
    have hlk := lookNil task W
    go_wp2_with fail
    go_ret
    exact ⟨rfl, rfl⟩
  · have HE := Lib.hid (hc.has_eq task)
    have HM := Lib.hid hm
    have HKY := Lib.hid hk
    clear hm hc hk
    go_enter Tryz.func180, Tryz.ntmps180
    go_wp2_with (at_lookup; refine wpList_lookup_own_ok_int _ rfl _ _ 214 rfl 3 3 .i64 law3 Tryz.underlying214 Tryz.underlying3 (zeroI _) bm _ D rfl HM.out (.int .i64 task) (tk task) rfl HKY.out ?_; intro c hat hwc; rw [HE.out]; clear hat hwc)
    go_ret
    exact ⟨rfl, rfl⟩
theorem Len_ok {qv : Value} (h : EV qv l W) : Calls Tryz.prog 356 #[qv] W fun e W' => e = .returned (.int .i64 l.length) ∧ W' = W := by
  have hen := entries_ok h
  go_enter Tryz.func356, Tryz.ntmps356
  go_wp2_with fail
  refine hen.mono ?_
  rintro e w1 ⟨A, c, rfl, rfl, _⟩
  clear hen
  go_wp2_with fail
  go_ret
  exact ⟨rfl, rfl⟩
theorem pile_ok (bq : Nat) (W : World) : Calls Tryz.prog 182 #[.pointer (some ⟨bq, 0, none⟩)] W fun e W' => e = .returned (pv bq W.heap.size) ∧ Ext W W' ∧ W'.heap[W.heap.size]? = some (.cells #[.pointer (some ⟨bq, 0, none⟩)] 171 (0, 0)) := by
  have hmf : ∀ (fn : Go.Fn) (first cap : Array Value) (w : World), (Instr.makeFunc fn first cap).run Tryz.prog w = .ok (.func fn first cap) w := fun _ _ _ _ => rfl
  unfold pv
  go_enter Tryz.func182, Tryz.ntmps182
  go_wp2_with fail
  have hb1 : ((W.alloc (.cells #[.pointer (some ⟨bq, 0, none⟩)] 171 (0, 0))).alloc (pvo bq W.heap.size)).heap[W.heap.size]? = some (.cells #[.pointer (some ⟨bq, 0, none⟩)] 171 (0, 0)) := (Below.heap_alloc _ _ _ (by simp)).trans (World.alloc_heap_new _ _)
  have hb2 : ((W.alloc (.cells #[.pointer (some ⟨bq, 0, none⟩)] 171 (0, 0))).alloc (pvo bq W.heap.size)).heap[W.heap.size + 1]? = some (pvo bq W.heap.size) := by have := World.alloc_heap_new (W.alloc (.cells #[.pointer (some ⟨bq, 0, none⟩)] 171 (0, 0))) (pvo bq W.heap.size); rwa [World.size_alloc] at this
  have hx := Ext.two W (.cells #[.pointer (some ⟨bq, 0, none⟩)] 171 (0, 0)) (pvo bq W.heap.size)
  change bodyPost _ _ _ _ _ ((W.alloc (.cells #[.pointer (some ⟨bq, 0, none⟩)] 171 (0, 0))).alloc (pvo bq W.heap.size))
  generalize (W.alloc (.cells #[.pointer (some ⟨bq, 0, none⟩)] 171 (0, 0))).alloc (pvo bq W.heap.size) = W2 at *
  obtain ⟨c0, c1, c2⟩ := pvo_cells hb2
  refine bodyPost_ret (v := pv bq W.heap.size) (by simp [results, Tryz.results182, go_sem, c0, c1, c2]; rfl) rfl ?_
  exact ⟨rfl, hx, hb1⟩
end
end Go.Proofs.YtfljmdpigckpkaaGreatDoor.QQ
