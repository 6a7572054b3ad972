/- Pop of a queue's heap; A pile of places, by which a heap is gone over in order: what it holds; Len, Less. -/
import Derived.Test.YtfljmdpigckpkaaGreatDoorB16
import Derived.WalkSmall
namespace Go.Proofs.YtfljmdpigckpkaaGreatDoor.QQ
open Go.RowKit Go.Shelf
section
variable {p : PP} {W0 : World} {bq bp bm : Nat} {pu : Int}
set_option maxHeartbeats 2000000 in
set_option maxRecDepth 100000 in
theorem epop_ok {l : List Ent} {x : Ent} {D : DM} {W : World} (h : QS p W0 bq bp bm pu (l ++ [x]) D W) :
    Calls Tryz.prog 361 #[pv bq bp] W fun e W' => e = .returned (.iface 278 x.val) ∧ QS p W0 bq bp bm pu l D W' := by
  obtain ⟨v, k1, k2, _⟩ := h.qb
  obtain ⟨A, c, rfl⟩ := own4 k2
  have hL : (l ++ [x]).length = l.length + 1 := by simp
  rw [hL] at k1 k2
  have hlt := (Array.getElem?_eq_some_iff.1 k1).1
  have hx0 : nth (l ++ [x]) l.length = x := by simp [nth]
  have hi : l.length < (l ++ [x]).length := by simp
  obtain ⟨g, rfl, hc0, w0, w1, w2, w3, _⟩ := h.cells hL.symm k1 hi
  rw [hx0] at w0 w1 w2 w3
  obtain ⟨_, _, ow, _, hne⟩ := h.slot hL.symm k1
  have hgl : g < W.heap.size := by
    obtain ⟨g', c', e, _, hh⟩ := ow.form (by omega)
    injection e with e; injection e with e; injection e with e; omega
  have hsm : l.length ≤ 1000000 := by have := h.small; simp at this; omega
  obtain ⟨W1, hW1⟩ : ∃ W1, W1 = (W.alloc (pvo bq bp)).alloc (ento x) := ⟨_, rfl⟩
  have hE : Ext W W1 := by rw [hW1]; exact Ext.two _ _ _
  have hb : W1.heap[W.heap.size]? = some (pvo bq bp) := by rw [hW1]; exact (Below.heap_alloc _ _ _ (by simp)).trans (World.alloc_heap_new _ _)
  have hb2 : W1.heap[W.heap.size + 1]? = some (ento x) := by rw [hW1]; have := World.alloc_heap_new (W.alloc (pvo bq bp)) (ento x); rwa [World.size_alloc] at this
  obtain ⟨p0, p1, p2⟩ := pvo_cells hb
  obtain ⟨x0, x1, x2, x3⟩ := ento_cells hb2
  have h' := h.ext hE
  have k1' := (hE.kept (fun _ _ => true)).same _ _ k1 rfl
  obtain ⟨c0, f0, ow1, _⟩ := h'.slot hL.symm k1'
  have hcap : l.length + 1 ≤ c ∧ c ≤ maxLen := by
    rcases ow1.2 with ⟨h0, _⟩ | ⟨g', cap, cur, e, _, _, h4, h5, _⟩
    · cases h0
    · injection e with e1 e2 e3; subst e3; exact ⟨h4, h5⟩
  obtain ⟨hcap, hcap2⟩ := hcap
  have hcapI : (l.length : Int) ≤ (c : Int) := by omega
  have HS := Lib.hid h'
  have H1 := Lib.hid k1'
  have HW := Lib.hid hW1
  have HO := Lib.hid ow1
  have hnb : W.heap.size + 1 ≠ bq := by omega
  have e1 : ((l.length : Int) + 1 - 1) = (l.length : Int) := by omega
  clear h k1 k2 h' k1' hE hW1 hb hb2 hL ow ow1 hne hx0 hi
  unfold pv Ent.val
  go_enter Tryz.func361, Tryz.ntmps361
  go_wp2_with fail
  change Code.wp _ _ _ _ ((W.alloc (pvo bq bp)).alloc (ento x))
  rw [← HW.out]
  go_region
  all_goals
    have hS := HS.out.slice (l' := l) H1.out (World.grownBy.refl _ _) (ownsRow_pop (row4_len l) (by have := HO.out; rw [row4_snoc] at this; exact this)) (fun g hg => .inl hg) hsm rfl
    have HSS := Lib.hid hS.1
    clear hS
    go_wp2_with fail
    go_ret
    exact ⟨rfl, HSS.out.ext (Ext.drew _)⟩
/-- What a queue's heap holds. -/
def SE (p : PP) (W0 : World) (bq bp bm : Nat) (pu : Int) (cp : Nat) (nt : Int) (K : Int → Prop) (l : List Ent) (W : World) : Prop := ∃ D, QS p W0 bq bp bm pu l D W ∧ Con cp nt K l D
def okE (nt : Int) (l : List Ent) (x : Ent) : Prop := x.task = nt ∧ (∀ i, i < l.length → (nth l i).task ≠ nt) ∧ l.length < 1000000
theorem hiE {cp : Nat} {nt : Int} {K : Int → Prop} (hK : K nt) (hr : 0 ≤ nt ∧ nt ≤ 9223372036854775807) (hcp : cp ≤ 2000000) :
    HI (SE p W0 bq bp bm pu cp nt K) eLt 296 (pv bq bp) 278 Ent.val (okE nt) 1000000 359 360 363 362 361 where
  mn := fun w => by kernel_rfl
  ml := fun w => by kernel_rfl
  ms := fun w => by kernel_rfl
  mp := fun w => by kernel_rfl
  mq := fun w => by kernel_rfl
  en := fun args w => by kernel_rfl
  el := fun args w => by kernel_rfl
  es := fun args w => by kernel_rfl
  ep := fun args w => by kernel_rfl
  eq := fun args w => by kernel_rfl
  swo := eLt_swo
  small := by omega
  bound := fun l w ⟨_, h, _⟩ => h.small
  len := fun l w ⟨D, h, hc⟩ => (elen_ok h).mono fun e w' ⟨h1, h2⟩ => ⟨h1, D, h.ext h2, hc⟩
  less := fun l w ⟨D, h, hc⟩ i j hi hj => (eless_ok h hi hj).mono fun e w' ⟨h1, h2⟩ => ⟨h1, D, h.ext h2, hc⟩
  swap := fun l w ⟨D, h, hc⟩ i j hi hj => eswap_ok h hc hK hcp hi hj
  push := fun l x w ⟨D, h, hc⟩ hok => by
    obtain ⟨rfl, h2, h3⟩ := hok
    exact epush_ok h hc hK hcp h2 hr h3
  pop := fun l x w ⟨D, h, hc⟩ => (epop_ok h).mono fun e w' ⟨h1, h2⟩ => ⟨h1, D, h2, by
    have hn : ∀ i, i < l.length → nth (l ++ [x]) i = nth l i := fun i hi => nth_left hi
    have hl : ∀ i, i < l.length → i < (l ++ [x]).length := fun i hi => by simp; omega
    exact ⟨fun i hi => by have := hc.has i (hl i hi); rwa [hn i hi] at this, fun i hi => by have := hc.pos i (hl i hi); rwa [hn i hi] at this, hc.keys, hc.size, fun i hi => by have := hc.rng i (hl i hi); rwa [hn i hi] at this, hc.tidy⟩⟩
end
end Go.Proofs.YtfljmdpigckpkaaGreatDoor.QQ

namespace Go.Proofs.YtfljmdpigckpkaaGreatDoor.QQ
open Go.RowKit Go.Shelf

def rowI (s : List Nat) : List Value := s.map fun n : Nat => .int .i64 (n : Int)
/-- Places in memory, of a heap l; all else that pR B names is as it was at W0. -/
structure PS (B : Nat) (W0 : World) (l : List Ent) (bl bp : Nat) (s : List Nat) (W : World) : Prop where
  pb : ∃ v, W.heap[bp]? = some (.cells #[v] 23 (0, 0)) ∧ W.ownsRow B 3 1 v s.length (rowI s)
  lb : ∃ A c, W.heap[bl]? = some (.cells #[.slice A l.length c] 256 (0, 0)) ∧ W.ownsRow 0 278 4 (.slice A l.length c) l.length (row4 l)
  kept : Kept (pR B) W0 W
  hB : B ≤ bp
  hlt : ∀ i, i < s.length → nth s i < l.length
  lsm : l.length ≤ 1000000
  ssm : s.length ≤ 1000000
theorem PS.ext {B : Nat} {W0 : World} {l : List Ent} {bl bp : Nat} {s : List Nat} {W W' : World} (h : PS B W0 l bl bp s W) (k : Ext W W') : PS B W0 l bl bp s W' := by
  obtain ⟨⟨v, h1, h2⟩, ⟨A, c, h3, h4⟩, h5, h6, h7, h8, h9⟩ := h
  have k1 := k.kept (fun _ _ => true)
  exact ⟨⟨v, k1.same _ _ h1 rfl, k1.row h2 fun _ _ => rfl⟩, ⟨A, c, k1.same _ _ h3 rfl, k1.row h4 fun _ _ => rfl⟩, h5.trans (k.kept _), h6, h7, h8, h9⟩
theorem own1 {W : World} {B : Nat} {v : Value} {s : List Nat} (h : W.ownsRow B 3 1 v s.length (rowI s)) : ∃ A c, v = .slice A s.length c := by
  rcases h.2 with ⟨rfl, h0⟩ | ⟨g, cap, _, rfl, _⟩
  · exact ⟨none, 0, by rw [h0]⟩
  · exact ⟨_, cap, rfl⟩
theorem rowI_get {s : List Nat} {i : Nat} (hi : i < s.length) : (rowI s)[i]? = some (.int .i64 ((nth s i : Nat) : Int)) := by
  unfold rowI; rw [List.getElem?_map, nth_some hi]; rfl
theorem own1_cell {W : World} {B : Nat} {A : Option Addr} {n c : Nat} {s : List Nat} (h : W.ownsRow B 3 1 (.slice A n c) n (rowI s)) (hn : n = s.length) {i : Nat} (hi : i < s.length) :
    ∃ g, A = some ⟨g, 0, none⟩ ∧ W.cell? ⟨g, i, none⟩ = some (.int .i64 ((nth s i : Nat) : Int)) ∧ ∀ k, W.frozen? ⟨g, k, none⟩ = false := by
  subst hn
  obtain ⟨g, cap, e, _⟩ := h.form (by omega)
  injection e with e _ _
  subst e
  exact ⟨g, rfl, by rw [h.cellAt i (by omega), rowI_get hi], fun k => h.frozenAt k⟩
section
variable {B : Nat} {W0 : World} {l : List Ent} {bl bp : Nat}
theorem PS.slot {s : List Nat} {W : World} (h : PS B W0 l bl bp s W) {A : Option Addr} {n c : Nat} (hn : n = s.length) (h1 : W.heap[bp]? = some (.cells #[.slice A n c] 23 (0, 0))) :
    W.cell? ⟨bp, 0, none⟩ = some (.slice A n c) ∧ W.frozen? ⟨bp, 0, none⟩ = false ∧ W.ownsRow B 3 1 (.slice A n c) n (rowI s) ∧ bp < W.heap.size ∧ ∀ b o, W.heap[b]? = some o → tag o ≠ some 3 → ∀ g, (Value.slice A n c).ownBlock = some g → g ≠ b := by
  subst hn
  obtain ⟨⟨v, h1', h2⟩, _⟩ := h
  rw [h1] at h1'
  simp only [Option.some.injEq, Obj.cells.injEq, and_true] at h1'
  have e : v = .slice A s.length c := by simpa using h1'.symm
  subst e
  refine ⟨by simp [World.cell?, h1], frozen_of_row W bp 0 _ _ h1, h2, (Array.getElem?_eq_some_iff.1 h1).1, fun b o hb ht g hv e => ?_⟩
  subst e
  rcases h2.2 with ⟨h0, _⟩ | ⟨g', cap, cur, e, _, k1, _⟩
  · rw [h0] at hv; cases hv
  · rw [e] at hv
    have : g' = g := by simpa [Value.ownBlock] using hv
    subst this
    rw [hb] at k1; cases k1; exact ht rfl
/-- The list's slice, in its box. -/
theorem PS.list {s : List Nat} {W : World} (h : PS B W0 l bl bp s W) : ∃ A c, W.cell? ⟨bl, 0, none⟩ = some (.slice A l.length c) ∧ bl < W.heap.size ∧ W.ownsRow 0 278 4 (.slice A l.length c) l.length (row4 l) := by
  obtain ⟨A, c, h1, h2⟩ := h.lb
  exact ⟨A, c, by simp [World.cell?, h1], (Array.getElem?_eq_some_iff.1 h1).1, h2⟩

/-- The value that container/heap is given. -/
def pvi (bl bp : Nat) : Value := .agg #[.pointer (some ⟨bp, 0, none⟩), .func (.func 308) #[] #[.pointer (some ⟨bl, 0, none⟩)], .func (.func 309) #[] #[]]
def pvio (bl bp : Nat) : Obj := .cells #[.pointer (some ⟨bp, 0, none⟩), .func (.func 308) #[] #[.pointer (some ⟨bl, 0, none⟩)], .func (.func 309) #[] #[]] 391 (0, 0)
theorem pvio_cells {W : World} {b bl bp : Nat} (h : W.heap[b]? = some (pvio bl bp)) : W.cell? ⟨b, 0, none⟩ = some (.pointer (some ⟨bp, 0, none⟩)) ∧ W.cell? ⟨b, 1, none⟩ = some (.func (.func 308) #[] #[.pointer (some ⟨bl, 0, none⟩)]) ∧ W.cell? ⟨b, 2, none⟩ = some (.func (.func 309) #[] #[]) := by
  simp [World.cell?, h, pvio]

set_option maxHeartbeats 1000000 in
set_option maxRecDepth 100000 in
theorem moved2_ok (a b : Value) (w : World) : Calls Tryz.prog 309 #[a, b] w fun e w' => e = .returned (.tuple #[]) ∧ w' = w := by
  go_enter Tryz.func309, Tryz.ntmps309
  go_wp2
  go_end0
  exact ⟨rfl, rfl⟩

set_option maxHeartbeats 1000000 in
set_option maxRecDepth 100000 in
theorem ahead2_ok {s : List Nat} {W : World} (h : PS B W0 l bl bp s W) {i j : Nat} (hi : i < l.length) (hj : j < l.length) : Calls Tryz.prog 308 #[.int .i64 i, .int .i64 j, .pointer (some ⟨bl, 0, none⟩)] W fun e W' => e = .returned (.bool (eLt (nth l i) (nth l j))) ∧ Ext W W' := by
  obtain ⟨A, c, c0, hlt, ow⟩ := h.list
  obtain ⟨g, rfl, _, a0, a1, a2, a3⟩ := own4_cells ow hi
  obtain ⟨g', e, _, b0, b1, b2, b3⟩ := own4_cells ow hj
  injection e with e; injection e with e; subst e
  have hi' : (i : Int) < (l.length : Int) := by omega
  have hj' : (j : Int) < (l.length : Int) := by omega
  have hsm : (l.length : Int) ≤ 1000000 := by have := h.lsm; omega
  have hah := fun w => ahead_ok (nth l i) (nth l j) w
  simp only [Ent.val] at hah
  clear h ow
  generalize nth l i = x at *
  generalize nth l j = y at *
  go_enter Tryz.func308, Tryz.ntmps308
  go_wp2_with fail
  go_still_tail 8, (by kernel_rfl)
  change wpList _ _ _ _ _ W.drew
  go_wp2_with fail
  refine (hah _).mono ?_
  rintro e w' ⟨rfl, hx2⟩
  go_wp2_with fail
  go_ret
  exact ⟨rfl, (Ext.drew _).trans hx2⟩

set_option maxHeartbeats 1000000 in
set_option maxRecDepth 100000 in
theorem ilen_ok {s : List Nat} {W : World} (h : PS B W0 l bl bp s W) : Calls Tryz.prog 364 #[pvi bl bp] W fun e W' => e = .returned (.int .i64 s.length) ∧ Ext W W' := by
  obtain ⟨v, h1, h2⟩ := h.pb
  obtain ⟨A, c, rfl⟩ := own1 h2
  obtain ⟨c0, _, _, hlt, _⟩ := h.slot rfl h1
  unfold pvi
  clear h h1 h2
  go_enter Tryz.func364, Tryz.ntmps364
  go_wp2
  go_ret
  exact ⟨rfl, Ext.one _ _⟩

set_option maxHeartbeats 1000000 in
set_option maxRecDepth 100000 in
theorem iless_ok {s : List Nat} {W : World} (h : PS B W0 l bl bp s W) {i j : Nat} (hi : i < s.length) (hj : j < s.length) : Calls Tryz.prog 365 #[pvi bl bp, .int .i64 i, .int .i64 j] W fun e W' => e = .returned (.bool (eLt (nth l (nth s i)) (nth l (nth s j)))) ∧ Ext W W' := by
  obtain ⟨W1, hW1⟩ : ∃ W1, W1 = W.alloc (pvio bl bp) := ⟨_, rfl⟩
  have hx : Ext W W1 := by rw [hW1]; exact Ext.one _ _
  have hb : W1.heap[W.heap.size]? = some (pvio bl bp) := by rw [hW1]; exact World.alloc_heap_new _ _
  obtain ⟨p0, p1, _⟩ := pvio_cells hb
  have h' := h.ext hx
  obtain ⟨v, h1, h2⟩ := h'.pb
  obtain ⟨A, c, rfl⟩ := own1 h2
  obtain ⟨c0, _, ow, hlt, _⟩ := h'.slot rfl h1
  obtain ⟨g, rfl, a0, _⟩ := own1_cell ow rfl hi
  obtain ⟨g', e, b0, _⟩ := own1_cell ow rfl hj
  injection e with e; injection e with e; subst e
  have hi' : (i : Int) < (s.length : Int) := by omega
  have hj' : (j : Int) < (s.length : Int) := by omega
  have hsm : (s.length : Int) ≤ 1000000 := by have := h.ssm; omega
  have hah := ahead2_ok (h'.ext (Ext.drew _)) (h.hlt i hi) (h.hlt j hj)
  have HX := Lib.hid hx
  have HW := Lib.hid hW1
  clear h h' h1 h2 hb hx hW1 ow
  generalize nth s i = x at *
  generalize nth s j = y at *
  unfold pvi
  go_enter Tryz.func365, Tryz.ntmps365
  go_wp2_with fail
  change Code.wp _ _ _ _ (W.alloc (pvio bl bp))
  rw [← HW.out]
  go_still_tail 16, (by kernel_rfl)
  change wpList _ _ _ _ _ W1.drew
  go_wp2_with fail
  refine hah.mono ?_
  rintro e w' ⟨rfl, hx2⟩
  go_wp2_with fail
  go_ret
  exact ⟨rfl, HX.out.trans ((Ext.drew _).trans hx2)⟩
end
end Go.Proofs.YtfljmdpigckpkaaGreatDoor.QQ
