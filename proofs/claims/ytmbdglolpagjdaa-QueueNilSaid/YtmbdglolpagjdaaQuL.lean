/- Pop of a queue's heap. -/
import Derived.Test.YtmbdglolpagjdaaQuK
import Derived.WalkSmall
namespace Go.Proofs.Ytmbdglolpagjdaa
open Go.RowKit Go.Shelf
section
variable {p : PP} {W0 : World} {bq bp bm : Nat} {pu : Int}
set_option maxHeartbeats 2000000 in
set_option maxRecDepth 100000 in
theorem epop_ok {l : List Ent} {x : Ent} {D : DM} {W : World} (h : QS p W0 bq bp bm pu (l ++ [x]) D W) :
    Calls Try.prog 75 #[pv bq bp] W fun e W' => e = .returned (.iface 63 x.val) ∧ QS p W0 bq bp bm pu l D W' := by
  obtain ⟨v, k1, k2, _⟩ := h.qb
  obtain ⟨A, c, rfl⟩ := own4 k2
  have hL : (l ++ [x]).length = l.length + 1 := by simp
  rw [hL] at k1 k2
  have hlt := (Array.getElem?_eq_some_iff.1 k1).1
  have hx0 : nth (l ++ [x]) l.length = x := by simp [nth]
  have hi : l.length < (l ++ [x]).length := by simp
  obtain ⟨g, rfl, hc0, w0, w1, w2, w3, _⟩ := h.cells hL.symm k1 hi
  rw [hx0] at w0 w1 w2 w3
  obtain ⟨_, _, ow, _, hne⟩ := h.slot hL.symm k1
  have hgl : g < W.heap.size := by
    obtain ⟨g', c', e, _, hh⟩ := ow.form (by omega)
    injection e with e; injection e with e; injection e with e; omega
  have hsm : l.length ≤ 1000000 := by have := h.small; simp at this; omega
  obtain ⟨W1, hW1⟩ : ∃ W1, W1 = (W.alloc (pvo bq bp)).alloc (ento x) := ⟨_, rfl⟩
  have hE : Ext W W1 := by rw [hW1]; exact Ext.two _ _ _
  have hb : W1.heap[W.heap.size]? = some (pvo bq bp) := by rw [hW1]; exact (Below.heap_alloc _ _ _ (by simp)).trans (World.alloc_heap_new _ _)
  have hb2 : W1.heap[W.heap.size + 1]? = some (ento x) := by rw [hW1]; have := World.alloc_heap_new (W.alloc (pvo bq bp)) (ento x); rwa [World.size_alloc] at this
  obtain ⟨p0, p1, p2⟩ := pvo_cells hb
  obtain ⟨x0, x1, x2, x3⟩ := ento_cells hb2
  have h' := h.ext hE
  have k1' := (hE.kept (fun _ _ => true)).same _ _ k1 rfl
  obtain ⟨c0, f0, ow1, _⟩ := h'.slot hL.symm k1'
  have hcap : l.length + 1 ≤ c ∧ c ≤ maxLen := by
    rcases ow1.2 with ⟨h0, _⟩ | ⟨g', cap, cur, e, _, _, h4, h5, _⟩
    · cases h0
    · injection e with e1 e2 e3; subst e3; exact ⟨h4, h5⟩
  obtain ⟨hcap, hcap2⟩ := hcap
  have hcapI : (l.length : Int) ≤ (c : Int) := by omega
  have HS := Lib.hid h'
  have H1 := Lib.hid k1'
  have HW := Lib.hid hW1
  have HO := Lib.hid ow1
  have hnb : W.heap.size + 1 ≠ bq := by omega
  have e1 : ((l.length : Int) + 1 - 1) = (l.length : Int) := by omega
  clear h k1 k2 h' k1' hE hW1 hb hb2 hL ow ow1 hne hx0 hi
  unfold pv Ent.val
  go_enter Try.func75, Try.ntmps75
  go_wp2_with fail
  change Code.wp _ _ _ _ ((W.alloc (pvo bq bp)).alloc (ento x))
  rw [← HW.out]
  go_region
  all_goals
    have hS := HS.out.slice (l' := l) H1.out (World.grownBy.refl _ _) (ownsRow_pop (row4_len l) (by have := HO.out; rw [row4_snoc] at this; exact this)) (fun g hg => .inl hg) hsm rfl
    have HSS := Lib.hid hS.1
    clear hS
    go_wp2_with fail
    go_ret
    exact ⟨rfl, HSS.out.ext (Ext.drew _)⟩
/-- What a queue's heap holds. -/
def SE (p : PP) (W0 : World) (bq bp bm : Nat) (pu : Int) (cp : Nat) (nt : Int) (K : Int → Prop) (l : List Ent) (W : World) : Prop := ∃ D, QS p W0 bq bp bm pu l D W ∧ Con cp nt K l D
def okE (nt : Int) (l : List Ent) (x : Ent) : Prop := x.task = nt ∧ (∀ i, i < l.length → (nth l i).task ≠ nt) ∧ l.length < 1000000
theorem hiE {cp : Nat} {nt : Int} {K : Int → Prop} (hK : K nt) (hr : 0 ≤ nt ∧ nt ≤ 9223372036854775807) (hcp : cp ≤ 2000000) :
    HI (SE p W0 bq bp bm pu cp nt K) eLt 74 (pv bq bp) 63 Ent.val (okE nt) 1000000 73 74 77 76 75 where
  mn := fun w => by kernel_rfl
  ml := fun w => by kernel_rfl
  ms := fun w => by kernel_rfl
  mp := fun w => by kernel_rfl
  mq := fun w => by kernel_rfl
  en := fun args w => by kernel_rfl
  el := fun args w => by kernel_rfl
  es := fun args w => by kernel_rfl
  ep := fun args w => by kernel_rfl
  eq := fun args w => by kernel_rfl
  swo := eLt_swo
  small := by omega
  bound := fun l w ⟨_, h, _⟩ => h.small
  len := fun l w ⟨D, h, hc⟩ => (elen_ok h).mono fun e w' ⟨h1, h2⟩ => ⟨h1, D, h.ext h2, hc⟩
  less := fun l w ⟨D, h, hc⟩ i j hi hj => (eless_ok h hi hj).mono fun e w' ⟨h1, h2⟩ => ⟨h1, D, h.ext h2, hc⟩
  swap := fun l w ⟨D, h, hc⟩ i j hi hj => eswap_ok h hc hK hcp hi hj
  push := fun l x w ⟨D, h, hc⟩ hok => by
    obtain ⟨rfl, h2, h3⟩ := hok
    exact epush_ok h hc hK hcp h2 hr h3
  pop := fun l x w ⟨D, h, hc⟩ => (epop_ok h).mono fun e w' ⟨h1, h2⟩ => ⟨h1, D, h2, by
    have hn : ∀ i, i < l.length → nth (l ++ [x]) i = nth l i := fun i hi => nth_left hi
    have hl : ∀ i, i < l.length → i < (l ++ [x]).length := fun i hi => by simp; omega
    exact ⟨fun i hi => by have := hc.has i (hl i hi); rwa [hn i hi] at this, fun i hi => by have := hc.pos i (hl i hi); rwa [hn i hi] at this, hc.keys, hc.size, fun i hi => by have := hc.rng i (hl i hi); rwa [hn i hi] at this, hc.tidy⟩⟩
end
end Go.Proofs.Ytmbdglolpagjdaa
