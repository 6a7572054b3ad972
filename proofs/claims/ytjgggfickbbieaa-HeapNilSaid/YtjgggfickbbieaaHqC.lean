/- The program's heap: maps.Clone of its map; what a copy has so far. -/
import Derived.Test.YtjgggfickbbieaaHqB
import Derived.Laws.Externs
import Derived.MapKept
namespace Go.Proofs.Ytjgggfickbbieaa
open Go.RowKit Go.Shelf
attribute [local go_sem] Oper.semAt_some
theorem asMap (v : Value) (w : World) : (Instr.typeAssert (.iface 60 v) 20 60 false).run Try.prog w = .ok v w := by kernel_rfl
section
variable {L : List Ob}
set_option maxHeartbeats 4000000 in
set_option maxRecDepth 100000 in
theorem mclone_ok (w : World) {b : Nat} {es : Array MapEntry} {clock : Nat} (hb : w.heap[b]? = some (.map es clock)) :
    Calls Try.prog 33 #[.map (some b)] w fun e w' => e = .returned (.map (some w.heap.size)) ∧ w' = w.alloc (.map es clock) := by
  go_enter Try.func33, Try.ntmps33
  go_wp2
  rw [run_callFunc_extern Try.func45 (by kernel_rfl) (by kernel_rfl) (by kernel_rfl) (e := Extern.MapsClone.clone) (by kernel_rfl), run_maps_clone_sl _ 60 hb]
  simp only [Result.andThen]
  rw [Oper.upon_value]
  go_wp2
  rw [asMap]
  simp only [Result.andThen]
  rw [Oper.upon_value]
  go_wp2
  go_ret
  exact ⟨rfl, rfl⟩
theorem mclone_nil (w : World) : Calls Try.prog 33 #[.map none] w fun e w' => e = .returned (.map none) ∧ w' = w := by
  go_enter Try.func33, Try.ntmps33
  go_wp2
  go_ret
  exact ⟨rfl, rfl⟩
/-- A map of new memory, or none. -/
def MapN (B : Nat) (r : Option Nat) (L : List Ob) (W : World) : Prop := (r = none ∧ L = []) ∨ ∃ bm D, r = some bm ∧ B ≤ bm ∧ W.ownsMap Try.prog 3 (plainElem Try.prog 3) bm (Maps.size D) D ∧ MD L D
theorem MapN.kept {B : Nat} {r : Option Nat} {W W' : World} {p : Nat → Option TypeId → Bool} (h : MapN B r L W) (k : Kept p W W') (hp : ∀ b, B ≤ b → p b none = true) : MapN B r L W' := by
  rcases h with h | ⟨bm, D, h1, h2, h3, h4⟩
  · exact .inl h
  · exact .inr ⟨bm, D, h1, h2, k.map h3 (hp _ h2), h4⟩
/-- A map, or none, is copied. -/
theorem mclone_any {own : Nat → Bool} {mv : Value} (w : World) (h : MapV own mv L w) :
    Calls Try.prog 33 #[mv] w fun e w' => ∃ r' : Option Nat, e = .returned (.map r') ∧ Ext w w' ∧ MapN w.heap.size r' L w' := by
  rcases h with ⟨rfl, hl⟩ | ⟨bm, D, rfl, _, hm, hc⟩
  · exact (mclone_nil w).mono fun e w' k => ⟨_, k.1, by rw [k.2]; exact Ext.refl _, .inl ⟨rfl, hl⟩⟩
  · obtain ⟨es, clock, hb, F, hs, hD⟩ := hm
    refine (mclone_ok w hb).mono fun e w' k => ?_
    obtain ⟨k1, rfl⟩ := k
    exact ⟨_, k1, Ext.one _ _, .inr ⟨_, D, rfl, Nat.le_refl _, ⟨es, clock, World.alloc_heap_new _ _, F, hs, hD⟩, hc⟩⟩
end
/-- A copy, so far: so many objects of new memory, those that the heap begins with; vh: what its box has for the row v. -/
structure CS (B bv bc k : Nat) (vh v : Value) (r : Option Nat) (ps : List Nat) (M L : List Ob) (W : World) : Prop where
  vb : W.heap[bv]? = some (.cells #[.pointer (some ⟨bc, 0, none⟩)] 25 (0, 0))
  hb : W.heap[bc]? = some (.cells #[vh, .map r] 62 (0, 0))
  row : W.ownsRow B 75 1 v k (rowP ps)
  mp : MapN B r L W
  pl : ps.length = k
  ml : M.length = k
  key : M.map Ob.key = (L.take k).map Ob.key
  bo : ∀ i, i < k → W.heap[pt ps i]? = some (obo (nt M i) (nt M i).nth) ∧ B ≤ pt ps i
  vs : ∀ i, i < k → W.ownsRow B 2 1 (nt M i).v (nt M i).vals.length (rowI (nt M i).vals)
  dis : ∀ i j, i < k → j < k → ∀ g, (nt M i).v.ownBlock = some g → (nt M j).v.ownBlock = some g → i = j
  wid : ∀ i, i < k → (nt M i).vals.length ≤ 256
  bcB : B ≤ bc
  bvB : B ≤ bv
  le : k ≤ 1024
theorem CS.done {B bv bc : Nat} {v : Value} {r : Option Nat} {ps : List Nat} {M L : List Ob} {W : World} (h : CS B bv bc L.length v v r ps M L W) : PH (rng B W.heap.size) bc ps M W ∧ M.map Ob.key = L.map Ob.key := by
  obtain ⟨_, h1, h2, h3, h4, h5, h6, h7, h8, h9, h10, h11, _, h12⟩ := h
  rw [List.take_length] at h6
  have hlt : ∀ {b : Nat} {o : Obj}, W.heap[b]? = some o → b < W.heap.size := fun h => (Array.getElem?_eq_some_iff.1 h).1
  have hin : ∀ {b : Nat} {o : Obj}, B ≤ b → W.heap[b]? = some o → rng B W.heap.size b = true := fun hb h => by simp [rng, hb, hlt h]
  have hby : M.map Ob.by' = L.map Ob.by' := by
    have := congrArg (List.map fun k : Int × Int × Int × Int × Int × List Int => k.2.2.2.1) h6
    simpa [List.map_map, Function.comp_def, Ob.key] using this
  refine ⟨⟨⟨v, .map r, h1, own_zero (by rw [h5]; exact h2), fun g hg => ?_, ?_⟩, by rw [h4, h5], fun i hi => (h7 i (by omega)).1, fun i hi => hin (h7 i (by omega)).2 (h7 i (by omega)).1, fun i hi => own_zero (h8 i (by omega)), fun i j hi hj => h9 i j (by omega) (by omega), fun i hi g hg => ?_, hin h11 h1, fun b hb => ?_, by omega, fun i hi => h10 i (by omega)⟩, h6⟩
  · obtain ⟨o, k1, _⟩ := own_is h2 g hg
    exact hin (own_base h2 g hg) k1
  · rcases h3 with ⟨rfl, k2⟩ | ⟨bm, D, rfl, k2, k3, k4⟩
    · refine .inl ⟨rfl, ?_⟩
      subst k2
      exact List.eq_nil_of_length_eq_zero h5
    · obtain ⟨es, clock, hb, _⟩ := id k3
      refine .inr ⟨bm, D, rfl, hin k2 hb, k3, ⟨fun t => by rw [cntO_map hby]; exact k4.at' t, by rw [h5]; exact k4.size, k4.tidy⟩⟩
  · obtain ⟨o, k1, _⟩ := own_is (h8 i (by omega)) g hg
    exact hin (own_base (h8 i (by omega)) g hg) k1
  · simp [rng] at hb
    exact hb.2
theorem CS.of {B bv bc k : Nat} {vh v : Value} {r : Option Nat} {ps : List Nat} {M L : List Ob} {W W' : World} {p : Nat → Option TypeId → Bool} (h : CS B bv bc k vh v r ps M L W) (q : Kept p W W') (hp : ∀ b t, B ≤ b → b < W.heap.size → p b (some t) = true) (hm : ∀ b, r = some b → b < W.heap.size → p b none = true) : CS B bv bc k vh v r ps M L W' := by
  obtain ⟨h0, h1, h2, h3, h4, h5, h6, h7, h8, h9, h10, h11, h11', h12⟩ := h
  have hlt : ∀ {b : Nat} {o : Obj}, W.heap[b]? = some o → b < W.heap.size := fun h => (Array.getElem?_eq_some_iff.1 h).1
  have row : ∀ {e s n : Nat} {u : Value} {xs : List Value}, W.ownsRow B e s u n xs → W'.ownsRow B e s u n xs := fun hr => q.row hr fun g hg => by
    obtain ⟨o, k1, _⟩ := own_is hr g hg
    exact hp _ _ (own_base hr g hg) (hlt k1)
  refine ⟨q.same _ _ h0 (hp _ _ h11' (hlt h0)), q.same _ _ h1 (hp _ _ h11 (hlt h1)), row h2, ?_, h4, h5, h6, fun i hi => ⟨q.same _ _ (h7 i hi).1 (hp _ _ (h7 i hi).2 (hlt (h7 i hi).1)), (h7 i hi).2⟩, fun i hi => row (h8 i hi), h9, h10, h11, h11', h12⟩
  rcases h3 with k | ⟨bm, D, k1, k2, k3, k4⟩
  · exact .inl k
  · obtain ⟨es, clock, hb, _⟩ := id k3
    exact .inr ⟨bm, D, k1, k2, q.map k3 (hm _ k1 (hlt hb)), k4⟩
theorem CS.ext {B bv bc k : Nat} {vh v : Value} {r : Option Nat} {ps : List Nat} {M L : List Ob} {W W' : World} (h : CS B bv bc k vh v r ps M L W) (q : Ext W W') : CS B bv bc k vh v r ps M L W' := h.of q (fun b t _ hb => by simp [pOld, hb]) fun b _ hb => by simp [pOld, hb]
/-- The row is in the box. -/
theorem CS.store {B bv bc k : Nat} {vh v : Value} {r : Option Nat} {ps : List Nat} {M L : List Ob} {W : World} (h : CS B bv bc k vh v r ps M L W) : CS B bv bc k v v r ps M L (W.setCell ⟨bc, 0, none⟩ v) := by
  have s1 : (W.setCell ⟨bc, 0, none⟩ v).heap[bc]? = some (.cells #[v, .map r] 62 (0, 0)) := by
    rw [heap_setCell_same W bc 0 _ _ _ h.hb]; simp
  have k : Kept (fun _ t => t != some 62) W (W.setCell ⟨bc, 0, none⟩ v) := Kept.setCell _ fun o ho => by rw [h.hb] at ho; cases ho; rfl
  exact ⟨k.same _ _ h.vb (by simp [tag]), s1, k.row h.row fun _ _ => by simp, h.mp.kept k (by simp), h.pl, h.ml, h.key, fun i hi => ⟨k.same _ _ (h.bo i hi).1 (by simp [tag, obo]), (h.bo i hi).2⟩, fun i hi => k.row (h.vs i hi) fun _ _ => by simp, h.dis, h.wid, h.bcB, h.bvB, h.le⟩
/-- One object more, its pointer laid behind the others. -/
theorem CS.app {B bv bc k : Nat} {vh v v' : Value} {r : Option Nat} {ps : List Nat} {M L : List Ob} {wA wB wC : World} (h : CS B bv bc k vh v r ps M L wA) (hk : k < L.length) (hL : L.length ≤ 1024) (x : Ob) (bx : Nat) (hx : x.key = (nt L k).key)
    (kB : Ext wA wB) (hbx : wB.heap[bx]? = some (obo x x.nth)) (hge : wA.heap.size ≤ bx) (hxv : wB.ownsRow wA.heap.size 2 1 x.v x.vals.length (rowI x.vals)) (hw : x.vals.length ≤ 256) (hB : B ≤ wA.heap.size)
    (hg : wB.grownBy wC v.ownBlock) (ho : wC.ownsRow B 75 1 v' (k + 1) (rowP (ps ++ [bx]))) : CS B bv bc (k + 1) vh v' r (ps ++ [bx]) (M ++ [x]) L wC ∧ Kept (fun b t => t.isNone || decide (b < B)) wA wC := by
  have hB' := h.ext kB
  have hlt : ∀ {b : Nat} {o : Obj}, wA.heap[b]? = some o → b < wA.heap.size := fun h => (Array.getElem?_eq_some_iff.1 h).1
  have gr : ∀ p : Nat → Option TypeId → Bool, (∀ g, B ≤ g → p g (some 75) = false) → Kept p wB wC := fun p hp => Kept.grown hg fun j o e ho => by rw [(own_tag hB'.row j o e ho).1]; exact hp j (own_base hB'.row j e)
  have kT : Kept (fun _ t => t != some 75) wB wC := gr _ (by simp)
  refine ⟨⟨kT.same _ _ hB'.vb (by simp [tag]), kT.same _ _ hB'.hb (by simp [tag]), ho, hB'.mp.kept kT (by simp), by simp [h.pl], by simp [h.ml], ?_, fun i hi => ?_, fun i hi => ?_, fun i j hi hj g hgi hgj => ?_, fun i hi => ?_, h.bcB, h.bvB, by omega⟩, (kB.kept _).trans (gr _ fun g hgB => by simp; omega)⟩
  · rw [List.map_append, h.key, List.take_add_one, List.getElem?_eq_getElem hk, List.map_append]
    simp only [Option.toList_some, List.map_cons, List.map_nil]
    rw [hx, nt_lt hk]
  · rw [nt_snoc M x i (by rw [h.ml]; exact hi), pt_snoc ps bx i (by rw [h.pl]; exact hi), h.ml, h.pl]
    split
    · next hl => exact ⟨kT.same _ _ (hB'.bo i hl).1 (by simp [tag, obo]), (hB'.bo i hl).2⟩
    · exact ⟨kT.same _ _ hbx (by simp [tag, obo]), by omega⟩
  · rw [nt_snoc M x i (by rw [h.ml]; exact hi), h.ml]
    split
    · next hl => exact kT.row (hB'.vs i hl) fun _ _ => by simp
    · exact kT.row (own_low hB hxv) fun _ _ => by simp
  · rw [nt_snoc M x i (by rw [h.ml]; exact hi), h.ml] at hgi
    rw [nt_snoc M x j (by rw [h.ml]; exact hj), h.ml] at hgj
    have low : ∀ {i : Nat}, i < k → ∀ {g : Nat}, (nt M i).v.ownBlock = some g → g < wA.heap.size := fun hi g hg => by
      obtain ⟨o, k1, _⟩ := own_is (h.vs _ hi) _ hg
      exact hlt k1
    split at hgi
    · next hl =>
      split at hgj
      · next hl2 => exact h.dis i j hl hl2 g hgi hgj
      · have h1 := low hl hgi
        have h2 := own_base hxv g hgj
        omega
    · split at hgj
      · next hl2 =>
        have h1 := low hl2 hgj
        have h2 := own_base hxv g hgi
        omega
      · omega
  · rw [nt_snoc M x i (by rw [h.ml]; exact hi), h.ml]
    split
    · next hl => exact h.wid i hl
    · exact hw
end Go.Proofs.Ytjgggfickbbieaa
