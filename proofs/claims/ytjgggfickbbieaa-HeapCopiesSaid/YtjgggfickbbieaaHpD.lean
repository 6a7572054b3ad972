/- The program's heap, one object longer. -/
import Derived.Test.YtjgggfickbbieaaHpC
namespace Go.Proofs.Ytjgggfickbbieaa
open Go.RowKit Go.Shelf
def putD (D : DM) (t i : Int) : DM := D.put (tk t) (.lit (tk i))
theorem tk_ne {a b : Int} (h : a ≠ b) : tk a ≠ tk b := by simp [tk, h]
theorem tk_key (a : Int) : WideAt.IsKeyLit (tk a) := by simp [tk, WideAt.IsKeyLit]
theorem law3 : Go.Maps.Keyed Try.prog 3 := Go.Maps.int_keyed Try.underlying3
theorem key_wf {a : Int} (h : (Lit.int .i64 a).wf = true) : keyOf Try.prog 3 (.int .i64 a) = some (tk a) := Go.Maps.keyOf_int_mk Try.underlying3 h
theorem zeroI (w : World) : (zeroValue 3).run Try.prog w = .ok (.int .i64 0) w := by kernel_rfl
theorem own_size {P : Program} {k : TypeId} {R : Value → Option (DM × List MemPlace)} {w : World} {b n : Nat} {D : DM} (h : w.ownsMap P k R b n D) : w.ownsMap P k R b (Maps.size D) D := by
  obtain ⟨es, clock, h1, h2, _, rfl⟩ := h
  exact ⟨es, clock, h1, h2, by rw [Maps.size_eq, length_sorted]; simp, rfl⟩
theorem cntO_snoc (L : List Ob) (x : Ob) (t : Int) : cntO (L ++ [x]) t = cntO L t + if x.by' = t then 1 else 0 := by
  unfold cntO
  rw [List.filter_append, List.length_append]
  by_cases e : x.by' = t <;> simp [e]
abbrev D0 : DM := DataW.map (H := Unit) []
theorem MD.nil : MD [] D0 := ⟨fun t => rfl, by simp [Maps.size], Maps.tidy_empty⟩
theorem MD.add {L : List Ob} {D : DM} (h : MD L D) (x : Ob) : MD (L ++ [x]) (putD D x.by' ((cntO L x.by' : Int) + 1)) := by
  refine ⟨fun t => ?_, ?_, h.tidy.put (tk_key _) _⟩
  · rw [cntO_snoc]
    by_cases e : x.by' = t
    · subst e
      rw [if_pos rfl, at0, putD, Maps.atKey_put_same h.tidy.isMap (tk_key _)]
      simp
    · rw [if_neg e, at0, putD, Maps.atKey_put_other (tk_ne (Ne.symm e))]
      exact h.at' t
  · unfold putD
    rw [Maps.size_put h.tidy]
    have := h.size
    simp only [List.length_append, List.length_cons, List.length_nil]
    split <;> omega
section
variable {own : Nat → Bool} {bh : Nat} {ps : List Nat} {L : List Ob} {wA wB wC0 wC wD : World}
theorem pt_snoc (ps : List Nat) (b i : Nat) (hi : i < ps.length + 1) : pt (ps ++ [b]) i = if i < ps.length then pt ps i else b := by
  unfold pt
  split
  · next h => simp [List.getD, List.getElem?_append_left h]
  · next h =>
    have : i = ps.length := by omega
    subst this
    simp [List.getD]
theorem PH.add (h : PH own bh ps L wA) {v v' : Value} {bm bx : Nat} {D D' : DM} (hv : wA.heap[bh]? = some (.cells #[v, .map (some bm)] 62 (0, 0))) (hobm : own bm = true) (hm : wA.ownsMap Try.prog 3 (plainElem Try.prog 3) bm (Maps.size D) D)
    (x : Ob) (hbx : own bx = false) (hxl : bx < wA.heap.size) (kB : Kept (fun b _ => b != bx && b != bm) wA wB) (hB : wB.heap[bx]? = some (obo x x.nth)) (hmB : wB.ownsMap Try.prog 3 (plainElem Try.prog 3) bm (Maps.size D') D') (hmd : MD (L ++ [x]) D')
    (hxv : wA.ownsRow 0 2 1 x.v x.vals.length (rowI x.vals)) (hno : ∀ g, x.v.ownBlock = some g → own g = false ∧ g ≠ bx) (hw : x.vals.length ≤ 256) (hn : L.length < 1024)
    (hx : Ext wB wC0) (hg : wC0.grownBy wC v.ownBlock) (hat : v'.ownBlock = v.ownBlock ∨ v'.ownBlock = some wC0.heap.size)
    (ho : wC.ownsRow 0 75 1 v' (L.length + 1) (rowP (ps ++ [bx]))) (hD : wD = wC.setCell ⟨bh, 0, none⟩ v') :
    ∃ own', PH own' bh (ps ++ [bx]) (L ++ [x]) wD ∧ Kept (fun b _ => !own b && b != bx) wA wD ∧ ∀ b, own' b = true → own b = true ∨ b = bx ∨ x.v.ownBlock = some b ∨ wC0.heap.size = b := by
  obtain ⟨v0, mv0, e1, e2, e3, _⟩ := h.ex
  rw [hv] at e1
  obtain rfl : v = v0 := by
    simp only [Option.some.injEq, Obj.cells.injEq, and_true] at e1
    have := congrArg Array.toList e1; simp at this; exact this.1
  have nmap : ∀ {b : Nat} {o : Obj}, wA.heap[b]? = some o → tag o ≠ none → b ≠ bm := fun {b o} hb ht e => by
    subst e
    obtain ⟨es, clock, k1, _⟩ := hm
    rw [k1] at hb; cases hb; exact ht rfl
  have ownB : ∀ {b : Nat} {o : Obj}, own b = true → wA.heap[b]? = some o → tag o ≠ none → wB.heap[b]? = some o := fun {b o} hb ho ht => kB.same _ _ ho (by
    have h1 := nmap ho ht
    have h2 : b ≠ bx := fun e => by subst e; rw [hbx] at hb; cases hb
    simp [h1, h2])
  have rowB : ∀ {e : TypeId} {s n : Nat} {u : Value} {xs : List Value}, wA.ownsRow 0 e s u n xs → (∀ g, u.ownBlock = some g → g ≠ bx) → wB.ownsRow 0 e s u n xs := fun hr hg' => kB.row hr fun g hgv => by
    obtain ⟨o, k1, k2⟩ := own_is hr g hgv
    have h1 := nmap k1 (by rw [k2]; simp)
    simp [h1, hg' g hgv]
  have hrowB : wB.ownsRow 0 75 1 v L.length (rowP ps) := rowB e2 fun g hg' e => by subst e; rw [e3 _ hg'] at hbx; cases hbx
  have hrow : wC0.ownsRow 0 75 1 v L.length (rowP ps) := (hx.kept (fun _ _ => true)).row hrowB fun _ _ => rfl
  have gr : ∀ p : Nat → Option TypeId → Bool, (∀ j, v.ownBlock = some j → p j (some 75) = false) → Kept p wB wC := fun p hp => (hx.kept _).trans (Kept.grown hg fun j o e ho => by rw [(own_tag hrow j o e ho).1]; exact hp j e)
  have hvB := ownB h.ob hv (by simp [tag])
  have h4 : wC.heap[bh]? = some (.cells #[v, .map (some bm)] 62 (0, 0)) := (gr (fun _ t => t != some 75) (by simp)).same _ _ hvB (by simp [tag])
  have s1 : wD.heap[bh]? = some (.cells #[v', .map (some bm)] 62 (0, 0)) := by
    rw [hD, heap_setCell_same wC bh 0 _ _ _ h4]; simp
  have s2 : ∀ p : Nat → Option TypeId → Bool, p bh (some 62) = false → Kept p wC wD := fun p hp => by
    rw [hD]; exact Kept.setCell _ fun o ho => by rw [h4] at ho; cases ho; exact hp
  have kT : Kept (fun _ t => t != some 75 && t != some 62) wB wD := (gr _ (by simp)).trans (s2 _ (by simp))
  have hlen : (L ++ [x]).length = L.length + 1 := by simp
  have hpl := h.pl
  have sAB := kB.size
  have sBC := hx.size
  have sBD := kT.size
  refine ⟨fun b => own b || b == bx || x.v.ownBlock == some b || v'.ownBlock == some b, ⟨⟨v', .map (some bm), s1, ?_, fun g hg => by simp [hg], .inr ⟨bm, D', rfl, by simp [hobm], kT.map hmB (by simp), hmd⟩⟩, by simp [hpl], fun i hi => ?_, fun i hi => ?_, fun i hi => ?_, fun i j hi hj g hgi hgj => ?_, fun i hi g hgi => ?_, by simp [h.ob], fun b hb => ?_, by rw [hlen]; omega, fun i hi => ?_⟩, ?_, fun b hb => ?_⟩
  · rw [hlen]
    refine (s2 (fun b _ => b != bh) (by simp)).row ho fun g hg => ?_
    have : g ≠ bh := fun e => by
      subst e
      obtain ⟨o, k1, k2⟩ := own_is ho g hg
      rw [h4] at k1; cases k1
      simp [tag] at k2
    simpa using this
  · rw [hlen] at hi
    rw [nt_snoc L x i hi, pt_snoc ps bx i (by omega), hpl]
    split
    · next hl => exact kT.same _ _ (ownB (h.ops i hl) (h.bo i hl) (by simp [tag, obo])) (by simp [tag, obo])
    · exact kT.same _ _ hB (by simp [tag, obo])
  · rw [hlen] at hi
    rw [pt_snoc ps bx i (by omega), hpl]
    split
    · next hl => simp [h.ops i hl]
    · simp
  · rw [hlen] at hi
    rw [nt_snoc L x i hi]
    split
    · next hl => exact kT.row (rowB (h.vs i hl) fun g hg' e => by subst e; rw [h.ovs i hl _ hg'] at hbx; cases hbx) fun _ _ => by simp
    · exact kT.row (rowB hxv fun g hg' => (hno g hg').2) fun _ _ => by simp
  · rw [hlen] at hi hj
    rw [nt_snoc L x i hi] at hgi
    rw [nt_snoc L x j hj] at hgj
    split at hgi
    · next hl =>
      split at hgj
      · next hl2 => exact h.dis i j hl hl2 g hgi hgj
      · have := (hno g hgj).1
        rw [h.ovs i hl g hgi] at this; cases this
    · split at hgj
      · next hl2 =>
        have := (hno g hgi).1
        rw [h.ovs j hl2 g hgj] at this; cases this
      · omega
  · rw [hlen] at hi
    rw [nt_snoc L x i hi] at hgi
    split at hgi
    · next hl => simp [h.ovs i hl g hgi]
    · simp [hgi]
  · simp only [Bool.or_eq_true, beq_iff_eq] at hb
    rcases hb with ((hb | hb) | hb) | hb
    · have := h.lt b hb; omega
    · omega
    · obtain ⟨o, k1, _⟩ := own_is hxv b hb
      have := (Array.getElem?_eq_some_iff.1 k1).1
      omega
    · obtain ⟨o, k1, _⟩ := own_is ho b hb
      have := (Array.getElem?_eq_some_iff.1 k1).1
      have := (s2 (fun b _ => b != bh) (by simp)).size
      omega
  · rw [hlen] at hi
    rw [nt_snoc L x i hi]
    split
    · next hl => exact h.wid i hl
    · exact hw
  · refine (kB.mono fun b t _ hp => ?_).trans ((gr _ fun j hj => by simp [e3 j hj]).trans (s2 _ (by simp [h.ob])))
    simp only [Bool.and_eq_true, Bool.not_eq_true', bne_iff_ne, ne_eq] at hp ⊢
    exact ⟨hp.2, fun e => by subst e; rw [hobm] at hp; cases hp.1⟩
  · simp only [Bool.or_eq_true, beq_iff_eq] at hb
    rcases hb with ((hb | hb) | hb) | hb
    · exact .inl hb
    · exact .inr (.inl hb)
    · exact .inr (.inr (.inl hb))
    · rcases hat with e | e
      · rw [e] at hb; exact .inl (e3 b hb)
      · rw [e] at hb; exact .inr (.inr (.inr (by simpa using hb)))
/-- A heap is given its map. -/
theorem PH.mapped (h : PH own bh ps L wA) (hL : L = []) {v : Value} (hv : wA.heap[bh]? = some (.cells #[v, .map none] 62 (0, 0))) :
    let wB := (wA.setCell ⟨bh, 1, none⟩ (.map (some wA.heap.size))).alloc (.map #[] 0)
    PH (fun b => own b || b == wA.heap.size) bh ps L wB ∧ wB.heap[bh]? = some (.cells #[v, .map (some wA.heap.size)] 62 (0, 0)) ∧ wB.ownsMap Try.prog 3 (plainElem Try.prog 3) wA.heap.size (Maps.size D0) D0 ∧ Kept (fun b _ => b != bh) wA wB := by
  intro wB
  subst hL
  have hb := heap_setCell_same wA bh 1 _ _ (.map (some wA.heap.size)) hv
  have hs : (wA.setCell ⟨bh, 1, none⟩ (.map (some wA.heap.size))).heap.size = wA.heap.size := by simp
  have kb : Kept (fun b _ => b != bh) wA (wA.setCell ⟨bh, 1, none⟩ (.map (some wA.heap.size))) := Kept.setCell _ fun o ho => by simp
  have ka : Ext (wA.setCell ⟨bh, 1, none⟩ (.map (some wA.heap.size))) wB := Ext.one _ _
  have ka' := ka.kept (fun _ _ => true)
  have k := kb.trans (ka.kept _)
  have h1 : wB.heap[bh]? = some (.cells #[v, .map (some wA.heap.size)] 62 (0, 0)) := ka'.same _ _ (by rw [hb]; simp) rfl
  have hm : wB.ownsMap Try.prog 3 (plainElem Try.prog 3) wA.heap.size (Maps.size D0) D0 := by
    have := World.ownsMap_made (wA.setCell ⟨bh, 1, none⟩ (.map (some wA.heap.size))) Try.prog 3 (plainElem (H := Unit) Try.prog 3)
    rw [hs] at this
    exact this
  obtain ⟨v0, mv0, e1, e2, e3, _⟩ := h.ex
  rw [hv] at e1
  obtain rfl : v = v0 := by
    simp only [Option.some.injEq, Obj.cells.injEq, and_true] at e1
    have := congrArg Array.toList e1; simp at this; exact this.1
  have hne : ∀ g, v.ownBlock = some g → g ≠ bh := fun g hg e => by
    subst e
    obtain ⟨o, k1, k2⟩ := own_is e2 g hg
    rw [hv] at k1; cases k1
    simp [tag] at k2
  refine ⟨⟨⟨v, _, h1, k.row e2 fun g hg => by simpa using hne g hg, fun g hg => by simp [e3 g hg], .inr ⟨_, _, rfl, by simp, hm, MD.nil⟩⟩, h.pl, by simp, by simp, by simp, by simp, by simp, by simp [h.ob], fun b hb => ?_, h.len, by simp⟩, h1, hm, k⟩
  have hz : wB.heap.size = wA.heap.size + 1 := by show (World.alloc _ _).heap.size = _; simp
  simp only [Bool.or_eq_true, beq_iff_eq] at hb
  rcases hb with hb | hb
  · have := h.lt b hb; omega
  · omega
end
end Go.Proofs.Ytjgggfickbbieaa
