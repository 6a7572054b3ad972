/- A pile of places: Swap, Push, Pop. -/
import Derived.Test.YtfljmdpigckpkaaGreatDoorB17
namespace Go.Proofs.YtfljmdpigckpkaaGreatDoor.QQ
open Go.RowKit Go.Shelf
theorem pR_int {B b : Nat} (h : B ≤ b) : pR B b (some 3) = false := by simp [pR]; omega
theorem pR_ints {B b : Nat} (h : B ≤ b) : pR B b (some 23) = false := by simp [pR]; omega
theorem rowI_len (s : List Nat) : (rowI s).length = s.length := by simp [rowI]
theorem rowI_set (s : List Nat) (i n : Nat) : rowI (s.set i n) = (rowI s).set i (.int .i64 (n : Int)) := by unfold rowI; rw [List.map_set]
theorem rowI_snoc (s : List Nat) (n : Nat) : rowI (s ++ [n]) = rowI s ++ [.int .i64 (n : Int)] := by simp [rowI]
section
variable {B : Nat} {W0 : World} {l : List Ent} {bl bp : Nat}
theorem own1_tag {W : World} {v : Value} {n : Nat} {xs : List Value} (h : W.ownsRow B 3 1 v n xs) : ∀ g o, v.ownBlock = some g → W.heap[g]? = some o → tag o = some 3 ∧ B ≤ g := fun g o hv ho => by
  rcases h.2 with ⟨h0, _⟩ | ⟨g', cap, cur, e, hb, k1, _⟩
  · rw [h0] at hv; cases hv
  · rw [e] at hv
    have : g' = g := by simpa [Value.ownBlock] using hv
    subst this
    rw [k1] at ho; cases ho; exact ⟨rfl, hb⟩
/-- The row of places has turned, and is in its place. -/
theorem PS.row {s s' : List Nat} {W W1 : World} {v : Value} (h : PS B W0 l bl bp s W) (h1 : W.heap[bp]? = some (.cells #[v] 23 (0, 0)))
    (hg : W.grownBy W1 v.ownBlock) (ho : W1.ownsRow B 3 1 v s'.length (rowI s')) (hlt : ∀ i, i < s'.length → nth s' i < l.length) (hn : s'.length ≤ 1000000) :
    PS B W0 l bl bp s' W1 ∧ Kept (fun _ t => t != some 3) W W1 := by
  obtain ⟨⟨v0, h1', h2⟩, ⟨A, c, h3, h4⟩, h5, h6, h7, h8, h9⟩ := h
  rw [h1] at h1'
  simp only [Option.some.injEq, Obj.cells.injEq, and_true] at h1'
  have e : v0 = v := by simpa using h1'.symm
  subst e
  have kg : Kept (fun _ t => t != some 3) W W1 := Kept.grown hg fun j o e ho => by rw [(own1_tag h2 j o e ho).1]; simp
  refine ⟨⟨⟨v0, kg.same _ _ h1 (by simp [tag]), ho⟩, ⟨A, c, kg.same _ _ h3 (by simp [tag]), kg.row h4 fun g _ => by simp⟩, keptGrown h5 hg (fun j o e ho _ => by rw [(own1_tag h2 j o e ho).1]; exact pR_int (own1_tag h2 j o e ho).2), h6, hlt, h8, hn⟩, kg⟩
/-- Another slice of places. -/
theorem PS.slice {s s' : List Nat} {W W1 W2 : World} {v v' : Value} (h : PS B W0 l bl bp s W) (h1 : W.heap[bp]? = some (.cells #[v] 23 (0, 0)))
    (hg : W.grownBy W1 v.ownBlock) (ho : W1.ownsRow B 3 1 v' s'.length (rowI s')) (hlt : ∀ i, i < s'.length → nth s' i < l.length) (hn : s'.length ≤ 1000000) (hW2 : W2 = W1.setCell ⟨bp, 0, none⟩ v') :
    PS B W0 l bl bp s' W2 := by
  obtain ⟨⟨v0, h1', h2⟩, ⟨A, c, h3, h4⟩, h5, h6, h7, h8, h9⟩ := h
  rw [h1] at h1'
  simp only [Option.some.injEq, Obj.cells.injEq, and_true] at h1'
  have e : v0 = v := by simpa using h1'.symm
  subst e
  have kg : Kept (fun _ t => t != some 3) W W1 := Kept.grown hg fun j o e ho => by rw [(own1_tag h2 j o e ho).1]; simp
  have hb1 := kg.same _ _ h1 (by simp [tag])
  have hp2 : W2.heap[bp]? = some (.cells #[v'] 23 (0, 0)) := by
    rw [hW2, heap_setCell_same W1 bp 0 _ _ _ hb1]; simp
  have ks : Kept (fun b _ => b != bp) W1 W2 := by rw [hW2]; exact Kept.setCell v' fun o ho => by simp
  have k : Kept (fun b t => !(t == some 3 || b == bp)) W W2 := (kg.mono fun b t _ ht => by simp at ht ⊢; exact ht.1).trans (ks.mono fun b t _ ht => by simp at ht ⊢; exact ht.2)
  have hne : ∀ {b : Nat} {o : Obj}, W1.heap[b]? = some o → tag o ≠ some 23 → b ≠ bp := fun hb ht e => by
    subst e; rw [hb1] at hb; cases hb; exact ht rfl
  have hbl : bl ≠ bp := fun e => by subst e; rw [h1] at h3; cases h3
  refine ⟨⟨v', hp2, ks.row ho fun g hv => ?_⟩, ⟨A, c, k.same _ _ h3 (by simp [tag, hbl]), k.row h4 fun g hv => ?_⟩, ?_, h6, hlt, h8, hn⟩
  · simp
    rcases ho.2 with ⟨h0, _⟩ | ⟨g', cap, cur, e, hb, k1, _⟩
    · rw [h0] at hv; cases hv
    · rw [e] at hv
      have : g' = g := by simpa [Value.ownBlock] using hv
      subst this
      exact hne k1 (by simp [tag])
  · simp
    rcases h4.2 with ⟨h0, _⟩ | ⟨g', cap, cur, e, hb, k1, _⟩
    · rw [h0] at hv; cases hv
    · rw [e] at hv
      have : g' = g := by simpa [Value.ownBlock] using hv
      subst this
      intro e; subst e
      rw [h1] at k1; cases k1
  · have h61 := keptGrown h5 hg fun j o e ho _ => by rw [(own1_tag h2 j o e ho).1]; exact pR_int (own1_tag h2 j o e ho).2
    rw [hW2]
    exact keptStore h61 v' fun o ho hb => by rw [hb1] at ho; cases ho; exact pR_ints h6
/-- Two places exchanged. -/
theorem PS.swapped {s : List Nat} {W W2 : World} (h : PS B W0 l bl bp s W) {g c bb : Nat} (h1 : W.heap[bp]? = some (.cells #[.slice (some ⟨g, 0, none⟩) s.length c] 23 (0, 0))) {i j : Nat} (hi : i < s.length) (hj : j < s.length)
    (hW2 : W2 = ((W.setCell ⟨g, i, none⟩ (.int .i64 ((nth s j : Nat) : Int))).setCell ⟨g, j, none⟩ (.int .i64 ((nth s i : Nat) : Int))).drew) (hb : W.heap[bb]? = some (pvio bl bp)) :
    PS B W0 l bl bp (swp s i j) W2 ∧ W2.heap[bp]? = some (.cells #[.slice (some ⟨g, 0, none⟩) s.length c] 23 (0, 0)) ∧ W2.heap[bb]? = some (pvio bl bp) := by
  obtain ⟨_, _, ow, _⟩ := h.slot rfl h1
  have o1 := ow.stored i (.int .i64 ((nth s j : Nat) : Int))
  have o2 := o1.1.stored j (.int .i64 ((nth s i : Nat) : Int))
  rw [← rowI_set, ← rowI_set] at o2
  have hl : (swp s i j).length = s.length := swp_len _ _ _
  obtain ⟨q, k⟩ := h.row (s' := swp s i j) h1 (o1.2.trans o2.2) (by rw [hl]; exact o2.1) (fun k hk => by
    rw [hl] at hk
    have hm := (swp_perm hi hj).mem_iff.1 (nth_mem (show k < (swp s i j).length by omega))
    obtain ⟨k', hk', e⟩ := List.getElem_of_mem hm
    rw [← e, ← nth_lt hk']; exact h.hlt k' hk') (by rw [hl]; exact h.ssm)
  refine ⟨by rw [hW2]; exact q.ext (Ext.drew _), ?_, ?_⟩
  · rw [hW2, drew_heap]; exact k.same _ _ h1 (by simp [tag])
  · rw [hW2, drew_heap]; exact k.same _ _ hb (by simp [tag, pvio])

set_option maxHeartbeats 2000000 in
set_option maxRecDepth 100000 in
theorem iswap_ok {s : List Nat} {W : World} (h : PS B W0 l bl bp s W) {i j : Nat} (hi : i < s.length) (hj : j < s.length) : Calls Tryz.prog 368 #[pvi bl bp, .int .i64 i, .int .i64 j] W fun e W' => e = .returned (.tuple #[]) ∧ PS B W0 l bl bp (swp s i j) W' := by
  obtain ⟨v, k1, k2⟩ := h.pb
  obtain ⟨A, c, rfl⟩ := own1 k2
  obtain ⟨hc0, _, ow, hlt, _⟩ := h.slot rfl k1
  obtain ⟨g, rfl, _, _⟩ := own1_cell ow rfl hi
  obtain ⟨W1, hW1⟩ : ∃ W1, W1 = W.alloc (pvio bl bp) := ⟨_, rfl⟩
  have hx : Ext W W1 := by rw [hW1]; exact Ext.one _ _
  have hb : W1.heap[W.heap.size]? = some (pvio bl bp) := by rw [hW1]; exact World.alloc_heap_new _ _
  obtain ⟨p0, p1, p2⟩ := pvio_cells hb
  have h' := h.ext hx
  have k1' := (hx.kept (fun _ _ => true)).same _ _ k1 rfl
  obtain ⟨c0, _, ow1, _⟩ := h'.slot rfl k1'
  obtain ⟨g', e, a0, fz⟩ := own1_cell ow1 rfl hi
  injection e with e; injection e with e; subst e
  obtain ⟨g', e, b0, _⟩ := own1_cell ow1 rfl hj
  injection e with e; injection e with e; subst e
  have hi' : (i : Int) < (s.length : Int) := by omega
  have hj' : (j : Int) < (s.length : Int) := by omega
  have hsm : (s.length : Int) ≤ 1000000 := by have := h.ssm; omega
  have HW := Lib.hid hW1
  have HS := Lib.hid h'
  have HB := Lib.hid hb
  have H1 := Lib.hid k1'
  clear h h' k1 k1' k2 hx hb hW1 ow ow1
  unfold pvi
  go_enter Tryz.func368, Tryz.ntmps368
  go_wp2_with fail
  change Code.wp _ _ _ _ (W.alloc (pvio bl bp))
  rw [← HW.out]
  clear hc0 hlt
  rcases Nat.lt_trichotomy i j with hij | hij | hij
  case' inr.inl => subst hij
  all_goals go_region
  case inl => 
    obtain ⟨W2, hW2⟩ : ∃ W2, W2 = ((W1.setCell ⟨g, i, none⟩ (.int .i64 ((nth s j : Nat) : Int))).setCell ⟨g, j, none⟩ (.int .i64 ((nth s i : Nat) : Int))).drew := ⟨_, rfl⟩
    change Exit.then _ _ _ _ ((W1.setCell ⟨g, i, none⟩ (.int .i64 ((nth s j : Nat) : Int))).setCell ⟨g, j, none⟩ (.int .i64 ((nth s i : Nat) : Int))).drew
    rw [← hW2]
    obtain ⟨q3, r3, hb2⟩ := HS.out.swapped H1.out hi hj hW2 HB.out
    clear hW2 p0 p1 p2 c0 a0 b0 fz HS HB H1
    have hL : (swp s i j).length = s.length := swp_len _ _ _
    obtain ⟨L, hLe⟩ : ∃ L, L = swp s i j := ⟨_, rfl⟩
    rw [← hLe] at hL q3
    have HLe := Lib.hid hLe
    obtain ⟨_, p1, p2⟩ := pvio_cells hb2
    obtain ⟨c0, _, ow, _⟩ := q3.slot hL.symm r3
    obtain ⟨g', e, a0, _⟩ := own1_cell ow hL.symm (show i < L.length by omega)
    injection e with e; injection e with e; subst e
    obtain ⟨g', e, b0, _⟩ := own1_cell ow hL.symm (show j < L.length by omega)
    injection e with e; injection e with e; subst e
    have HQ := Lib.hid q3
    clear q3 r3 hb2 hL hLe ow
    go_wp2_with fail
    go_still_tail 7, (by kernel_rfl)
    change wpList _ _ _ _ _ W2.drew
    go_wp2_with fail
    refine (moved2_ok _ _ _).mono ?_
    rintro e w' ⟨rfl, hw⟩
    have P1 := (show w'.cell? ⟨W.heap.size, 1, none⟩ = W2.cell? ⟨W.heap.size, 1, none⟩ by rw [hw]; rfl).trans p1
    have P2 := (show w'.cell? ⟨W.heap.size, 2, none⟩ = W2.cell? ⟨W.heap.size, 2, none⟩ by rw [hw]; rfl).trans p2
    have B0 := (show w'.cell? ⟨g, j, none⟩ = W2.cell? ⟨g, j, none⟩ by rw [hw]; rfl).trans b0
    have HWW := Lib.hid hw
    clear hw p1 p2 a0 b0 c0
    go_wp2_with fail
    go_still_tail 7, (by kernel_rfl)
    change wpList _ _ _ _ _ w'.drew
    go_wp2_with fail
    refine (moved2_ok _ _ _).mono ?_
    rintro e w' ⟨rfl, rfl⟩
    go_wp2_with fail
    go_end0
    refine ⟨rfl, ?_⟩
    rw [← HLe.out, HWW.out]
    exact (HQ.out.ext (Ext.drew _)).ext (Ext.drew _)
  case inr.inl => 
    obtain ⟨W2, hW2⟩ : ∃ W2, W2 = ((W1.setCell ⟨g, i, none⟩ (.int .i64 ((nth s i : Nat) : Int))).setCell ⟨g, i, none⟩ (.int .i64 ((nth s i : Nat) : Int))).drew := ⟨_, rfl⟩
    change Exit.then _ _ _ _ ((W1.setCell ⟨g, i, none⟩ (.int .i64 ((nth s i : Nat) : Int))).setCell ⟨g, i, none⟩ (.int .i64 ((nth s i : Nat) : Int))).drew
    rw [← hW2]
    obtain ⟨q3, r3, hb2⟩ := HS.out.swapped H1.out hi hj hW2 HB.out
    clear hW2 p0 p1 p2 c0 a0 b0 fz HS HB H1
    have hL : (swp s i i).length = s.length := swp_len _ _ _
    obtain ⟨L, hLe⟩ : ∃ L, L = swp s i i := ⟨_, rfl⟩
    rw [← hLe] at hL q3
    have HLe := Lib.hid hLe
    obtain ⟨_, p1, p2⟩ := pvio_cells hb2
    obtain ⟨c0, _, ow, _⟩ := q3.slot hL.symm r3
    obtain ⟨g', e, a0, _⟩ := own1_cell ow hL.symm (show i < L.length by omega)
    injection e with e; injection e with e; subst e
    obtain ⟨g', e, b0, _⟩ := own1_cell ow hL.symm (show i < L.length by omega)
    injection e with e; injection e with e; subst e
    have HQ := Lib.hid q3
    clear q3 r3 hb2 hL hLe ow
    go_wp2_with fail
    go_still_tail 7, (by kernel_rfl)
    change wpList _ _ _ _ _ W2.drew
    go_wp2_with fail
    refine (moved2_ok _ _ _).mono ?_
    rintro e w' ⟨rfl, hw⟩
    have P1 := (show w'.cell? ⟨W.heap.size, 1, none⟩ = W2.cell? ⟨W.heap.size, 1, none⟩ by rw [hw]; rfl).trans p1
    have P2 := (show w'.cell? ⟨W.heap.size, 2, none⟩ = W2.cell? ⟨W.heap.size, 2, none⟩ by rw [hw]; rfl).trans p2
    have B0 := (show w'.cell? ⟨g, i, none⟩ = W2.cell? ⟨g, i, none⟩ by rw [hw]; rfl).trans b0
    have HWW := Lib.hid hw
    clear hw p1 p2 a0 b0 c0
    go_wp2_with fail
    go_still_tail 7, (by kernel_rfl)
    change wpList _ _ _ _ _ w'.drew
    go_wp2_with fail
    refine (moved2_ok _ _ _).mono ?_
    rintro e w' ⟨rfl, rfl⟩
    go_wp2_with fail
    go_end0
    refine ⟨rfl, ?_⟩
    rw [← HLe.out, HWW.out]
    exact (HQ.out.ext (Ext.drew _)).ext (Ext.drew _)
  case inr.inr => 
    obtain ⟨W2, hW2⟩ : ∃ W2, W2 = ((W1.setCell ⟨g, i, none⟩ (.int .i64 ((nth s j : Nat) : Int))).setCell ⟨g, j, none⟩ (.int .i64 ((nth s i : Nat) : Int))).drew := ⟨_, rfl⟩
    change Exit.then _ _ _ _ ((W1.setCell ⟨g, i, none⟩ (.int .i64 ((nth s j : Nat) : Int))).setCell ⟨g, j, none⟩ (.int .i64 ((nth s i : Nat) : Int))).drew
    rw [← hW2]
    obtain ⟨q3, r3, hb2⟩ := HS.out.swapped H1.out hi hj hW2 HB.out
    clear hW2 p0 p1 p2 c0 a0 b0 fz HS HB H1
    have hL : (swp s i j).length = s.length := swp_len _ _ _
    obtain ⟨L, hLe⟩ : ∃ L, L = swp s i j := ⟨_, rfl⟩
    rw [← hLe] at hL q3
    have HLe := Lib.hid hLe
    obtain ⟨_, p1, p2⟩ := pvio_cells hb2
    obtain ⟨c0, _, ow, _⟩ := q3.slot hL.symm r3
    obtain ⟨g', e, a0, _⟩ := own1_cell ow hL.symm (show i < L.length by omega)
    injection e with e; injection e with e; subst e
    obtain ⟨g', e, b0, _⟩ := own1_cell ow hL.symm (show j < L.length by omega)
    injection e with e; injection e with e; subst e
    have HQ := Lib.hid q3
    clear q3 r3 hb2 hL hLe ow
    go_wp2_with fail
    go_still_tail 7, (by kernel_rfl)
    change wpList _ _ _ _ _ W2.drew
    go_wp2_with fail
    refine (moved2_ok _ _ _).mono ?_
    rintro e w' ⟨rfl, hw⟩
    have P1 := (show w'.cell? ⟨W.heap.size, 1, none⟩ = W2.cell? ⟨W.heap.size, 1, none⟩ by rw [hw]; rfl).trans p1
    have P2 := (show w'.cell? ⟨W.heap.size, 2, none⟩ = W2.cell? ⟨W.heap.size, 2, none⟩ by rw [hw]; rfl).trans p2
    have B0 := (show w'.cell? ⟨g, j, none⟩ = W2.cell? ⟨g, j, none⟩ by rw [hw]; rfl).trans b0
    have HWW := Lib.hid hw
    clear hw p1 p2 a0 b0 c0
    go_wp2_with fail
    go_still_tail 7, (by kernel_rfl)
    change wpList _ _ _ _ _ w'.drew
    go_wp2_with fail
    refine (moved2_ok _ _ _).mono ?_
    rintro e w' ⟨rfl, rfl⟩
    go_wp2_with fail
    go_end0
    refine ⟨rfl, ?_⟩
    rw [← HLe.out, HWW.out]
    exact (HQ.out.ext (Ext.drew _)).ext (Ext.drew _)
end
end Go.Proofs.YtfljmdpigckpkaaGreatDoor.QQ
