/- Swap of a queue's heap. -/
import Derived.Test.YtmbdglolpagjdaaQuI
namespace Go.Proofs.Ytmbdglolpagjdaa
open Go.RowKit Go.Shelf
/-- Entry i of a row is x. -/
def rowW (W : World) (g i : Nat) (x : Ent) : World := (((W.setCell ⟨g, i * 4, none⟩ (.int .i64 x.task)).setCell ⟨g, i * 4 + 1, none⟩ (.bool x.front)).setCell ⟨g, i * 4 + 2, none⟩ (.int .i64 x.due)).setCell ⟨g, i * 4 + 3, none⟩ (.int .i64 x.nth)
theorem row4_set (x : Ent) : ∀ (l : List Ent) (i : Nat), row4 (l.set i x) = ((((row4 l).set (i * 4) (.int .i64 x.task)).set (i * 4 + 1) (.bool x.front)).set (i * 4 + 2) (.int .i64 x.due)).set (i * 4 + 3) (.int .i64 x.nth)
  | [], i => by simp [row4]
  | y :: r, 0 => by simp [row4, Ent.cells]
  | y :: r, i + 1 => by
    have h1 := row4_set x r i
    have e : row4 (y :: r) = y.cells ++ row4 r := by simp [row4]
    have e1 : row4 ((y :: r).set (i + 1) x) = y.cells ++ row4 (r.set i x) := by simp [row4]
    have hs : ∀ (k : Nat) (v : Value) (t : List Value), (y.cells ++ t).set ((i + 1) * 4 + k) v = y.cells ++ t.set (i * 4 + k) v := fun k v t => by
      rw [List.set_append_right _ _ (by simp [Ent.cells]; omega)]
      congr 2
      simp [Ent.cells]; omega
    rw [e1, h1, e]
    have h0 := hs 0
    simp only [Nat.add_zero] at h0
    rw [h0, hs 1, hs 2, hs 3]
theorem own_rowW {W : World} {g n cap : Nat} {l : List Ent} (h : W.ownsRow 0 63 4 (.slice (some ⟨g, 0, none⟩) n cap) n (row4 l)) (i : Nat) (x : Ent) :
    (rowW W g i x).ownsRow 0 63 4 (.slice (some ⟨g, 0, none⟩) n cap) n (row4 (l.set i x)) ∧ W.grownBy (rowW W g i x) (some g) := by
  have h1 := h.stored (i * 4) (.int .i64 x.task)
  have h2 := h1.1.stored (i * 4 + 1) (.bool x.front)
  have h3 := h2.1.stored (i * 4 + 2) (.int .i64 x.due)
  have h4 := h3.1.stored (i * 4 + 3) (.int .i64 x.nth)
  refine ⟨by rw [row4_set]; exact h4.1, ?_⟩
  exact ((h1.2.trans h2.2).trans h3.2).trans h4.2
section
variable {p : PP} {W0 : World} {bq bp bm : Nat} {pu : Int}
theorem QS.rowW {l : List Ent} {D : DM} {W : World} (h : QS p W0 bq bp bm pu l D W) {g c : Nat} (h1 : W.heap[bq]? = some (.cells #[.slice (some ⟨g, 0, none⟩) l.length c, .map (some bm), .int .i64 pu] 59 (0, 0))) (i : Nat) (x : Ent) :
    QS p W0 bq bp bm pu (l.set i x) D (rowW W g i x) ∧ Kept (fun _ t => t != some 63) W (Go.Proofs.Ytmbdglolpagjdaa.rowW W g i x) ∧ (Go.Proofs.Ytmbdglolpagjdaa.rowW W g i x).heap[bq]? = some (.cells #[.slice (some ⟨g, 0, none⟩) (l.set i x).length c, .map (some bm), .int .i64 pu] 59 (0, 0)) := by
  obtain ⟨⟨v, h1', h2, h3⟩, h4, h5, h6, h7, h8, h9⟩ := h
  rw [h1] at h1'
  simp only [Option.some.injEq, Obj.cells.injEq, and_true] at h1'
  have e : v = .slice (some ⟨g, 0, none⟩) l.length c := by simpa using h1'.symm
  subst e
  obtain ⟨o1, o2⟩ := own_rowW h2 i x
  have hgt : ∀ o, W.heap[g]? = some o → tag o = some 63 := fun o ho => by
    rcases h2.2 with ⟨h0, _⟩ | ⟨g', cap, cur, e, _, k1, _⟩
    · cases h0
    · injection e with e _ _; injection e with e; injection e with e _ _; subst e
      rw [k1] at ho; cases ho; rfl
  have k : Kept (fun _ t => t != some 63) W (Go.Proofs.Ytmbdglolpagjdaa.rowW W g i x) := Kept.grown o2 fun j o e ho => by
    injection e with e; subst e; rw [hgt o ho]; simp
  have k1 := k.same _ _ h1 (by simp [tag])
  refine ⟨⟨⟨_, by simpa using k1, by simpa using o1, h3⟩, k.same _ _ h4 (by simp [tag]), k.map h5 (by simp), keptGrown h6 o2 (fun j o e ho hj => by
    injection e with e; subst e; rw [hgt o ho]; exact h3 g (by simp [Value.ownBlock]) hj), h7, h8, by simpa using h9⟩, k, by simpa using k1⟩
theorem QS.cells {l : List Ent} {D : DM} {W : World} (h : QS p W0 bq bp bm pu l D W) {A : Option Addr} {n c : Nat} (hn : n = l.length) (h1 : W.heap[bq]? = some (.cells #[.slice A n c, .map (some bm), .int .i64 pu] 59 (0, 0))) {i : Nat} (hi : i < l.length) :
    ∃ g, A = some ⟨g, 0, none⟩ ∧ W.cell? ⟨bq, 0, none⟩ = some (.slice (some ⟨g, 0, none⟩) n c) ∧ W.cell? ⟨g, i * 4, none⟩ = some (.int .i64 (nth l i).task) ∧ W.cell? ⟨g, i * 4 + 1, none⟩ = some (.bool (nth l i).front) ∧
      W.cell? ⟨g, i * 4 + 2, none⟩ = some (.int .i64 (nth l i).due) ∧ W.cell? ⟨g, i * 4 + 3, none⟩ = some (.int .i64 (nth l i).nth) ∧ ∀ k, W.frozen? ⟨g, k, none⟩ = false := by
  subst hn
  obtain ⟨⟨v, h1', h2, h3⟩, _⟩ := h
  rw [h1] at h1'
  simp only [Option.some.injEq, Obj.cells.injEq, and_true] at h1'
  have e : v = .slice A l.length c := by simpa using h1'.symm
  subst e
  obtain ⟨g, rfl, _, a0, a1, a2, a3⟩ := own4_cells h2 hi
  exact ⟨g, rfl, by simp [World.cell?, h1], a0, a1, a2, a3, fun k => h2.frozenAt k⟩

theorem drew_heap (W : World) : W.drew.heap = W.heap := rfl
theorem QS.swapped {l : List Ent} {D : DM} {W W2 : World} (h : QS p W0 bq bp bm pu l D W) {g c bb : Nat} (h1 : W.heap[bq]? = some (.cells #[.slice (some ⟨g, 0, none⟩) l.length c, .map (some bm), .int .i64 pu] 59 (0, 0))) (i j : Nat)
    (hW2 : W2 = (Go.Proofs.Ytmbdglolpagjdaa.rowW (Go.Proofs.Ytmbdglolpagjdaa.rowW W g i (nth l j)) g j (nth l i)).drew) (hb : W.heap[bb]? = some (pvo bq bp)) :
    QS p W0 bq bp bm pu (swp l i j) D W2 ∧ W2.heap[bq]? = some (.cells #[.slice (some ⟨g, 0, none⟩) l.length c, .map (some bm), .int .i64 pu] 59 (0, 0)) ∧ W2.heap[bb]? = some (pvo bq bp) := by
  obtain ⟨q1, m1, r1⟩ := h.rowW h1 i (nth l j)
  obtain ⟨q2, m2, r2⟩ := q1.rowW r1 j (nth l i)
  have q3 := q2.ext (Ext.drew _)
  rw [← hW2] at q3
  refine ⟨q3, ?_, ?_⟩
  · rw [hW2, drew_heap]; rw [List.length_set, List.length_set] at r2; exact r2
  · rw [hW2, drew_heap]; exact m2.same _ _ (m1.same _ _ hb (by simp [tag, pvo])) (by simp [tag, pvo])

set_option maxHeartbeats 2000000 in
set_option maxRecDepth 100000 in
theorem eswap_ok {l : List Ent} {D : DM} {W : World} {cp : Nat} {nt : Int} {K : Int → Prop} (h : QS p W0 bq bp bm pu l D W) (hc : Con cp nt K l D) (hK : K nt) (hcp : cp ≤ 2000000) {i j : Nat} (hi : i < l.length) (hj : j < l.length) : Calls Try.prog 77 #[pv bq bp, .int .i64 i, .int .i64 j] W fun e W' => e = .returned (.tuple #[]) ∧ ∃ D', QS p W0 bq bp bm pu (swp l i j) D' W' ∧ Con cp nt K (swp l i j) D' := by
  obtain ⟨v, k1, _, _⟩ := h.qb
  obtain ⟨A, c, e0⟩ : ∃ A c, v = .slice A l.length c := by obtain ⟨v', k1', k2, _⟩ := h.qb; rw [k1] at k1'; obtain ⟨A, c, rfl⟩ := own4 k2; exact ⟨A, c, by simpa using k1'⟩
  subst e0
  obtain ⟨g, rfl, hc0, _⟩ := h.cells rfl k1 hi
  have hlt := (Array.getElem?_eq_some_iff.1 k1).1
  obtain ⟨W1, hW1⟩ : ∃ W1, W1 = W.alloc (pvo bq bp) := ⟨_, rfl⟩
  have hx : Ext W W1 := by rw [hW1]; exact Ext.one _ _
  have hb : W1.heap[W.heap.size]? = some (pvo bq bp) := by rw [hW1]; exact World.alloc_heap_new _ _
  obtain ⟨p0, p1, p2⟩ := pvo_cells hb
  have h' := h.ext hx
  have k1' := (hx.kept (fun _ _ => true)).same _ _ k1 rfl
  obtain ⟨g', e, c0, a0, a1, a2, a3, fz⟩ := h'.cells rfl k1' hi
  injection e with e; injection e with e; subst e
  obtain ⟨g', e, _, b0, b1, b2, b3, _⟩ := h'.cells rfl k1' hj
  injection e with e; injection e with e; subst e
  have hi' : (i : Int) < (l.length : Int) := by omega
  have hj' : (j : Int) < (l.length : Int) := by omega
  have hsm : (l.length : Int) ≤ 1000000 := by have := h.small; omega
  have HW := Lib.hid hW1
  have HS := Lib.hid h'
  have HB := Lib.hid hb
  have H1 := Lib.hid k1'
  have HC := Lib.hid hc
  clear h h' k1 k1' hx hb hW1 hc
  unfold pv
  go_enter Try.func77, Try.ntmps77
  go_wp2_with fail
  change Code.wp _ _ _ _ (W.alloc (pvo bq bp))
  rw [← HW.out]
  clear hc0 hlt
  rcases Nat.lt_trichotomy i j with hij | hij | hij
  case' inr.inl => subst hij
  all_goals go_region
  case inl => 
    obtain ⟨W2, hW2⟩ : ∃ W2, W2 = (Go.Proofs.Ytmbdglolpagjdaa.rowW (Go.Proofs.Ytmbdglolpagjdaa.rowW W1 g i (nth l j)) g j (nth l i)).drew := ⟨_, rfl⟩
    change Exit.then _ _ _ _ (Go.Proofs.Ytmbdglolpagjdaa.rowW (Go.Proofs.Ytmbdglolpagjdaa.rowW W1 g i (nth l j)) g j (nth l i)).drew
    rw [← hW2]
    obtain ⟨q3, r3, hb2⟩ := HS.out.swapped H1.out i j hW2 HB.out
    clear hW2 p0 p1 p2 c0 a0 a1 a2 a3 b0 b1 b2 b3 fz HS HB H1
    have hL : (swp l i j).length = l.length := swp_len _ _ _
    have hCS := HC.out.swap hK hi hj
    have hz1 : Maps.size D ≤ cp := by have := HC.out.size; omega
    have hcc := HC.out.keyed hK (t := (nth (swp l i j) i).task) (i := i) (.inl (by rw [nth_swp _ hi, sw_i]; exact HC.out.has _ hj))
    have hz2 : Maps.size (putD D (nth (swp l i j) i).task i) ≤ cp := by have := hcc.2.1; omega
    have hr1 : 0 ≤ (nth (swp l i j) i).task ∧ (nth (swp l i j) i).task ≤ 9223372036854775807 := by rw [nth_swp _ hi, sw_i]; exact HC.out.rng _ hj
    have hr2 : 0 ≤ (nth (swp l i j) j).task ∧ (nth (swp l i j) j).task ≤ 9223372036854775807 := by rw [nth_swp _ hj, sw_j]; exact HC.out.rng _ hi
    obtain ⟨L, hLe⟩ : ∃ L, L = swp l i j := ⟨_, rfl⟩
    rw [← hLe] at hL hz2 hr1 hr2 q3
    have HLe := Lib.hid hLe
    obtain ⟨_, p1, p2⟩ := pvo_cells hb2
    obtain ⟨g', e, c0, a0, a1, a2, a3, _⟩ := q3.cells hL.symm r3 (show i < L.length by omega)
    injection e with e; injection e with e; subst e
    have hmv := fun w (hw : QS p W0 bq bp bm pu L D w) => moved_ok hw (nth L i) i (by omega) hr1 (by omega)
    have hmv2 := fun w (hw : QS p W0 bq bp bm pu L (putD D (nth L i).task i) w) => moved_ok hw (nth L j) j (by omega) hr2 (by omega)
    simp only [Ent.val] at hmv hmv2
    have HQ := Lib.hid q3
    have HR := Lib.hid r3
    have HB := Lib.hid hb2
    have HL := Lib.hid hL
    clear q3 r3 hb2 hL hcc hLe
    go_wp2_with fail
    go_still_tail 7, (by kernel_rfl)
    change wpList _ _ _ _ _ W2.drew
    go_wp2_with fail
    refine (hmv _ (HQ.out.ext (Ext.drew _))).mono ?_
    rintro e w' ⟨rfl, q4, k4⟩
    have r4 := k4.same bq _ (show W2.drew.heap[bq]? = _ from HR.out) rfl
    have hb4 := k4.same W.heap.size _ (show W2.drew.heap[W.heap.size]? = _ from HB.out) rfl
    clear p1 p2 c0 a0 a1 a2 a3
    obtain ⟨_, p1, p2⟩ := pvo_cells hb4
    obtain ⟨g', e, c0, a0, a1, a2, a3, _⟩ := q4.cells HL.out.symm r4 (show j < L.length by have := HL.out; omega)
    injection e with e; injection e with e; subst e
    have HQ4 := Lib.hid q4
    clear q4 k4 r4 hb4
    go_wp2_with fail
    go_still_tail 7, (by kernel_rfl)
    change wpList _ _ _ _ _ w'.drew
    go_wp2_with fail
    refine (hmv2 _ (HQ4.out.ext (Ext.drew _))).mono ?_
    rintro e w'' ⟨rfl, q5, k5⟩
    go_wp2_with fail
    go_end0
    rw [HLe.out] at q5
    exact ⟨rfl, _, q5, hCS⟩
  case inr.inl => 
    obtain ⟨W2, hW2⟩ : ∃ W2, W2 = (Go.Proofs.Ytmbdglolpagjdaa.rowW (Go.Proofs.Ytmbdglolpagjdaa.rowW W1 g i (nth l i)) g i (nth l i)).drew := ⟨_, rfl⟩
    change Exit.then _ _ _ _ (Go.Proofs.Ytmbdglolpagjdaa.rowW (Go.Proofs.Ytmbdglolpagjdaa.rowW W1 g i (nth l i)) g i (nth l i)).drew
    rw [← hW2]
    obtain ⟨q3, r3, hb2⟩ := HS.out.swapped H1.out i i hW2 HB.out
    clear hW2 p0 p1 p2 c0 a0 a1 a2 a3 b0 b1 b2 b3 fz HS HB H1
    have hL : (swp l i i).length = l.length := swp_len _ _ _
    have hCS := HC.out.swap hK hi hj
    have hz1 : Maps.size D ≤ cp := by have := HC.out.size; omega
    have hcc := HC.out.keyed hK (t := (nth (swp l i i) i).task) (i := i) (.inl (by rw [nth_swp _ hi, sw_i]; exact HC.out.has _ hj))
    have hz2 : Maps.size (putD D (nth (swp l i i) i).task i) ≤ cp := by have := hcc.2.1; omega
    have hr1 : 0 ≤ (nth (swp l i i) i).task ∧ (nth (swp l i i) i).task ≤ 9223372036854775807 := by rw [nth_swp _ hi, sw_i]; exact HC.out.rng _ hj
    have hr2 : 0 ≤ (nth (swp l i i) i).task ∧ (nth (swp l i i) i).task ≤ 9223372036854775807 := by rw [nth_swp _ hj, sw_j]; exact HC.out.rng _ hi
    obtain ⟨L, hLe⟩ : ∃ L, L = swp l i i := ⟨_, rfl⟩
    rw [← hLe] at hL hz2 hr1 hr2 q3
    have HLe := Lib.hid hLe
    obtain ⟨_, p1, p2⟩ := pvo_cells hb2
    obtain ⟨g', e, c0, a0, a1, a2, a3, _⟩ := q3.cells hL.symm r3 (show i < L.length by omega)
    injection e with e; injection e with e; subst e
    have hmv := fun w (hw : QS p W0 bq bp bm pu L D w) => moved_ok hw (nth L i) i (by omega) hr1 (by omega)
    have hmv2 := fun w (hw : QS p W0 bq bp bm pu L (putD D (nth L i).task i) w) => moved_ok hw (nth L i) i (by omega) hr2 (by omega)
    simp only [Ent.val] at hmv hmv2
    have HQ := Lib.hid q3
    have HR := Lib.hid r3
    have HB := Lib.hid hb2
    have HL := Lib.hid hL
    clear q3 r3 hb2 hL hcc hLe
    go_wp2_with fail
    go_still_tail 7, (by kernel_rfl)
    change wpList _ _ _ _ _ W2.drew
    go_wp2_with fail
    refine (hmv _ (HQ.out.ext (Ext.drew _))).mono ?_
    rintro e w' ⟨rfl, q4, k4⟩
    have r4 := k4.same bq _ (show W2.drew.heap[bq]? = _ from HR.out) rfl
    have hb4 := k4.same W.heap.size _ (show W2.drew.heap[W.heap.size]? = _ from HB.out) rfl
    clear p1 p2 c0 a0 a1 a2 a3
    obtain ⟨_, p1, p2⟩ := pvo_cells hb4
    obtain ⟨g', e, c0, a0, a1, a2, a3, _⟩ := q4.cells HL.out.symm r4 (show i < L.length by have := HL.out; omega)
    injection e with e; injection e with e; subst e
    have HQ4 := Lib.hid q4
    clear q4 k4 r4 hb4
    go_wp2_with fail
    go_still_tail 7, (by kernel_rfl)
    change wpList _ _ _ _ _ w'.drew
    go_wp2_with fail
    refine (hmv2 _ (HQ4.out.ext (Ext.drew _))).mono ?_
    rintro e w'' ⟨rfl, q5, k5⟩
    go_wp2_with fail
    go_end0
    rw [HLe.out] at q5
    exact ⟨rfl, _, q5, hCS⟩
  case inr.inr => 
    obtain ⟨W2, hW2⟩ : ∃ W2, W2 = (Go.Proofs.Ytmbdglolpagjdaa.rowW (Go.Proofs.Ytmbdglolpagjdaa.rowW W1 g i (nth l j)) g j (nth l i)).drew := ⟨_, rfl⟩
    change Exit.then _ _ _ _ (Go.Proofs.Ytmbdglolpagjdaa.rowW (Go.Proofs.Ytmbdglolpagjdaa.rowW W1 g i (nth l j)) g j (nth l i)).drew
    rw [← hW2]
    obtain ⟨q3, r3, hb2⟩ := HS.out.swapped H1.out i j hW2 HB.out
    clear hW2 p0 p1 p2 c0 a0 a1 a2 a3 b0 b1 b2 b3 fz HS HB H1
    have hL : (swp l i j).length = l.length := swp_len _ _ _
    have hCS := HC.out.swap hK hi hj
    have hz1 : Maps.size D ≤ cp := by have := HC.out.size; omega
    have hcc := HC.out.keyed hK (t := (nth (swp l i j) i).task) (i := i) (.inl (by rw [nth_swp _ hi, sw_i]; exact HC.out.has _ hj))
    have hz2 : Maps.size (putD D (nth (swp l i j) i).task i) ≤ cp := by have := hcc.2.1; omega
    have hr1 : 0 ≤ (nth (swp l i j) i).task ∧ (nth (swp l i j) i).task ≤ 9223372036854775807 := by rw [nth_swp _ hi, sw_i]; exact HC.out.rng _ hj
    have hr2 : 0 ≤ (nth (swp l i j) j).task ∧ (nth (swp l i j) j).task ≤ 9223372036854775807 := by rw [nth_swp _ hj, sw_j]; exact HC.out.rng _ hi
    obtain ⟨L, hLe⟩ : ∃ L, L = swp l i j := ⟨_, rfl⟩
    rw [← hLe] at hL hz2 hr1 hr2 q3
    have HLe := Lib.hid hLe
    obtain ⟨_, p1, p2⟩ := pvo_cells hb2
    obtain ⟨g', e, c0, a0, a1, a2, a3, _⟩ := q3.cells hL.symm r3 (show i < L.length by omega)
    injection e with e; injection e with e; subst e
    have hmv := fun w (hw : QS p W0 bq bp bm pu L D w) => moved_ok hw (nth L i) i (by omega) hr1 (by omega)
    have hmv2 := fun w (hw : QS p W0 bq bp bm pu L (putD D (nth L i).task i) w) => moved_ok hw (nth L j) j (by omega) hr2 (by omega)
    simp only [Ent.val] at hmv hmv2
    have HQ := Lib.hid q3
    have HR := Lib.hid r3
    have HB := Lib.hid hb2
    have HL := Lib.hid hL
    clear q3 r3 hb2 hL hcc hLe
    go_wp2_with fail
    go_still_tail 7, (by kernel_rfl)
    change wpList _ _ _ _ _ W2.drew
    go_wp2_with fail
    refine (hmv _ (HQ.out.ext (Ext.drew _))).mono ?_
    rintro e w' ⟨rfl, q4, k4⟩
    have r4 := k4.same bq _ (show W2.drew.heap[bq]? = _ from HR.out) rfl
    have hb4 := k4.same W.heap.size _ (show W2.drew.heap[W.heap.size]? = _ from HB.out) rfl
    clear p1 p2 c0 a0 a1 a2 a3
    obtain ⟨_, p1, p2⟩ := pvo_cells hb4
    obtain ⟨g', e, c0, a0, a1, a2, a3, _⟩ := q4.cells HL.out.symm r4 (show j < L.length by have := HL.out; omega)
    injection e with e; injection e with e; subst e
    have HQ4 := Lib.hid q4
    clear q4 k4 r4 hb4
    go_wp2_with fail
    go_still_tail 7, (by kernel_rfl)
    change wpList _ _ _ _ _ w'.drew
    go_wp2_with fail
    refine (hmv2 _ (HQ4.out.ext (Ext.drew _))).mono ?_
    rintro e w'' ⟨rfl, q5, k5⟩
    go_wp2_with fail
    go_end0
    rw [HLe.out] at q5
    exact ⟨rfl, _, q5, hCS⟩
end
end Go.Proofs.Ytmbdglolpagjdaa
