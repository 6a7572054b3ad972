/- The program's heap in memory; an object, a value that is found. -/
import Derived.Test.YtjgggfickbbieaaHrL
import Derived.Shelf.SlMaps.Clone
namespace Go.Proofs.Ytjgggfickbbieaa
open Go.RowKit Go.Shelf
attribute [local go_sem] Oper.semAt_some
abbrev DM := DataW Unit
def tk (t : Int) : Lit := .int .i64 t
def at0 (D : DM) (t : Int) : DM := D.atKey (tk t) (.lit (tk 0))
/-- What a heap's map says: of each task, how many objects it made. -/
structure MD (L : List Ob) (D : DM) : Prop where
  at' : ∀ t, at0 D t = .lit (tk (cntO L t))
  size : Maps.size D ≤ L.length
  tidy : Maps.Tidy D
/-- A heap's map: none yet, or one of its own. -/
def MapV (own : Nat → Bool) (mv : Value) (L : List Ob) (W : World) : Prop := (mv = .map none ∧ L = []) ∨ ∃ bm D, mv = .map (some bm) ∧ own bm = true ∧ W.ownsMap Try.prog 3 (plainElem Try.prog 3) bm (Maps.size D) D ∧ MD L D
def rowP (ps : List Nat) : List Value := ps.map fun b => .pointer (some ⟨b, 0, none⟩)
def pt (ps : List Nat) (i : Nat) : Nat := ps.getD i 0
/-- A heap of the program's: its box, its row of pointers, its map, the objects' boxes, the rows of values; 'own' names its blocks. -/
structure PH (own : Nat → Bool) (bh : Nat) (ps : List Nat) (L : List Ob) (W : World) : Prop where
  ex : ∃ v mv, W.heap[bh]? = some (.cells #[v, mv] 62 (0, 0)) ∧ W.ownsRow 0 75 1 v L.length (rowP ps) ∧ (∀ g, v.ownBlock = some g → own g = true) ∧ MapV own mv L W
  pl : ps.length = L.length
  bo : ∀ i, i < L.length → W.heap[pt ps i]? = some (obo (nt L i) (nt L i).nth)
  ops : ∀ i, i < L.length → own (pt ps i) = true
  vs : ∀ i, i < L.length → W.ownsRow 0 2 1 (nt L i).v (nt L i).vals.length (rowI (nt L i).vals)
  dis : ∀ i j, i < L.length → j < L.length → ∀ g, (nt L i).v.ownBlock = some g → (nt L j).v.ownBlock = some g → i = j
  ovs : ∀ i, i < L.length → ∀ g, (nt L i).v.ownBlock = some g → own g = true
  ob : own bh = true
  lt : ∀ b, own b = true → b < W.heap.size
  len : L.length ≤ 1024
  wid : ∀ i, i < L.length → (nt L i).vals.length ≤ 256
theorem MapV.frame {own : Nat → Bool} {mv : Value} {L : List Ob} {W W' : World} {p : Nat → Option TypeId → Bool} (h : MapV own mv L W) (k : Kept p W W') (hp : ∀ b t, own b = true → p b t = true) : MapV own mv L W' := by
  rcases h with h | ⟨bm, D, h1, h2, h3, h4⟩
  · exact .inl h
  · exact .inr ⟨bm, D, h1, h2, k.map h3 (hp _ _ h2), h4⟩
theorem PH.frame {own : Nat → Bool} {bh : Nat} {ps : List Nat} {L : List Ob} {W W' : World} {p : Nat → Option TypeId → Bool} (h : PH own bh ps L W) (k : Kept p W W') (hp : ∀ b t, own b = true → p b t = true) : PH own bh ps L W' := by
  obtain ⟨⟨v, mv, h1, h2, h3, h4⟩, h5, h6, h7, h8, h9, h10, h11, h12, h13, h14⟩ := h
  exact ⟨⟨v, mv, k.same _ _ h1 (hp _ _ h11), k.row h2 fun g hg => hp _ _ (h3 g hg), h3, h4.frame k hp⟩, h5, fun i hi => k.same _ _ (h6 i hi) (hp _ _ (h7 i hi)), h7, fun i hi => k.row (h8 i hi) fun g hg => hp _ _ (h10 i hi g hg), h9, h10, h11, fun b hb => Nat.lt_of_lt_of_le (h12 b hb) k.size, h13, h14⟩
theorem PH.ext {own : Nat → Bool} {bh : Nat} {ps : List Nat} {L : List Ob} {W W' : World} (h : PH own bh ps L W) (k : Ext W W') : PH own bh ps L W' := h.frame (k.kept (fun _ _ => true)) fun _ _ _ => rfl
theorem pt_lt {ps : List Nat} {i : Nat} (h : i < ps.length) : pt ps i = ps[i] := by simp [pt, List.getD, h]
theorem ownP_cell {W : World} {B : Nat} {v : Value} {ps : List Nat} {n : Nat} (hn : ps.length = n) (h : W.ownsRow B 75 1 v n (rowP ps)) {i : Nat} (hi : i < n) :
    ∃ g c, v = .slice (some ⟨g, 0, none⟩) n c ∧ W.cell? ⟨g, i, none⟩ = some (.pointer (some ⟨pt ps i, 0, none⟩)) := by
  subst hn
  rcases h.2 with ⟨_, h0⟩ | ⟨g, cap, cur, e, _, h1, h2, h3, h4, h5⟩
  · omega
  · refine ⟨g, cap, e, ?_⟩
    have h6 : cur.toList[i]? = (rowP ps)[i]? := by rw [← h5, List.getElem?_take, if_pos (by omega)]
    rw [rowP, List.getElem?_map, List.getElem?_eq_getElem hi] at h6
    rw [pt_lt hi]
    simp only [World.cell?, h1]
    simpa using h6
section
variable {own : Nat → Bool} {bh : Nat} {ps : List Nat} {L : List Ob} {W : World}
/-- The cells that tell of an object. -/
theorem PH.cells (h : PH own bh ps L W) {i : Nat} (hi : i < L.length) : ∃ g c mv, W.heap[bh]? = some (.cells #[.slice (some ⟨g, 0, none⟩) L.length c, mv] 62 (0, 0)) ∧ W.cell? ⟨bh, 0, none⟩ = some (.slice (some ⟨g, 0, none⟩) L.length c) ∧ W.cell? ⟨g, i, none⟩ = some (.pointer (some ⟨pt ps i, 0, none⟩)) := by
  obtain ⟨v, mv, h1, h2, _⟩ := h.ex
  obtain ⟨g, c, rfl, h3⟩ := ownP_cell h.pl h2 hi
  exact ⟨g, c, mv, h1, by simp [World.cell?, h1], h3⟩
theorem PH.list (h : PH own bh ps L W) : ∃ A c mv, W.heap[bh]? = some (.cells #[.slice A L.length c, mv] 62 (0, 0)) ∧ W.cell? ⟨bh, 0, none⟩ = some (.slice A L.length c) ∧ W.cell? ⟨bh, 1, none⟩ = some mv := by
  obtain ⟨v, mv, h1, h2, _⟩ := h.ex
  obtain ⟨A, c, rfl⟩ := own_slice3 h2
  exact ⟨A, c, mv, h1, by simp [World.cell?, h1], by simp [World.cell?, h1]⟩
theorem PH.bl (h : PH own bh ps L W) : bh < W.heap.size := h.lt _ h.ob
set_option maxHeartbeats 1000000 in
set_option maxRecDepth 100000 in
theorem find_yes (h : PH own bh ps L W) {i : Nat} (hi : i < L.length) : Calls Try.prog 40 #[.pointer (some ⟨bh, 0, none⟩), .int .i64 ((i : Int) + 1)] W fun e W' => e = .returned (.tuple #[.pointer (some ⟨pt ps i, 0, none⟩), .int .i64 0]) ∧ W' = W := by
  obtain ⟨g, c, mv, h1, c0, c1⟩ := h.cells hi
  have hl := h.len
  have hil : (i : Int) < (L.length : Int) := by omega
  have hbh := h.bl
  clear h h1
  go_enter Try.func40, Try.ntmps40
  go_wp2
  go_ret2
  exact ⟨rfl, rfl⟩
set_option maxHeartbeats 1000000 in
set_option maxRecDepth 100000 in
theorem find_no (h : PH own bh ps L W) {id : Int} (hn : hasO L id = false) : Calls Try.prog 40 #[.pointer (some ⟨bh, 0, none⟩), .int .i64 id] W fun e W' => e = .returned (.tuple #[.pointer none, .int .i64 13]) ∧ W' = W := by
  obtain ⟨A, c, mv, h1, c0, _⟩ := h.list
  have hl := h.len
  have hbh := h.bl
  by_cases h0 : id < 1
  · clear h h1 hn
    go_enter Try.func40, Try.ntmps40
    go_wp2
    go_ret2
    exact ⟨rfl, rfl⟩
  · have h2 : id > (L.length : Int) := by
      simp only [hasO, Bool.and_eq_false_iff, decide_eq_false_iff_not] at hn
      omega
    clear h h1 hn
    go_enter Try.func40, Try.ntmps40
    go_wp2
    go_ret2
    exact ⟨rfl, rfl⟩
set_option maxHeartbeats 1000000 in
set_option maxRecDepth 100000 in
theorem value_yes (h : PH own bh ps L W) {j k : Nat} (hj : j < L.length) (hk : k < (nt L j).vals.length) : ∃ g c, (nt L j).v = .slice (some ⟨g, 0, none⟩) (nt L j).vals.length c ∧ Calls Try.prog 42 #[.pointer (some ⟨bh, 0, none⟩), .int .i64 ((j : Int) + 1), .int .i64 k] W fun e W' => e = .returned (.tuple #[.pointer (some ⟨g, k, none⟩), .int .i64 0]) ∧ W' = W := by
  have HF := Lib.hid (find_yes h hj)
  obtain ⟨g, c, hv, d0⟩ := ownI_cell (h.vs j hj) hk
  obtain ⟨⟨_, _, x2, _⟩, _, xl⟩ := obo_cells (h.bo j hj)
  rw [hv] at x2
  refine ⟨g, c, hv, ?_⟩
  have hw := h.wid j hj
  have hkl : (k : Int) < ((nt L j).vals.length : Int) := by omega
  clear h hv
  go_enter Try.func42, Try.ntmps42
  go_wp2_with (go_at_call 40; refine HF.out.mono ?_; rintro e w2 ⟨rfl, rfl⟩)
  go_ret2
  exact ⟨by simp, rfl⟩
set_option maxHeartbeats 1000000 in
set_option maxRecDepth 100000 in
theorem value_no (h : PH own bh ps L W) {id i : Int} (hn : ¬ (0 ≤ i ∧ i < lenO L id)) : Calls Try.prog 42 #[.pointer (some ⟨bh, 0, none⟩), .int .i64 id, .int .i64 i] W fun e W' => e = .returned (.tuple #[.pointer none, .int .i64 13]) ∧ W' = W := by
  cases hb : hasO L id with
  | false =>
    have HF := Lib.hid (find_no h hb)
    clear h hn hb
    go_enter Try.func42, Try.ntmps42
    go_wp2_with (go_at_call 40; refine HF.out.mono ?_; rintro e w2 ⟨rfl, rfl⟩)
    go_ret2
    exact ⟨rfl, rfl⟩
  | true =>
    obtain ⟨j, hj, rfl, ha⟩ := hasO_true hb
    have HF := Lib.hid (find_yes h hj)
    obtain ⟨⟨_, _, x2, _⟩, _, xl⟩ := obo_cells (h.bo j hj)
    obtain ⟨A, c, hv⟩ := own_slice3 (h.vs j hj)
    rw [hv] at x2
    have hle : lenO L ((j : Int) + 1) = ((nt L j).vals.length : Int) := by unfold lenO; rw [if_pos hb, ha]
    rw [hle] at hn
    have hw := h.wid j hj
    clear h hb ha hle hv
    by_cases h0 : i < 0
    · clear hn
      go_enter Try.func42, Try.ntmps42
      go_wp2_with (go_at_call 40; refine HF.out.mono ?_; rintro e w2 ⟨rfl, rfl⟩)
      go_ret2
      exact ⟨rfl, rfl⟩
    · have h1 : i ≥ ((nt L j).vals.length : Int) := by omega
      clear hn
      go_enter Try.func42, Try.ntmps42
      go_wp2_with (go_at_call 40; refine HF.out.mono ?_; rintro e w2 ⟨rfl, rfl⟩)
      go_ret2
      exact ⟨rfl, rfl⟩
end
end Go.Proofs.Ytjgggfickbbieaa
