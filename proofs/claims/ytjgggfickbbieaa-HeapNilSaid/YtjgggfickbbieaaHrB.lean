/- The document's heap in memory: objects in a row, each with its own row of values; what is asked of it. -/
import Derived.Test.YtjgggfickbbieaaHrA
namespace Go.Proofs.Ytjgggfickbbieaa
open Go.RowKit Go.Shelf
attribute [local go_sem] Oper.semAt_some
/-- An object, and the slice that its values stand in. -/
structure Ob where
  kind : Int
  of : Int
  v : Value
  vals : List Int
  site : Int
  by' : Int
  nth : Int
instance : Inhabited Ob := ⟨⟨0, 0, .slice none 0 0, [], 0, 0, 0⟩⟩
def Ob.c6 (x : Ob) : List Value := [.int .i64 x.kind, .int .i64 x.of, x.v, .int .i64 x.site, .int .i64 x.by', .int .i64 x.nth]
def row6 (L : List Ob) : List Value := L.flatMap Ob.c6
def rowI (l : List Int) : List Value := l.map (.int .i64 ·)
def nt (L : List Ob) (i : Nat) : Ob := L.getD i default
theorem nt_lt {L : List Ob} {i : Nat} (h : i < L.length) : nt L i = L[i] := by simp [nt, List.getD, h]
theorem nt_mem {L : List Ob} {i : Nat} (h : i < L.length) : nt L i ∈ L := by rw [nt_lt h]; exact List.getElem_mem h
theorem flat_get {α : Type} {f : α → List Value} {s : Nat} (hs : ∀ x, (f x).length = s) {k : Nat} (hk : k < s) : ∀ (L : List α) (i : Nat) (hi : i < L.length), (L.flatMap f)[i * s + k]? = (f L[i])[k]?
  | x :: L, 0, _ => by
    simp only [List.flatMap_cons, Nat.zero_mul, Nat.zero_add, List.getElem_cons_zero]
    rw [List.getElem?_append_left (by rw [hs]; exact hk)]
  | x :: L, i + 1, hi => by
    simp only [List.flatMap_cons, List.getElem_cons_succ]
    rw [List.getElem?_append_right (by rw [hs, Nat.succ_mul]; omega), hs]
    rw [show (i + 1) * s + k - s = i * s + k by rw [Nat.succ_mul]; omega]
    exact flat_get hs hk L i (by simpa using hi)
theorem row6_len (L : List Ob) : (row6 L).length = L.length * 6 := by
  induction L with
  | nil => rfl
  | cons x L ih => simp only [row6, List.flatMap_cons, List.length_append, List.length_cons] at *; rw [ih]; simp [Ob.c6]; omega
/-- What a heap's own changes leave. -/
def pQ (own : Nat → Bool) : Nat → Option TypeId → Bool := fun b _ => !own b
/-- A heap of the document's: its box, its row, the rows of values, of which no two share a block; 'own' names its blocks. -/
structure RH (own : Nat → Bool) (bw : Nat) (L : List Ob) (W : World) : Prop where
  ex : ∃ v, W.heap[bw]? = some (.cells #[v] 30 (0, 0)) ∧ W.ownsRow 0 45 6 v L.length (row6 L) ∧ ∀ g, v.ownBlock = some g → own g = true
  vs : ∀ i, i < L.length → W.ownsRow 0 2 1 (nt L i).v (nt L i).vals.length (rowI (nt L i).vals)
  dis : ∀ i j, i < L.length → j < L.length → ∀ g, (nt L i).v.ownBlock = some g → (nt L j).v.ownBlock = some g → i = j
  ovs : ∀ i, i < L.length → ∀ g, (nt L i).v.ownBlock = some g → own g = true
  ob : own bw = true
  lt : ∀ b, own b = true → b < W.heap.size
  len : L.length ≤ 1024
  wid : ∀ i, i < L.length → (nt L i).vals.length ≤ 256
theorem RH.frame {own : Nat → Bool} {bw : Nat} {L : List Ob} {W W' : World} {p : Nat → Option TypeId → Bool} (h : RH own bw L W) (k : Kept p W W') (hp : ∀ b t, own b = true → p b t = true) : RH own bw L W' := by
  obtain ⟨⟨v, h1, h2, h3⟩, h4, h5, h6, h7, h8, h9, h10⟩ := h
  exact ⟨⟨v, k.same _ _ h1 (hp _ _ h7), k.row h2 fun g hg => hp _ _ (h3 g hg), h3⟩, fun i hi => k.row (h4 i hi) fun g hg => hp _ _ (h6 i hi g hg), h5, h6, h7, fun b hb => Nat.lt_of_lt_of_le (h8 b hb) k.size, h9, h10⟩
theorem RH.ext {own : Nat → Bool} {bw : Nat} {L : List Ob} {W W' : World} (h : RH own bw L W) (k : Ext W W') : RH own bw L W' := h.frame (k.kept (fun _ _ => true)) fun _ _ _ => rfl
theorem own6_cells {W : World} {B : Nat} {v : Value} {L : List Ob} (h : W.ownsRow B 45 6 v L.length (row6 L)) {i : Nat} (hi : i < L.length) :
    ∃ g c, v = .slice (some ⟨g, 0, none⟩) L.length c ∧ W.cell? ⟨g, i * 6, none⟩ = some (.int .i64 (nt L i).kind) ∧ W.cell? ⟨g, i * 6 + 1, none⟩ = some (.int .i64 (nt L i).of) ∧ W.cell? ⟨g, i * 6 + 2, none⟩ = some (nt L i).v ∧ W.cell? ⟨g, i * 6 + 3, none⟩ = some (.int .i64 (nt L i).site) ∧ W.cell? ⟨g, i * 6 + 4, none⟩ = some (.int .i64 (nt L i).by') ∧ W.cell? ⟨g, i * 6 + 5, none⟩ = some (.int .i64 (nt L i).nth) := by
  rcases h.2 with ⟨_, h0⟩ | ⟨g, cap, cur, e, _, h1, h2, h3, h4, h5⟩
  · omega
  · refine ⟨g, cap, e, ?_⟩
    have hc : ∀ k, k < 6 → W.cell? ⟨g, i * 6 + k, none⟩ = (nt L i).c6[k]? := fun k hk => by
      have h6 : cur.toList[i * 6 + k]? = (row6 L)[i * 6 + k]? := by rw [← h5, List.getElem?_take, if_pos (by omega)]
      rw [show (row6 L)[i * 6 + k]? = (nt L i).c6[k]? by rw [nt_lt hi]; exact flat_get (f := Ob.c6) (s := 6) (fun _ => rfl) hk L i hi] at h6
      simp only [World.cell?, h1]
      simpa using h6
    exact ⟨hc 0 (by omega), hc 1 (by omega), hc 2 (by omega), hc 3 (by omega), hc 4 (by omega), hc 5 (by omega)⟩
theorem ownI_cell {W : World} {B : Nat} {v : Value} {l : List Int} (h : W.ownsRow B 2 1 v l.length (rowI l)) {i : Nat} (hi : i < l.length) :
    ∃ g c, v = .slice (some ⟨g, 0, none⟩) l.length c ∧ W.cell? ⟨g, i, none⟩ = some (.int .i64 (l.getD i 0)) := by
  rcases h.2 with ⟨_, h0⟩ | ⟨g, cap, cur, e, _, h1, h2, h3, h4, h5⟩
  · omega
  · refine ⟨g, cap, e, ?_⟩
    have h6 : cur.toList[i]? = (rowI l)[i]? := by rw [← h5, List.getElem?_take, if_pos (by omega)]
    rw [rowI, List.getElem?_map, List.getElem?_eq_getElem hi] at h6
    simp only [World.cell?, h1]
    simpa [List.getD, hi] using h6
def hasO (L : List Ob) (id : Int) : Bool := decide (1 ≤ id) && decide (id ≤ L.length)
def atO (L : List Ob) (id : Int) : Ob := nt L (id - 1).toNat
def lenO (L : List Ob) (id : Int) : Int := if hasO L id = true then (atO L id).vals.length else 0
section
variable {own : Nat → Bool} {bw : Nat} {L : List Ob} {W : World}
set_option maxHeartbeats 1000000 in
set_option maxRecDepth 100000 in
theorem refHas_ok (h : RH own bw L W) (id : Int) : Calls Try.prog 31 #[.pointer (some ⟨bw, 0, none⟩), .int .i64 id] W fun e W' => e = .returned (.bool (hasO L id)) ∧ W' = W := by
  obtain ⟨v, h1, h2, _⟩ := h.ex
  obtain ⟨A, c, rfl⟩ := own_slice3 h2
  have c0 : W.cell? ⟨bw, 0, none⟩ = some (.slice A L.length c) := by simp [World.cell?, h1]
  unfold hasO
  by_cases hi : 1 ≤ id
  · by_cases hj : id ≤ L.length
    · rw [decide_eq_true hi, decide_eq_true hj]
      clear h h1 h2
      go_enter Try.func31, Try.ntmps31
      go_wp2
      go_ret
      exact ⟨rfl, rfl⟩
    · rw [decide_eq_true hi, decide_eq_false hj]
      clear h h1 h2
      go_enter Try.func31, Try.ntmps31
      go_wp2
      go_ret
      exact ⟨rfl, rfl⟩
  · rw [decide_eq_false hi, Bool.false_and]
    clear h h1 h2
    go_enter Try.func31, Try.ntmps31
    go_wp2
    go_ret
    exact ⟨rfl, rfl⟩
end
end Go.Proofs.Ytjgggfickbbieaa
