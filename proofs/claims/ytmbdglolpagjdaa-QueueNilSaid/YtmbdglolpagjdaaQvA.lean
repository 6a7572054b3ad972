/- The document's queue: items in the order in which they were put; which place a task's item has; what comes first. -/
import Derived.Test.YtmbdglolpagjdaaQuP
import Derived.Deep.DeepCutAuto
import Derived.Deep.RegionHeld3
import Derived.StillTailTactics
import Derived.BigRegion
import Derived.Deep.RegionLaw
import Derived.Deep.AppendLies
namespace Go.Proofs.Ytmbdglolpagjdaa
open Go.RowKit Go.Shelf
attribute [local go_sem] Oper.semAt_some

def Ent.it3 (x : Ent) : List Value := [.int .i64 x.task, .bool x.front, .int .i64 x.due]
def row3 (l : List Ent) : List Value := l.flatMap Ent.it3
theorem row3_len (l : List Ent) : (row3 l).length = l.length * 3 := by
  unfold row3; induction l with
  | nil => rfl
  | cons x r ih => simp [List.flatMap_cons, Ent.it3, ih]; omega
theorem row3_snoc (l : List Ent) (x : Ent) : row3 (l ++ [x]) = row3 l ++ x.it3 := by simp [row3]
theorem row3_app (l m : List Ent) : row3 (l ++ m) = row3 l ++ row3 m := by simp [row3]
theorem row3_get {l : List Ent} : ∀ {i : Nat}, i < l.length → ∀ k, k < 3 → (row3 l)[i * 3 + k]? = (nth l i).it3[k]? := by
  induction l with
  | nil => intro i h; simp at h
  | cons x r ih =>
    intro i h k hk
    cases i with
    | zero =>
      have : nth (x :: r) 0 = x := rfl
      rw [this]
      simp only [row3, List.flatMap_cons, Nat.zero_mul, Nat.zero_add]
      rw [List.getElem?_append_left (by simp [Ent.it3]; omega)]
    | succ i =>
      have h1 := ih (i := i) (by simpa using h) k hk
      have : nth (x :: r) (i + 1) = nth r i := rfl
      rw [this, ← h1]
      simp only [row3, List.flatMap_cons]
      rw [List.getElem?_append_right (by simp [Ent.it3]; omega)]
      congr 1
      simp [Ent.it3]; omega
theorem row3_one (l : List Ent) : ∀ u ∈ row3 l, u.oneCell' = true := by
  intro u hu
  unfold row3 at hu
  obtain ⟨x, _, hx⟩ := List.mem_flatMap.1 hu
  simp [Ent.it3] at hx
  rcases hx with rfl | rfl | rfl <;> rfl
theorem own_tag {W : World} {B : Nat} {e : TypeId} {size : Nat} {v : Value} {n : Nat} {xs : List Value} (h : W.ownsRow B e size v n xs) : ∀ g o, v.ownBlock = some g → W.heap[g]? = some o → tag o = some e ∧ B ≤ g := fun g o hv ho => by
  rcases h.2 with ⟨h0, _⟩ | ⟨g', cap, cur, e, hb, k1, _⟩
  · rw [h0] at hv; cases hv
  · rw [e] at hv
    have : g' = g := by simpa [Value.ownBlock] using hv
    subst this
    rw [k1] at ho; cases ho; exact ⟨rfl, hb⟩
theorem own_is {W : World} {B : Nat} {e : TypeId} {size : Nat} {v : Value} {n : Nat} {xs : List Value} (h : W.ownsRow B e size v n xs) : ∀ g, v.ownBlock = some g → ∃ o, W.heap[g]? = some o ∧ tag o = some e := fun g hv => by
  rcases h.2 with ⟨h0, _⟩ | ⟨g', cap, cur, e, hb, k1, _⟩
  · rw [h0] at hv; cases hv
  · rw [e] at hv
    have : g' = g := by simpa [Value.ownBlock] using hv
    subst this
    exact ⟨_, k1, rfl⟩
theorem own_slice3 {W : World} {base : Nat} {e : TypeId} {size : Nat} {v : Value} {n : Nat} {xs : List Value} (h : W.ownsRow base e size v n xs) : ∃ A c, v = .slice A n c := by
  rcases h.2 with ⟨rfl, h0⟩ | ⟨g, cap, _, rfl, _⟩
  · exact ⟨none, 0, by rw [h0]⟩
  · exact ⟨_, cap, rfl⟩
theorem own3_cells {W : World} {B : Nat} {A : Option Addr} {c : Nat} {l : List Ent} (h : W.ownsRow B 32 3 (.slice A l.length c) l.length (row3 l)) {i : Nat} (hi : i < l.length) :
    ∃ g, A = some ⟨g, 0, none⟩ ∧ W.cell? ⟨g, i * 3, none⟩ = some (.int .i64 (nth l i).task) ∧ W.cell? ⟨g, i * 3 + 1, none⟩ = some (.bool (nth l i).front) ∧ W.cell? ⟨g, i * 3 + 2, none⟩ = some (.int .i64 (nth l i).due) := by
  rcases h.2 with ⟨_, h0⟩ | ⟨g, cap, cur, e, _, h1, h2, h3, h4, h5⟩
  · omega
  · injection e with e _ _
    refine ⟨g, e, ?_⟩
    have hc : ∀ k, k < 3 → W.cell? ⟨g, i * 3 + k, none⟩ = (nth l i).it3[k]? := fun k hk => by
      have h6 : cur.toList[i * 3 + k]? = (row3 l)[i * 3 + k]? := by rw [← h5, List.getElem?_take, if_pos (by omega)]
      rw [row3_get hi k hk] at h6
      simp only [World.cell?, h1]
      simpa using h6
    exact ⟨hc 0 (by omega), hc 1 (by omega), hc 2 (by omega)⟩
theorem Kept.rowT {p : Nat → Option TypeId → Bool} {W W' : World} (h : Kept p W W') {base : Nat} {e : TypeId} {size n : Nat} {v : Value} {xs : List Value} (hr : W.ownsRow base e size v n xs) (hp : ∀ g, g < W.heap.size → p g (some e) = true) : W'.ownsRow base e size v n xs := by
  refine ⟨hr.1, ?_⟩
  rcases hr.2 with h1 | ⟨g, cap, cur, rfl, h1, h2, h3⟩
  · exact .inl h1
  · exact .inr ⟨g, cap, cur, rfl, h1, h.same g _ h2 (hp g (Array.getElem?_eq_some_iff.1 h2).1), h3⟩
/-- The document's queue in memory: its items. -/
def RQ (bw : Nat) (E : List Ent) (W : World) : Prop := ∃ v, W.heap[bw]? = some (.cells #[v] 29 (0, 0)) ∧ W.ownsRow 0 32 3 v E.length (row3 E)
theorem RQ.of {p : Nat → Option TypeId → Bool} {bw : Nat} {E : List Ent} {W W' : World} (h : RQ bw E W) (k : Kept p W W') (h1 : p bw (some 29) = true) (h2 : ∀ b, b < W.heap.size → p b (some 32) = true) : RQ bw E W' := by
  obtain ⟨v, h3, h4⟩ := h
  exact ⟨v, k.same _ _ h3 h1, k.rowT h4 h2⟩
theorem RQ.lt {bw : Nat} {E : List Ent} {W : World} (h : RQ bw E W) : bw < W.heap.size := by
  obtain ⟨v, h3, _⟩ := h
  exact (Array.getElem?_eq_some_iff.1 h3).1
theorem RQ.ext {bw : Nat} {E : List Ent} {W W' : World} (h : RQ bw E W) (k : Ext W W') : RQ bw E W' := h.of (k.kept (fun _ _ => true)) rfl fun _ _ => rfl
/-- Where a task's item stands, as the document's queue tells it. -/
def OfE (E : List Ent) (task : Int) (e : Ending) : Prop := (∃ i : Nat, i < E.length ∧ e = .returned (.int .i64 i) ∧ (nth E i).task = task ∧ ∀ k, k < i → (nth E k).task ≠ task) ∨ (e = .returned (.int .i64 (-1)) ∧ ∀ k, k < E.length → (nth E k).task ≠ task)
section
variable {E : List Ent} {bw : Nat} {W : World}
set_option maxHeartbeats 1000000 in
set_option maxRecDepth 100000 in
theorem of_ok (h : RQ bw E W) (hn : E.length ≤ 1000000) (task : Int) :
    Calls Try.prog 42 #[.pointer (some ⟨bw, 0, none⟩), .int .i64 task] W fun e W' => OfE E task e ∧ W' = W := by
  have hlt := h.lt
  obtain ⟨v, h1, h2⟩ := h
  obtain ⟨A, c, rfl⟩ := own_slice3 h2
  have c0 : W.cell? ⟨bw, 0, none⟩ = some (.slice A E.length c) := by simp [World.cell?, h1]
  have HO := Lib.hid h2
  clear h1 h2
  go_enter Try.func42, Try.ntmps42
  go_wp2
  go_loopw [5] (fun v wr => W = wr ∧ ∃ i : Nat, v = .int .i64 i ∧ i ≤ E.length ∧ ∀ k, k < i → (nth E k).task ≠ task) (fun v _ => E.length - (intOf v).toNat)
  case atStart => exact ⟨rfl, 0, rfl, by omega, by simp⟩
  case round =>
    obtain ⟨rfl, i, rfl, hi, hne⟩ := hrel
    have HNE := Lib.hid hne
    clear hne
    rcases Nat.lt_or_ge i E.length with hl | hl
    · obtain ⟨g, rfl, a0, a1, a2⟩ := own3_cells HO.out hl
      have hl' : (i : Int) < (E.length : Int) := by omega
      by_cases ht : (nth E i).task = task
      · rw [ht] at a0
        have HT := Lib.hid ht
        clear ht a1 a2
        go_wp2
        go_ret
        exact ⟨.inl ⟨i, hl, rfl, HT.out, HNE.out⟩, rfl⟩
      · have hb : ((nth E i).task == task) = false := by simpa using ht
        have HT := Lib.hid ht
        clear ht a1 a2
        generalize (nth E i).task = t at a0 hb
        go_wp2
        go_roundw
        case rel => exact ⟨trivial, i + 1, by go_num, by omega, fun k hk => by
          rcases Nat.lt_or_ge k i with h | h
          · exact HNE.out k h
          · have : k = i := by omega
            subst this; exact HT.out⟩
        case measure => simp [intOf]; omega
    · have hl' : ¬ (i : Int) < (E.length : Int) := by omega
      have e : i = E.length := by omega
      go_wp2
      go_ret
      exact ⟨.inr ⟨rfl, by rw [← e]; exact HNE.out⟩, rfl⟩
end
end Go.Proofs.Ytmbdglolpagjdaa
