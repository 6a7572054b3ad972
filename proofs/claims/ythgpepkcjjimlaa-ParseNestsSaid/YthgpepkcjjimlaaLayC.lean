/- What lay has laid so far, in memory. -/
import Derived.Test.YthgpepkcjjimlaaLayB
import Derived.WalkSmall
import Derived.OneCell
namespace Go.Proofs.Ythgpepkcjjimlaa
open Go.RowKit

def pdc (p : Pd) : List Value := [.int .i64 (p.i : Int), .int .i64 p.up]
def pdCells (l : List Pd) : List Value := l.flatMap pdc
theorem pdCells_len (l : List Pd) : (pdCells l).length = l.length * 2 := by
  unfold pdCells
  induction l with
  | nil => rfl
  | cons p r ih => rw [List.flatMap_cons, List.length_append, ih]; simp [pdc]; omega
theorem pdCells_app (a b : List Pd) : pdCells (a ++ b) = pdCells a ++ pdCells b := by simp [pdCells]

def lcells : List Tw → List Value → List Value
  | t :: L, kv :: ks => twCells t kv ++ lcells L ks
  | _, _ => []
theorem lcells_len : ∀ (L : List Tw) (ks : List Value), ks.length = L.length → (lcells L ks).length = L.length * 6
  | [], [], _ => rfl
  | t :: L, kv :: ks, h => by simp [lcells, twCells, lcells_len L ks (by simpa using h)]; omega
  | [], _ :: _, h => by simp at h
  | _ :: _, [], h => by simp at h
theorem lcells_snoc (t : Tw) (kv : Value) : ∀ (L : List Tw) (ks : List Value), ks.length = L.length → lcells (L ++ [t]) (ks ++ [kv]) = lcells L ks ++ twCells t kv
  | [], [], _ => by simp [lcells]
  | _ :: L, _ :: ks, h => by simp [lcells, lcells_snoc t kv L ks (by simpa using h)]
  | [], _ :: _, h => by simp at h
  | _ :: _, [], h => by simp at h
theorem lcells_get : ∀ (L : List Tw) (ks : List Value) (i : Nat) (t : Tw) (kv : Value), L[i]? = some t → ks[i]? = some kv → ∀ o, o < 6 → (lcells L ks)[i * 6 + o]? = (twCells t kv)[o]?
  | [], _, _, _, _, h, _, _, _ => by simp at h
  | _ :: _, [], _, _, _, _, h, _, _ => by simp at h
  | t :: L, kv :: ks, 0, t', kv', h, h', o, ho => by
    simp at h h'
    subst h h'
    rw [lcells, List.getElem?_append, if_pos (by simp [twCells]; omega)]
    simp
  | t :: L, kv :: ks, i + 1, t', kv', h, h', o, ho => by
    rw [lcells, List.getElem?_append, if_neg (by simp [twCells]; omega)]
    have e : (i + 1) * 6 + o - (twCells t kv).length = i * 6 + o := by simp [twCells]; omega
    rw [e]
    exact lcells_get L ks i t' kv' (by simpa using h) (by simpa using h') o ho
theorem lcells_set (kv' : Value) : ∀ (L : List Tw) (ks : List Value) (i : Nat), i < L.length → ks.length = L.length → (lcells L ks).set (i * 6 + 5) kv' = lcells L (ks.set i kv')
  | [], _, _, h, _ => by simp at h
  | _ :: _, [], _, _, h => by simp at h
  | t :: L, kv :: ks, 0, _, _ => by simp [lcells, twCells]
  | t :: L, kv :: ks, i + 1, h, h' => by
    have e : (i + 1) * 6 + 5 = i * 6 + 5 + 6 := by omega
    rw [e]
    simp only [lcells, twCells, List.cons_append, List.nil_append, List.set_cons_succ, List.set]
    rw [lcells_set kv' L ks i (by simpa using h) (by simpa using h')]
theorem lcells_kids (xs : List Int) : ∀ (L : List Tw) (ks : List Value) (i : Nat), lcells (L.modify i fun t => { t with kids := t.kids ++ xs }) ks = lcells L ks
  | [], _, i => by cases i <;> simp
  | t :: L, [], 0 => by simp [lcells]
  | t :: L, [], i + 1 => by simp [lcells]
  | t :: L, kv :: ks, 0 => by simp [lcells, twCells]
  | t :: L, kv :: ks, i + 1 => by simp [lcells, lcells_kids xs L ks i]

theorem ownsRow_keep {w w' : World} {base : Nat} {e : TypeId} {size n : Nat} {v : Value} {xs : List Value} (h : w.ownsRow base e size v n xs) (hk : ∀ g, v.ownBlock = some g → w'.heap[g]? = w.heap[g]?) : w'.ownsRow base e size v n xs := by
  refine ⟨h.1, h.2.imp id ?_⟩
  rintro ⟨g, cap, cur, rfl, h1, h2, h3⟩
  exact ⟨g, cap, cur, rfl, h1, (hk g rfl).trans h2, h3⟩

structure Laid (n₀ : Nat) (w : World) (lv : Value) (L : List Tw) (ks : List Value) : Prop where
  row : w.ownsRow n₀ 63 6 lv L.length (lcells L ks)
  len : ks.length = L.length
  kid : ∀ (i : Nat) (t : Tw) (kv : Value), L[i]? = some t → ks[i]? = some kv → w.ownsRow n₀ 3 1 kv t.kids.length (t.kids.map (Value.int .i64))
  apart : ∀ (i j : Nat) (u v : Value) (g : Nat), i ≠ j → ks[i]? = some u → ks[j]? = some v → u.ownBlock = some g → v.ownBlock ≠ some g
/-- The blocks that are lay's own. -/
def Mine (n₀ : Nat) (lv : Value) (ks : List Value) (sb : Nat) (sv : Value) (Ds : List Nat) (b : Nat) : Prop := b = sb ∨ b = n₀ ∨ sv.ownBlock = some b ∨ lv.ownBlock = some b ∨ (∃ kv ∈ ks, kv.ownBlock = some b) ∨ b ∈ Ds
structure LS (n₀ : Nat) (lv : Value) (L : List Tw) (ks : List Value) (sb : Nat) (sv : Value) (S : List Pd) (Ds : List Nat) (w : World) : Prop where
  laid : Laid n₀ w lv L ks
  box : w.heap[sb]? = some (.cells #[sv] 60 (0, 0))
  sbn : n₀ < sb
  st : w.ownsRow n₀ 59 2 sv S.length (pdCells S.reverse)
  res : w.heap[n₀]? = some (.cells #[.slice none 0 0] 30 (0, 0))
  nodup : Ds.Nodup
  marks : ∀ D ∈ Ds, n₀ ≤ D ∧ w.heap[D]? = some (.deferred (some []))

variable {n₀ : Nat} {lv : Value} {L : List Tw} {ks : List Value} {sb : Nat} {sv : Value} {S : List Pd} {Ds : List Nat} {w : World}
theorem Laid.kidAt (h : Laid n₀ w lv L ks) {kv : Value} (hk : kv ∈ ks) : ∃ (i : Nat) (t : Tw), L[i]? = some t ∧ ks[i]? = some kv ∧ w.ownsRow n₀ 3 1 kv t.kids.length (t.kids.map (Value.int .i64)) := by
  obtain ⟨i, hi, rfl⟩ := List.getElem_of_mem hk
  have hl : i < L.length := by rw [← h.len]; exact hi
  exact ⟨i, L[i], List.getElem?_eq_getElem hl, List.getElem?_eq_getElem hi, h.kid i _ _ (List.getElem?_eq_getElem hl) (List.getElem?_eq_getElem hi)⟩
theorem LS.bnd (h : LS n₀ lv L ks sb sv S Ds w) {b : Nat} (hb : Mine n₀ lv ks sb sv Ds b) : n₀ ≤ b ∧ b < w.heap.size := by
  rcases hb with rfl | rfl | hb | hb | ⟨kv, hk, hb⟩ | hb
  · exact ⟨by have := h.sbn; omega, lt_of_block h.box⟩
  · exact ⟨Nat.le_refl _, lt_of_block h.res⟩
  · exact h.st.lt b hb
  · exact h.laid.row.lt b hb
  · obtain ⟨i, t, _, _, h1⟩ := h.laid.kidAt hk
    exact h1.lt b hb
  · exact ⟨(h.marks b hb).1, lt_of_block (h.marks b hb).2⟩
/-- All that is lay's own is as it was. -/
theorem LS.same (h : LS n₀ lv L ks sb sv S Ds w) {w' : World} (hk : ∀ b, Mine n₀ lv ks sb sv Ds b → w'.heap[b]? = w.heap[b]?) : LS n₀ lv L ks sb sv S Ds w' :=
  ⟨⟨ownsRow_keep h.laid.row fun g hg => hk g (.inr (.inr (.inr (.inl hg)))), h.laid.len, fun i t kv h1 h2 => ownsRow_keep (h.laid.kid i t kv h1 h2) fun g hg => hk g (.inr (.inr (.inr (.inr (.inl ⟨kv, List.mem_of_getElem? h2, hg⟩))))), h.laid.apart⟩,
   (hk _ (.inl rfl)).trans h.box, h.sbn, ownsRow_keep h.st fun g hg => hk g (.inr (.inr (.inl hg))), (hk _ (.inr (.inl rfl))).trans h.res, h.nodup, fun D hD => ⟨(h.marks D hD).1, (hk D (.inr (.inr (.inr (.inr (.inr hD)))))).trans (h.marks D hD).2⟩⟩
theorem LS.after (h : LS n₀ lv L ks sb sv S Ds w) {w' : World} (hb : Below w.heap.size w w') : LS n₀ lv L ks sb sv S Ds w' := h.same fun b hm => hb.block b (h.bnd hm).2

/-- What a step does: blocks that are not lay's own stay; what becomes lay's own was, or is new. -/
structure Stp (n₀ : Nat) (M : Nat → Prop) (w : World) (M' : Nat → Prop) (w' : World) : Prop where
  os : w'.os = w.os
  tape : w'.tape = w.tape
  output : w'.output = w.output
  size : w.heap.size ≤ w'.heap.size
  block : ∀ b, b < w.heap.size → ¬ M b → w'.heap[b]? = w.heap[b]?
  mine : ∀ b, M' b → M b ∨ w.heap.size ≤ b
theorem Stp.of {M : Nat → Prop} {w' : World} (h : Below w.heap.size w w') : Stp n₀ M w M w' := ⟨h.os, h.tape, h.output, h.size, fun b hb _ => h.block b hb, fun _ h => .inl h⟩
theorem Stp.trans {M M' M'' : Nat → Prop} {w' w'' : World} (h : Stp n₀ M w M' w') (g : Stp n₀ M' w' M'' w'') : Stp n₀ M w M'' w'' :=
  ⟨g.os.trans h.os, g.tape.trans h.tape, g.output.trans h.output, Nat.le_trans h.size g.size,
   fun b hb hm => (g.block b (Nat.lt_of_lt_of_le hb h.size) fun hm' => (h.mine b hm').elim hm (by omega)).trans (h.block b hb hm),
   fun b hb => (g.mine b hb).elim (fun e => h.mine b e) fun e => .inr (Nat.le_trans h.size e)⟩
/-- A variable of the call's own. -/
structure Lo (M : Nat → Prop) (w : World) (b : Nat) (o : Obj) : Prop where
  is : w.heap[b]? = some o
  not : ¬ M b
theorem Lo.step {M M' : Nat → Prop} {w' : World} {b : Nat} {o : Obj} (h : Lo M w b o) (s : Stp n₀ M w M' w') : Lo M' w' b o :=
  have hlt := lt_of_block h.is
  ⟨(s.block b hlt h.not).trans h.is, fun hm => (s.mine b hm).elim h.not (by omega)⟩
theorem LS.lo (h : LS n₀ lv L ks sb sv S Ds w) (o : Obj) (b : Nat) (hb : b = w.heap.size) : Lo (Mine n₀ lv ks sb sv Ds) (w.alloc o) b o := by
  subst hb
  exact ⟨heap_alloc_new w o, fun hm => by have := (h.bnd hm).2; omega⟩
theorem Stp.low {w₀ : World} {M M' : Nat → Prop} {w' : World} (hb : Below n₀ w₀ w) (s : Stp n₀ M w M' w') (hM : ∀ b, M b → n₀ ≤ b) (hn : n₀ ≤ w.heap.size) : Below n₀ w₀ w' :=
  ⟨s.os.trans hb.os, s.tape.trans hb.tape, s.output.trans hb.output, Nat.le_trans hb.size s.size, fun b hlt => (s.block b (by omega) fun hm => by have := hM b hm; omega).trans (hb.block b hlt)⟩
/-- A store into a variable of the call's own. -/
theorem LS.setLo (h : LS n₀ lv L ks sb sv S Ds w) {b : Nat} (hb : ¬ Mine n₀ lv ks sb sv Ds b) (i : Nat) (u : Value) : LS n₀ lv L ks sb sv S Ds (w.setCell ⟨b, i, none⟩ u) :=
  h.same fun _ hx => set_other _ _ _ _ _ fun e => hb (e ▸ hx)

theorem tops (p : Pd) (S : List Pd) : pdCells (p :: S).reverse = pdCells S.reverse ++ pdc p := by rw [List.reverse_cons, pdCells_app]; simp [pdCells]
/-- The top of the stack. -/
theorem LS.top {p : Pd} {cap g : Nat} (h : LS n₀ lv L ks sb (.slice (some ⟨g, 0, none⟩) (S.length + 1) cap) (p :: S) Ds w) : w.cell? ⟨g, S.length * 2, none⟩ = some (.int .i64 (p.i : Int)) ∧ w.cell? ⟨g, S.length * 2 + 1, none⟩ = some (.int .i64 p.up) := by
  have hc := h.st.cells (g := g) rfl
  rw [tops] at hc
  have hl : (pdCells S.reverse).length = S.length * 2 := by rw [pdCells_len]; simp
  have h0 := hc (S.length * 2) (.int .i64 (p.i : Int)) (by rw [List.getElem?_append, if_neg (by omega), hl]; simp [pdc])
  have h1 := hc (S.length * 2 + 1) (.int .i64 p.up) (by rw [List.getElem?_append, if_neg (by omega), hl]; simp [pdc])
  have ha : ∀ j, (⟨g, 0, none⟩ : Addr).add j = ⟨g, j, none⟩ := fun j => by unfold Addr.add; split <;> simp_all
  rw [ha] at h0 h1
  exact ⟨h0, h1⟩
theorem LS.form {p : Pd} (h : LS n₀ lv L ks sb sv (p :: S) Ds w) : ∃ g cap, sv = .slice (some ⟨g, 0, none⟩) (S.length + 1) cap ∧ g < w.heap.size ∧ S.length + 1 ≤ cap ∧ cap ≤ maxLen := by
  rcases h.st.2 with ⟨_, h0⟩ | ⟨g, cap, cur, h1, h2, h3, h4, h5, _⟩
  · simp at h0
  · exact ⟨g, cap, by rw [h1]; rfl, lt_of_block h3, by simpa using h4, h5⟩
/-- The top is taken off. -/
theorem LS.pop {p : Pd} {cap g : Nat} (h : LS n₀ lv L ks sb (.slice (some ⟨g, 0, none⟩) (S.length + 1) cap) (p :: S) Ds w) :
    LS n₀ lv L ks sb (.slice (some ⟨g, 0, none⟩) S.length cap) S Ds (w.setCell ⟨sb, 0, none⟩ (.slice (some ⟨g, 0, none⟩) S.length cap)) ∧ Stp n₀ (Mine n₀ lv ks sb (.slice (some ⟨g, 0, none⟩) (S.length + 1) cap) Ds) w (Mine n₀ lv ks sb (.slice (some ⟨g, 0, none⟩) S.length cap) Ds) (w.setCell ⟨sb, 0, none⟩ (.slice (some ⟨g, 0, none⟩) S.length cap)) := by
  have hne : ∀ b, b ≠ sb → (w.setCell ⟨sb, 0, none⟩ (.slice (some ⟨g, 0, none⟩) S.length cap)).heap[b]? = w.heap[b]? := fun b hb => set_other _ _ _ _ _ hb
  have hty : ∀ {e : TypeId} {size n : Nat} {v : Value} {xs : List Value}, w.ownsRow n₀ e size v n xs → e ≠ 60 → ∀ b, v.ownBlock = some b → b ≠ sb := fun ho he b hb e => by
    obtain ⟨cur, hc⟩ := own_type ho b hb
    rw [e, h.box] at hc
    exact he (by injection hc with hc; injection hc with _ hc _; exact hc.symm)
  refine ⟨⟨⟨ownsRow_keep h.laid.row fun b hb => hne b (hty h.laid.row (by decide) b hb), h.laid.len, fun i t kv h1 h2 => ownsRow_keep (h.laid.kid i t kv h1 h2) fun b hb => hne b (hty (h.laid.kid i t kv h1 h2) (by decide) b hb), h.laid.apart⟩, one_setCell h.box, h.sbn, ?_, (hne _ (by have := h.sbn; omega)).trans h.res, h.nodup, fun D hD => ⟨(h.marks D hD).1, (hne D fun e => by have := (h.marks D hD).2; rw [e, h.box] at this; cases this).trans (h.marks D hD).2⟩⟩, ?_⟩
  · have h1 := h.st
    rw [tops] at h1
    have h2 := ownsRow_pop (by rw [pdCells_len]; simp) h1
    exact ownsRow_keep h2 fun b hb => hne b (hty h.st (by decide) b hb)
  · have hb := (Below.refl sb w).setCell (p := ⟨sb, 0, none⟩) (Nat.le_refl _) (.slice (some ⟨g, 0, none⟩) S.length cap)
    exact ⟨hb.os, hb.tape, hb.output, hb.size, fun b _ hm => hne b fun e => hm (.inl e), fun b hm => .inl hm⟩
end Go.Proofs.Ythgpepkcjjimlaa
