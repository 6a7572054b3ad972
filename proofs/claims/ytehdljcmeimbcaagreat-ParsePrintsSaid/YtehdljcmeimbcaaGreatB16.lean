/- What lay has laid so far, in memory; The steps of lay, in memory; What lay is about to lay; its stack while kids are put on it. -/
import Derived.Test.YtehdljcmeimbcaaGreatB15
import Derived.WalkSmall
import Derived.OneCell
import Derived.RangeFuncFrom
import Derived.Maps.AppendAt
namespace Go.Proofs.YtehdljcmeimbcaaGreat
open Go.RowKit

def pdc (p : Pd) : List Value := [.int .i64 (p.i : Int), .int .i64 p.up]
def pdCells (l : List Pd) : List Value := l.flatMap pdc
theorem pdCells_len (l : List Pd) : (pdCells l).length = l.length * 2 := by
  unfold pdCells
  induction l with
  | nil => rfl
  | cons p r ih => rw [List.flatMap_cons, List.length_append, ih]; simp [pdc]; omega
theorem pdCells_app (a b : List Pd) : pdCells (a ++ b) = pdCells a ++ pdCells b := by simp [pdCells]

def lcells : List Tw → List Value → List Value
  | t :: L, kv :: ks => twCells t kv ++ lcells L ks
  | _, _ => []
theorem lcells_len : ∀ (L : List Tw) (ks : List Value), ks.length = L.length → (lcells L ks).length = L.length * 6
  | [], [], _ => rfl
  | t :: L, kv :: ks, h => by simp [lcells, twCells, lcells_len L ks (by simpa using h)]; omega
  | [], _ :: _, h => by simp at h
  | _ :: _, [], h => by simp at h
theorem lcells_snoc (t : Tw) (kv : Value) : ∀ (L : List Tw) (ks : List Value), ks.length = L.length → lcells (L ++ [t]) (ks ++ [kv]) = lcells L ks ++ twCells t kv
  | [], [], _ => by simp [lcells]
  | _ :: L, _ :: ks, h => by simp [lcells, lcells_snoc t kv L ks (by simpa using h)]
  | [], _ :: _, h => by simp at h
  | _ :: _, [], h => by simp at h
theorem lcells_get : ∀ (L : List Tw) (ks : List Value) (i : Nat) (t : Tw) (kv : Value), L[i]? = some t → ks[i]? = some kv → ∀ o, o < 6 → (lcells L ks)[i * 6 + o]? = (twCells t kv)[o]?
  | [], _, _, _, _, h, _, _, _ => by simp at h
  | _ :: _, [], _, _, _, _, h, _, _ => by simp at h
  | t :: L, kv :: ks, 0, t', kv', h, h', o, ho => by
    simp at h h'
    subst h h'
    rw [lcells, List.getElem?_append, if_pos (by simp [twCells]; omega)]
    simp
  | t :: L, kv :: ks, i + 1, t', kv', h, h', o, ho => by
    rw [lcells, List.getElem?_append, if_neg (by simp [twCells]; omega)]
    have e : (i + 1) * 6 + o - (twCells t kv).length = i * 6 + o := by simp [twCells]; omega
    rw [e]
    exact lcells_get L ks i t' kv' (by simpa using h) (by simpa using h') o ho
theorem lcells_set (kv' : Value) : ∀ (L : List Tw) (ks : List Value) (i : Nat), i < L.length → ks.length = L.length → (lcells L ks).set (i * 6 + 5) kv' = lcells L (ks.set i kv')
  | [], _, _, h, _ => by simp at h
  | _ :: _, [], _, _, h => by simp at h
  | t :: L, kv :: ks, 0, _, _ => by simp [lcells, twCells]
  | t :: L, kv :: ks, i + 1, h, h' => by
    have e : (i + 1) * 6 + 5 = i * 6 + 5 + 6 := by omega
    rw [e]
    simp only [lcells, twCells, List.cons_append, List.nil_append, List.set_cons_succ, List.set]
    rw [lcells_set kv' L ks i (by simpa using h) (by simpa using h')]
theorem lcells_kids (xs : List Int) : ∀ (L : List Tw) (ks : List Value) (i : Nat), lcells (L.modify i fun t => { t with kids := t.kids ++ xs }) ks = lcells L ks
  | [], _, i => by cases i <;> simp
  | t :: L, [], 0 => by simp [lcells]
  | t :: L, [], i + 1 => by simp [lcells]
  | t :: L, kv :: ks, 0 => by simp [lcells, twCells]
  | t :: L, kv :: ks, i + 1 => by simp [lcells, lcells_kids xs L ks i]

theorem ownsRow_keep {w w' : World} {base : Nat} {e : TypeId} {size n : Nat} {v : Value} {xs : List Value} (h : w.ownsRow base e size v n xs) (hk : ∀ g, v.ownBlock = some g → w'.heap[g]? = w.heap[g]?) : w'.ownsRow base e size v n xs := by
  refine ⟨h.1, h.2.imp id ?_⟩
  rintro ⟨g, cap, cur, rfl, h1, h2, h3⟩
  exact ⟨g, cap, cur, rfl, h1, (hk g rfl).trans h2, h3⟩

structure Laid (n₀ : Nat) (w : World) (lv : Value) (L : List Tw) (ks : List Value) : Prop where
  row : w.ownsRow n₀ 39 6 lv L.length (lcells L ks)
  len : ks.length = L.length
  kid : ∀ (i : Nat) (t : Tw) (kv : Value), L[i]? = some t → ks[i]? = some kv → w.ownsRow n₀ 3 1 kv t.kids.length (t.kids.map (Value.int .i64))
  apart : ∀ (i j : Nat) (u v : Value) (g : Nat), i ≠ j → ks[i]? = some u → ks[j]? = some v → u.ownBlock = some g → v.ownBlock ≠ some g
/-- The blocks that are lay's own. -/
def Mine (n₀ : Nat) (lv : Value) (ks : List Value) (sb : Nat) (sv : Value) (Ds : List Nat) (b : Nat) : Prop := b = sb ∨ b = n₀ ∨ sv.ownBlock = some b ∨ lv.ownBlock = some b ∨ (∃ kv ∈ ks, kv.ownBlock = some b) ∨ b ∈ Ds
structure LS (n₀ : Nat) (lv : Value) (L : List Tw) (ks : List Value) (sb : Nat) (sv : Value) (S : List Pd) (Ds : List Nat) (w : World) : Prop where
  laid : Laid n₀ w lv L ks
  box : w.heap[sb]? = some (.cells #[sv] 98 (0, 0))
  sbn : n₀ < sb
  st : w.ownsRow n₀ 97 2 sv S.length (pdCells S.reverse)
  res : w.heap[n₀]? = some (.cells #[.slice none 0 0] 26 (0, 0))
  nodup : Ds.Nodup
  marks : ∀ D ∈ Ds, n₀ ≤ D ∧ w.heap[D]? = some (.deferred (some []))

variable {n₀ : Nat} {lv : Value} {L : List Tw} {ks : List Value} {sb : Nat} {sv : Value} {S : List Pd} {Ds : List Nat} {w : World}
theorem Laid.kidAt (h : Laid n₀ w lv L ks) {kv : Value} (hk : kv ∈ ks) : ∃ (i : Nat) (t : Tw), L[i]? = some t ∧ ks[i]? = some kv ∧ w.ownsRow n₀ 3 1 kv t.kids.length (t.kids.map (Value.int .i64)) := by
  obtain ⟨i, hi, rfl⟩ := List.getElem_of_mem hk
  have hl : i < L.length := by rw [← h.len]; exact hi
  exact ⟨i, L[i], List.getElem?_eq_getElem hl, List.getElem?_eq_getElem hi, h.kid i _ _ (List.getElem?_eq_getElem hl) (List.getElem?_eq_getElem hi)⟩
theorem LS.bnd (h : LS n₀ lv L ks sb sv S Ds w) {b : Nat} (hb : Mine n₀ lv ks sb sv Ds b) : n₀ ≤ b ∧ b < w.heap.size := by
  rcases hb with rfl | rfl | hb | hb | ⟨kv, hk, hb⟩ | hb
  · exact ⟨by have := h.sbn; omega, lt_of_block h.box⟩
  · exact ⟨Nat.le_refl _, lt_of_block h.res⟩
  · exact h.st.lt b hb
  · exact h.laid.row.lt b hb
  · obtain ⟨i, t, _, _, h1⟩ := h.laid.kidAt hk
    exact h1.lt b hb
  · exact ⟨(h.marks b hb).1, lt_of_block (h.marks b hb).2⟩
/-- All that is lay's own is as it was. -/
theorem LS.same (h : LS n₀ lv L ks sb sv S Ds w) {w' : World} (hk : ∀ b, Mine n₀ lv ks sb sv Ds b → w'.heap[b]? = w.heap[b]?) : LS n₀ lv L ks sb sv S Ds w' :=
  ⟨⟨ownsRow_keep h.laid.row fun g hg => hk g (.inr (.inr (.inr (.inl hg)))), h.laid.len, fun i t kv h1 h2 => ownsRow_keep (h.laid.kid i t kv h1 h2) fun g hg => hk g (.inr (.inr (.inr (.inr (.inl ⟨kv, List.mem_of_getElem? h2, hg⟩))))), h.laid.apart⟩,
   (hk _ (.inl rfl)).trans h.box, h.sbn, ownsRow_keep h.st fun g hg => hk g (.inr (.inr (.inl hg))), (hk _ (.inr (.inl rfl))).trans h.res, h.nodup, fun D hD => ⟨(h.marks D hD).1, (hk D (.inr (.inr (.inr (.inr (.inr hD)))))).trans (h.marks D hD).2⟩⟩
theorem LS.after (h : LS n₀ lv L ks sb sv S Ds w) {w' : World} (hb : Below w.heap.size w w') : LS n₀ lv L ks sb sv S Ds w' := h.same fun b hm => hb.block b (h.bnd hm).2

/-- What a step does: blocks that are not lay's own stay; what becomes lay's own was, or is new. -/
structure Stp (n₀ : Nat) (M : Nat → Prop) (w : World) (M' : Nat → Prop) (w' : World) : Prop where
  os : w'.os = w.os
  tape : w'.tape = w.tape
  output : w'.output = w.output
  size : w.heap.size ≤ w'.heap.size
  block : ∀ b, b < w.heap.size → ¬ M b → w'.heap[b]? = w.heap[b]?
  mine : ∀ b, M' b → M b ∨ w.heap.size ≤ b
theorem Stp.of {M : Nat → Prop} {w' : World} (h : Below w.heap.size w w') : Stp n₀ M w M w' := ⟨h.os, h.tape, h.output, h.size, fun b hb _ => h.block b hb, fun _ h => .inl h⟩
theorem Stp.trans {M M' M'' : Nat → Prop} {w' w'' : World} (h : Stp n₀ M w M' w') (g : Stp n₀ M' w' M'' w'') : Stp n₀ M w M'' w'' :=
  ⟨g.os.trans h.os, g.tape.trans h.tape, g.output.trans h.output, Nat.le_trans h.size g.size,
   fun b hb hm => (g.block b (Nat.lt_of_lt_of_le hb h.size) fun hm' => (h.mine b hm').elim hm (by omega)).trans (h.block b hb hm),
   fun b hb => (g.mine b hb).elim (fun e => h.mine b e) fun e => .inr (Nat.le_trans h.size e)⟩
/-- A variable of the call's own. -/
structure Lo (M : Nat → Prop) (w : World) (b : Nat) (o : Obj) : Prop where
  is : w.heap[b]? = some o
  not : ¬ M b
theorem Lo.step {M M' : Nat → Prop} {w' : World} {b : Nat} {o : Obj} (h : Lo M w b o) (s : Stp n₀ M w M' w') : Lo M' w' b o :=
  have hlt := lt_of_block h.is
  ⟨(s.block b hlt h.not).trans h.is, fun hm => (s.mine b hm).elim h.not (by omega)⟩
theorem LS.lo (h : LS n₀ lv L ks sb sv S Ds w) (o : Obj) (b : Nat) (hb : b = w.heap.size) : Lo (Mine n₀ lv ks sb sv Ds) (w.alloc o) b o := by
  subst hb
  exact ⟨heap_alloc_new w o, fun hm => by have := (h.bnd hm).2; omega⟩
theorem Stp.low {w₀ : World} {M M' : Nat → Prop} {w' : World} (hb : Below n₀ w₀ w) (s : Stp n₀ M w M' w') (hM : ∀ b, M b → n₀ ≤ b) (hn : n₀ ≤ w.heap.size) : Below n₀ w₀ w' :=
  ⟨s.os.trans hb.os, s.tape.trans hb.tape, s.output.trans hb.output, Nat.le_trans hb.size s.size, fun b hlt => (s.block b (by omega) fun hm => by have := hM b hm; omega).trans (hb.block b hlt)⟩
/-- A store into a variable of the call's own. -/
theorem LS.setLo (h : LS n₀ lv L ks sb sv S Ds w) {b : Nat} (hb : ¬ Mine n₀ lv ks sb sv Ds b) (i : Nat) (u : Value) : LS n₀ lv L ks sb sv S Ds (w.setCell ⟨b, i, none⟩ u) :=
  h.same fun _ hx => set_other _ _ _ _ _ fun e => hb (e ▸ hx)

theorem tops (p : Pd) (S : List Pd) : pdCells (p :: S).reverse = pdCells S.reverse ++ pdc p := by rw [List.reverse_cons, pdCells_app]; simp [pdCells]
/-- The top of the stack. -/
theorem LS.top {p : Pd} {cap g : Nat} (h : LS n₀ lv L ks sb (.slice (some ⟨g, 0, none⟩) (S.length + 1) cap) (p :: S) Ds w) : w.cell? ⟨g, S.length * 2, none⟩ = some (.int .i64 (p.i : Int)) ∧ w.cell? ⟨g, S.length * 2 + 1, none⟩ = some (.int .i64 p.up) := by
  have hc := h.st.cells (g := g) rfl
  rw [tops] at hc
  have hl : (pdCells S.reverse).length = S.length * 2 := by rw [pdCells_len]; simp
  have h0 := hc (S.length * 2) (.int .i64 (p.i : Int)) (by rw [List.getElem?_append, if_neg (by omega), hl]; simp [pdc])
  have h1 := hc (S.length * 2 + 1) (.int .i64 p.up) (by rw [List.getElem?_append, if_neg (by omega), hl]; simp [pdc])
  have ha : ∀ j, (⟨g, 0, none⟩ : Addr).add j = ⟨g, j, none⟩ := fun j => by unfold Addr.add; split <;> simp_all
  rw [ha] at h0 h1
  exact ⟨h0, h1⟩
theorem LS.form {p : Pd} (h : LS n₀ lv L ks sb sv (p :: S) Ds w) : ∃ g cap, sv = .slice (some ⟨g, 0, none⟩) (S.length + 1) cap ∧ g < w.heap.size ∧ S.length + 1 ≤ cap ∧ cap ≤ maxLen := by
  rcases h.st.2 with ⟨_, h0⟩ | ⟨g, cap, cur, h1, h2, h3, h4, h5, _⟩
  · simp at h0
  · exact ⟨g, cap, by rw [h1]; rfl, lt_of_block h3, by simpa using h4, h5⟩
/-- The top is taken off. -/
theorem LS.pop {p : Pd} {cap g : Nat} (h : LS n₀ lv L ks sb (.slice (some ⟨g, 0, none⟩) (S.length + 1) cap) (p :: S) Ds w) :
    LS n₀ lv L ks sb (.slice (some ⟨g, 0, none⟩) S.length cap) S Ds (w.setCell ⟨sb, 0, none⟩ (.slice (some ⟨g, 0, none⟩) S.length cap)) ∧ Stp n₀ (Mine n₀ lv ks sb (.slice (some ⟨g, 0, none⟩) (S.length + 1) cap) Ds) w (Mine n₀ lv ks sb (.slice (some ⟨g, 0, none⟩) S.length cap) Ds) (w.setCell ⟨sb, 0, none⟩ (.slice (some ⟨g, 0, none⟩) S.length cap)) := by
  have hne : ∀ b, b ≠ sb → (w.setCell ⟨sb, 0, none⟩ (.slice (some ⟨g, 0, none⟩) S.length cap)).heap[b]? = w.heap[b]? := fun b hb => set_other _ _ _ _ _ hb
  have hty : ∀ {e : TypeId} {size n : Nat} {v : Value} {xs : List Value}, w.ownsRow n₀ e size v n xs → e ≠ 98 → ∀ b, v.ownBlock = some b → b ≠ sb := fun ho he b hb e => by
    obtain ⟨cur, hc⟩ := own_type ho b hb
    rw [e, h.box] at hc
    exact he (by injection hc with hc; injection hc with _ hc _; exact hc.symm)
  refine ⟨⟨⟨ownsRow_keep h.laid.row fun b hb => hne b (hty h.laid.row (by decide) b hb), h.laid.len, fun i t kv h1 h2 => ownsRow_keep (h.laid.kid i t kv h1 h2) fun b hb => hne b (hty (h.laid.kid i t kv h1 h2) (by decide) b hb), h.laid.apart⟩, one_setCell h.box, h.sbn, ?_, (hne _ (by have := h.sbn; omega)).trans h.res, h.nodup, fun D hD => ⟨(h.marks D hD).1, (hne D fun e => by have := (h.marks D hD).2; rw [e, h.box] at this; cases this).trans (h.marks D hD).2⟩⟩, ?_⟩
  · have h1 := h.st
    rw [tops] at h1
    have h2 := ownsRow_pop (by rw [pdCells_len]; simp) h1
    exact ownsRow_keep h2 fun b hb => hne b (hty h.st (by decide) b hb)
  · have hb := (Below.refl sb w).setCell (p := ⟨sb, 0, none⟩) (Nat.le_refl _) (.slice (some ⟨g, 0, none⟩) S.length cap)
    exact ⟨hb.os, hb.tape, hb.output, hb.size, fun b _ hm => hne b fun e => hm (.inl e), fun b hm => .inl hm⟩
end Go.Proofs.YtehdljcmeimbcaaGreat

namespace Go.Proofs.YtehdljcmeimbcaaGreat
open Go.RowKit

variable {n₀ : Nat} {lv : Value} {L : List Tw} {ks : List Value} {sb : Nat} {sv : Value} {S : List Pd} {Ds : List Nat} {w : World}

theorem ownsRow_set {w : World} {base : Nat} {e : TypeId} {size n : Nat} {v : Value} {xs : List Value} (h : w.ownsRow base e size v n xs) {g : Nat} (hg : v.ownBlock = some g) (j : Nat) (u : Value) : (w.setCell ⟨g, j, none⟩ u).ownsRow base e size v n (xs.set j u) := by
  obtain ⟨h1, h2⟩ := h
  refine ⟨by simpa using h1, ?_⟩
  rcases h2 with ⟨rfl, _⟩ | ⟨g', cap, cur, rfl, hb, hh, hn, hm, hs, ht⟩
  · simp [Value.ownBlock] at hg
  · simp [Value.ownBlock] at hg
    subst hg
    refine .inr ⟨g', cap, _, rfl, hb, rowset hh j u, hn, hm, by simpa using hs, ?_⟩
    rw [Array.toList_setIfInBounds, ← ht]
    rw [List.take_set]
theorem kinds {w : World} {b : Nat} {o : Obj} (hb : w.heap[b]? = some o) {e : TypeId} {size n base : Nat} {v : Value} {xs : List Value} (ho : w.ownsRow base e size v n xs) (hne : ∀ cur, o ≠ .cells cur e (0, 0)) : v.ownBlock ≠ some b := fun hv => by
  obtain ⟨cur, hc⟩ := own_type ho b hv
  rw [hc] at hb
  exact hne cur (by injection hb with hb; exact hb.symm)
theorem kindsO {w : World} {e e' : TypeId} {size size' n n' base base' : Nat} {v v' : Value} {xs xs' : List Value} (ho : w.ownsRow base e size v n xs) (ho' : w.ownsRow base' e' size' v' n' xs') (hne : e ≠ e') (b : Nat) (hb : v.ownBlock = some b) : v'.ownBlock ≠ some b := by
  obtain ⟨cur, hc⟩ := own_type ho b hb
  exact kinds hc ho' fun cur' h => hne (by injection h)
/-- One kid more. -/
theorem LS.kid {i : Nat} {t : Tw} {kv kv' : Value} {x : Int} {gl nl cl : Nat} {W w1 : World} (h : LS n₀ (.slice (some ⟨gl, 0, none⟩) nl cl) L ks sb sv S Ds w) (ht : L[i]? = some t) (hkv : ks[i]? = some kv) (hB : Below w.heap.size w W) (hg : W.grownBy w1 kv.ownBlock)
    (ho : w1.ownsRow n₀ 3 1 kv' (t.kids.length + 1) (t.kids.map (Value.int .i64) ++ [Value.int .i64 x])) (hat : ∀ g, kv'.ownBlock = some g → kv.ownBlock = some g ∨ w.heap.size ≤ g) :
    LS n₀ (.slice (some ⟨gl, 0, none⟩) nl cl) (addK L i [x]) (ks.set i kv') sb sv S Ds (w1.setCell ⟨gl, i * 6 + 5, none⟩ kv') ∧ Stp n₀ (Mine n₀ (.slice (some ⟨gl, 0, none⟩) nl cl) ks sb sv Ds) w (Mine n₀ (.slice (some ⟨gl, 0, none⟩) nl cl) (ks.set i kv') sb sv Ds) (w1.setCell ⟨gl, i * 6 + 5, none⟩ kv') := by
  have hik : i < ks.length := (List.getElem?_eq_some_iff.1 hkv).1
  have hil : i < L.length := (List.getElem?_eq_some_iff.1 ht).1
  have hkid := h.laid.kid i t kv ht hkv
  have h1 : ∀ b, b < w.heap.size → kv.ownBlock ≠ some b → w1.heap[b]? = w.heap[b]? := fun b hb hv => (hg.block b (Nat.lt_of_lt_of_le hb hB.size) (fun e => hv e.symm)).trans (hB.block b hb)
  have hgl : w1.heap[gl]? = w.heap[gl]? := h1 gl (h.laid.row.lt gl rfl).2 (kindsO h.laid.row hkid (by decide) gl rfl)
  have h2 : ∀ b, b < w.heap.size → kv.ownBlock ≠ some b → b ≠ gl → (w1.setCell ⟨gl, i * 6 + 5, none⟩ kv').heap[b]? = w.heap[b]? := fun b hb hv hn => (set_other _ _ _ _ _ hn).trans (h1 b hb hv)
  obtain ⟨cgl, hcgl⟩ := own_type h.laid.row gl rfl
  have hl1 : w1.ownsRow n₀ 39 6 (.slice (some ⟨gl, 0, none⟩) nl cl) L.length (lcells L ks) := ownsRow_keep h.laid.row fun g hg' => by
    have e : gl = g := by simpa [Value.ownBlock] using hg'
    subst e; exact hgl
  have hkv'l : kv'.ownBlock ≠ some gl := kinds (hgl.trans hcgl) ho fun cur e => by injection e with _ e _; exact absurd e (by decide)
  have hLen : (addK L i [x]).length = L.length := addK_len _ _ _
  have hK : addK L i [x] = L.modify i fun t => { t with kids := t.kids ++ [x] } := by unfold addK; rw [if_pos (by omega)]; rfl
  have hnot : ∀ b, Mine n₀ (.slice (some ⟨gl, 0, none⟩) nl cl) ks sb sv Ds b → kv.ownBlock ≠ some b → b ≠ gl → (w1.setCell ⟨gl, i * 6 + 5, none⟩ kv').heap[b]? = w.heap[b]? := fun b hb hv hn => h2 b (h.bnd hb).2 hv hn
  have boxk : kv.ownBlock ≠ some sb := kinds h.box hkid fun cur e => by injection e with _ e _; exact absurd e (by decide)
  have boxl : sb ≠ gl := fun e => (kinds h.box h.laid.row fun cur e => by injection e with _ e _; exact absurd e (by decide)) (by rw [e]; rfl)
  have resk : kv.ownBlock ≠ some n₀ := kinds h.res hkid fun cur e => by injection e with _ e _; exact absurd e (by decide)
  have resl : n₀ ≠ gl := fun e => (kinds h.res h.laid.row fun cur e => by injection e with _ e _; exact absurd e (by decide)) (by rw [← e]; rfl)
  refine ⟨⟨⟨?_, by simpa [hLen] using h.laid.len, ?_, ?_⟩, ?_, h.sbn, ?_, ?_, h.nodup, ?_⟩, ?_⟩
  · rw [hLen, hK, lcells_kids, ← lcells_set kv' L ks i hil h.laid.len]
    exact ownsRow_set hl1 rfl _ kv'
  · intro j t' u hj hu
    rw [hK, List.getElem?_modify] at hj
    rw [List.getElem?_set] at hu
    by_cases hji : i = j
    · subst hji
      simp only [if_true, hik] at hu
      simp only [if_true, ht] at hj
      simp at hu
      subst hu
      have hj' := Option.some.inj hj
      rw [← hj']
      simp only [List.length_append, List.length_cons, List.length_nil, List.map_append, List.map_cons, List.map_nil]
      exact ownsRow_setCell_other ho (by simpa using hkv'l) _
    · simp only [hji, if_false] at hu hj
      have hj' : L[j]? = some t' := by simpa using hj
      have hkj := h.laid.kid j t' u hj' hu
      refine ownsRow_keep hkj fun b hb => h2 b (hkj.lt b hb).2 (fun e => ?_) (fun e => ?_)
      · exact h.laid.apart i j kv u b hji hkv hu e hb
      · subst e; exact kindsO h.laid.row hkj (by decide) b rfl hb
  · intro p q u v g hpq hu hv hgu hgv
    rw [List.getElem?_set] at hu hv
    by_cases hp : i = p
    · subst hp
      simp only [if_true, hik] at hu
      simp only [hpq, if_false] at hv
      simp at hu; subst hu
      rcases hat g hgu with e | e
      · exact h.laid.apart i q kv v g hpq hkv hv e hgv
      · have := (h.bnd (b := g) (.inr (.inr (.inr (.inr (.inl ⟨v, List.mem_of_getElem? hv, hgv⟩)))))).2
        omega
    · simp only [hp, if_false] at hu
      by_cases hq : i = q
      · subst hq
        simp only [if_true, hik] at hv
        simp at hv; subst hv
        rcases hat g hgv with e | e
        · exact h.laid.apart p i u kv g hpq hu hkv hgu e
        · have := (h.bnd (b := g) (.inr (.inr (.inr (.inr (.inl ⟨u, List.mem_of_getElem? hu, hgu⟩)))))).2
          omega
      · simp only [hq, if_false] at hv
        exact h.laid.apart p q u v g hpq hu hv hgu hgv
  · exact (hnot sb (.inl rfl) boxk boxl).trans h.box
  · exact ownsRow_keep h.st fun b hb => hnot b (.inr (.inr (.inl hb))) (kindsO h.st hkid (by decide) b hb) fun e => kindsO h.st h.laid.row (by decide) b hb (by rw [e]; rfl)
  · exact (hnot n₀ (.inr (.inl rfl)) resk resl).trans h.res
  · intro D hD
    have hd := (h.marks D hD).2
    refine ⟨(h.marks D hD).1, (hnot D (.inr (.inr (.inr (.inr (.inr hD))))) (kinds hd hkid fun cur e => by cases e) fun e => ?_).trans hd⟩
    exact (kinds hd h.laid.row fun cur e => by cases e) (by rw [e]; rfl)
  · have hsz : (w1.setCell ⟨gl, i * 6 + 5, none⟩ kv').heap.size = w1.heap.size := by simp [World.setCell]
    refine ⟨hg.os.trans hB.os, hg.tape.trans hB.tape, hg.output.trans hB.output, by rw [hsz]; exact Nat.le_trans hB.size hg.size, fun b hb hm => h2 b hb (fun e => hm (.inr (.inr (.inr (.inr (.inl ⟨kv, List.mem_of_getElem? hkv, e⟩)))))) fun e => hm (.inr (.inr (.inr (.inl (by rw [e]; rfl))))), ?_⟩
    rintro b (e | e | e | e | ⟨u, hu, e⟩ | e)
    · exact .inl (.inl e)
    · exact .inl (.inr (.inl e))
    · exact .inl (.inr (.inr (.inl e)))
    · exact .inl (.inr (.inr (.inr (.inl e))))
    · rcases List.mem_or_eq_of_mem_set hu with hu | rfl
      · exact .inl (.inr (.inr (.inr (.inr (.inl ⟨u, hu, e⟩)))))
      · rcases hat b e with e | e
        · exact .inl (.inr (.inr (.inr (.inr (.inl ⟨kv, List.mem_of_getElem? hkv, e⟩)))))
        · exact .inr e
    · exact .inl (.inr (.inr (.inr (.inr (.inr e)))))

/-- The kids are on the stack. -/
theorem LS.push {sv' : Value} {S' : List Pd} {D : Nat} {w' : World} (h : LS n₀ lv L ks sb sv S Ds w) (hk : Kp sb sv w sv' w') (hbox : w'.heap[sb]? = some (.cells #[sv'] 98 (0, 0))) (ho : w'.ownsRow n₀ 97 2 sv' S'.length (pdCells S'.reverse)) (hD : w'.heap[D]? = some (.deferred (some []))) (hlt : w.heap.size ≤ D) :
    LS n₀ lv L ks sb sv' S' (D :: Ds) w' ∧ Stp n₀ (Mine n₀ lv ks sb sv Ds) w (Mine n₀ lv ks sb sv' (D :: Ds)) w' := by
  have hnot : ∀ b, Mine n₀ lv ks sb sv Ds b → b ≠ sb → sv.ownBlock ≠ some b → w'.heap[b]? = w.heap[b]? := fun b hb h1 h2 => hk.block b (h.bnd hb).2 h1 h2
  have keep : ∀ {e : TypeId} {size n : Nat} {v : Value} {xs : List Value}, w.ownsRow n₀ e size v n xs → (∀ b, v.ownBlock = some b → Mine n₀ lv ks sb sv Ds b) → e ≠ 98 → e ≠ 97 → w'.ownsRow n₀ e size v n xs := fun hr hm h1 h2 => ownsRow_keep hr fun b hb => hnot b (hm b hb) (fun e => (kinds h.box hr fun cur e' => by injection e' with _ e' _; exact h1 e'.symm) (by rw [← e]; exact hb)) (kindsO hr h.st h2 b hb)
  refine ⟨⟨⟨keep h.laid.row (fun b hb => .inr (.inr (.inr (.inl hb)))) (by decide) (by decide), h.laid.len, fun i t kv h1 h2 => keep (h.laid.kid i t kv h1 h2) (fun b hb => .inr (.inr (.inr (.inr (.inl ⟨kv, List.mem_of_getElem? h2, hb⟩))))) (by decide) (by decide), h.laid.apart⟩, hbox, h.sbn, ho, ?_, ?_, ?_⟩, ⟨hk.os, hk.tape, hk.output, hk.size, fun b hb hm => hk.block b hb (fun e => hm (.inl e)) fun e => hm (.inr (.inr (.inl e))), ?_⟩⟩
  · exact (hnot n₀ (.inr (.inl rfl)) (by have := h.sbn; omega) (kinds h.res h.st fun cur e => by injection e with _ e _; exact absurd e (by decide))).trans h.res
  · exact List.nodup_cons.2 ⟨fun hm => by have := lt_of_block (h.marks D hm).2; omega, h.nodup⟩
  · intro E hE
    rcases List.mem_cons.1 hE with rfl | hE
    · exact ⟨by have := (h.bnd (.inr (.inl rfl))).2; omega, hD⟩
    · have hd := (h.marks E hE).2
      exact ⟨(h.marks E hE).1, (hnot E (.inr (.inr (.inr (.inr (.inr hE))))) (fun e => by rw [e, h.box] at hd; cases hd) (kinds hd h.st fun cur e => by cases e)).trans hd⟩
  · rintro b (e | e | e | e | e | e)
    · exact .inl (.inl e)
    · exact .inl (.inr (.inl e))
    · exact (hk.own b e).imp (fun e => .inr (.inr (.inl e))) id
    · exact .inl (.inr (.inr (.inr (.inl e))))
    · exact .inl (.inr (.inr (.inr (.inr (.inl e)))))
    · rcases List.mem_cons.1 e with rfl | e
      · exact .inr hlt
      · exact .inl (.inr (.inr (.inr (.inr (.inr e)))))

/-- A twig more is laid. -/
theorem LS.lay {lv' : Value} {t : Tw} {W w1 : World} (h : LS n₀ lv L ks sb sv S Ds w) (hB : Below w.heap.size w W) (hg : W.grownBy w1 lv.ownBlock) (ho : w1.ownsRow n₀ 39 6 lv' (L.length + 1) (lcells L ks ++ twCells t (.slice none 0 0))) (hat : ∀ g, lv'.ownBlock = some g → lv.ownBlock = some g ∨ w.heap.size ≤ g) (ht : t.kids = []) :
    LS n₀ lv' (L ++ [t]) (ks ++ [.slice none 0 0]) sb sv S Ds w1 ∧ Stp n₀ (Mine n₀ lv ks sb sv Ds) w (Mine n₀ lv' (ks ++ [.slice none 0 0]) sb sv Ds) w1 := by
  have h1 : ∀ b, b < w.heap.size → lv.ownBlock ≠ some b → w1.heap[b]? = w.heap[b]? := fun b hb hv => (hg.block b (Nat.lt_of_lt_of_le hb hB.size) (fun e => hv e.symm)).trans (hB.block b hb)
  have keep : ∀ {e : TypeId} {size n : Nat} {v : Value} {xs : List Value}, w.ownsRow n₀ e size v n xs → e ≠ 39 → w1.ownsRow n₀ e size v n xs := fun hr h2 => ownsRow_keep hr fun b hb => h1 b (hr.lt b hb).2 (kindsO hr h.laid.row h2 b hb)
  refine ⟨⟨⟨?_, by simp [h.laid.len], ?_, ?_⟩, ?_, h.sbn, keep h.st (by decide), ?_, h.nodup, ?_⟩, ⟨hg.os.trans hB.os, hg.tape.trans hB.tape, hg.output.trans hB.output, Nat.le_trans hB.size hg.size, fun b hb hm => h1 b hb fun e => hm (.inr (.inr (.inr (.inl e)))), ?_⟩⟩
  · rw [lcells_snoc _ _ _ _ h.laid.len, List.length_append]
    exact ho
  · intro j t' u hj hu
    rw [List.getElem?_append] at hj hu
    rw [h.laid.len] at hu
    by_cases hlt : j < L.length
    · simp only [hlt, if_true] at hj hu
      exact keep (h.laid.kid j t' u hj hu) (by decide)
    · simp only [hlt, if_false] at hj hu
      have h0 : j - L.length = 0 := by
        have := (List.getElem?_eq_some_iff.1 hj).1
        simp at this; omega
      rw [h0] at hj hu
      simp at hj hu
      subst hj hu
      rw [ht]
      exact World.ownsRow_nil _ _ _ _
  · intro p q u v g hpq hu hv hgu hgv
    rw [List.getElem?_append] at hu hv
    by_cases hp : p < ks.length
    · by_cases hq : q < ks.length
      · simp only [hp, hq, if_true] at hu hv
        exact h.laid.apart p q u v g hpq hu hv hgu hgv
      · simp only [hq, if_false] at hv
        have := List.mem_of_getElem? hv
        simp at this; subst this
        simp [Value.ownBlock] at hgv
    · simp only [hp, if_false] at hu
      have := List.mem_of_getElem? hu
      simp at this; subst this
      simp [Value.ownBlock] at hgu
  · exact (h1 sb (lt_of_block h.box) (kinds h.box h.laid.row fun cur e => by injection e with _ e _; exact absurd e (by decide))).trans h.box
  · exact (h1 n₀ (lt_of_block h.res) (kinds h.res h.laid.row fun cur e => by injection e with _ e _; exact absurd e (by decide))).trans h.res
  · intro D hD
    have hd := (h.marks D hD).2
    exact ⟨(h.marks D hD).1, (h1 D (lt_of_block hd) (kinds hd h.laid.row fun cur e => by cases e)).trans hd⟩
  · rintro b (e | e | e | e | ⟨u, hu, e⟩ | e)
    · exact .inl (.inl e)
    · exact .inl (.inr (.inl e))
    · exact .inl (.inr (.inr (.inl e)))
    · exact (hat b e).imp (fun e => .inr (.inr (.inr (.inl e)))) id
    · rcases List.mem_append.1 hu with hu | hu
      · exact .inl (.inr (.inr (.inr (.inr (.inl ⟨u, hu, e⟩)))))
      · simp at hu; subst hu; simp [Value.ownBlock] at e
    · exact .inl (.inr (.inr (.inr (.inr (.inr e)))))

/-- What is laid reads as twigs. -/
theorem Laid.tws {n₀ : Nat} {w : World} {lv : Value} {L : List Tw} {ks : List Value} (h : Laid n₀ w lv L ks) : Tws w [] L (lcells L ks) := by
  have key : ∀ (M : List Tw) (us : List Value), us.length = M.length → (∀ (i : Nat) (t : Tw) (u : Value), M[i]? = some t → us[i]? = some u → w.ownsRow n₀ 3 1 u t.kids.length (t.kids.map (Value.int .i64))) → Tws w [] M (lcells M us) := by
    intro M
    induction M with
    | nil => intro us hl _; cases us with | nil => rfl | cons _ _ => simp at hl
    | cons t M ih =>
      intro us hl hk
      cases us with
      | nil => simp at hl
      | cons u us =>
        refine ⟨u, lcells M us, rfl, ?_, ih us (by simpa using hl) fun i t' u' h1 h2 => hk (i + 1) t' u' (by simpa using h1) (by simpa using h2)⟩
        have h0 := hk 0 t u rfl rfl
        rcases h0.2 with ⟨rfl, hn⟩ | ⟨g, cap, cur, rfl, hb, hh, hle, hm, hs, htk⟩
        · rw [List.eq_nil_of_length_eq_zero hn]
          exact ints_nil _
        · refine ⟨_, cap, rfl, fun _ => ⟨g, cur, (0, 0), rfl, hh, by simp, fun i x hx => ?_⟩⟩
          have h1 : (cur.toList.take (t.kids.length * 1))[i]? = some (Value.int .i64 x) := by rw [htk]; simp [hx]
          rw [List.getElem?_take] at h1
          split at h1
          · simpa using h1
          · cases h1
  exact key L ks h.len h.kid
end Go.Proofs.YtehdljcmeimbcaaGreat

namespace Go.Proofs.YtehdljcmeimbcaaGreat
open Go.RowKit Go.Shelf

def RetL (n₀ : Nat) (w₀ : World) (L : List Tw) (e : Ending) (w' : World) : Prop := ∃ lv ks, e = .returned (.agg #[lv]) ∧ Laid n₀ w' lv L ks ∧ Below n₀ w₀ w'
theorem infoPd : (Tryz.prog.info? 97).map (fun i => (i.zero, i.size, i.bytes)) = some (some (.agg #[.int .i64 0, .int .i64 0]), 2, 16) := by kernel_rfl

/-- What is still to be laid, and what comes of it. -/
structure LP (tw Fin : List Tw) (n : Nat) (L : List Tw) (S : List Pd) : Prop where
  ins : ∀ p ∈ S, InP tw p
  ups : ∀ p ∈ S, 0 ≤ p.up → p.up.toNat < L.length
  fin : layS n L S = Fin
  cnt : todo S = n
  len : L.length + n = tw.length
  kb : ∀ t ∈ L, t.kids.length ≤ L.length
theorem addK_kids (L : List Tw) (u : Int) (x : Int) : ∀ t ∈ addK L u [x], ∃ t0 ∈ L, t.kids.length ≤ t0.kids.length + 1 := by
  intro t ht
  unfold addK at ht
  split at ht
  · obtain ⟨j, hj, rfl⟩ := List.getElem_of_mem ht
    have hl : j < L.length := by simpa using hj
    refine ⟨L[j], List.getElem_mem _, ?_⟩
    rw [List.getElem_modify]
    split
    · simp
    · omega
  · exact ⟨t, ht, by omega⟩
/-- A twig among those that are given. -/
theorem tw_at {w : World} {X : List Nat} : ∀ {tw : List Tw} {xs : List Value} {i : Nat} {t : Tw}, Tws w X tw xs → tw[i]? = some t → ∃ kv, IntRow w X kv t.kids ∧ ∀ o u, (twCells t kv)[o]? = some u → xs[i * 6 + o]? = some u
  | [], _, _, _, _, h => by simp at h
  | t :: tw, xs, 0, t', ⟨kv, ys, e, h1, _⟩, h => by
    simp at h; subst h e
    exact ⟨kv, h1, fun o u ho => by rw [List.getElem?_append_left (by have := (List.getElem?_eq_some_iff.1 ho).1; simpa using this)]; simpa using ho⟩
  | t :: tw, xs, i + 1, t', ⟨kv, ys, e, _, h2⟩, h => by
    obtain ⟨kv', h3, h4⟩ := tw_at h2 (i := i) (by simpa using h)
    subst e
    refine ⟨kv', h3, fun o u ho => ?_⟩
    have e2 : (i + 1) * 6 + o = 6 + (i * 6 + o) := by omega
    rw [e2, List.getElem?_append_right (by simp [twCells])]
    simpa [twCells] using h4 o u ho
theorem tw_src {w : World} {X : List Nat} {base vn vc : Nat} {vA : Option Addr} {tw : List Tw} {xs : List Value} {i : Nat} {t : Tw} (ho : w.ownsRow base 39 6 (.slice vA vn vc) tw.length xs) (ht : Tws w X tw xs) (hi : tw[i]? = some t) :
    vn = tw.length ∧ i < vn ∧ ∃ g kv, vA = some ⟨g, 0, none⟩ ∧ g < w.heap.size ∧ IntRow w X kv t.kids ∧ ∀ o u, (twCells t kv)[o]? = some u → w.cell? ⟨g, i * 6 + o, none⟩ = some u := by
  have hlt : i < tw.length := (List.getElem?_eq_some_iff.1 hi).1
  obtain ⟨kv, h1, h2⟩ := tw_at ht hi
  rcases id ho.2 with ⟨h0, hn⟩ | ⟨g, cap, cur, hv, _, hh, _⟩
  · omega
  · injection hv with e1 e2 e3
    refine ⟨e2, by omega, g, kv, e1, lt_of_block hh, h1, fun o u hu => ?_⟩
    have hc := ho.cells (g := g) (by rw [e1]; rfl) (i * 6 + o) u (h2 o u hu)
    have ha : ∀ j, (⟨g, 0, none⟩ : Addr).add j = ⟨g, j, none⟩ := fun j => by unfold Addr.add; split <;> simp_all
    rw [ha] at hc
    exact hc
/-- Where the ways meet: the laid twig's parent has its kid. -/
def CutR (w : World) (lA : Option Addr) (lc : Nat) (L : List Tw) (sb : Nat) (sv : Value) (p : Pd) (S : List Pd) (Ds : List Nat) (b5 : Nat) (wx : World) : Prop :=
  ∃ ks, LS w.heap.size (.slice lA L.length lc) (addK L p.up [(L.length : Int)]) ks sb sv S Ds wx ∧ Lo (Mine w.heap.size (.slice lA L.length lc) ks sb sv Ds) wx b5 (.cells #[.int .i64 (p.i : Int), .int .i64 p.up] 97) ∧
    Lo (Mine w.heap.size (.slice lA L.length lc) ks sb sv Ds) wx (b5 + 1) (.cells #[.int .i64 (L.length : Int)] 3) ∧ Below w.heap.size w wx
def mark (D : Nat) : Deferred := { target := .collected D, args := #[] }
theorem LP.first (d : Nd) (k : Fo) (tw : List Tw) (h : tw = (one d k).post 0) : LP tw ((one d k).flat 0) (k.size + 1) [] [⟨d, k, k.size, -1⟩] := by
  subst h
  refine ⟨fun p hp => ?_, fun p hp => ?_, layS_all d k, rfl, ?_, by simp⟩
  · exact inP_pds _ (-1) (one d k) 0 (fun j t h => by simpa using h) p (by simpa [one, Fo.pds] using hp)
  · simp at hp; subst hp; intro h; simp at h
  · rw [Fo.post_len, one_size]; simp
theorem LP.step {tw Fin : List Tw} {n : Nat} {L : List Tw} {p : Pd} {S : List Pd} (h : LP tw Fin n L (p :: S)) : ∃ n', n' < n ∧ LP tw Fin n' (addK L p.up [(L.length : Int)] ++ [p.d.tw []]) (p.k.pds L.length (p.i - p.k.size) ++ S) := by
  obtain ⟨n', rfl⟩ : ∃ n', n = n' + 1 := ⟨n - 1, by have := h.cnt; simp [todo] at this; omega⟩
  have hl : (addK L p.up [(L.length : Int)] ++ [p.d.tw []]).length = L.length + 1 := by simp [addK_len]
  have hp := h.ins p (.head _)
  refine ⟨n', by omega, fun q hq => ?_, fun q hq => ?_, h.fin, ?_, by rw [hl]; have := h.len; omega, fun t ht => ?_⟩
  · rcases List.mem_append.1 hq with hq | hq
    · exact inP_pds tw _ _ _ hp.2.2 q hq
    · exact h.ins q (.tail _ hq)
  · rw [hl]
    rcases List.mem_append.1 hq with hq | hq
    · rw [ups_pds _ _ _ q hq]; intro _; omega
    · intro h0; have := h.ups q (.tail _ hq) h0; omega
  · have := h.cnt
    rw [todo_app, todo_pds]
    simp [todo] at this; omega
  · rw [hl]
    rcases List.mem_append.1 ht with ht | ht
    · obtain ⟨t0, h0, h1⟩ := addK_kids _ _ _ t ht
      have := h.kb t0 h0
      omega
    · simp at ht; subst ht; simp [Nd.tw]

theorem LS.begin (w w1 : World) (vn : Nat) (d : Nd) (k : Fo) (hn : vn = k.size + 1) (hown1 : w1.ownsRow w.heap.size 39 6 (.slice (some ⟨(w.alloc (.cells #[.slice none 0 0] 26)).heap.size, 0, none⟩) 0 vn) 0 []) (hgrow1 : (w.alloc (.cells #[.slice none 0 0] 26)).grownBy w1 none) :
    LS w.heap.size (.slice (some ⟨w.heap.size + 1, 0, none⟩) 0 vn) [] [] (w1.heap.size + 1) (.slice (some ⟨w1.heap.size, 0, none⟩) 1 1) [⟨d, k, k.size, -1⟩] [] ((w1.alloc (.cells #[.int .i64 ((vn : Int) - 1), .int .i64 (-1)] 97)).alloc (.cells #[.slice (some ⟨w1.heap.size, 0, none⟩) 1 1] 98)) ∧
    Below w.heap.size w ((w1.alloc (.cells #[.int .i64 ((vn : Int) - 1), .int .i64 (-1)] 97)).alloc (.cells #[.slice (some ⟨w1.heap.size, 0, none⟩) 1 1] 98)) := by
  have hs : (w.alloc (.cells #[.slice none 0 0] 26)).heap.size = w.heap.size + 1 := by simp
  have hs1 := hgrow1.size
  have hb1 : Below w.heap.size w w1 := ((Below.refl _ w).alloc (Nat.le_refl _) _).trans ⟨hgrow1.os, hgrow1.tape, hgrow1.output, hgrow1.size, fun b hb => hgrow1.block b (by omega) (by simp)⟩
  have hres : w1.heap[w.heap.size]? = some (.cells #[.slice none 0 0] 26 (0, 0)) := (hgrow1.block _ (by omega) (by simp)).trans (heap_alloc_new w _)
  rw [hs] at hown1
  have e1 : ((vn : Int) - 1) = (k.size : Int) := by omega
  rw [e1]
  have hst : (w1.alloc (.cells #[.int .i64 (k.size : Int), .int .i64 (-1)] 97)).ownsRow w.heap.size 97 2 (.slice (some ⟨w1.heap.size, 0, none⟩) 1 1) 1 (pdCells [⟨d, k, k.size, -1⟩]) :=
    ⟨rfl, .inr ⟨_, 1, _, rfl, by omega, heap_alloc_new w1 _, Nat.le_refl _, by unfold maxLen; omega, rfl, rfl⟩⟩
  have hz : ∀ o o', (w1.alloc o).alloc o' = (w1.alloc o).alloc o' := fun _ _ => rfl
  refine ⟨⟨⟨(hown1.alloc _).alloc _, rfl, by simp, by simp⟩, ?_, by omega, hst.alloc _, ?_, List.nodup_nil, by simp⟩, (hb1.alloc (by omega) _).alloc (by simp; omega) _⟩
  · have := heap_alloc_new (w1.alloc (.cells #[.int .i64 (k.size : Int), .int .i64 (-1)] 97)) (.cells #[.slice (some ⟨w1.heap.size, 0, none⟩) 1 1] 98)
    simpa using this
  · rw [Below.heap_alloc _ _ _ (by simp; omega), Below.heap_alloc _ _ _ (by omega)]
    exact hres


theorem cut_base {n₀ : Nat} {lv : Value} {L : List Tw} {ks : List Value} {sb : Nat} {S : List Pd} {Ds : List Nat} {w wr : World} {p : Pd} {g cap : Nat} (h : LS n₀ lv L ks sb (.slice (some ⟨g, 0, none⟩) (S.length + 1) cap) (p :: S) Ds wr) (hb : Below n₀ w wr) (hn : n₀ ≤ wr.heap.size) (x : Int) {W : World}
    (hW : W = ((wr.setCell ⟨sb, 0, none⟩ (.slice (some ⟨g, 0, none⟩) S.length cap)).alloc (.cells #[.int .i64 (p.i : Int), .int .i64 p.up] 97)).alloc (.cells #[.int .i64 x] 3)) :
    LS n₀ lv L ks sb (.slice (some ⟨g, 0, none⟩) S.length cap) S Ds W ∧ Lo (Mine n₀ lv ks sb (.slice (some ⟨g, 0, none⟩) S.length cap) Ds) W wr.heap.size (.cells #[.int .i64 (p.i : Int), .int .i64 p.up] 97) ∧ Lo (Mine n₀ lv ks sb (.slice (some ⟨g, 0, none⟩) S.length cap) Ds) W (wr.heap.size + 1) (.cells #[.int .i64 x] 3) ∧ Below n₀ w W := by
  subst hW
  obtain ⟨h1, s1⟩ := h.pop
  have hs : (wr.setCell ⟨sb, 0, none⟩ (.slice (some ⟨g, 0, none⟩) S.length cap)).heap.size = wr.heap.size := by simp [World.setCell]
  have hb1 := s1.low hb (fun b hb => (h.bnd hb).1) hn
  generalize wr.setCell ⟨sb, 0, none⟩ (.slice (some ⟨g, 0, none⟩) S.length cap) = w1 at h1 hs hb1 ⊢
  have h2 := h1.after ((Below.refl _ w1).alloc (Nat.le_refl _) (.cells #[.int .i64 (p.i : Int), .int .i64 p.up] 97))
  have l5 := h1.lo (.cells #[.int .i64 (p.i : Int), .int .i64 p.up] 97) wr.heap.size hs.symm
  have hb2 := hb1.alloc (Nat.le_trans hn (by omega)) (.cells #[.int .i64 (p.i : Int), .int .i64 p.up] 97)
  have hs2 : (w1.alloc (.cells #[.int .i64 (p.i : Int), .int .i64 p.up] 97)).heap.size = wr.heap.size + 1 := by simp [hs]
  generalize w1.alloc (.cells #[.int .i64 (p.i : Int), .int .i64 p.up] 97) = w2 at h2 l5 hb2 hs2 ⊢
  have hbe := (Below.refl _ w2).alloc (Nat.le_refl _) (.cells #[.int .i64 x] 3)
  exact ⟨h2.after hbe, l5.step (n₀ := n₀) (.of hbe), h2.lo _ _ hs2.symm, hb2.alloc (by omega) _⟩
theorem addK_neg (L : List Tw) (u : Int) (xs : List Int) (h : u < 0) : addK L u xs = L := by unfold addK; rw [if_neg (by omega)]
/-- The cells of a laid twig's kids. -/
theorem Laid.kcell {n₀ : Nat} {w : World} {lA : Option Addr} {ln lc : Nat} {L : List Tw} {ks : List Value} (h : Laid n₀ w (.slice lA ln lc) L ks) {i : Nat} {t : Tw} (ht : L[i]? = some t) :
    ∃ gl kA kc, lA = some ⟨gl, 0, none⟩ ∧ gl < w.heap.size ∧ ks[i]? = some (.slice kA t.kids.length kc) ∧ w.cell? ⟨gl, i * 6 + 5, none⟩ = some (.slice kA t.kids.length kc) ∧ (∀ j, w.frozen? ⟨gl, j, none⟩ = false) ∧ w.ownsRow n₀ 3 1 (.slice kA t.kids.length kc) t.kids.length (t.kids.map (Value.int .i64)) := by
  have hi : i < L.length := (List.getElem?_eq_some_iff.1 ht).1
  have hik : i < ks.length := by rw [h.len]; exact hi
  have hk := h.kid i _ _ ht (List.getElem?_eq_getElem hik)
  obtain ⟨kA, kc, hkv⟩ := own_form hk
  rcases id h.row.2 with ⟨_, h0⟩ | ⟨g, cap, cur, hv, _, hh, _⟩
  · omega
  · injection hv with e1 e2 e3
    have hc := h.row.cells (g := g) (by rw [e1]; rfl) (i * 6 + 5) _ ((lcells_get L ks i _ _ ht (List.getElem?_eq_getElem hik) 5 (by omega)).trans rfl)
    have ha : ∀ j, (⟨g, 0, none⟩ : Addr).add j = ⟨g, j, none⟩ := fun j => by unfold Addr.add; split <;> simp_all
    rw [ha] at hc
    rw [hkv] at hc hk
    exact ⟨g, kA, kc, e1, lt_of_block hh, by rw [List.getElem?_eq_getElem hik, hkv], hc, fun j => by simp [World.frozen?, hh], hk⟩
/-- The kids that are on the stack so far. -/
def PushI (n₀ : Nat) (sb : Nat) (sv : Value) (xs : List Value) (k0 : Nat) (at0 : Int) (W0 : World) (pre : List (Int × Int)) (W : World) : Prop :=
  ∃ sv', W.heap[sb]? = some (.cells #[sv'] 98 (0, 0)) ∧ W.ownsRow n₀ 97 2 sv' (k0 + pre.length) (xs ++ pre.flatMap fun x => [.int .i64 x.2, .int .i64 at0]) ∧ Kp sb sv W0 sv' W
theorem pushI_own {n₀ sb : Nat} {sv : Value} {xs : List Value} {k0 : Nat} {at0 : Int} {W0 : World} : OwnFrom W0.heap.size (PushI n₀ sb sv xs k0 at0 W0) := by
  rintro s A B row ⟨sv', h1, h2, h3⟩ hg hr
  have hkeep : ∀ (b : Nat) (cs : Array Value) (t : TypeId) (m : Nat × Nat), A.heap[b]? = some (Obj.cells cs t m) → B.heap[b]? = A.heap[b]? := fun b cs t m hb => hg.block b (lt_of_block hb) fun e => by
    obtain ⟨_, o, ho, hc⟩ := hr b e.symm
    rw [hb] at ho; cases ho; cases hc
  refine ⟨sv', (hkeep _ _ _ _ h1).trans h1, ownsRow_keep h2 fun g hgo => ?_, ⟨hg.os.trans h3.os, hg.tape.trans h3.tape, hg.output.trans h3.output, Nat.le_trans h3.size hg.size, fun b hb h4 h5 => (hg.block b (Nat.lt_of_lt_of_le hb h3.size) fun e => ?_).trans (h3.block b hb h4 h5), h3.own⟩⟩
  · obtain ⟨cur, hc⟩ := own_type h2 g hgo
    exact hkeep _ _ _ _ hc
  · have := (hr b e.symm).1; omega
theorem pushI_nil {n₀ : Nat} {lv : Value} {L : List Tw} {ks : List Value} {sb : Nat} {sv : Value} {S : List Pd} {Ds : List Nat} {W0 : World} (h : LS n₀ lv L ks sb sv S Ds W0) (at0 : Int) : PushI n₀ sb sv (pdCells S.reverse) S.length at0 W0 [] W0 :=
  ⟨sv, h.box, by simpa using h.st, .refl _ _ _⟩
/-- One kid more on the stack. -/
theorem PushI.step {n₀ sb k0 : Nat} {sv sv' sv'' : Value} {xs : List Value} {at0 : Int} {W0 W W1 w1 : World} {pre : List (Int × Int)} {x : Int × Int} (hsb : sb < W0.heap.size) (h1 : W.heap[sb]? = some (.cells #[sv'] 98 (0, 0))) (h3 : Kp sb sv W0 sv' W) (h2 : W.ownsRow n₀ 97 2 sv' (k0 + pre.length) (xs ++ pre.flatMap fun x => [.int .i64 x.2, .int .i64 at0]))
    (hB : Below W.heap.size W W1) (hK : KeepsOthers W W1) (hg : W1.grownBy w1 sv'.ownBlock) (ho : w1.ownsRow n₀ 97 2 sv'' (k0 + pre.length + 1) ((xs ++ pre.flatMap fun x => [.int .i64 x.2, .int .i64 at0]) ++ [.int .i64 x.2, .int .i64 at0])) (hat : ∀ g, sv''.ownBlock = some g → sv'.ownBlock = some g ∨ W.heap.size ≤ g) :
    PushI n₀ sb sv xs k0 at0 W0 (pre ++ [x]) (w1.setCell ⟨sb, 0, none⟩ sv'') ∧ KeepsOthers W (w1.setCell ⟨sb, 0, none⟩ sv'') ∧ ∀ (b : Nat) (cs : Array Value) (t : TypeId) (m : Nat × Nat), W.heap[b]? = some (Obj.cells cs t m) → t ≠ 98 → t ≠ 97 → (w1.setCell ⟨sb, 0, none⟩ sv'').heap[b]? = W.heap[b]? := by
  have hk1 : ∀ b, b < W.heap.size → sv'.ownBlock ≠ some b → w1.heap[b]? = W.heap[b]? := fun b hb hv => (hg.block b (Nat.lt_of_lt_of_le hb hB.size) (fun e => hv e.symm)).trans (hB.block b hb)
  have hbs : sv'.ownBlock ≠ some sb := kinds h1 h2 fun cur e => by injection e with _ e _; exact absurd e (by decide)
  have hb1 : w1.heap[sb]? = some (.cells #[sv'] 98 (0, 0)) := (hk1 sb (lt_of_block h1) hbs).trans h1
  have hsz : (w1.setCell ⟨sb, 0, none⟩ sv'').heap.size = w1.heap.size := by simp [World.setCell]
  have hbs2 : sv''.ownBlock ≠ some sb := kinds hb1 ho fun cur e => by injection e with _ e _; exact absurd e (by decide)
  refine ⟨⟨sv'', one_setCell hb1, ?_, ⟨hg.os.trans (hB.os.trans h3.os), hg.tape.trans (hB.tape.trans h3.tape), hg.output.trans (hB.output.trans h3.output), by rw [hsz]; exact Nat.le_trans h3.size (Nat.le_trans hB.size hg.size), fun b hb h4 h5 => ?_, fun b hb => ?_⟩⟩, ?_, fun b cs t m hb h4 h5 => ?_⟩
  · have e1 : k0 + (pre ++ [x]).length = k0 + pre.length + 1 := by simp; omega
    rw [e1, List.flatMap_append, ← List.append_assoc]
    exact ownsRow_setCell_other (by simpa using ho) hbs2 _
  · refine (set_other _ _ _ _ _ h4).trans ((hk1 b (Nat.lt_of_lt_of_le hb h3.size) fun e => ?_).trans (h3.block b hb h4 h5))
    rcases h3.own b e with e | e
    · exact h5 e
    · omega
  · rcases hat b hb with e | e
    · exact h3.own b e
    · exact .inr (Nat.le_trans h3.size e)
  · refine hK.trans ((KeepsOthers.of_grownBy hg fun j o hj hjo => ?_).trans (.setCell _ _ _))
    have hj' := (h2.lt j hj).2
    obtain ⟨cur, hc⟩ := own_type h2 j hj
    rw [hB.block j hj', hc] at hjo
    cases hjo; rfl
  · refine (set_other _ _ _ _ _ fun e => ?_).trans (hk1 b (lt_of_block hb) fun e => ?_)
    · subst e; rw [h1] at hb; injection hb with hb; injection hb with _ hb _; exact h4 hb.symm
    · obtain ⟨cur, hc⟩ := own_type h2 b e
      rw [hc] at hb; injection hb with hb; injection hb with _ hb _; exact h5 hb.symm
/-- What came, one after another, is what goes on the stack. -/
theorem push_all (k : Fo) (b : Nat) (S : List Pd) (u : Nat) : pdCells S.reverse ++ (bwd (k.ids b) 0).flatMap (fun x => [Value.int .i64 x.2, .int .i64 (u : Int)]) = pdCells ((k.pds u b ++ S).reverse) ∧ S.length + (bwd (k.ids b) 0).length = (k.pds u b ++ S).length := by
  have h1 : ∀ l : List (Int × Int), l.flatMap (fun x => [Value.int .i64 x.2, .int .i64 (u : Int)]) = (l.map (·.2)).flatMap fun i => [Value.int .i64 i, .int .i64 (u : Int)] := fun l => by
    induction l with
    | nil => rfl
    | cons a l ih => simp [ih]
  have h2 : ∀ l : List Pd, (∀ p ∈ l, p.up = (u : Int)) → pdCells l = (l.map fun p => (p.i : Int)).flatMap fun i => [Value.int .i64 i, .int .i64 (u : Int)] := fun l hl => by
    induction l with
    | nil => rfl
    | cons a l ih =>
      have h3 := ih fun p hp => hl p (.tail _ hp)
      simp only [pdCells, List.flatMap_cons, List.map_cons] at h3 ⊢
      rw [h3]
      simp [pdc, hl a (.head _)]
  refine ⟨?_, ?_⟩
  · rw [List.reverse_append, pdCells_app, h1, bwd_all, h2 (k.pds u b).reverse (fun p hp => ups_pds k u b p (by simpa using hp)), ids_pds k u b, List.map_reverse]
  · rw [bwd_len, ids_pds k u b]; simp; omega
/-- What is left when lay returns. -/
theorem leaves_marks {F : Fence} {n : Nat} {P : Program} {fn : Func} {tmps : Array Value} {R : Ending → World → Prop} : ∀ (Ds : List Nat) (w : World), Ds.Nodup → (∀ D ∈ Ds, w.heap[D]? = some (.deferred (some []))) →
    (∀ w' : World, w'.os = w.os → w'.tape = w.tape → w'.output = w.output → w'.heap.size = w.heap.size → (∀ b, b ∉ Ds → w'.heap[b]? = w.heap[b]?) → LeavesInM F n P fn tmps R [] .returning w') → LeavesInM F n P fn tmps R (Ds.map mark) .returning w
  | [], w, _, _, h => h w rfl rfl rfl rfl fun _ _ => rfl
  | D :: Ds, w, hn, hd, h => by
    have hn' := List.nodup_cons.1 hn
    refine ⟨by simp, .inl ⟨D, _, rfl, run_takeDeferred (hd D (.head _)), leaves_marks Ds _ hn'.2 (fun E hE => (World.putObj_heap_other fun e => hn'.1 (by rw [← e]; exact hE)).trans (hd E (.tail _ hE))) fun w' h1 h2 h3 h4 h5 => h w' h1 h2 h3 (by rw [h4]; simp) fun b hb => ?_⟩⟩
    exact (h5 b fun hm => hb (.tail _ hm)).trans (World.putObj_heap_other fun e => hb (by rw [e]; exact .head _))
theorem layS_nil (n : Nat) (L : List Tw) : layS n L [] = L := by cases n <;> rfl
theorem lay_end {w₀ w W : World} {n₀ : Nat} {lv : Value} {L : List Tw} {ks : List Value} {sb : Nat} {sv : Value} {S : List Pd} {Ds : List Nat} (h : LS n₀ lv L ks sb sv S Ds w) (hb : Below n₀ w₀ w) (hn : n₀ = w₀.heap.size) (u : Value) (h1 : W.os = w.os) (h2 : W.tape = w.tape) (h3 : W.output = w.output) (h4 : W.heap.size = w.heap.size) (h5 : ∀ b, b ∉ Ds → W.heap[b]? = (w.setCell ⟨n₀, 0, none⟩ u).heap[b]?) :
    Laid n₀ W lv L ks ∧ Below n₀ w₀ W ∧ W.heap[n₀]? = some (.cells #[u] 26 (0, 0)) := by
  have hne : ∀ (b : Nat) (cur : Array Value) (e : TypeId), w.heap[b]? = some (Obj.cells cur e (0, 0)) → e ≠ 26 → W.heap[b]? = w.heap[b]? := fun b cur e hbk he => by
    rw [h5 b fun hm => by have := (h.marks b hm).2; rw [this] at hbk; cases hbk]
    exact set_other _ _ _ _ _ fun e' => by rw [e', h.res] at hbk; injection hbk with hbk; injection hbk with _ hbk _; exact he hbk.symm
  have keep : ∀ {e : TypeId} {size n : Nat} {v : Value} {xs : List Value}, w.ownsRow n₀ e size v n xs → e ≠ 26 → W.ownsRow n₀ e size v n xs := fun hr he => ownsRow_keep hr fun g hg => by
    obtain ⟨cur, hc⟩ := own_type hr g hg
    exact hne g cur _ hc he
  refine ⟨⟨keep h.laid.row (by decide), h.laid.len, fun i t kv hi hk => keep (h.laid.kid i t kv hi hk) (by decide), h.laid.apart⟩, ⟨h1.trans hb.os, h2.trans hb.tape, h3.trans hb.output, by rw [h4]; exact hb.size, fun b hlt => ?_⟩, ?_⟩
  · rw [h5 b fun hm => by have := (h.marks b hm).1; omega]
    exact (set_other _ _ _ _ _ (by omega)).trans (hb.block b hlt)
  · rw [h5 n₀ fun hm => by have := (h.marks n₀ hm).2; rw [h.res] at this; cases this]
    exact one_setCell h.res
end Go.Proofs.YtehdljcmeimbcaaGreat
