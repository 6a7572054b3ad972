/- What stays of memory from one world to another; append, whatever is there: of no law of its own (put together from the queue's texts); Rows of one cell a member, of any kind: of no law of its own; Arguments that are slices, opened to what lies in memory: of no law of its own. -/
import Derived.Test.YtfljmdpigckpkaaGreatDoorChecked
import Derived.WalkKit
import Derived.Lib.Hide
import Derived.Deep.QuietTactic
import Derived.BigQuiet
import Derived.BigRegion
import Derived.RegionTactic
import Derived.Outline
import Derived.WalkLawsBesides
import Derived.LoopIn
import Derived.LoopTactic
import Derived.Shelf.Abstract
import Derived.Maps.Own
import Derived.Maps.AppendAt
import Derived.Laws.OwnMore
import Derived.RangeFuncBox
import Derived.RangeFuncNested
import Derived.RangeFuncLeaves
import Derived.OwnWalkIn
import Derived.TacticsInMore
import Derived.LoopNIn
import Derived.Maps.OwnIn
import Derived.Maps.OwnSet
import Derived.Deep.DeepCutAuto
import Derived.Deep.RegionHeld3
import Derived.StillTailTactics
import Derived.Deep.RegionLaw
import Derived.Deep.AppendLies
import Derived.Below
import Derived.Deep.Slices
import Derived.Deep.Fields
import Derived.ChangeSame
namespace Go.Proofs.YtfljmdpigckpkaaGreatDoor
open Go.RowKit Go.Shelf
attribute [local go_sem] Oper.semAt_some
/-- Of what type a block's cells are. -/
def tag : Obj → Option TypeId
  | .cells _ t _ => some t
  | _ => none
theorem tag_loop (r : Loop) : tag (.loop r) = none := rfl
theorem tag_def (r : Option (List Deferred)) : tag (.deferred r) = none := rfl
/-- The blocks that p names are as they were; none has gone. -/
structure Kept (p : Nat → Option TypeId → Bool) (W W' : World) : Prop where
  os : W'.os = W.os
  tape : W'.tape = W.tape
  output : W'.output = W.output
  size : W.heap.size ≤ W'.heap.size
  same : ∀ b o, W.heap[b]? = some o → p b (tag o) = true → W'.heap[b]? = some o
section
variable {p q : Nat → Option TypeId → Bool} {W W' W'' : World}
theorem Kept.refl (p : Nat → Option TypeId → Bool) (W : World) : Kept p W W := ⟨rfl, rfl, rfl, Nat.le_refl _, fun _ _ h _ => h⟩
theorem Kept.trans (h : Kept p W W') (k : Kept p W' W'') : Kept p W W'' := ⟨k.os.trans h.os, k.tape.trans h.tape, k.output.trans h.output, Nat.le_trans h.size k.size, fun b o hb hp => k.same b o (h.same b o hb hp) hp⟩
theorem Kept.mono (h : Kept p W W') (hq : ∀ b t, b < W.heap.size → q b t = true → p b t = true) : Kept q W W' := ⟨h.os, h.tape, h.output, h.size, fun b o hb hp => h.same b o hb (hq b _ (Array.getElem?_eq_some_iff.1 hb).1 hp)⟩
theorem Kept.drew (p : Nat → Option TypeId → Bool) (W : World) : Kept p W W.drew := ⟨rfl, rfl, rfl, Nat.le_refl _, fun _ _ h _ => h⟩
theorem Kept.alloc (p : Nat → Option TypeId → Bool) (W : World) (o : Obj) : Kept p W (W.alloc o) := ⟨rfl, rfl, rfl, by simp, fun b o' hb _ => (Below.heap_alloc W o b (Array.getElem?_eq_some_iff.1 hb).1).trans hb⟩
theorem Kept.setCell {a : Addr} (v : Value) (ho : ∀ o, W.heap[a.block]? = some o → p a.block (tag o) = false) : Kept p W (W.setCell a v) :=
  ⟨rfl, rfl, rfl, (KeepsWalks.setCell W a v).size, fun b o hb hp => by
    have hne : b ≠ a.block := fun e => by subst e; rw [ho o hb] at hp; cases hp
    exact (Below.heap_setCell _ _ _ b hne).trans hb⟩
theorem Kept.putObj {l : Nat} {o' : Obj} (ho : ∀ o, W.heap[l]? = some o → p l (tag o) = false) : Kept p W (W.putObj l o') :=
  ⟨rfl, rfl, rfl, by simp, fun b o hb hp => by
    have hne : b ≠ l := fun e => by subst e; rw [ho o hb] at hp; cases hp
    exact (World.putObj_heap_other hne).trans hb⟩
theorem Kept.grown {row : Option Nat} (hg : W.grownBy W' row) (ho : ∀ j o, row = some j → W.heap[j]? = some o → p j (tag o) = false) : Kept p W W' :=
  ⟨hg.os, hg.tape, hg.output, hg.size, fun b o hb hp => by
    refine (hg.block b (Array.getElem?_eq_some_iff.1 hb).1 fun e => ?_).trans hb
    rw [ho b o e.symm hb] at hp; cases hp⟩
theorem Kept.below {B : Nat} (h : Kept p W W') (hp : ∀ b t, b < B → p b t = true) (hB : B ≤ W.heap.size) : Below B W W' :=
  ⟨h.os, h.tape, h.output, h.size, fun b hb => by
    have hb' : b < W.heap.size := by omega
    rw [Array.getElem?_eq_getElem hb', h.same b _ (Array.getElem?_eq_getElem hb') (hp b _ hb)]⟩
theorem Kept.of_below {B : Nat} (h : Below B W W') (hp : ∀ b t, b < W.heap.size → p b t = true → b < B) : Kept p W W' :=
  ⟨h.os, h.tape, h.output, h.size, fun b _ hb hb' => (h.block b (hp b _ (Array.getElem?_eq_some_iff.1 hb).1 hb')).trans hb⟩
theorem Kept.cell (h : Kept p W W') {a : Addr} {v : Value} (hc : W.cell? a = some v) (hp : ∀ o, W.heap[a.block]? = some o → p a.block (tag o) = true) : W'.cell? a = some v := by
  have hlt := World.block_lt_of_cell? W a hc
  exact (World.cell?_of_block (by rw [h.same a.block _ (Array.getElem?_eq_getElem hlt) (hp _ (Array.getElem?_eq_getElem hlt)), Array.getElem?_eq_getElem hlt])).trans hc
theorem Kept.row (h : Kept p W W') {base : Nat} {e : TypeId} {size n : Nat} {v : Value} {xs : List Value} (hr : W.ownsRow base e size v n xs) (hp : ∀ g, v.ownBlock = some g → p g (some e) = true) : W'.ownsRow base e size v n xs := by
  refine ⟨hr.1, ?_⟩
  rcases hr.2 with h1 | ⟨g, cap, cur, rfl, h1, h2, h3⟩
  · exact .inl h1
  · exact .inr ⟨g, cap, cur, rfl, h1, h.same g _ h2 (hp g (by simp [Value.ownBlock])), h3⟩
theorem Kept.map {H : Type} {P : Program} {k : TypeId} {R : Value → Option (DataW H × List MemPlace)} {b n : Nat} {D : DataW H} (h : Kept p W W') (hm : W.ownsMap P k R b n D) (hp : p b none = true) : W'.ownsMap P k R b n D := by
  obtain ⟨es, clock, h1, h2⟩ := hm
  exact ⟨es, clock, h.same b _ h1 hp, h2⟩
end
/-- All old blocks. -/
def pOld (B : Nat) : Nat → Option TypeId → Bool := fun b _ => decide (b < B)
/-- What was there is as it was. -/
def Ext (W W' : World) : Prop := Kept (pOld W.heap.size) W W'
theorem Ext.kept {W W' : World} (h : Ext W W') (p : Nat → Option TypeId → Bool) : Kept p W W' := h.mono fun _ _ hb _ => by simp [pOld, hb]
theorem Ext.of {W W' : World} (h : Below W.heap.size W W') : Ext W W' := Kept.of_below h fun _ _ hb _ => hb
theorem Ext.refl (W : World) : Ext W W := Kept.refl _ W
theorem Ext.trans {A B C : World} (h : Ext A B) (k : Ext B C) : Ext A C := Kept.trans h (k.kept _)
theorem Ext.one (w : World) (o : Obj) : Ext w (w.alloc o) := Kept.alloc _ _ _
theorem Ext.two (w : World) (o o' : Obj) : Ext w ((w.alloc o).alloc o') := (Ext.one w o).trans (Ext.one _ o')
theorem Ext.drew (w : World) : Ext w w.drew := Kept.drew _ _
theorem Ext.drewN (W : World) (n : Nat) : Ext W (W.drewN n) := ⟨rfl, rfl, rfl, Nat.le_refl _, fun _ _ h _ => h⟩
theorem own_tag {W : World} {B : Nat} {e : TypeId} {size : Nat} {v : Value} {n : Nat} {xs : List Value} (h : W.ownsRow B e size v n xs) : ∀ g o, v.ownBlock = some g → W.heap[g]? = some o → tag o = some e ∧ B ≤ g := fun g o hv ho => by
  rcases h.2 with ⟨h0, _⟩ | ⟨g', cap, cur, e, hb, k1, _⟩
  · rw [h0] at hv; cases hv
  · rw [e] at hv
    have : g' = g := by simpa [Value.ownBlock] using hv
    subst this
    rw [k1] at ho; cases ho; exact ⟨rfl, hb⟩
theorem own_is {W : World} {B : Nat} {e : TypeId} {size : Nat} {v : Value} {n : Nat} {xs : List Value} (h : W.ownsRow B e size v n xs) : ∀ g, v.ownBlock = some g → ∃ o, W.heap[g]? = some o ∧ tag o = some e := fun g hv => by
  rcases h.2 with ⟨h0, _⟩ | ⟨g', cap, cur, e, hb, k1, _⟩
  · rw [h0] at hv; cases hv
  · rw [e] at hv
    have : g' = g := by simpa [Value.ownBlock] using hv
    subst this
    exact ⟨_, k1, rfl⟩
theorem own_slice3 {W : World} {base : Nat} {e : TypeId} {size : Nat} {v : Value} {n : Nat} {xs : List Value} (h : W.ownsRow base e size v n xs) : ∃ A c, v = .slice A n c := by
  rcases h.2 with ⟨rfl, h0⟩ | ⟨g, cap, _, rfl, _⟩
  · exact ⟨none, 0, by rw [h0]⟩
  · exact ⟨_, cap, rfl⟩
theorem Kept.rowT {p : Nat → Option TypeId → Bool} {W W' : World} (h : Kept p W W') {base : Nat} {e : TypeId} {size n : Nat} {v : Value} {xs : List Value} (hr : W.ownsRow base e size v n xs) (hp : ∀ g, g < W.heap.size → p g (some e) = true) : W'.ownsRow base e size v n xs := by
  refine ⟨hr.1, ?_⟩
  rcases hr.2 with h1 | ⟨g, cap, cur, rfl, h1, h2, h3⟩
  · exact .inl h1
  · exact .inr ⟨g, cap, cur, rfl, h1, h.same g _ h2 (hp g (Array.getElem?_eq_some_iff.1 h2).1), h3⟩
theorem sto1 {W : World} {b : Nat} {a0 : Value} {t : TypeId} (h : W.heap[b]? = some (.cells #[a0] t (0, 0))) (v0 : Value) :
    (W.setCell ⟨b, 0, none⟩ v0).heap[b]? = some (.cells #[v0] t (0, 0)) ∧ ∀ p : Nat → Option TypeId → Bool, p b (some t) = false → Kept p W (W.setCell ⟨b, 0, none⟩ v0) := by
  have h1 := heap_setCell_same W b 0 _ _ v0 h
  exact ⟨by rw [h1]; simp, fun p hp => Kept.setCell v0 fun o ho => by rw [h] at ho; cases ho; exact hp⟩
theorem oldNot (B b : Nat) (h : B ≤ b) (t : Option TypeId) : pOld B b t = false := by simp [pOld]; omega
/-- What is read of a slice that is appended. -/
def Src (w : World) (x : Value) (m : Nat) (news : List Value) : Prop := (x = .slice none 0 0 ∧ m = 0 ∧ news = []) ∨ ∃ ad c, x = .slice (some ad) m c ∧ ∀ (j : Nat) (u : Value), news[j]? = some u → w.cell? (ad.add j) = some u
theorem run_append_any {P : Program} (w : World) (base : Nat) (t ty e : TypeId) (i : TypeInfo) (z : Value) (size bytes : Nat) (ht : P.underlying t = some (.slice e)) (hi : P.info? e = some i) (hz : i.zero = some z) (hsize : i.size = size) (hby : i.bytes = bytes)
    (hzs : z.cells.size = size) (hsz : 0 < size) (v : Value) (n : Nat) (xs : List Value) (hown : w.ownsRow base e size v n xs) (x : Value) (m : Nat) (news : List Value) (hl : news.length = m * size) (hsrc : Src w x m news) (h1 : ∀ u ∈ news, u.oneCell' = true)
    (h63 : n + m ≤ maxLen) (hbytes : (n + m) * bytes ≤ 140737488355328) (hbase : base ≤ w.heap.size) :
    ∃ A c w', Sem.run P (Builtin.append_ #[t, t] ty #[v, x]) w = .ok (.slice A (n + m) c) w' ∧ w'.ownsRow base e size (.slice A (n + m) c) (n + m) (xs ++ news) ∧ w.grownBy w' v.ownBlock ∧ ((Value.slice A (n + m) c).ownBlock = v.ownBlock ∨ (Value.slice A (n + m) c).ownBlock = some w.heap.size) := by
  rcases hsrc with ⟨rfl, rfl, rfl⟩ | ⟨ad, c, rfl, hnews⟩
  · obtain ⟨A, c, rfl⟩ := own_slice3 hown
    refine ⟨A, c, w, ?_, by rw [List.append_nil]; exact hown, World.grownBy.refl _ _, .inl rfl⟩
    simp only [Nat.add_zero]
    exact run_append_owned_none (P := P) (w := w) base t ty e i size ht hi _ _ _ hown
  · obtain ⟨v', w', h2, h3, h4, _, h5⟩ := run_append_own_at w base t ty e i z size bytes ht hi hz hsize hby hzs hsz v n xs hown ad m c news hl hnews h1 h63 hbytes hbase
    obtain ⟨A, c', rfl⟩ := own_slice3 h3
    exact ⟨A, c', w', h2, h3, h4, h5⟩
theorem wp_append_any {P : Program} {w : World} {o : Oper} {a : Act} {K : Act → World → Prop} {Q : Exit → Act → World → Prop} (s x : Operand) (t : TypeId)
    (ho : o.op = Op.call { callee := Callee.builtin Builtin.append, args := #[s, x], argTypes := #[t, t] }) (base : Nat) (e : TypeId) (i : TypeInfo) (z : Value) (size bytes : Nat) (ht : P.underlying t = some (.slice e)) (hi : P.info? e = some i) (hz : i.zero = some z) (hsize : i.size = size) (hby : i.bytes = bytes)
    (hzs : z.cells.size = size) (hsz : 0 < size) (v : Value) (n : Nat) (xs : List Value) (hs : a.eval s = v) (hown : w.ownsRow base e size v n xs) (xv : Value) (m : Nat) (news : List Value) (hx : a.eval x = xv) (hl : news.length = m * size) (hsrc : Src w xv m news) (h1 : ∀ u ∈ news, u.oneCell' = true)
    (h63 : n + m ≤ maxLen) (hbytes : (n + m) * bytes ≤ 140737488355328) (hbase : base ≤ w.heap.size) (T : Nat) (hT : n + m = T) (ys : List Value) (hY : xs ++ news = ys)
    (h : ∀ A c w', w'.ownsRow base e size (.slice A T c) T ys → w.grownBy w' v.ownBlock → ((Value.slice A T c).ownBlock = v.ownBlock ∨ (Value.slice A T c).ownBlock = some w.heap.size) → K (a.put o.dst (.slice A T c)) w') :
    Oper.wp P o a w K Q := by
  subst hT hY
  obtain ⟨A, c, w', hrun, h2, h3, h4⟩ := run_append_any w base t o.type e i z size bytes ht hi hz hsize hby hzs hsz v n xs hown xv m news hl hsrc h1 h63 hbytes hbase
  unfold Oper.wp
  simp [execOp, ho, resolve, invoke, builtin, hs, hx, hrun, Result.andThen]
  exact h A c w' h2 h3 h4
theorem step_append_any {P : Program} {w : World} {ops : Array Oper} {o : Oper} {a : Act} {K : Act → World → Prop} {Q : Exit → Act → World → Prop} {EE : Prop} (hgd : o.guard = none) (s x : Operand) (t : TypeId)
    (ho : o.op = Op.call { callee := Callee.builtin Builtin.append, args := #[s, x], argTypes := #[t, t] }) (base : Nat) (e : TypeId) (i : TypeInfo) (z : Value) (size bytes : Nat) (ht : P.underlying t = some (.slice e)) (hi : P.info? e = some i) (hz : i.zero = some z) (hsize : i.size = size) (hby : i.bytes = bytes)
    (hzs : z.cells.size = size) (hsz : 0 < size) (v : Value) (n : Nat) (xs : List Value) (hs : a.eval s = v) (hown : w.ownsRow base e size v n xs) (xv : Value) (m : Nat) (news : List Value) (hx : a.eval x = xv) (hl : news.length = m * size) (hsrc : Src w xv m news) (h1 : ∀ u ∈ news, u.oneCell' = true)
    (h63 : n + m ≤ maxLen) (hbytes : (n + m) * bytes ≤ 140737488355328) (hbase : base ≤ w.heap.size) (T : Nat) (hT : n + m = T) (ys : List Value) (hY : xs ++ news = ys)
    (h : ∀ A c w', w'.ownsRow base e size (.slice A T c) T ys → w.grownBy w' v.ownBlock → ((Value.slice A T c).ownBlock = v.ownBlock ∨ (Value.slice A T c).ownBlock = some w.heap.size) → K (a.put o.dst (.slice A T c)) w') :
    if Region.wanted o (yielded ops a.tmps) = true then Oper.wp P o a w K Q else EE := by
  have hw : Region.wanted o (yielded ops a.tmps) = true := by simp [Region.wanted, hgd]
  rw [if_pos hw]
  exact wp_append_any s x t ho base e i z size bytes ht hi hz hsize hby hzs hsz v n xs hs hown xv m news hx hl hsrc h1 h63 hbytes hbase T hT ys hY h
theorem Src.of {w : World} {base : Nat} {e : TypeId} {size : Nat} {v : Value} {n : Nat} {xs : List Value} (h : w.ownsRow base e size v n xs) (hl : xs.length = n * size) : Src w v n xs := by
  rcases h.2 with ⟨h0, h1⟩ | ⟨g, cap, cur, e, _⟩
  · subst h1
    exact .inl ⟨h0, rfl, List.eq_nil_of_length_eq_zero (by omega)⟩
  · exact .inr ⟨⟨g, 0, none⟩, cap, e, fun j u hj => h.cells (g := g) (by rw [e]; rfl) j u hj⟩
theorem own_zero {W : World} {B : Nat} {e : TypeId} {size : Nat} {v : Value} {n : Nat} {xs : List Value} (h : W.ownsRow B e size v n xs) : W.ownsRow 0 e size v n xs := by
  refine ⟨h.1, ?_⟩
  rcases h.2 with h1 | ⟨g, cap, cur, e, _, h2⟩
  · exact .inl h1
  · exact .inr ⟨g, cap, cur, e, Nat.zero_le _, h2⟩
theorem wpListIn_append_any {F : Fence} {n0 : Nat} {P : Program} {w : World} {ops : Array Oper} {rest : List Oper} {o : Oper} {a : Act} {Q : Exit → Act → World → Prop} (hgd : o.guard = none) (s x : Operand) (t : TypeId)
    (ho : o.op = Op.call { callee := Callee.builtin Builtin.append, args := #[s, x], argTypes := #[t, t] }) (base : Nat) (e : TypeId) (i : TypeInfo) (z : Value) (size bytes : Nat) (ht : P.underlying t = some (.slice e)) (hi : P.info? e = some i) (hz : i.zero = some z) (hsize : i.size = size) (hby : i.bytes = bytes)
    (hzs : z.cells.size = size) (hsz : 0 < size) (v : Value) (n : Nat) (xs : List Value) (hs : a.eval s = v) (hown : w.ownsRow base e size v n xs) (xv : Value) (m : Nat) (news : List Value) (hx : a.eval x = xv) (hl : news.length = m * size) (hsrc : Src w xv m news) (h1 : ∀ u ∈ news, u.oneCell' = true)
    (h63 : n + m ≤ maxLen) (hbytes : (n + m) * bytes ≤ 140737488355328) (hbase : base ≤ w.heap.size) (T : Nat) (hT : n + m = T) (ys : List Value) (hY : xs ++ news = ys)
    (h : ∀ A c w', w'.ownsRow base e size (.slice A T c) T ys → w.grownBy w' v.ownBlock → ((Value.slice A T c).ownBlock = v.ownBlock ∨ (Value.slice A T c).ownBlock = some w.heap.size) → wpListIn F n0 P ops Q rest (a.put o.dst (.slice A T c)) w') :
    wpListIn F n0 P ops Q (o :: rest) a w := by
  subst hT hY
  refine wpListIn_plain hgd fun K hK => ?_
  obtain ⟨A, c, w', hrun, h2, h3, h4⟩ := run_append_any w base t o.type e i z size bytes ht hi hz hsize hby hzs hsz v n xs hown xv m news hl hsrc h1 h63 hbytes hbase
  unfold Oper.wpIn
  refine ⟨?_, ?_⟩
  · simp [Oper.about, ho, resolve, Target.leads, Sem.run_pure]
  · rw [Oper.semAt_plain F _ _ (by rw [ho]; intro c hc'; cases hc')]
    simp [execOp, ho, resolve, invoke, builtin, hs, hx, hrun, Result.andThen]
    exact hK _ _ (h A c w' h2 h3 h4)
end Go.Proofs.YtfljmdpigckpkaaGreatDoor

namespace Go.Proofs.YtfljmdpigckpkaaGreatDoor
open Go.RowKit Go.Shelf
/-- What a loop's body, an act or a call leaves, but for its own blocks. -/
def pQ (own : Nat → Bool) : Nat → Option TypeId → Bool := fun b _ => !own b
/-- New blocks. -/
def rng (B S : Nat) : Nat → Bool := fun b => decide (B ≤ b) && decide (b < S)
theorem ex_intro {α : Sort _} {p : α → Prop} {b : Prop} (h : ∀ a, p a → b) : (∃ x, p x) → b := fun ⟨x, hx⟩ => h x hx
theorem keptSince {own : Nat → Bool} {W w w' : World} (hx : Ext W w) (hge : ∀ b, own b = true → W.heap.size ≤ b) (h : Kept (pQ own) w w') : Ext W w' :=
  Kept.trans hx (h.mono fun b t _ hp => by
    simp [pOld] at hp
    unfold pQ
    cases hc : own b with
    | false => rfl
    | true => have := hge b hc; omega)
theorem ownSince {own own' : Nat → Bool} {W w : World} (hx : Ext W w) (hge : ∀ b, own b = true → W.heap.size ≤ b) (h : ∀ b, own' b = true → own b = true ∨ w.heap.size ≤ b) : ∀ b, own' b = true → W.heap.size ≤ b := fun b hb => by
  have := hx.size
  rcases h b hb with k | k
  · exact hge b k
  · omega
theorem own_base {W : World} {B : Nat} {e : TypeId} {size : Nat} {v : Value} {n : Nat} {xs : List Value} (h : W.ownsRow B e size v n xs) : ∀ b, v.ownBlock = some b → B ≤ b := fun b hb => by
  obtain ⟨o, h1, _⟩ := own_is h b hb
  exact (own_tag h b o hb h1).2
theorem own_lt {W : World} {B : Nat} {e : TypeId} {size : Nat} {v : Value} {n : Nat} {xs : List Value} (h : W.ownsRow B e size v n xs) : ∀ b, v.ownBlock = some b → b < W.heap.size := fun b hb => by
  obtain ⟨o, h1, _⟩ := own_is h b hb
  exact (Array.getElem?_eq_some_iff.1 h1).1
theorem own_low {W : World} {B B' : Nat} {e : TypeId} {size : Nat} {v : Value} {n : Nat} {xs : List Value} (hB : B' ≤ B) (h : W.ownsRow B e size v n xs) : W.ownsRow B' e size v n xs := by
  refine ⟨h.1, ?_⟩
  rcases h.2 with h1 | ⟨g, cap, cur, e, h1, h2⟩
  · exact .inl h1
  · exact .inr ⟨g, cap, cur, e, by omega, h2⟩
theorem Src.ext {w w' : World} {x : Value} {m : Nat} {news : List Value} (h : Src w x m news) (k : Ext w w') : Src w' x m news := by
  rcases h with h | ⟨ad, c, h1, h2⟩
  · exact .inl h
  · exact .inr ⟨ad, c, h1, fun j u hj => (k.kept (fun _ _ => true)).cell (h2 j u hj) fun _ _ => rfl⟩
def rowV {α : Type} (f : α → Value) (l : List α) : List Value := l.map f
section
variable {α : Type} {f : α → Value} {W : World} {B : Nat} {t : TypeId} {v : Value} {l : List α}
theorem rowV_len : (rowV f l).length = l.length * 1 := by simp [rowV]
theorem rowV_one (hf : ∀ x, (f x).oneCell' = true) : ∀ u ∈ rowV f l, u.oneCell' = true := by
  intro u hu
  obtain ⟨z, _, rfl⟩ := List.mem_map.1 hu
  exact hf z
theorem own1_cell (h : W.ownsRow B t 1 v l.length (rowV f l)) {i : Nat} (hi : i < l.length) :
    ∃ g c, v = .slice (some ⟨g, 0, none⟩) l.length c ∧ W.cell? ⟨g, i, none⟩ = some (f l[i]) ∧ g < W.heap.size := by
  rcases h.2 with ⟨_, h0⟩ | ⟨g, cap, cur, e, _, h1, h2, h3, h4, h5⟩
  · omega
  · refine ⟨g, cap, e, ?_, (Array.getElem?_eq_some_iff.1 h1).1⟩
    have h6 : cur.toList[i]? = (rowV f l)[i]? := by rw [← h5, List.getElem?_take, if_pos (by omega)]
    rw [rowV, List.getElem?_map, List.getElem?_eq_getElem hi] at h6
    simp only [World.cell?, h1]
    simpa using h6
theorem own1_set (h : W.ownsRow B t 1 v l.length (rowV f l)) {i : Nat} (hi : i < l.length) (z : α) :
    ∃ g c, v = .slice (some ⟨g, 0, none⟩) l.length c ∧ (W.setCell ⟨g, i, none⟩ (f z)).ownsRow B t 1 v l.length (rowV f (l.set i z)) ∧ (∀ n, W.frozen? ⟨g, n, none⟩ = false) ∧ W.cell? ⟨g, i, none⟩ = some (f l[i]) ∧ g < W.heap.size ∧ (∃ o, W.heap[g]? = some o ∧ tag o = some t) ∧ Kept (fun b _ => b != g) W (W.setCell ⟨g, i, none⟩ (f z)) := by
  obtain ⟨g0, c0, e0, hc0, hg0⟩ := own1_cell h hi
  rcases h.2 with ⟨_, h0⟩ | ⟨g, cap, cur, e, hb, h1, h2, h3, h4, h5⟩
  · omega
  · rw [e] at e0
    injection e0 with e0
    injection e0 with e0
    injection e0 with e0
    subst e0
    refine ⟨g, cap, e, ⟨by simp [rowV], .inr ⟨g, cap, _, e, hb, heap_setCell_same W g i _ _ _ h1, h2, h3, by simpa using h4, ?_⟩⟩, fun n => frozen_of_row W g n _ _ h1, hc0, (Array.getElem?_eq_some_iff.1 h1).1, ⟨_, h1, rfl⟩, Kept.setCell _ fun o ho => by simp⟩
    simp only [Array.toList_setIfInBounds, List.take_set, h5, rowV, List.map_set]
end
/-- The parts of a kind of cell that append asks for. -/
theorem infoParts {P : Program} {e : TypeId} {z : Value} {s b : Nat} (h : (P.info? e).map (fun i => (i.zero, i.size, i.bytes)) = some (some z, s, b)) : ∃ i, P.info? e = some i ∧ i.zero = some z ∧ i.size = s ∧ i.bytes = b := by
  cases hi : P.info? e with
  | none => rw [hi] at h; cases h
  | some i =>
    rw [hi] at h
    simp only [Option.map_some, Option.some.injEq, Prod.mk.injEq] at h
    exact ⟨i, rfl, h.1, h.2.1, h.2.2⟩
def bV (b : Bool) : Value := .bool b
def iV (z : Int) : Value := .int .i64 z
theorem infoBool : (Tryz.prog.info? 4).map (fun i => (i.zero, i.size, i.bytes)) = some (some (.bool false), 1, 1) := by kernel_rfl
theorem infoInt : (Tryz.prog.info? 3).map (fun i => (i.zero, i.size, i.bytes)) = some (some (.int .i64 0), 1, 8) := by kernel_rfl
theorem wpList_append_any {P : Program} {w : World} {ops : Array Oper} {rest : List Oper} {o : Oper} {a : Act} {Q : Exit → Act → World → Prop} (hgd : o.guard = none) (s x : Operand) (t : TypeId)
    (ho : o.op = Op.call { callee := Callee.builtin Builtin.append, args := #[s, x], argTypes := #[t, t] }) (base : Nat) (e : TypeId) (i : TypeInfo) (z : Value) (size bytes : Nat) (ht : P.underlying t = some (.slice e)) (hi : P.info? e = some i) (hz : i.zero = some z) (hsize : i.size = size) (hby : i.bytes = bytes)
    (hzs : z.cells.size = size) (hsz : 0 < size) (v : Value) (n : Nat) (xs : List Value) (hs : a.eval s = v) (hown : w.ownsRow base e size v n xs) (xv : Value) (m : Nat) (news : List Value) (hx : a.eval x = xv) (hl : news.length = m * size) (hsrc : Src w xv m news) (h1 : ∀ u ∈ news, u.oneCell' = true)
    (h63 : n + m ≤ maxLen) (hbytes : (n + m) * bytes ≤ 140737488355328) (hbase : base ≤ w.heap.size) (T : Nat) (hT : n + m = T) (ys : List Value) (hY : xs ++ news = ys)
    (h : ∀ A c w', w'.ownsRow base e size (.slice A T c) T ys → w.grownBy w' v.ownBlock → ((Value.slice A T c).ownBlock = v.ownBlock ∨ (Value.slice A T c).ownBlock = some w.heap.size) → wpList P ops Q rest (a.put o.dst (.slice A T c)) w') :
    wpList P ops Q (o :: rest) a w :=
  wpList_plain hgd fun _ hK => wp_append_any s x t ho base e i z size bytes ht hi hz hsize hby hzs hsz v n xs hs hown xv m news hx hl hsrc h1 h63 hbytes hbase T hT ys hY fun A c w' k1 k2 k3 => hK _ _ (h A c w' k1 k2 k3)
theorem grown_ext {W0 W W1 : World} {r : Option Nat} (h : Ext W0 W) (hg : W.grownBy W1 r) (hr : ∀ b, r = some b → W0.heap.size ≤ b) : Ext W0 W1 := Kept.trans h (Kept.grown hg fun j o e _ => by have := hr j e; simp [pOld]; omega)
theorem src_one {w : World} {b c : Nat} {v : Value} {t : TypeId} (h : w.heap[b]? = some (.cells #[v] t (0, 0))) : Src w (.slice (some ⟨b, 0, none⟩) 1 c) 1 [v] := .inr ⟨_, _, rfl, fun j u hj => by
  match j with
  | 0 => simp at hj; subst hj; simp [World.cell?, Addr.add, h]
  | j + 1 => simp at hj⟩
end Go.Proofs.YtfljmdpigckpkaaGreatDoor

namespace Go.Proofs.YtfljmdpigckpkaaGreatDoor
open Go.RowKit Go.ChangeShapes Go.WideShapes Go.Deep Go.Shelf
theorem spot_none {w : World} {a : Addr} {v : Value} (h : w.cell? (a.add 0) = some v) : a = ⟨a.block, a.off, none⟩ := by
  obtain ⟨b, off, spot⟩ := a
  cases spot with
  | none => rfl
  | some y =>
    exfalso
    unfold World.cell? at h
    split at h
    · simp [Addr.add] at h
    · simp at h
theorem add_none (b off n : Nat) : (⟨b, off, none⟩ : Addr).add n = ⟨b, off + n, none⟩ := by unfold Addr.add; split <;> simp_all
/-- Elements of a slice that came in, as they are read. -/
def Rows3 {α : Type} (f : α → List Value) (s : Nat) (P : α → Prop) (w : World) (A : Option Addr) (T : List α) : Prop := ∀ (i : Nat) (x : α), T[i]? = some x → ∃ g off, A = some ⟨g, off, none⟩ ∧ g < w.heap.size ∧ P x ∧ ∀ (j : Nat) (u : Value), (f x)[j]? = some u → w.cell? ⟨g, off + i * s + j, none⟩ = some u
theorem Rows3.kept {α : Type} {f : α → List Value} {s : Nat} {P : α → Prop} {w w' : World} {A : Option Addr} {T : List α} (h : Rows3 f s P w A T) (k : Kept (pOld w.heap.size) w w') : Rows3 f s P w' A T := fun i x hi => by
  obtain ⟨g, off, h1, h2, h3, h4⟩ := h i x hi
  refine ⟨g, off, h1, Nat.lt_of_lt_of_le h2 k.size, h3, fun j u hj => k.cell (h4 j u hj) fun o _ => by simp [pOld, h2]⟩
/-- A slice of one cell a member, as it came in. -/
def Row1 {α : Type} (f : α → Value) (w : World) (A : Option Addr) (m c : Nat) (l : List α) : Prop := m = l.length ∧ (A = none → c = 0 ∧ m = 0) ∧ Rows3 (fun x => [f x]) 1 (fun _ => True) w A l
theorem Row1.kept {α : Type} {f : α → Value} {w w' : World} {A : Option Addr} {m c : Nat} {l : List α} (h : Row1 f w A m c l) (k : Kept (pOld w.heap.size) w w') : Row1 f w' A m c l := ⟨h.1, h.2.1, h.2.2.kept k⟩
theorem Row1.src {α : Type} {f : α → Value} {w : World} {A : Option Addr} {m c : Nat} {l : List α} (h : Row1 f w A m c l) : Src w (.slice A m c) m (rowV f l) := by
  obtain ⟨h1, h2, h3⟩ := h
  cases A with
  | none =>
    obtain ⟨e1, e2⟩ := h2 rfl
    subst e1 e2
    refine .inl ⟨rfl, rfl, ?_⟩
    cases l with
    | nil => rfl
    | cons => cases h1
  | some ad =>
    refine .inr ⟨ad, c, rfl, fun j u hj => ?_⟩
    rw [rowV, List.getElem?_map, Option.map_eq_some_iff] at hj
    obtain ⟨z, hz, rfl⟩ := hj
    obtain ⟨g, off, e1, _, _, e4⟩ := h3 j z hz
    cases e1
    have := e4 0 _ rfl
    rw [add_none]
    simpa using this
/-- A member, where it lies. -/
theorem Row1.at {α : Type} {f : α → Value} {w : World} {A : Option Addr} {m c : Nat} {l : List α} (h : Row1 f w A m c l) {i : Nat} (hi : i < l.length) : ∃ g off, A = some ⟨g, off, none⟩ ∧ g < w.heap.size ∧ w.cell? ⟨g, off + i, none⟩ = some (f l[i]) := by
  obtain ⟨g, off, e1, e2, _, e4⟩ := h.2.2 i l[i] (List.getElem?_eq_getElem hi)
  have := e4 0 _ rfl
  exact ⟨g, off, e1, e2, by simpa using this⟩
section
variable {H : Type} {enc : TypeId × Value → H} {w : World} {base : Nat} {held : Bool}
/-- A slice of elements that open to cells. -/
theorem open_rows {α : Type} (dflt : α) {f : α → List Value} {s : Nat} {P : α → Prop} {st et : TypeId} (hs0 : 0 < s) (hst : Tryz.prog.underlying st = some (.slice et)) (hce : Tryz.prog.cellsOf et = s) (hfs : ∀ x, (f x).length = s)
    (hop : ∀ {fuel : Nat} {cs : List Value} {x : DataW H × List MemPlace}, DataW.trod enc Tryz.prog w base (fun _ => true) held fuel et cs = some x → ∃ t : α, cs = f t ∧ P t)
    {fuel : Nat} {A : Option Addr} {len cap : Nat} {x : DataW H × List MemPlace} (h : DataW.trod enc Tryz.prog w base (fun _ => true) held fuel st [.slice A len cap] = some x) :
    ∃ T : List α, T.length = len ∧ Rows3 f s P w A T := by
  rcases open_slice hst h with ⟨hcs, _⟩ | ⟨a, len', cap', m, n, D, Pl, hcs, hb, hl, hm, hmm, hx, hi⟩
  · simp at hcs
    obtain ⟨rfl, rfl, rfl⟩ := hcs
    exact ⟨[], rfl, fun i t hi => by simp at hi⟩
  · simp at hcs
    obtain ⟨rfl, rfl, rfl⟩ := hcs
    simp only [if_true] at hmm
    subst hmm
    have key : ∀ i : Nat, ∃ t : α, i < len → P t ∧ ∀ j u, (f t)[j]? = some u → w.cell? (a.add (i * s + j)) = some u := by
      intro i
      by_cases hlt : i < len
      · obtain ⟨cs', hc, ht⟩ := hi i (by omega)
        obtain ⟨t, rfl, hP⟩ := hop ht
        refine ⟨t, fun _ => ⟨hP, fun j u hj => ?_⟩⟩
        rw [hce] at hc
        obtain ⟨_, hcl, hat⟩ := World.cells?_some hc
        have hj5 : j < s := by
          rcases Nat.lt_or_ge j s with h' | h'
          · exact h'
          · rw [List.getElem?_eq_none (by rw [hfs]; exact h')] at hj; cases hj
        rw [← Go.Deep.add_add, hat j hj5, hj]
      · exact ⟨dflt, fun h => absurd h hlt⟩
    obtain ⟨F, hF⟩ := Classical.axiomOfChoice key
    refine ⟨(List.range len).map F, by simp, fun i t hi => ?_⟩
    have hlt : i < len := by
      have := (List.getElem?_eq_some_iff.1 hi).1
      simpa using this
    have ht : F i = t := by
      rw [List.getElem?_map, List.getElem?_range hlt] at hi
      simpa using hi
    subst ht
    obtain ⟨hP, hc⟩ := hF i hlt
    have c0' := (hF 0 (by omega)).2 0 _ (List.getElem?_eq_getElem (by rw [hfs]; exact hs0))
    rw [Nat.zero_mul] at c0'
    have c0 : w.cell? (a.add 0) = some _ := c0'
    have ha := spot_none c0
    rw [ha] at hc ⊢
    refine ⟨a.block, a.off, rfl, ?_, hP, fun j u hj => ?_⟩
    · have := World.block_lt_of_cell? w _ c0
      rw [ha, add_none] at this
      exact this
    · have := hc j u hj
      rw [add_none, ← Nat.add_assoc] at this
      exact this
/-- A slice of one cell a member. -/
theorem open_row1 {α : Type} (dflt : α) {f : α → Value} {st et : TypeId} (hst : Tryz.prog.underlying st = some (.slice et)) (hce : Tryz.prog.cellsOf et = 1)
    (hop : ∀ {fuel : Nat} {cs : List Value} {x : DataW H × List MemPlace}, DataW.trod enc Tryz.prog w base (fun _ => true) held fuel et cs = some x → ∃ t : α, cs = [f t] ∧ True)
    {fuel : Nat} {cs : List Value} {x : DataW H × List MemPlace} (h : DataW.trod enc Tryz.prog w base (fun _ => true) held fuel st cs = some x) :
    ∃ A m c, cs = [.slice A m c] ∧ ∃ l : List α, Row1 f w A m c l := by
  obtain ⟨A, m, c, rfl, hn⟩ : ∃ A m c, cs = [.slice A m c] ∧ (A = none → c = 0 ∧ m = 0) := by
    rcases open_slice hst h with ⟨hcs, _⟩ | ⟨a, len', cap', _, _, _, _, hcs, _⟩
    · exact ⟨none, 0, 0, hcs, fun _ => ⟨rfl, rfl⟩⟩
    · exact ⟨some a, len', cap', hcs, fun h => by cases h⟩
  obtain ⟨l, hl, hr⟩ := open_rows dflt (f := fun x => [f x]) (by omega) hst hce (fun _ => rfl) hop h
  exact ⟨A, m, c, rfl, l, hl.symm, hn, hr⟩
end
end Go.Proofs.YtfljmdpigckpkaaGreatDoor
