/- What stays of memory from one world to another; append, whatever is there: of no law of its own (put together from the queue's texts). -/
import Derived.Test.YtkljdpjdlccidaaDoorChecked
import Derived.WalkKit
import Derived.Lib.Hide
import Derived.Deep.QuietTactic
import Derived.BigQuiet
import Derived.BigRegion
import Derived.RegionTactic
import Derived.Outline
import Derived.WalkLawsBesides
import Derived.LoopIn
import Derived.LoopTactic
import Derived.Shelf.Abstract
import Derived.Maps.Own
import Derived.Maps.AppendAt
import Derived.Laws.OwnMore
import Derived.RangeFuncBox
import Derived.RangeFuncNested
import Derived.RangeFuncLeaves
import Derived.OwnWalkIn
import Derived.TacticsInMore
import Derived.LoopNIn
import Derived.Maps.OwnIn
import Derived.Maps.OwnSet
import Derived.Deep.DeepCutAuto
import Derived.Deep.RegionHeld3
import Derived.StillTailTactics
import Derived.Deep.RegionLaw
import Derived.Deep.AppendLies
import Derived.Below
namespace Go.Proofs.YtkljdpjdlccidaaDoor
open Go.RowKit Go.Shelf
attribute [local go_sem] Oper.semAt_some
/-- Of what type a block's cells are. -/
def tag : Obj → Option TypeId
  | .cells _ t _ => some t
  | _ => none
theorem tag_loop (r : Loop) : tag (.loop r) = none := rfl
theorem tag_def (r : Option (List Deferred)) : tag (.deferred r) = none := rfl
/-- The blocks that p names are as they were; none has gone. -/
structure Kept (p : Nat → Option TypeId → Bool) (W W' : World) : Prop where
  os : W'.os = W.os
  tape : W'.tape = W.tape
  output : W'.output = W.output
  size : W.heap.size ≤ W'.heap.size
  same : ∀ b o, W.heap[b]? = some o → p b (tag o) = true → W'.heap[b]? = some o
section
variable {p q : Nat → Option TypeId → Bool} {W W' W'' : World}
theorem Kept.refl (p : Nat → Option TypeId → Bool) (W : World) : Kept p W W := ⟨rfl, rfl, rfl, Nat.le_refl _, fun _ _ h _ => h⟩
theorem Kept.trans (h : Kept p W W') (k : Kept p W' W'') : Kept p W W'' := ⟨k.os.trans h.os, k.tape.trans h.tape, k.output.trans h.output, Nat.le_trans h.size k.size, fun b o hb hp => k.same b o (h.same b o hb hp) hp⟩
theorem Kept.mono (h : Kept p W W') (hq : ∀ b t, b < W.heap.size → q b t = true → p b t = true) : Kept q W W' := ⟨h.os, h.tape, h.output, h.size, fun b o hb hp => h.same b o hb (hq b _ (Array.getElem?_eq_some_iff.1 hb).1 hp)⟩
theorem Kept.drew (p : Nat → Option TypeId → Bool) (W : World) : Kept p W W.drew := ⟨rfl, rfl, rfl, Nat.le_refl _, fun _ _ h _ => h⟩
theorem Kept.alloc (p : Nat → Option TypeId → Bool) (W : World) (o : Obj) : Kept p W (W.alloc o) := ⟨rfl, rfl, rfl, by simp, fun b o' hb _ => (Below.heap_alloc W o b (Array.getElem?_eq_some_iff.1 hb).1).trans hb⟩
theorem Kept.setCell {a : Addr} (v : Value) (ho : ∀ o, W.heap[a.block]? = some o → p a.block (tag o) = false) : Kept p W (W.setCell a v) :=
  ⟨rfl, rfl, rfl, (KeepsWalks.setCell W a v).size, fun b o hb hp => by
    have hne : b ≠ a.block := fun e => by subst e; rw [ho o hb] at hp; cases hp
    exact (Below.heap_setCell _ _ _ b hne).trans hb⟩
theorem Kept.putObj {l : Nat} {o' : Obj} (ho : ∀ o, W.heap[l]? = some o → p l (tag o) = false) : Kept p W (W.putObj l o') :=
  ⟨rfl, rfl, rfl, by simp, fun b o hb hp => by
    have hne : b ≠ l := fun e => by subst e; rw [ho o hb] at hp; cases hp
    exact (World.putObj_heap_other hne).trans hb⟩
theorem Kept.grown {row : Option Nat} (hg : W.grownBy W' row) (ho : ∀ j o, row = some j → W.heap[j]? = some o → p j (tag o) = false) : Kept p W W' :=
  ⟨hg.os, hg.tape, hg.output, hg.size, fun b o hb hp => by
    refine (hg.block b (Array.getElem?_eq_some_iff.1 hb).1 fun e => ?_).trans hb
    rw [ho b o e.symm hb] at hp; cases hp⟩
theorem Kept.below {B : Nat} (h : Kept p W W') (hp : ∀ b t, b < B → p b t = true) (hB : B ≤ W.heap.size) : Below B W W' :=
  ⟨h.os, h.tape, h.output, h.size, fun b hb => by
    have hb' : b < W.heap.size := by omega
    rw [Array.getElem?_eq_getElem hb', h.same b _ (Array.getElem?_eq_getElem hb') (hp b _ hb)]⟩
theorem Kept.of_below {B : Nat} (h : Below B W W') (hp : ∀ b t, b < W.heap.size → p b t = true → b < B) : Kept p W W' :=
  ⟨h.os, h.tape, h.output, h.size, fun b _ hb hb' => (h.block b (hp b _ (Array.getElem?_eq_some_iff.1 hb).1 hb')).trans hb⟩
theorem Kept.cell (h : Kept p W W') {a : Addr} {v : Value} (hc : W.cell? a = some v) (hp : ∀ o, W.heap[a.block]? = some o → p a.block (tag o) = true) : W'.cell? a = some v := by
  have hlt := World.block_lt_of_cell? W a hc
  exact (World.cell?_of_block (by rw [h.same a.block _ (Array.getElem?_eq_getElem hlt) (hp _ (Array.getElem?_eq_getElem hlt)), Array.getElem?_eq_getElem hlt])).trans hc
theorem Kept.row (h : Kept p W W') {base : Nat} {e : TypeId} {size n : Nat} {v : Value} {xs : List Value} (hr : W.ownsRow base e size v n xs) (hp : ∀ g, v.ownBlock = some g → p g (some e) = true) : W'.ownsRow base e size v n xs := by
  refine ⟨hr.1, ?_⟩
  rcases hr.2 with h1 | ⟨g, cap, cur, rfl, h1, h2, h3⟩
  · exact .inl h1
  · exact .inr ⟨g, cap, cur, rfl, h1, h.same g _ h2 (hp g (by simp [Value.ownBlock])), h3⟩
theorem Kept.map {H : Type} {P : Program} {k : TypeId} {R : Value → Option (DataW H × List MemPlace)} {b n : Nat} {D : DataW H} (h : Kept p W W') (hm : W.ownsMap P k R b n D) (hp : p b none = true) : W'.ownsMap P k R b n D := by
  obtain ⟨es, clock, h1, h2⟩ := hm
  exact ⟨es, clock, h.same b _ h1 hp, h2⟩
end
/-- All old blocks. -/
def pOld (B : Nat) : Nat → Option TypeId → Bool := fun b _ => decide (b < B)
/-- What was there is as it was. -/
def Ext (W W' : World) : Prop := Kept (pOld W.heap.size) W W'
theorem Ext.kept {W W' : World} (h : Ext W W') (p : Nat → Option TypeId → Bool) : Kept p W W' := h.mono fun _ _ hb _ => by simp [pOld, hb]
theorem Ext.of {W W' : World} (h : Below W.heap.size W W') : Ext W W' := Kept.of_below h fun _ _ hb _ => hb
theorem Ext.refl (W : World) : Ext W W := Kept.refl _ W
theorem Ext.trans {A B C : World} (h : Ext A B) (k : Ext B C) : Ext A C := Kept.trans h (k.kept _)
theorem Ext.one (w : World) (o : Obj) : Ext w (w.alloc o) := Kept.alloc _ _ _
theorem Ext.two (w : World) (o o' : Obj) : Ext w ((w.alloc o).alloc o') := (Ext.one w o).trans (Ext.one _ o')
theorem Ext.drew (w : World) : Ext w w.drew := Kept.drew _ _
theorem Ext.drewN (W : World) (n : Nat) : Ext W (W.drewN n) := ⟨rfl, rfl, rfl, Nat.le_refl _, fun _ _ h _ => h⟩
theorem own_tag {W : World} {B : Nat} {e : TypeId} {size : Nat} {v : Value} {n : Nat} {xs : List Value} (h : W.ownsRow B e size v n xs) : ∀ g o, v.ownBlock = some g → W.heap[g]? = some o → tag o = some e ∧ B ≤ g := fun g o hv ho => by
  rcases h.2 with ⟨h0, _⟩ | ⟨g', cap, cur, e, hb, k1, _⟩
  · rw [h0] at hv; cases hv
  · rw [e] at hv
    have : g' = g := by simpa [Value.ownBlock] using hv
    subst this
    rw [k1] at ho; cases ho; exact ⟨rfl, hb⟩
theorem own_is {W : World} {B : Nat} {e : TypeId} {size : Nat} {v : Value} {n : Nat} {xs : List Value} (h : W.ownsRow B e size v n xs) : ∀ g, v.ownBlock = some g → ∃ o, W.heap[g]? = some o ∧ tag o = some e := fun g hv => by
  rcases h.2 with ⟨h0, _⟩ | ⟨g', cap, cur, e, hb, k1, _⟩
  · rw [h0] at hv; cases hv
  · rw [e] at hv
    have : g' = g := by simpa [Value.ownBlock] using hv
    subst this
    exact ⟨_, k1, rfl⟩
theorem own_slice3 {W : World} {base : Nat} {e : TypeId} {size : Nat} {v : Value} {n : Nat} {xs : List Value} (h : W.ownsRow base e size v n xs) : ∃ A c, v = .slice A n c := by
  rcases h.2 with ⟨rfl, h0⟩ | ⟨g, cap, _, rfl, _⟩
  · exact ⟨none, 0, by rw [h0]⟩
  · exact ⟨_, cap, rfl⟩
theorem Kept.rowT {p : Nat → Option TypeId → Bool} {W W' : World} (h : Kept p W W') {base : Nat} {e : TypeId} {size n : Nat} {v : Value} {xs : List Value} (hr : W.ownsRow base e size v n xs) (hp : ∀ g, g < W.heap.size → p g (some e) = true) : W'.ownsRow base e size v n xs := by
  refine ⟨hr.1, ?_⟩
  rcases hr.2 with h1 | ⟨g, cap, cur, rfl, h1, h2, h3⟩
  · exact .inl h1
  · exact .inr ⟨g, cap, cur, rfl, h1, h.same g _ h2 (hp g (Array.getElem?_eq_some_iff.1 h2).1), h3⟩
theorem sto1 {W : World} {b : Nat} {a0 : Value} {t : TypeId} (h : W.heap[b]? = some (.cells #[a0] t (0, 0))) (v0 : Value) :
    (W.setCell ⟨b, 0, none⟩ v0).heap[b]? = some (.cells #[v0] t (0, 0)) ∧ ∀ p : Nat → Option TypeId → Bool, p b (some t) = false → Kept p W (W.setCell ⟨b, 0, none⟩ v0) := by
  have h1 := heap_setCell_same W b 0 _ _ v0 h
  exact ⟨by rw [h1]; simp, fun p hp => Kept.setCell v0 fun o ho => by rw [h] at ho; cases ho; exact hp⟩
theorem oldNot (B b : Nat) (h : B ≤ b) (t : Option TypeId) : pOld B b t = false := by simp [pOld]; omega
/-- What is read of a slice that is appended. -/
def Src (w : World) (x : Value) (m : Nat) (news : List Value) : Prop := (x = .slice none 0 0 ∧ m = 0 ∧ news = []) ∨ ∃ ad c, x = .slice (some ad) m c ∧ ∀ (j : Nat) (u : Value), news[j]? = some u → w.cell? (ad.add j) = some u
theorem run_append_any {P : Program} (w : World) (base : Nat) (t ty e : TypeId) (i : TypeInfo) (z : Value) (size bytes : Nat) (ht : P.underlying t = some (.slice e)) (hi : P.info? e = some i) (hz : i.zero = some z) (hsize : i.size = size) (hby : i.bytes = bytes)
    (hzs : z.cells.size = size) (hsz : 0 < size) (v : Value) (n : Nat) (xs : List Value) (hown : w.ownsRow base e size v n xs) (x : Value) (m : Nat) (news : List Value) (hl : news.length = m * size) (hsrc : Src w x m news) (h1 : ∀ u ∈ news, u.oneCell' = true)
    (h63 : n + m ≤ maxLen) (hbytes : (n + m) * bytes ≤ 140737488355328) (hbase : base ≤ w.heap.size) :
    ∃ A c w', Sem.run P (Builtin.append_ #[t, t] ty #[v, x]) w = .ok (.slice A (n + m) c) w' ∧ w'.ownsRow base e size (.slice A (n + m) c) (n + m) (xs ++ news) ∧ w.grownBy w' v.ownBlock ∧ ((Value.slice A (n + m) c).ownBlock = v.ownBlock ∨ (Value.slice A (n + m) c).ownBlock = some w.heap.size) := by
  rcases hsrc with ⟨rfl, rfl, rfl⟩ | ⟨ad, c, rfl, hnews⟩
  · obtain ⟨A, c, rfl⟩ := own_slice3 hown
    refine ⟨A, c, w, ?_, by rw [List.append_nil]; exact hown, World.grownBy.refl _ _, .inl rfl⟩
    simp only [Nat.add_zero]
    exact run_append_owned_none (P := P) (w := w) base t ty e i size ht hi _ _ _ hown
  · obtain ⟨v', w', h2, h3, h4, _, h5⟩ := run_append_own_at w base t ty e i z size bytes ht hi hz hsize hby hzs hsz v n xs hown ad m c news hl hnews h1 h63 hbytes hbase
    obtain ⟨A, c', rfl⟩ := own_slice3 h3
    exact ⟨A, c', w', h2, h3, h4, h5⟩
theorem wp_append_any {P : Program} {w : World} {o : Oper} {a : Act} {K : Act → World → Prop} {Q : Exit → Act → World → Prop} (s x : Operand) (t : TypeId)
    (ho : o.op = Op.call { callee := Callee.builtin Builtin.append, args := #[s, x], argTypes := #[t, t] }) (base : Nat) (e : TypeId) (i : TypeInfo) (z : Value) (size bytes : Nat) (ht : P.underlying t = some (.slice e)) (hi : P.info? e = some i) (hz : i.zero = some z) (hsize : i.size = size) (hby : i.bytes = bytes)
    (hzs : z.cells.size = size) (hsz : 0 < size) (v : Value) (n : Nat) (xs : List Value) (hs : a.eval s = v) (hown : w.ownsRow base e size v n xs) (xv : Value) (m : Nat) (news : List Value) (hx : a.eval x = xv) (hl : news.length = m * size) (hsrc : Src w xv m news) (h1 : ∀ u ∈ news, u.oneCell' = true)
    (h63 : n + m ≤ maxLen) (hbytes : (n + m) * bytes ≤ 140737488355328) (hbase : base ≤ w.heap.size) (T : Nat) (hT : n + m = T) (ys : List Value) (hY : xs ++ news = ys)
    (h : ∀ A c w', w'.ownsRow base e size (.slice A T c) T ys → w.grownBy w' v.ownBlock → ((Value.slice A T c).ownBlock = v.ownBlock ∨ (Value.slice A T c).ownBlock = some w.heap.size) → K (a.put o.dst (.slice A T c)) w') :
    Oper.wp P o a w K Q := by
  subst hT hY
  obtain ⟨A, c, w', hrun, h2, h3, h4⟩ := run_append_any w base t o.type e i z size bytes ht hi hz hsize hby hzs hsz v n xs hown xv m news hl hsrc h1 h63 hbytes hbase
  unfold Oper.wp
  simp [execOp, ho, resolve, invoke, builtin, hs, hx, hrun, Result.andThen]
  exact h A c w' h2 h3 h4
theorem step_append_any {P : Program} {w : World} {ops : Array Oper} {o : Oper} {a : Act} {K : Act → World → Prop} {Q : Exit → Act → World → Prop} {EE : Prop} (hgd : o.guard = none) (s x : Operand) (t : TypeId)
    (ho : o.op = Op.call { callee := Callee.builtin Builtin.append, args := #[s, x], argTypes := #[t, t] }) (base : Nat) (e : TypeId) (i : TypeInfo) (z : Value) (size bytes : Nat) (ht : P.underlying t = some (.slice e)) (hi : P.info? e = some i) (hz : i.zero = some z) (hsize : i.size = size) (hby : i.bytes = bytes)
    (hzs : z.cells.size = size) (hsz : 0 < size) (v : Value) (n : Nat) (xs : List Value) (hs : a.eval s = v) (hown : w.ownsRow base e size v n xs) (xv : Value) (m : Nat) (news : List Value) (hx : a.eval x = xv) (hl : news.length = m * size) (hsrc : Src w xv m news) (h1 : ∀ u ∈ news, u.oneCell' = true)
    (h63 : n + m ≤ maxLen) (hbytes : (n + m) * bytes ≤ 140737488355328) (hbase : base ≤ w.heap.size) (T : Nat) (hT : n + m = T) (ys : List Value) (hY : xs ++ news = ys)
    (h : ∀ A c w', w'.ownsRow base e size (.slice A T c) T ys → w.grownBy w' v.ownBlock → ((Value.slice A T c).ownBlock = v.ownBlock ∨ (Value.slice A T c).ownBlock = some w.heap.size) → K (a.put o.dst (.slice A T c)) w') :
    if Region.wanted o (yielded ops a.tmps) = true then Oper.wp P o a w K Q else EE := by
  have hw : Region.wanted o (yielded ops a.tmps) = true := by simp [Region.wanted, hgd]
  rw [if_pos hw]
  exact wp_append_any s x t ho base e i z size bytes ht hi hz hsize hby hzs hsz v n xs hs hown xv m news hx hl hsrc h1 h63 hbytes hbase T hT ys hY h
theorem Src.of {w : World} {base : Nat} {e : TypeId} {size : Nat} {v : Value} {n : Nat} {xs : List Value} (h : w.ownsRow base e size v n xs) (hl : xs.length = n * size) : Src w v n xs := by
  rcases h.2 with ⟨h0, h1⟩ | ⟨g, cap, cur, e, _⟩
  · subst h1
    exact .inl ⟨h0, rfl, List.eq_nil_of_length_eq_zero (by omega)⟩
  · exact .inr ⟨⟨g, 0, none⟩, cap, e, fun j u hj => h.cells (g := g) (by rw [e]; rfl) j u hj⟩
theorem own_zero {W : World} {B : Nat} {e : TypeId} {size : Nat} {v : Value} {n : Nat} {xs : List Value} (h : W.ownsRow B e size v n xs) : W.ownsRow 0 e size v n xs := by
  refine ⟨h.1, ?_⟩
  rcases h.2 with h1 | ⟨g, cap, cur, e, _, h2⟩
  · exact .inl h1
  · exact .inr ⟨g, cap, cur, e, Nat.zero_le _, h2⟩
theorem wpListIn_append_any {F : Fence} {n0 : Nat} {P : Program} {w : World} {ops : Array Oper} {rest : List Oper} {o : Oper} {a : Act} {Q : Exit → Act → World → Prop} (hgd : o.guard = none) (s x : Operand) (t : TypeId)
    (ho : o.op = Op.call { callee := Callee.builtin Builtin.append, args := #[s, x], argTypes := #[t, t] }) (base : Nat) (e : TypeId) (i : TypeInfo) (z : Value) (size bytes : Nat) (ht : P.underlying t = some (.slice e)) (hi : P.info? e = some i) (hz : i.zero = some z) (hsize : i.size = size) (hby : i.bytes = bytes)
    (hzs : z.cells.size = size) (hsz : 0 < size) (v : Value) (n : Nat) (xs : List Value) (hs : a.eval s = v) (hown : w.ownsRow base e size v n xs) (xv : Value) (m : Nat) (news : List Value) (hx : a.eval x = xv) (hl : news.length = m * size) (hsrc : Src w xv m news) (h1 : ∀ u ∈ news, u.oneCell' = true)
    (h63 : n + m ≤ maxLen) (hbytes : (n + m) * bytes ≤ 140737488355328) (hbase : base ≤ w.heap.size) (T : Nat) (hT : n + m = T) (ys : List Value) (hY : xs ++ news = ys)
    (h : ∀ A c w', w'.ownsRow base e size (.slice A T c) T ys → w.grownBy w' v.ownBlock → ((Value.slice A T c).ownBlock = v.ownBlock ∨ (Value.slice A T c).ownBlock = some w.heap.size) → wpListIn F n0 P ops Q rest (a.put o.dst (.slice A T c)) w') :
    wpListIn F n0 P ops Q (o :: rest) a w := by
  subst hT hY
  refine wpListIn_plain hgd fun K hK => ?_
  obtain ⟨A, c, w', hrun, h2, h3, h4⟩ := run_append_any w base t o.type e i z size bytes ht hi hz hsize hby hzs hsz v n xs hown xv m news hl hsrc h1 h63 hbytes hbase
  unfold Oper.wpIn
  refine ⟨?_, ?_⟩
  · simp [Oper.about, ho, resolve, Target.leads, Sem.run_pure]
  · rw [Oper.semAt_plain F _ _ (by rw [ho]; intro c hc'; cases hc')]
    simp [execOp, ho, resolve, invoke, builtin, hs, hx, hrun, Result.andThen]
    exact hK _ _ (h A c w' h2 h3 h4)
end Go.Proofs.YtkljdpjdlccidaaDoor
