/- Rows of one cell a member, of any kind: of no law of its own. -/
import Derived.Test.YtkljdpjdlccidaaDoorHrA
namespace Go.Proofs.YtkljdpjdlccidaaDoor
open Go.RowKit Go.Shelf
/-- What a loop's body, an act or a call leaves, but for its own blocks. -/
def pQ (own : Nat → Bool) : Nat → Option TypeId → Bool := fun b _ => !own b
/-- New blocks. -/
def rng (B S : Nat) : Nat → Bool := fun b => decide (B ≤ b) && decide (b < S)
theorem ex_intro {α : Sort _} {p : α → Prop} {b : Prop} (h : ∀ a, p a → b) : (∃ x, p x) → b := fun ⟨x, hx⟩ => h x hx
theorem keptSince {own : Nat → Bool} {W w w' : World} (hx : Ext W w) (hge : ∀ b, own b = true → W.heap.size ≤ b) (h : Kept (pQ own) w w') : Ext W w' :=
  Kept.trans hx (h.mono fun b t _ hp => by
    simp [pOld] at hp
    unfold pQ
    cases hc : own b with
    | false => rfl
    | true => have := hge b hc; omega)
theorem ownSince {own own' : Nat → Bool} {W w : World} (hx : Ext W w) (hge : ∀ b, own b = true → W.heap.size ≤ b) (h : ∀ b, own' b = true → own b = true ∨ w.heap.size ≤ b) : ∀ b, own' b = true → W.heap.size ≤ b := fun b hb => by
  have := hx.size
  rcases h b hb with k | k
  · exact hge b k
  · omega
theorem own_base {W : World} {B : Nat} {e : TypeId} {size : Nat} {v : Value} {n : Nat} {xs : List Value} (h : W.ownsRow B e size v n xs) : ∀ b, v.ownBlock = some b → B ≤ b := fun b hb => by
  obtain ⟨o, h1, _⟩ := own_is h b hb
  exact (own_tag h b o hb h1).2
theorem own_lt {W : World} {B : Nat} {e : TypeId} {size : Nat} {v : Value} {n : Nat} {xs : List Value} (h : W.ownsRow B e size v n xs) : ∀ b, v.ownBlock = some b → b < W.heap.size := fun b hb => by
  obtain ⟨o, h1, _⟩ := own_is h b hb
  exact (Array.getElem?_eq_some_iff.1 h1).1
theorem own_low {W : World} {B B' : Nat} {e : TypeId} {size : Nat} {v : Value} {n : Nat} {xs : List Value} (hB : B' ≤ B) (h : W.ownsRow B e size v n xs) : W.ownsRow B' e size v n xs := by
  refine ⟨h.1, ?_⟩
  rcases h.2 with h1 | ⟨g, cap, cur, e, h1, h2⟩
  · exact .inl h1
  · exact .inr ⟨g, cap, cur, e, by omega, h2⟩
theorem Src.ext {w w' : World} {x : Value} {m : Nat} {news : List Value} (h : Src w x m news) (k : Ext w w') : Src w' x m news := by
  rcases h with h | ⟨ad, c, h1, h2⟩
  · exact .inl h
  · exact .inr ⟨ad, c, h1, fun j u hj => (k.kept (fun _ _ => true)).cell (h2 j u hj) fun _ _ => rfl⟩
def rowV {α : Type} (f : α → Value) (l : List α) : List Value := l.map f
section
variable {α : Type} {f : α → Value} {W : World} {B : Nat} {t : TypeId} {v : Value} {l : List α}
theorem rowV_len : (rowV f l).length = l.length * 1 := by simp [rowV]
theorem rowV_one (hf : ∀ x, (f x).oneCell' = true) : ∀ u ∈ rowV f l, u.oneCell' = true := by
  intro u hu
  obtain ⟨z, _, rfl⟩ := List.mem_map.1 hu
  exact hf z
theorem own1_cell (h : W.ownsRow B t 1 v l.length (rowV f l)) {i : Nat} (hi : i < l.length) :
    ∃ g c, v = .slice (some ⟨g, 0, none⟩) l.length c ∧ W.cell? ⟨g, i, none⟩ = some (f l[i]) ∧ g < W.heap.size := by
  rcases h.2 with ⟨_, h0⟩ | ⟨g, cap, cur, e, _, h1, h2, h3, h4, h5⟩
  · omega
  · refine ⟨g, cap, e, ?_, (Array.getElem?_eq_some_iff.1 h1).1⟩
    have h6 : cur.toList[i]? = (rowV f l)[i]? := by rw [← h5, List.getElem?_take, if_pos (by omega)]
    rw [rowV, List.getElem?_map, List.getElem?_eq_getElem hi] at h6
    simp only [World.cell?, h1]
    simpa using h6
theorem own1_set (h : W.ownsRow B t 1 v l.length (rowV f l)) {i : Nat} (hi : i < l.length) (z : α) :
    ∃ g c, v = .slice (some ⟨g, 0, none⟩) l.length c ∧ (W.setCell ⟨g, i, none⟩ (f z)).ownsRow B t 1 v l.length (rowV f (l.set i z)) ∧ (∀ n, W.frozen? ⟨g, n, none⟩ = false) ∧ W.cell? ⟨g, i, none⟩ = some (f l[i]) ∧ g < W.heap.size ∧ (∃ o, W.heap[g]? = some o ∧ tag o = some t) ∧ Kept (fun b _ => b != g) W (W.setCell ⟨g, i, none⟩ (f z)) := by
  obtain ⟨g0, c0, e0, hc0, hg0⟩ := own1_cell h hi
  rcases h.2 with ⟨_, h0⟩ | ⟨g, cap, cur, e, hb, h1, h2, h3, h4, h5⟩
  · omega
  · rw [e] at e0
    injection e0 with e0
    injection e0 with e0
    injection e0 with e0
    subst e0
    refine ⟨g, cap, e, ⟨by simp [rowV], .inr ⟨g, cap, _, e, hb, heap_setCell_same W g i _ _ _ h1, h2, h3, by simpa using h4, ?_⟩⟩, fun n => frozen_of_row W g n _ _ h1, hc0, (Array.getElem?_eq_some_iff.1 h1).1, ⟨_, h1, rfl⟩, Kept.setCell _ fun o ho => by simp⟩
    simp only [Array.toList_setIfInBounds, List.take_set, h5, rowV, List.map_set]
end
/-- The parts of a kind of cell that append asks for. -/
theorem infoParts {P : Program} {e : TypeId} {z : Value} {s b : Nat} (h : (P.info? e).map (fun i => (i.zero, i.size, i.bytes)) = some (some z, s, b)) : ∃ i, P.info? e = some i ∧ i.zero = some z ∧ i.size = s ∧ i.bytes = b := by
  cases hi : P.info? e with
  | none => rw [hi] at h; cases h
  | some i =>
    rw [hi] at h
    simp only [Option.map_some, Option.some.injEq, Prod.mk.injEq] at h
    exact ⟨i, rfl, h.1, h.2.1, h.2.2⟩
def bV (b : Bool) : Value := .bool b
def iV (z : Int) : Value := .int .i64 z
theorem infoBool : (Tryd.prog.info? 4).map (fun i => (i.zero, i.size, i.bytes)) = some (some (.bool false), 1, 1) := by kernel_rfl
theorem infoInt : (Tryd.prog.info? 3).map (fun i => (i.zero, i.size, i.bytes)) = some (some (.int .i64 0), 1, 8) := by kernel_rfl
theorem wpList_append_any {P : Program} {w : World} {ops : Array Oper} {rest : List Oper} {o : Oper} {a : Act} {Q : Exit → Act → World → Prop} (hgd : o.guard = none) (s x : Operand) (t : TypeId)
    (ho : o.op = Op.call { callee := Callee.builtin Builtin.append, args := #[s, x], argTypes := #[t, t] }) (base : Nat) (e : TypeId) (i : TypeInfo) (z : Value) (size bytes : Nat) (ht : P.underlying t = some (.slice e)) (hi : P.info? e = some i) (hz : i.zero = some z) (hsize : i.size = size) (hby : i.bytes = bytes)
    (hzs : z.cells.size = size) (hsz : 0 < size) (v : Value) (n : Nat) (xs : List Value) (hs : a.eval s = v) (hown : w.ownsRow base e size v n xs) (xv : Value) (m : Nat) (news : List Value) (hx : a.eval x = xv) (hl : news.length = m * size) (hsrc : Src w xv m news) (h1 : ∀ u ∈ news, u.oneCell' = true)
    (h63 : n + m ≤ maxLen) (hbytes : (n + m) * bytes ≤ 140737488355328) (hbase : base ≤ w.heap.size) (T : Nat) (hT : n + m = T) (ys : List Value) (hY : xs ++ news = ys)
    (h : ∀ A c w', w'.ownsRow base e size (.slice A T c) T ys → w.grownBy w' v.ownBlock → ((Value.slice A T c).ownBlock = v.ownBlock ∨ (Value.slice A T c).ownBlock = some w.heap.size) → wpList P ops Q rest (a.put o.dst (.slice A T c)) w') :
    wpList P ops Q (o :: rest) a w :=
  wpList_plain hgd fun _ hK => wp_append_any s x t ho base e i z size bytes ht hi hz hsize hby hzs hsz v n xs hs hown xv m news hx hl hsrc h1 h63 hbytes hbase T hT ys hY fun A c w' k1 k2 k3 => hK _ _ (h A c w' k1 k2 k3)
theorem grown_ext {W0 W W1 : World} {r : Option Nat} (h : Ext W0 W) (hg : W.grownBy W1 r) (hr : ∀ b, r = some b → W0.heap.size ≤ b) : Ext W0 W1 := Kept.trans h (Kept.grown hg fun j o e _ => by have := hr j e; simp [pOld]; omega)
theorem src_one {w : World} {b c : Nat} {v : Value} {t : TypeId} (h : w.heap[b]? = some (.cells #[v] t (0, 0))) : Src w (.slice (some ⟨b, 0, none⟩) 1 c) 1 [v] := .inr ⟨_, _, rfl, fun j u hj => by
  match j with
  | 0 => simp at hj; subst hj; simp [World.cell?, Addr.add, h]
  | j + 1 => simp at hj⟩
end Go.Proofs.YtkljdpjdlccidaaDoor
