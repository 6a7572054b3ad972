/- A queue's map of places: what it says; an entry that is told its place; Swap of a queue's heap. -/
import Derived.Test.YtfljmdpigckpkaaGreatDoorB14
namespace Go.Proofs.YtfljmdpigckpkaaGreatDoor.QQ
open Go.RowKit Go.Shelf

def tk (t : Int) : Lit := .int .i64 t
def at0 (D : DM) (t : Int) : DM := D.atKey (tk t) (.lit (tk 0))
def putD (D : DM) (t i : Int) : DM := D.put (tk t) (.lit (tk i))
theorem tk_ne {a b : Int} (h : a ≠ b) : tk a ≠ tk b := by simp [tk, h]
theorem tk_key (a : Int) : WideAt.IsKeyLit (tk a) := by simp [tk, WideAt.IsKeyLit]
theorem law3 : Go.Maps.Keyed Tryz.prog 3 := Go.Maps.int_keyed Tryz.underlying3
theorem wf_of {a : Int} (h : 0 ≤ a ∧ a ≤ 9223372036854775807) : (Lit.int .i64 a).wf = true := by
  have h1 : IntKind.min .i64 = -9223372036854775808 := by decide
  have h2 : IntKind.max .i64 = 9223372036854775807 := by decide
  simp [Lit.wf, h1, h2]; omega
theorem key_of {a : Int} (h : 0 ≤ a ∧ a ≤ 9223372036854775807) : keyOf Tryz.prog 3 (.int .i64 a) = some (tk a) := Go.Maps.keyOf_int_mk Tryz.underlying3 (wf_of h)
theorem own_size {P : Program} {k : TypeId} {R : Value → Option (DM × List MemPlace)} {w : World} {b n : Nat} {D : DM} (h : w.ownsMap P k R b n D) : w.ownsMap P k R b (Maps.size D) D := by
  obtain ⟨es, clock, h1, h2, _, rfl⟩ := h
  exact ⟨es, clock, h1, h2, by rw [Maps.size_eq, length_sorted]; simp, rfl⟩
/-- What a queue's map says: where each entry stands; it names no task but K's; at most c, with nt. -/
structure Con (c : Nat) (nt : Int) (K : Int → Prop) (l : List Ent) (D : DM) : Prop where
  has : ∀ i, i < l.length → Maps.has D (tk (nth l i).task) = true
  pos : ∀ i, i < l.length → at0 D (nth l i).task = .lit (tk i)
  keys : ∀ t, Maps.has D (tk t) = true → K t
  size : Maps.size D + (if Maps.has D (tk nt) then 0 else 1) ≤ c
  rng : ∀ i, i < l.length → 0 ≤ (nth l i).task ∧ (nth l i).task ≤ 9223372036854775807
  tidy : Maps.Tidy D
/-- After a task of nt, or one that is there, was given its place. -/
theorem size_put {c : Nat} {nt t i : Int} {D : DM} (h : Maps.size D + (if Maps.has D (tk nt) then 0 else 1) ≤ c) (ht : Maps.Tidy D) (hk : Maps.has D (tk t) = true ∨ t = nt) :
    Maps.size (putD D t i) + (if Maps.has (putD D t i) (tk nt) then 0 else 1) ≤ c := by
  unfold putD
  rw [Maps.size_put ht]
  by_cases e : t = nt
  · subst e
    rw [Maps.has_put_same ht.isMap (tk_key t)]
    cases h1 : Maps.has D (tk t) <;> simp [h1] at h ⊢ <;> omega
  · rw [Maps.has_put_other (tk_ne (Ne.symm e))]
    rcases hk with hk | hk
    · simp only [hk, if_true]; exact h
    · exact absurd hk e

theorem at_put_same {D : DM} (h : Maps.IsMap D) (t i : Int) : at0 (putD D t i) t = .lit (tk i) := Maps.atKey_put_same h (tk_key t) _ _
theorem at_put_other {D : DM} {t t' : Int} (h : t' ≠ t) (i : Int) : at0 (putD D t i) t' = at0 D t' := Maps.atKey_put_other (tk_ne h) _ _
theorem has_put_same {D : DM} (h : Maps.IsMap D) (t i : Int) : Maps.has (putD D t i) (tk t) = true := Maps.has_put_same h (tk_key t) _
theorem has_put_other {D : DM} {t t' : Int} (h : t' ≠ t) (i : Int) : Maps.has (putD D t i) (tk t') = Maps.has D (tk t') := Maps.has_put_other (tk_ne h) _
theorem has_put {D : DM} (h : Maps.IsMap D) {t t' : Int} (i : Int) (ht : Maps.has D (tk t') = true) : Maps.has (putD D t i) (tk t') = true := by
  by_cases e : t' = t
  · subst e; exact has_put_same h _ _
  · rw [has_put_other e]; exact ht
theorem Con.inj {c : Nat} {nt : Int} {K : Int → Prop} {l : List Ent} {D : DM} (h : Con c nt K l D) {a b : Nat} (ha : a < l.length) (hb : b < l.length) (e : (nth l a).task = (nth l b).task) : a = b := by
  have h1 := h.pos a ha
  have h2 := h.pos b hb
  rw [e, h2] at h1
  simp [tk] at h1; omega
/-- An entry that is there, or nt's, is told a place. -/
theorem Con.keyed {c : Nat} {nt : Int} {K : Int → Prop} {l : List Ent} {D : DM} (h : Con c nt K l D) (hK : K nt) {t i : Int} (hk : Maps.has D (tk t) = true ∨ t = nt) :
    (∀ t', Maps.has (putD D t i) (tk t') = true → K t') ∧ Maps.size (putD D t i) + (if Maps.has (putD D t i) (tk nt) then 0 else 1) ≤ c ∧ Maps.Tidy (putD D t i) := by
  refine ⟨fun t' ht => ?_, size_put h.size h.tidy hk, h.tidy.put (tk_key t) _⟩
  by_cases e : t' = t
  · subst e
    rcases hk with hk | rfl
    · exact h.keys _ hk
    · exact hK
  · rw [has_put_other e] at ht; exact h.keys _ ht
theorem sw_i (f : Nat → Ent) (i j : Nat) : sw f i j i = f j := by unfold sw; split <;> simp_all
theorem sw_j (f : Nat → Ent) (i j : Nat) : sw f i j j = f i := by unfold sw; split <;> simp_all
theorem sw_o (f : Nat → Ent) (i j k : Nat) (hi : k ≠ i) (hj : k ≠ j) : sw f i j k = f k := by unfold sw; simp [hi, hj]
theorem Con.swap {c : Nat} {nt : Int} {K : Int → Prop} {l : List Ent} {D : DM} (h : Con c nt K l D) (hK : K nt) {i j : Nat} (hi : i < l.length) (hj : j < l.length) :
    Con c nt K (swp l i j) (putD (putD D (nth (swp l i j) i).task i) (nth (swp l i j) j).task j) := by
  have e1 : nth (swp l i j) i = nth l j := by rw [nth_swp _ hi, sw_i]
  have e2 : nth (swp l i j) j = nth l i := by rw [nth_swp _ hj, sw_j]
  rw [e1, e2]
  have k1 := h.keyed hK (t := (nth l j).task) (i := i) (.inl (h.has j hj))
  have hm := h.tidy.isMap
  have hm1 := k1.2.2.isMap
  have k2 : Con c nt K [] (putD D (nth l j).task i) := ⟨by simp, by simp, k1.1, k1.2.1, by simp, k1.2.2⟩
  have k3 := k2.keyed hK (t := (nth l i).task) (i := j) (.inl (has_put hm _ (h.has i hi)))
  have hs : ∀ k, k < l.length → ∃ k', k' < l.length ∧ nth (swp l i j) k = nth l k' ∧ (k = i → k' = j) ∧ (k = j → k' = i) ∧ (k ≠ i → k ≠ j → k' = k) := fun k hk => by
    by_cases a : k = i
    · subst a; exact ⟨j, hj, e1, fun _ => rfl, fun e => e.symm, fun b => absurd rfl b⟩
    · by_cases b : k = j
      · subst b; exact ⟨i, hi, e2, fun e => absurd e a, fun _ => rfl, fun _ b => absurd rfl b⟩
      · exact ⟨k, hk, by rw [nth_swp _ hk, sw_o _ _ _ _ a b], fun e => absurd e a, fun e => absurd e b, fun _ _ => rfl⟩
  refine ⟨fun k hk => ?_, fun k hk => ?_, k3.1, k3.2.1, fun k hk => ?_, k3.2.2⟩
  · rw [swp_len] at hk
    obtain ⟨k', h1, h2, _⟩ := hs k hk
    rw [h2]; exact has_put hm1 _ (has_put hm _ (h.has k' h1))
  · rw [swp_len] at hk
    obtain ⟨k', h1, h2, h3, h4, h5⟩ := hs k hk
    rw [h2]
    by_cases b : k = j
    · subst b; rw [h4 rfl]; exact at_put_same hm1 _ _
    · have n1 : (nth l k').task ≠ (nth l i).task := fun e => by
        have := h.inj h1 hi e
        subst this
        by_cases a : k = k'
        · exact b (a.trans (h3 a))
        · exact a ((h5 a b).symm)
      rw [at_put_other n1]
      by_cases a : k = i
      · subst a; rw [h3 rfl]; exact at_put_same hm _ _
      · have n2 : (nth l k').task ≠ (nth l j).task := fun e => by
          have := h.inj h1 hj e
          exact b ((h5 a b).symm.trans this)
        rw [at_put_other n2, h5 a b]; exact h.pos k hk
  · rw [swp_len] at hk
    obtain ⟨k', h1, h2, _⟩ := hs k hk
    rw [h2]; exact h.rng k' h1

section
variable {p : PP} {W0 : World} {bq bp bm : Nat} {pu : Int}
/-- The map has turned, and nothing else. -/
theorem QS.mapped {l : List Ent} {D D' : DM} {W W' : World} {n : Nat} (h : QS p W0 bq bp bm pu l D W) (hg : W.grownBy W' (some bm)) (hm : W'.ownsMap Tryz.prog 3 (plainElem Tryz.prog 3) bm n D') : QS p W0 bq bp bm pu l D' W' := by
  obtain ⟨⟨v, h1, h2, h3⟩, h4, h5, h6, h7, h8, h9⟩ := h
  obtain ⟨es, clock, h10, _⟩ := h5
  have hne : ∀ {b : Nat} {o : Obj}, W.heap[b]? = some o → tag o ≠ none → W'.heap[b]? = some o := fun {b o} hb ho => by
    refine (hg.block b (Array.getElem?_eq_some_iff.1 hb).1 fun e => ?_).trans hb
    injection e with e; subst e; rw [h10] at hb; cases hb; exact ho rfl
  have k1 : Kept (fun _ t => t.isSome) W W' := Kept.grown hg fun j o e ho => by
    injection e with e; subst e; rw [h10] at ho; cases ho; rfl
  exact ⟨⟨v, hne h1 (by simp [tag]), k1.row h2 fun _ _ => rfl, h3⟩, hne h4 (by simp [tag]), own_size hm, keptGrown h6 hg (fun j o e ho hj => by injection e with e; subst e; rw [h10] at ho; cases ho; exact h8 hj), h7, h8, h9⟩

set_option maxHeartbeats 1000000 in
set_option maxRecDepth 100000 in
theorem moved_ok {l : List Ent} {D : DM} {W : World} (h : QS p W0 bq bp bm pu l D W) (x : Ent) (i : Nat) (hi : i ≤ 1000000) (hx : 0 ≤ x.task ∧ x.task ≤ 9223372036854775807) (hn : Maps.size D < 10000000) :
    Calls Tryz.prog 275 #[x.val, .int .i64 i, .pointer (some ⟨bp, 0, none⟩)] W fun e W' => e = .returned (.tuple #[]) ∧ QS p W0 bq bp bm pu l (putD D x.task i) W' ∧ Kept (fun _ t => t.isSome) W W' := by
  obtain ⟨o, ho⟩ : ∃ o, o = Obj.cells #[.int .i64 x.task, .bool x.front, .int .i64 x.due, .int .i64 x.nth] 278 (0, 0) := ⟨_, rfl⟩
  obtain ⟨W1, hW1⟩ : ∃ W1, W1 = W.alloc o := ⟨_, rfl⟩
  have hE : Ext W W1 := by rw [hW1]; exact Ext.one _ _
  have h' := h.ext hE
  obtain ⟨v, h1, h2, h3⟩ := h'.qb
  have h4 := h'.bpb
  have c0 : W1.cell? ⟨bp, 0, none⟩ = some (.pointer (some ⟨bq, 0, none⟩)) := by simp [World.cell?, h4]
  have c1 : W1.cell? ⟨bq, 1, none⟩ = some (.map (some bm)) := by simp [World.cell?, h1]
  have hb : W1.heap[W.heap.size]? = some o := by rw [hW1]; exact World.alloc_heap_new _ _
  have c2 : W1.cell? ⟨W.heap.size, 0, none⟩ = some (.int .i64 x.task) := by simp [World.cell?, hb, ho]
  have hlt : bq < W1.heap.size := (Array.getElem?_eq_some_iff.1 h1).1
  have HW := Lib.hid hW1
  have HO := Lib.hid ho
  have HH := Lib.hid h'
  have HE := Lib.hid hE
  have hbm : ∀ o, W1.drew.heap[bm]? = some o → tag o = none := fun o ho => by
    obtain ⟨es, clock, h10, _⟩ := h'.mp
    have ho' : W1.heap[bm]? = some o := ho
    rw [h10] at ho'; cases ho'; rfl
  have HB := Lib.hid hbm
  clear hbm
  have hmp := h'.mp
  clear h h1 h2 h3 h4 hE hb h' hW1 ho
  unfold Ent.val
  go_enter Tryz.func275, Tryz.ntmps275
  go_wp2_with fail
  change Code.wp _ _ _ _ (W.alloc (Obj.cells #[.int .i64 x.task, .bool x.front, .int .i64 x.due, .int .i64 x.nth] 278 (0, 0)))
  rw [← HO.out, ← HW.out]
  go_still_tail 8, (by kernel_rfl)
  change wpList _ _ _ _ _ W1.drew
  at_mapUpdate
  refine wpList_mapUpdate_own _ rfl _ _ _ 214 rfl 3 3 law3 Tryz.underlying214 (plainElem Tryz.prog 3) bm _ D rfl hmp.drew (Nat.lt_of_lt_of_le hn (by decide)) (.int .i64 x.task) (.int .i64 i) (tk x.task) rfl rfl (key_of hx) (.lit (tk i)) [] (Go.plainElem_int Tryz.underlying3 (wf_of ⟨by omega, by omega⟩)) ?_
  intro w1 hown1 hgrow1
  go_wp2_with fail
  go_end0
  exact ⟨rfl, (HH.out.ext (Ext.drew _)).mapped hgrow1 hown1, (HE.out.kept _).trans ((Kept.drew _ _).trans (Kept.grown hgrow1 fun j o e ho => by injection e with e; subst e; rw [HB.out o ho]; rfl))⟩
end
end Go.Proofs.YtfljmdpigckpkaaGreatDoor.QQ

namespace Go.Proofs.YtfljmdpigckpkaaGreatDoor.QQ
open Go.RowKit Go.Shelf
/-- Entry i of a row is x. -/
def rowW (W : World) (g i : Nat) (x : Ent) : World := (((W.setCell ⟨g, i * 4, none⟩ (.int .i64 x.task)).setCell ⟨g, i * 4 + 1, none⟩ (.bool x.front)).setCell ⟨g, i * 4 + 2, none⟩ (.int .i64 x.due)).setCell ⟨g, i * 4 + 3, none⟩ (.int .i64 x.nth)
theorem row4_set (x : Ent) : ∀ (l : List Ent) (i : Nat), row4 (l.set i x) = ((((row4 l).set (i * 4) (.int .i64 x.task)).set (i * 4 + 1) (.bool x.front)).set (i * 4 + 2) (.int .i64 x.due)).set (i * 4 + 3) (.int .i64 x.nth)
  | [], i => by simp [row4]
  | y :: r, 0 => by simp [row4, Ent.cells]
  | y :: r, i + 1 => by
    have h1 := row4_set x r i
    have e : row4 (y :: r) = y.cells ++ row4 r := by simp [row4]
    have e1 : row4 ((y :: r).set (i + 1) x) = y.cells ++ row4 (r.set i x) := by simp [row4]
    have hs : ∀ (k : Nat) (v : Value) (t : List Value), (y.cells ++ t).set ((i + 1) * 4 + k) v = y.cells ++ t.set (i * 4 + k) v := fun k v t => by
      rw [List.set_append_right _ _ (by simp [Ent.cells]; omega)]
      congr 2
      simp [Ent.cells]; omega
    rw [e1, h1, e]
    have h0 := hs 0
    simp only [Nat.add_zero] at h0
    rw [h0, hs 1, hs 2, hs 3]
theorem own_rowW {W : World} {g n cap : Nat} {l : List Ent} (h : W.ownsRow 0 278 4 (.slice (some ⟨g, 0, none⟩) n cap) n (row4 l)) (i : Nat) (x : Ent) :
    (rowW W g i x).ownsRow 0 278 4 (.slice (some ⟨g, 0, none⟩) n cap) n (row4 (l.set i x)) ∧ W.grownBy (rowW W g i x) (some g) := by
  have h1 := h.stored (i * 4) (.int .i64 x.task)
  have h2 := h1.1.stored (i * 4 + 1) (.bool x.front)
  have h3 := h2.1.stored (i * 4 + 2) (.int .i64 x.due)
  have h4 := h3.1.stored (i * 4 + 3) (.int .i64 x.nth)
  refine ⟨by rw [row4_set]; exact h4.1, ?_⟩
  exact ((h1.2.trans h2.2).trans h3.2).trans h4.2
section
variable {p : PP} {W0 : World} {bq bp bm : Nat} {pu : Int}
theorem QS.rowW {l : List Ent} {D : DM} {W : World} (h : QS p W0 bq bp bm pu l D W) {g c : Nat} (h1 : W.heap[bq]? = some (.cells #[.slice (some ⟨g, 0, none⟩) l.length c, .map (some bm), .int .i64 pu] 258 (0, 0))) (i : Nat) (x : Ent) :
    QS p W0 bq bp bm pu (l.set i x) D (rowW W g i x) ∧ Kept (fun _ t => t != some 278) W (Go.Proofs.YtfljmdpigckpkaaGreatDoor.QQ.rowW W g i x) ∧ (Go.Proofs.YtfljmdpigckpkaaGreatDoor.QQ.rowW W g i x).heap[bq]? = some (.cells #[.slice (some ⟨g, 0, none⟩) (l.set i x).length c, .map (some bm), .int .i64 pu] 258 (0, 0)) := by
  obtain ⟨⟨v, h1', h2, h3⟩, h4, h5, h6, h7, h8, h9⟩ := h
  rw [h1] at h1'
  simp only [Option.some.injEq, Obj.cells.injEq, and_true] at h1'
  have e : v = .slice (some ⟨g, 0, none⟩) l.length c := by simpa using h1'.symm
  subst e
  obtain ⟨o1, o2⟩ := own_rowW h2 i x
  have hgt : ∀ o, W.heap[g]? = some o → tag o = some 278 := fun o ho => by
    rcases h2.2 with ⟨h0, _⟩ | ⟨g', cap, cur, e, _, k1, _⟩
    · cases h0
    · injection e with e _ _; injection e with e; injection e with e _ _; subst e
      rw [k1] at ho; cases ho; rfl
  have k : Kept (fun _ t => t != some 278) W (Go.Proofs.YtfljmdpigckpkaaGreatDoor.QQ.rowW W g i x) := Kept.grown o2 fun j o e ho => by
    injection e with e; subst e; rw [hgt o ho]; simp
  have k1 := k.same _ _ h1 (by simp [tag])
  refine ⟨⟨⟨_, by simpa using k1, by simpa using o1, h3⟩, k.same _ _ h4 (by simp [tag]), k.map h5 (by simp), keptGrown h6 o2 (fun j o e ho hj => by
    injection e with e; subst e; rw [hgt o ho]; exact h3 g (by simp [Value.ownBlock]) hj), h7, h8, by simpa using h9⟩, k, by simpa using k1⟩
theorem QS.cells {l : List Ent} {D : DM} {W : World} (h : QS p W0 bq bp bm pu l D W) {A : Option Addr} {n c : Nat} (hn : n = l.length) (h1 : W.heap[bq]? = some (.cells #[.slice A n c, .map (some bm), .int .i64 pu] 258 (0, 0))) {i : Nat} (hi : i < l.length) :
    ∃ g, A = some ⟨g, 0, none⟩ ∧ W.cell? ⟨bq, 0, none⟩ = some (.slice (some ⟨g, 0, none⟩) n c) ∧ W.cell? ⟨g, i * 4, none⟩ = some (.int .i64 (nth l i).task) ∧ W.cell? ⟨g, i * 4 + 1, none⟩ = some (.bool (nth l i).front) ∧
      W.cell? ⟨g, i * 4 + 2, none⟩ = some (.int .i64 (nth l i).due) ∧ W.cell? ⟨g, i * 4 + 3, none⟩ = some (.int .i64 (nth l i).nth) ∧ ∀ k, W.frozen? ⟨g, k, none⟩ = false := by
  subst hn
  obtain ⟨⟨v, h1', h2, h3⟩, _⟩ := h
  rw [h1] at h1'
  simp only [Option.some.injEq, Obj.cells.injEq, and_true] at h1'
  have e : v = .slice A l.length c := by simpa using h1'.symm
  subst e
  obtain ⟨g, rfl, _, a0, a1, a2, a3⟩ := own4_cells h2 hi
  exact ⟨g, rfl, by simp [World.cell?, h1], a0, a1, a2, a3, fun k => h2.frozenAt k⟩

theorem drew_heap (W : World) : W.drew.heap = W.heap := rfl
theorem QS.swapped {l : List Ent} {D : DM} {W W2 : World} (h : QS p W0 bq bp bm pu l D W) {g c bb : Nat} (h1 : W.heap[bq]? = some (.cells #[.slice (some ⟨g, 0, none⟩) l.length c, .map (some bm), .int .i64 pu] 258 (0, 0))) (i j : Nat)
    (hW2 : W2 = (Go.Proofs.YtfljmdpigckpkaaGreatDoor.QQ.rowW (Go.Proofs.YtfljmdpigckpkaaGreatDoor.QQ.rowW W g i (nth l j)) g j (nth l i)).drew) (hb : W.heap[bb]? = some (pvo bq bp)) :
    QS p W0 bq bp bm pu (swp l i j) D W2 ∧ W2.heap[bq]? = some (.cells #[.slice (some ⟨g, 0, none⟩) l.length c, .map (some bm), .int .i64 pu] 258 (0, 0)) ∧ W2.heap[bb]? = some (pvo bq bp) := by
  obtain ⟨q1, m1, r1⟩ := h.rowW h1 i (nth l j)
  obtain ⟨q2, m2, r2⟩ := q1.rowW r1 j (nth l i)
  have q3 := q2.ext (Ext.drew _)
  rw [← hW2] at q3
  refine ⟨q3, ?_, ?_⟩
  · rw [hW2, drew_heap]; rw [List.length_set, List.length_set] at r2; exact r2
  · rw [hW2, drew_heap]; exact m2.same _ _ (m1.same _ _ hb (by simp [tag, pvo])) (by simp [tag, pvo])

set_option maxHeartbeats 2000000 in
set_option maxRecDepth 100000 in
theorem eswap_ok {l : List Ent} {D : DM} {W : World} {cp : Nat} {nt : Int} {K : Int → Prop} (h : QS p W0 bq bp bm pu l D W) (hc : Con cp nt K l D) (hK : K nt) (hcp : cp ≤ 2000000) {i j : Nat} (hi : i < l.length) (hj : j < l.length) : Calls Tryz.prog 363 #[pv bq bp, .int .i64 i, .int .i64 j] W fun e W' => e = .returned (.tuple #[]) ∧ ∃ D', QS p W0 bq bp bm pu (swp l i j) D' W' ∧ Con cp nt K (swp l i j) D' := by
  obtain ⟨v, k1, _, _⟩ := h.qb
  obtain ⟨A, c, e0⟩ : ∃ A c, v = .slice A l.length c := by obtain ⟨v', k1', k2, _⟩ := h.qb; rw [k1] at k1'; obtain ⟨A, c, rfl⟩ := own4 k2; exact ⟨A, c, by simpa using k1'⟩
  subst e0
  obtain ⟨g, rfl, hc0, _⟩ := h.cells rfl k1 hi
  have hlt := (Array.getElem?_eq_some_iff.1 k1).1
  obtain ⟨W1, hW1⟩ : ∃ W1, W1 = W.alloc (pvo bq bp) := ⟨_, rfl⟩
  have hx : Ext W W1 := by rw [hW1]; exact Ext.one _ _
  have hb : W1.heap[W.heap.size]? = some (pvo bq bp) := by rw [hW1]; exact World.alloc_heap_new _ _
  obtain ⟨p0, p1, p2⟩ := pvo_cells hb
  have h' := h.ext hx
  have k1' := (hx.kept (fun _ _ => true)).same _ _ k1 rfl
  obtain ⟨g', e, c0, a0, a1, a2, a3, fz⟩ := h'.cells rfl k1' hi
  injection e with e; injection e with e; subst e
  obtain ⟨g', e, _, b0, b1, b2, b3, _⟩ := h'.cells rfl k1' hj
  injection e with e; injection e with e; subst e
  have hi' : (i : Int) < (l.length : Int) := by omega
  have hj' : (j : Int) < (l.length : Int) := by omega
  have hsm : (l.length : Int) ≤ 1000000 := by have := h.small; omega
  have HW := Lib.hid hW1
  have HS := Lib.hid h'
  have HB := Lib.hid hb
  have H1 := Lib.hid k1'
  have HC := Lib.hid hc
  clear h h' k1 k1' hx hb hW1 hc
  unfold pv
  go_enter Tryz.func363, Tryz.ntmps363
  go_wp2_with fail
  change Code.wp _ _ _ _ (W.alloc (pvo bq bp))
  rw [← HW.out]
  clear hc0 hlt
  rcases Nat.lt_trichotomy i j with hij | hij | hij
  case' inr.inl => subst hij
  all_goals go_region
  case inl => 
    obtain ⟨W2, hW2⟩ : ∃ W2, W2 = (Go.Proofs.YtfljmdpigckpkaaGreatDoor.QQ.rowW (Go.Proofs.YtfljmdpigckpkaaGreatDoor.QQ.rowW W1 g i (nth l j)) g j (nth l i)).drew := ⟨_, rfl⟩
    change Exit.then _ _ _ _ (Go.Proofs.YtfljmdpigckpkaaGreatDoor.QQ.rowW (Go.Proofs.YtfljmdpigckpkaaGreatDoor.QQ.rowW W1 g i (nth l j)) g j (nth l i)).drew
    rw [← hW2]
    obtain ⟨q3, r3, hb2⟩ := HS.out.swapped H1.out i j hW2 HB.out
    clear hW2 p0 p1 p2 c0 a0 a1 a2 a3 b0 b1 b2 b3 fz HS HB H1
    have hL : (swp l i j).length = l.length := swp_len _ _ _
    have hCS := HC.out.swap hK hi hj
    have hz1 : Maps.size D ≤ cp := by have := HC.out.size; omega
    have hcc := HC.out.keyed hK (t := (nth (swp l i j) i).task) (i := i) (.inl (by rw [nth_swp _ hi, sw_i]; exact HC.out.has _ hj))
    have hz2 : Maps.size (putD D (nth (swp l i j) i).task i) ≤ cp := by have := hcc.2.1; omega
    have hr1 : 0 ≤ (nth (swp l i j) i).task ∧ (nth (swp l i j) i).task ≤ 9223372036854775807 := by rw [nth_swp _ hi, sw_i]; exact HC.out.rng _ hj
    have hr2 : 0 ≤ (nth (swp l i j) j).task ∧ (nth (swp l i j) j).task ≤ 9223372036854775807 := by rw [nth_swp _ hj, sw_j]; exact HC.out.rng _ hi
    obtain ⟨L, hLe⟩ : ∃ L, L = swp l i j := ⟨_, rfl⟩
    rw [← hLe] at hL hz2 hr1 hr2 q3
    have HLe := Lib.hid hLe
    obtain ⟨_, p1, p2⟩ := pvo_cells hb2
    obtain ⟨g', e, c0, a0, a1, a2, a3, _⟩ := q3.cells hL.symm r3 (show i < L.length by omega)
    injection e with e; injection e with e; subst e
    have hmv := fun w (hw : QS p W0 bq bp bm pu L D w) => moved_ok hw (nth L i) i (by omega) hr1 (by omega)
    have hmv2 := fun w (hw : QS p W0 bq bp bm pu L (putD D (nth L i).task i) w) => moved_ok hw (nth L j) j (by omega) hr2 (by omega)
    simp only [Ent.val] at hmv hmv2
    have HQ := Lib.hid q3
    have HR := Lib.hid r3
    have HB := Lib.hid hb2
    have HL := Lib.hid hL
    clear q3 r3 hb2 hL hcc hLe
    go_wp2_with fail
    go_still_tail 7, (by kernel_rfl)
    change wpList _ _ _ _ _ W2.drew
    go_wp2_with fail
    refine (hmv _ (HQ.out.ext (Ext.drew _))).mono ?_
    rintro e w' ⟨rfl, q4, k4⟩
    have r4 := k4.same bq _ (show W2.drew.heap[bq]? = _ from HR.out) rfl
    have hb4 := k4.same W.heap.size _ (show W2.drew.heap[W.heap.size]? = _ from HB.out) rfl
    clear p1 p2 c0 a0 a1 a2 a3
    obtain ⟨_, p1, p2⟩ := pvo_cells hb4
    obtain ⟨g', e, c0, a0, a1, a2, a3, _⟩ := q4.cells HL.out.symm r4 (show j < L.length by have := HL.out; omega)
    injection e with e; injection e with e; subst e
    have HQ4 := Lib.hid q4
    clear q4 k4 r4 hb4
    go_wp2_with fail
    go_still_tail 7, (by kernel_rfl)
    change wpList _ _ _ _ _ w'.drew
    go_wp2_with fail
    refine (hmv2 _ (HQ4.out.ext (Ext.drew _))).mono ?_
    rintro e w'' ⟨rfl, q5, k5⟩
    go_wp2_with fail
    go_end0
    rw [HLe.out] at q5
    exact ⟨rfl, _, q5, hCS⟩
  case inr.inl => 
    obtain ⟨W2, hW2⟩ : ∃ W2, W2 = (Go.Proofs.YtfljmdpigckpkaaGreatDoor.QQ.rowW (Go.Proofs.YtfljmdpigckpkaaGreatDoor.QQ.rowW W1 g i (nth l i)) g i (nth l i)).drew := ⟨_, rfl⟩
    change Exit.then _ _ _ _ (Go.Proofs.YtfljmdpigckpkaaGreatDoor.QQ.rowW (Go.Proofs.YtfljmdpigckpkaaGreatDoor.QQ.rowW W1 g i (nth l i)) g i (nth l i)).drew
    rw [← hW2]
    obtain ⟨q3, r3, hb2⟩ := HS.out.swapped H1.out i i hW2 HB.out
    clear hW2 p0 p1 p2 c0 a0 a1 a2 a3 b0 b1 b2 b3 fz HS HB H1
    have hL : (swp l i i).length = l.length := swp_len _ _ _
    have hCS := HC.out.swap hK hi hj
    have hz1 : Maps.size D ≤ cp := by have := HC.out.size; omega
    have hcc := HC.out.keyed hK (t := (nth (swp l i i) i).task) (i := i) (.inl (by rw [nth_swp _ hi, sw_i]; exact HC.out.has _ hj))
    have hz2 : Maps.size (putD D (nth (swp l i i) i).task i) ≤ cp := by have := hcc.2.1; omega
    have hr1 : 0 ≤ (nth (swp l i i) i).task ∧ (nth (swp l i i) i).task ≤ 9223372036854775807 := by rw [nth_swp _ hi, sw_i]; exact HC.out.rng _ hj
    have hr2 : 0 ≤ (nth (swp l i i) i).task ∧ (nth (swp l i i) i).task ≤ 9223372036854775807 := by rw [nth_swp _ hj, sw_j]; exact HC.out.rng _ hi
    obtain ⟨L, hLe⟩ : ∃ L, L = swp l i i := ⟨_, rfl⟩
    rw [← hLe] at hL hz2 hr1 hr2 q3
    have HLe := Lib.hid hLe
    obtain ⟨_, p1, p2⟩ := pvo_cells hb2
    obtain ⟨g', e, c0, a0, a1, a2, a3, _⟩ := q3.cells hL.symm r3 (show i < L.length by omega)
    injection e with e; injection e with e; subst e
    have hmv := fun w (hw : QS p W0 bq bp bm pu L D w) => moved_ok hw (nth L i) i (by omega) hr1 (by omega)
    have hmv2 := fun w (hw : QS p W0 bq bp bm pu L (putD D (nth L i).task i) w) => moved_ok hw (nth L i) i (by omega) hr2 (by omega)
    simp only [Ent.val] at hmv hmv2
    have HQ := Lib.hid q3
    have HR := Lib.hid r3
    have HB := Lib.hid hb2
    have HL := Lib.hid hL
    clear q3 r3 hb2 hL hcc hLe
    go_wp2_with fail
    go_still_tail 7, (by kernel_rfl)
    change wpList _ _ _ _ _ W2.drew
    go_wp2_with fail
    refine (hmv _ (HQ.out.ext (Ext.drew _))).mono ?_
    rintro e w' ⟨rfl, q4, k4⟩
    have r4 := k4.same bq _ (show W2.drew.heap[bq]? = _ from HR.out) rfl
    have hb4 := k4.same W.heap.size _ (show W2.drew.heap[W.heap.size]? = _ from HB.out) rfl
    clear p1 p2 c0 a0 a1 a2 a3
    obtain ⟨_, p1, p2⟩ := pvo_cells hb4
    obtain ⟨g', e, c0, a0, a1, a2, a3, _⟩ := q4.cells HL.out.symm r4 (show i < L.length by have := HL.out; omega)
    injection e with e; injection e with e; subst e
    have HQ4 := Lib.hid q4
    clear q4 k4 r4 hb4
    go_wp2_with fail
    go_still_tail 7, (by kernel_rfl)
    change wpList _ _ _ _ _ w'.drew
    go_wp2_with fail
    refine (hmv2 _ (HQ4.out.ext (Ext.drew _))).mono ?_
    rintro e w'' ⟨rfl, q5, k5⟩
    go_wp2_with fail
    go_end0
    rw [HLe.out] at q5
    exact ⟨rfl, _, q5, hCS⟩
  case inr.inr => 
    obtain ⟨W2, hW2⟩ : ∃ W2, W2 = (Go.Proofs.YtfljmdpigckpkaaGreatDoor.QQ.rowW (Go.Proofs.YtfljmdpigckpkaaGreatDoor.QQ.rowW W1 g i (nth l j)) g j (nth l i)).drew := ⟨_, rfl⟩
    change Exit.then _ _ _ _ (Go.Proofs.YtfljmdpigckpkaaGreatDoor.QQ.rowW (Go.Proofs.YtfljmdpigckpkaaGreatDoor.QQ.rowW W1 g i (nth l j)) g j (nth l i)).drew
    rw [← hW2]
    obtain ⟨q3, r3, hb2⟩ := HS.out.swapped H1.out i j hW2 HB.out
    clear hW2 p0 p1 p2 c0 a0 a1 a2 a3 b0 b1 b2 b3 fz HS HB H1
    have hL : (swp l i j).length = l.length := swp_len _ _ _
    have hCS := HC.out.swap hK hi hj
    have hz1 : Maps.size D ≤ cp := by have := HC.out.size; omega
    have hcc := HC.out.keyed hK (t := (nth (swp l i j) i).task) (i := i) (.inl (by rw [nth_swp _ hi, sw_i]; exact HC.out.has _ hj))
    have hz2 : Maps.size (putD D (nth (swp l i j) i).task i) ≤ cp := by have := hcc.2.1; omega
    have hr1 : 0 ≤ (nth (swp l i j) i).task ∧ (nth (swp l i j) i).task ≤ 9223372036854775807 := by rw [nth_swp _ hi, sw_i]; exact HC.out.rng _ hj
    have hr2 : 0 ≤ (nth (swp l i j) j).task ∧ (nth (swp l i j) j).task ≤ 9223372036854775807 := by rw [nth_swp _ hj, sw_j]; exact HC.out.rng _ hi
    obtain ⟨L, hLe⟩ : ∃ L, L = swp l i j := ⟨_, rfl⟩
    rw [← hLe] at hL hz2 hr1 hr2 q3
    have HLe := Lib.hid hLe
    obtain ⟨_, p1, p2⟩ := pvo_cells hb2
    obtain ⟨g', e, c0, a0, a1, a2, a3, _⟩ := q3.cells hL.symm r3 (show i < L.length by omega)
    injection e with e; injection e with e; subst e
    have hmv := fun w (hw : QS p W0 bq bp bm pu L D w) => moved_ok hw (nth L i) i (by omega) hr1 (by omega)
    have hmv2 := fun w (hw : QS p W0 bq bp bm pu L (putD D (nth L i).task i) w) => moved_ok hw (nth L j) j (by omega) hr2 (by omega)
    simp only [Ent.val] at hmv hmv2
    have HQ := Lib.hid q3
    have HR := Lib.hid r3
    have HB := Lib.hid hb2
    have HL := Lib.hid hL
    clear q3 r3 hb2 hL hcc hLe
    go_wp2_with fail
    go_still_tail 7, (by kernel_rfl)
    change wpList _ _ _ _ _ W2.drew
    go_wp2_with fail
    refine (hmv _ (HQ.out.ext (Ext.drew _))).mono ?_
    rintro e w' ⟨rfl, q4, k4⟩
    have r4 := k4.same bq _ (show W2.drew.heap[bq]? = _ from HR.out) rfl
    have hb4 := k4.same W.heap.size _ (show W2.drew.heap[W.heap.size]? = _ from HB.out) rfl
    clear p1 p2 c0 a0 a1 a2 a3
    obtain ⟨_, p1, p2⟩ := pvo_cells hb4
    obtain ⟨g', e, c0, a0, a1, a2, a3, _⟩ := q4.cells HL.out.symm r4 (show j < L.length by have := HL.out; omega)
    injection e with e; injection e with e; subst e
    have HQ4 := Lib.hid q4
    clear q4 k4 r4 hb4
    go_wp2_with fail
    go_still_tail 7, (by kernel_rfl)
    change wpList _ _ _ _ _ w'.drew
    go_wp2_with fail
    refine (hmv2 _ (HQ4.out.ext (Ext.drew _))).mono ?_
    rintro e w'' ⟨rfl, q5, k5⟩
    go_wp2_with fail
    go_end0
    rw [HLe.out] at q5
    exact ⟨rfl, _, q5, hCS⟩
end
end Go.Proofs.YtfljmdpigckpkaaGreatDoor.QQ
