/- A queue's map of places: what it says; an entry that is told its place. -/
import Derived.Test.YtmbdglolpagjdaaQuH
namespace Go.Proofs.Ytmbdglolpagjdaa
open Go.RowKit Go.Shelf

def tk (t : Int) : Lit := .int .i64 t
def at0 (D : DM) (t : Int) : DM := D.atKey (tk t) (.lit (tk 0))
def putD (D : DM) (t i : Int) : DM := D.put (tk t) (.lit (tk i))
theorem tk_ne {a b : Int} (h : a ≠ b) : tk a ≠ tk b := by simp [tk, h]
theorem tk_key (a : Int) : WideAt.IsKeyLit (tk a) := by simp [tk, WideAt.IsKeyLit]
theorem law3 : Go.Maps.Keyed Try.prog 3 := Go.Maps.int_keyed Try.underlying3
theorem wf_of {a : Int} (h : 0 ≤ a ∧ a ≤ 9223372036854775807) : (Lit.int .i64 a).wf = true := by
  have h1 : IntKind.min .i64 = -9223372036854775808 := by decide
  have h2 : IntKind.max .i64 = 9223372036854775807 := by decide
  simp [Lit.wf, h1, h2]; omega
theorem key_of {a : Int} (h : 0 ≤ a ∧ a ≤ 9223372036854775807) : keyOf Try.prog 3 (.int .i64 a) = some (tk a) := Go.Maps.keyOf_int_mk Try.underlying3 (wf_of h)
theorem own_size {P : Program} {k : TypeId} {R : Value → Option (DM × List MemPlace)} {w : World} {b n : Nat} {D : DM} (h : w.ownsMap P k R b n D) : w.ownsMap P k R b (Maps.size D) D := by
  obtain ⟨es, clock, h1, h2, _, rfl⟩ := h
  exact ⟨es, clock, h1, h2, by rw [Maps.size_eq, length_sorted]; simp, rfl⟩
/-- What a queue's map says: where each entry stands; it names no task but K's; at most c, with nt. -/
structure Con (c : Nat) (nt : Int) (K : Int → Prop) (l : List Ent) (D : DM) : Prop where
  has : ∀ i, i < l.length → Maps.has D (tk (nth l i).task) = true
  pos : ∀ i, i < l.length → at0 D (nth l i).task = .lit (tk i)
  keys : ∀ t, Maps.has D (tk t) = true → K t
  size : Maps.size D + (if Maps.has D (tk nt) then 0 else 1) ≤ c
  rng : ∀ i, i < l.length → 0 ≤ (nth l i).task ∧ (nth l i).task ≤ 9223372036854775807
  tidy : Maps.Tidy D
/-- After a task of nt, or one that is there, was given its place. -/
theorem size_put {c : Nat} {nt t i : Int} {D : DM} (h : Maps.size D + (if Maps.has D (tk nt) then 0 else 1) ≤ c) (ht : Maps.Tidy D) (hk : Maps.has D (tk t) = true ∨ t = nt) :
    Maps.size (putD D t i) + (if Maps.has (putD D t i) (tk nt) then 0 else 1) ≤ c := by
  unfold putD
  rw [Maps.size_put ht]
  by_cases e : t = nt
  · subst e
    rw [Maps.has_put_same ht.isMap (tk_key t)]
    cases h1 : Maps.has D (tk t) <;> simp [h1] at h ⊢ <;> omega
  · rw [Maps.has_put_other (tk_ne (Ne.symm e))]
    rcases hk with hk | hk
    · simp only [hk, if_true]; exact h
    · exact absurd hk e

theorem at_put_same {D : DM} (h : Maps.IsMap D) (t i : Int) : at0 (putD D t i) t = .lit (tk i) := Maps.atKey_put_same h (tk_key t) _ _
theorem at_put_other {D : DM} {t t' : Int} (h : t' ≠ t) (i : Int) : at0 (putD D t i) t' = at0 D t' := Maps.atKey_put_other (tk_ne h) _ _
theorem has_put_same {D : DM} (h : Maps.IsMap D) (t i : Int) : Maps.has (putD D t i) (tk t) = true := Maps.has_put_same h (tk_key t) _
theorem has_put_other {D : DM} {t t' : Int} (h : t' ≠ t) (i : Int) : Maps.has (putD D t i) (tk t') = Maps.has D (tk t') := Maps.has_put_other (tk_ne h) _
theorem has_put {D : DM} (h : Maps.IsMap D) {t t' : Int} (i : Int) (ht : Maps.has D (tk t') = true) : Maps.has (putD D t i) (tk t') = true := by
  by_cases e : t' = t
  · subst e; exact has_put_same h _ _
  · rw [has_put_other e]; exact ht
theorem Con.inj {c : Nat} {nt : Int} {K : Int → Prop} {l : List Ent} {D : DM} (h : Con c nt K l D) {a b : Nat} (ha : a < l.length) (hb : b < l.length) (e : (nth l a).task = (nth l b).task) : a = b := by
  have h1 := h.pos a ha
  have h2 := h.pos b hb
  rw [e, h2] at h1
  simp [tk] at h1; omega
/-- An entry that is there, or nt's, is told a place. -/
theorem Con.keyed {c : Nat} {nt : Int} {K : Int → Prop} {l : List Ent} {D : DM} (h : Con c nt K l D) (hK : K nt) {t i : Int} (hk : Maps.has D (tk t) = true ∨ t = nt) :
    (∀ t', Maps.has (putD D t i) (tk t') = true → K t') ∧ Maps.size (putD D t i) + (if Maps.has (putD D t i) (tk nt) then 0 else 1) ≤ c ∧ Maps.Tidy (putD D t i) := by
  refine ⟨fun t' ht => ?_, size_put h.size h.tidy hk, h.tidy.put (tk_key t) _⟩
  by_cases e : t' = t
  · subst e
    rcases hk with hk | rfl
    · exact h.keys _ hk
    · exact hK
  · rw [has_put_other e] at ht; exact h.keys _ ht
theorem sw_i (f : Nat → Ent) (i j : Nat) : sw f i j i = f j := by unfold sw; split <;> simp_all
theorem sw_j (f : Nat → Ent) (i j : Nat) : sw f i j j = f i := by unfold sw; split <;> simp_all
theorem sw_o (f : Nat → Ent) (i j k : Nat) (hi : k ≠ i) (hj : k ≠ j) : sw f i j k = f k := by unfold sw; simp [hi, hj]
theorem Con.swap {c : Nat} {nt : Int} {K : Int → Prop} {l : List Ent} {D : DM} (h : Con c nt K l D) (hK : K nt) {i j : Nat} (hi : i < l.length) (hj : j < l.length) :
    Con c nt K (swp l i j) (putD (putD D (nth (swp l i j) i).task i) (nth (swp l i j) j).task j) := by
  have e1 : nth (swp l i j) i = nth l j := by rw [nth_swp _ hi, sw_i]
  have e2 : nth (swp l i j) j = nth l i := by rw [nth_swp _ hj, sw_j]
  rw [e1, e2]
  have k1 := h.keyed hK (t := (nth l j).task) (i := i) (.inl (h.has j hj))
  have hm := h.tidy.isMap
  have hm1 := k1.2.2.isMap
  have k2 : Con c nt K [] (putD D (nth l j).task i) := ⟨by simp, by simp, k1.1, k1.2.1, by simp, k1.2.2⟩
  have k3 := k2.keyed hK (t := (nth l i).task) (i := j) (.inl (has_put hm _ (h.has i hi)))
  have hs : ∀ k, k < l.length → ∃ k', k' < l.length ∧ nth (swp l i j) k = nth l k' ∧ (k = i → k' = j) ∧ (k = j → k' = i) ∧ (k ≠ i → k ≠ j → k' = k) := fun k hk => by
    by_cases a : k = i
    · subst a; exact ⟨j, hj, e1, fun _ => rfl, fun e => e.symm, fun b => absurd rfl b⟩
    · by_cases b : k = j
      · subst b; exact ⟨i, hi, e2, fun e => absurd e a, fun _ => rfl, fun _ b => absurd rfl b⟩
      · exact ⟨k, hk, by rw [nth_swp _ hk, sw_o _ _ _ _ a b], fun e => absurd e a, fun e => absurd e b, fun _ _ => rfl⟩
  refine ⟨fun k hk => ?_, fun k hk => ?_, k3.1, k3.2.1, fun k hk => ?_, k3.2.2⟩
  · rw [swp_len] at hk
    obtain ⟨k', h1, h2, _⟩ := hs k hk
    rw [h2]; exact has_put hm1 _ (has_put hm _ (h.has k' h1))
  · rw [swp_len] at hk
    obtain ⟨k', h1, h2, h3, h4, h5⟩ := hs k hk
    rw [h2]
    by_cases b : k = j
    · subst b; rw [h4 rfl]; exact at_put_same hm1 _ _
    · have n1 : (nth l k').task ≠ (nth l i).task := fun e => by
        have := h.inj h1 hi e
        subst this
        by_cases a : k = k'
        · exact b (a.trans (h3 a))
        · exact a ((h5 a b).symm)
      rw [at_put_other n1]
      by_cases a : k = i
      · subst a; rw [h3 rfl]; exact at_put_same hm _ _
      · have n2 : (nth l k').task ≠ (nth l j).task := fun e => by
          have := h.inj h1 hj e
          exact b ((h5 a b).symm.trans this)
        rw [at_put_other n2, h5 a b]; exact h.pos k hk
  · rw [swp_len] at hk
    obtain ⟨k', h1, h2, _⟩ := hs k hk
    rw [h2]; exact h.rng k' h1

section
variable {p : PP} {W0 : World} {bq bp bm : Nat} {pu : Int}
/-- The map has turned, and nothing else. -/
theorem QS.mapped {l : List Ent} {D D' : DM} {W W' : World} {n : Nat} (h : QS p W0 bq bp bm pu l D W) (hg : W.grownBy W' (some bm)) (hm : W'.ownsMap Try.prog 3 (plainElem Try.prog 3) bm n D') : QS p W0 bq bp bm pu l D' W' := by
  obtain ⟨⟨v, h1, h2, h3⟩, h4, h5, h6, h7, h8, h9⟩ := h
  obtain ⟨es, clock, h10, _⟩ := h5
  have hne : ∀ {b : Nat} {o : Obj}, W.heap[b]? = some o → tag o ≠ none → W'.heap[b]? = some o := fun {b o} hb ho => by
    refine (hg.block b (Array.getElem?_eq_some_iff.1 hb).1 fun e => ?_).trans hb
    injection e with e; subst e; rw [h10] at hb; cases hb; exact ho rfl
  have k1 : Kept (fun _ t => t.isSome) W W' := Kept.grown hg fun j o e ho => by
    injection e with e; subst e; rw [h10] at ho; cases ho; rfl
  exact ⟨⟨v, hne h1 (by simp [tag]), k1.row h2 fun _ _ => rfl, h3⟩, hne h4 (by simp [tag]), own_size hm, keptGrown h6 hg (fun j o e ho hj => by injection e with e; subst e; rw [h10] at ho; cases ho; exact h8 hj), h7, h8, h9⟩

set_option maxHeartbeats 1000000 in
set_option maxRecDepth 100000 in
theorem moved_ok {l : List Ent} {D : DM} {W : World} (h : QS p W0 bq bp bm pu l D W) (x : Ent) (i : Nat) (hi : i ≤ 1000000) (hx : 0 ≤ x.task ∧ x.task ≤ 9223372036854775807) (hn : Maps.size D < 10000000) :
    Calls Try.prog 48 #[x.val, .int .i64 i, .pointer (some ⟨bp, 0, none⟩)] W fun e W' => e = .returned (.tuple #[]) ∧ QS p W0 bq bp bm pu l (putD D x.task i) W' ∧ Kept (fun _ t => t.isSome) W W' := by
  obtain ⟨o, ho⟩ : ∃ o, o = Obj.cells #[.int .i64 x.task, .bool x.front, .int .i64 x.due, .int .i64 x.nth] 63 (0, 0) := ⟨_, rfl⟩
  obtain ⟨W1, hW1⟩ : ∃ W1, W1 = W.alloc o := ⟨_, rfl⟩
  have hE : Ext W W1 := by rw [hW1]; exact Ext.one _ _
  have h' := h.ext hE
  obtain ⟨v, h1, h2, h3⟩ := h'.qb
  have h4 := h'.bpb
  have c0 : W1.cell? ⟨bp, 0, none⟩ = some (.pointer (some ⟨bq, 0, none⟩)) := by simp [World.cell?, h4]
  have c1 : W1.cell? ⟨bq, 1, none⟩ = some (.map (some bm)) := by simp [World.cell?, h1]
  have hb : W1.heap[W.heap.size]? = some o := by rw [hW1]; exact World.alloc_heap_new _ _
  have c2 : W1.cell? ⟨W.heap.size, 0, none⟩ = some (.int .i64 x.task) := by simp [World.cell?, hb, ho]
  have hlt : bq < W1.heap.size := (Array.getElem?_eq_some_iff.1 h1).1
  have HW := Lib.hid hW1
  have HO := Lib.hid ho
  have HH := Lib.hid h'
  have HE := Lib.hid hE
  have hbm : ∀ o, W1.drew.heap[bm]? = some o → tag o = none := fun o ho => by
    obtain ⟨es, clock, h10, _⟩ := h'.mp
    have ho' : W1.heap[bm]? = some o := ho
    rw [h10] at ho'; cases ho'; rfl
  have HB := Lib.hid hbm
  clear hbm
  have hmp := h'.mp
  clear h h1 h2 h3 h4 hE hb h' hW1 ho
  unfold Ent.val
  go_enter Try.func48, Try.ntmps48
  go_wp2_with fail
  change Code.wp _ _ _ _ (W.alloc (Obj.cells #[.int .i64 x.task, .bool x.front, .int .i64 x.due, .int .i64 x.nth] 63 (0, 0)))
  rw [← HO.out, ← HW.out]
  go_still_tail 8, (by kernel_rfl)
  change wpList _ _ _ _ _ W1.drew
  at_mapUpdate
  refine wpList_mapUpdate_own _ rfl _ _ _ 57 rfl 3 3 law3 Try.underlying57 (plainElem Try.prog 3) bm _ D rfl hmp.drew (Nat.lt_of_lt_of_le hn (by decide)) (.int .i64 x.task) (.int .i64 i) (tk x.task) rfl rfl (key_of hx) (.lit (tk i)) [] (Go.plainElem_int Try.underlying3 (wf_of ⟨by omega, by omega⟩)) ?_
  intro w1 hown1 hgrow1
  go_wp2_with fail
  go_end0
  exact ⟨rfl, (HH.out.ext (Ext.drew _)).mapped hgrow1 hown1, (HE.out.kept _).trans ((Kept.drew _ _).trans (Kept.grown hgrow1 fun j o e ho => by injection e with e; subst e; rw [HB.out o ho]; rfl))⟩
end
end Go.Proofs.Ytmbdglolpagjdaa
