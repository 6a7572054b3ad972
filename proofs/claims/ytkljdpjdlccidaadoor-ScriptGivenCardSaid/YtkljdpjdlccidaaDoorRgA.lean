/- A region that draws its order: a head, each of whose operations gives what is good and only makes memory, then a tail in one order. Each operation is looked at once, not each order. Of no law of its own. -/
import Derived.Test.YtkljdpjdlccidaaDoorHqA
import Derived.StillTail
import Derived.OrdersIn
import Derived.RegionTactic
namespace Go.Proofs.YtkljdpjdlccidaaDoor
open Go.RowKit
section
variable {P : Program} {ops : Array Oper} {Q : Exit → Act → World → Prop}
/-- What the head does not write is as it was. -/
def Fr (ops : Array Oper) (n : Nat) (fr : Array Value) (a : Act) : Prop := a.defers = [] ∧ a.tmps.size = fr.size ∧ ∀ k, ((ops.toList.take n).all fun o => o.dst != some k) = true → a.tmps.getD k undef = fr.getD k undef
/-- What an operation has given is good. -/
def Got (ops : Array Oper) (G : Nat → Value → World → Prop) (j : Nat) (a : Act) (w : World) : Prop := ∃ d, (ops[j]?).bind (·.dst) = some d ∧ G j (a.tmps.getD d undef) w
/-- Inv, G: what holds of the world, what an operation has given is good for, ahead of the one operation s that may turn old memory (false) and behind it (true). -/
structure RgInv (ops : Array Oper) (n s : Nat) (fr : Array Value) (G : Bool → Nat → Value → World → Prop) (Inv : Bool → World → Prop) (listed : Array Bool) (a : Act) (w : World) : Prop where
  head : HeadInv .any ops n listed
  inv : Inv (listed.getD s false) w
  fr : Fr ops n fr a
  got : ∀ j, listed.getD j false = true → Got ops (G (listed.getD s false)) j a w
/-- What is asked of the operations of the head. -/
structure RgOps (P : Program) (ops : Array Oper) (n s : Nat) (fr : Array Value) (G : Bool → Nat → Value → World → Prop) (Inv : Bool → World → Prop) (wpOne : Oper → Act → World → (Act → World → Prop) → Prop) : Prop where
  sink : Region.sinkB .any ops n = true
  chain : Region.chainB .any ops n = true
  lt : n < ops.size
  guard : ∀ (i : Nat) (o : Oper), i < n → ops[i]? = some o → ∀ f a w, (∀ e ∈ o.after, Region.binds .any e = true → Got ops (G f) e.on a w) → Region.wanted o (yielded ops a.tmps) = true
  dst : ∀ (i : Nat) (o : Oper), i < n → ops[i]? = some o → ∃ d, o.dst = some d ∧ d < fr.size
  nd : ∀ (i j : Nat) (o o' : Oper), i < n → j < n → ops[i]? = some o → ops[j]? = some o' → i ≠ j → o.dst ≠ o'.dst
  lex : ∀ (i : Nat) (o : Oper), i < n → ops[i]? = some o → ∀ e ∈ o.after, e.on < i
  seq : Region.seqB .any ops (ops.size - n) n ((List.range ops.size).map fun i => decide (i < n)).toArray = true
  mono : ∀ f j v w w', G f j v w → Ext w w' → G f j v w'
  imono : ∀ f w w', Inv f w → Ext w w' → Inv f w'
  op : ∀ (i : Nat) (o : Oper), i < n → i ≠ s → ops[i]? = some o → ∀ f a w, Fr ops n fr a → Inv f w → (∀ e ∈ o.after, Region.binds .any e = true → Got ops (G f) e.on a w) → ∀ K : Act → World → Prop, (∀ v w', G f i v w' → Ext w w' → K (a.put o.dst v) w') → wpOne o a w K
  sp : ∀ o : Oper, s < n → ops[s]? = some o → ∀ a w, Fr ops n fr a → Inv false w → (∀ e ∈ o.after, Region.binds .any e = true → Got ops (G false) e.on a w) → ∀ K : Act → World → Prop, (∀ v w', G true s v w' → Inv true w' → (∀ j u, j ≠ s → G false j u w → G true j u w') → K (a.put o.dst v) w') → wpOne o a w K
theorem heads_of {n : Nat} {listed : Array Bool} (hi : HeadInv .any ops n listed) (hl : ∀ i, i < n → listed.getD i true = true) : listed = ((List.range ops.size).map fun i => decide (i < n)).toArray := by
  apply Array.ext
  · simp [hi.size]
  · intro i h1 h2
    have h3 : i < ops.size := by rw [← hi.size]; exact h1
    simp only [List.getElem_toArray, List.getElem_map, List.getElem_range]
    by_cases h : i < n
    · have := hl i h
      simp [h1] at this
      simp [this, h]
    · have := hi.tail i (by omega) h3
      simp [h1] at this
      simp [this, h]
theorem count_set {l : List Bool} {i m : Nat} (hi : l[i]? = some false) (h : l.count false = m + 1) : (l.set i true).count false = m := by
  induction l generalizing i m with
  | nil => simp at hi
  | cons x r ih =>
    cases i with
    | zero =>
      simp at hi
      subst hi
      simp at h ⊢
      exact h
    | succ i =>
      simp at hi
      rw [List.set_cons_succ, List.count_cons]
      rw [List.count_cons] at h
      have hpos : 0 < r.count false := List.count_pos_iff.2 (List.mem_of_getElem? hi)
      cases x with
      | true =>
        simp at h ⊢
        exact ih hi h
      | false =>
        simp at h ⊢
        cases m with
        | zero => omega
        | succ m => rw [ih (m := m) hi (by omega)]
theorem fr_put {n : Nat} {fr : Array Value} {a : Act} (h : Fr ops n fr a) {i d : Nat} (hin : i < n) {o : Oper} (ho : ops[i]? = some o) (hd : o.dst = some d) (v : Value) : Fr ops n fr (a.put o.dst v) := by
  have hput : a.put o.dst v = { a with tmps := a.tmps.setIfInBounds d v } := by rw [hd]; rfl
  rw [hput]
  refine ⟨h.1, by simp [h.2.1], fun k hk => ?_⟩
  have hne : d ≠ k := fun e => by
    have hm : o ∈ ops.toList.take n := by
      refine List.mem_of_getElem? (i := i) ?_
      rw [List.getElem?_take, if_pos hin]; simpa using ho
    have := List.all_eq_true.1 hk o hm
    rw [hd, e] at this
    simp at this
  rw [← h.2.2 k hk]
  simp [Array.getElem?_setIfInBounds_ne hne]
/-- One step of the head. -/
theorem rg_step {n s : Nat} {fr : Array Value} {G : Bool → Nat → Value → World → Prop} {Inv : Bool → World → Prop} {wpOne : Oper → Act → World → (Act → World → Prop) → Prop} (H : RgOps P ops n s fr G Inv wpOne) {listed : Array Bool} {a : Act} {w : World} (hI : RgInv ops n s fr G Inv listed a w) {i : Nat} (hi : i ∈ Region.ready .any ops listed) (hin : i < n) {o : Oper} (ho : ops[i]? = some o) {K : Act → World → Prop}
    (hK : ∀ v w', RgInv ops n s fr G Inv (listed.setIfInBounds i true) (a.put o.dst v) w' → K (a.put o.dst v) w') : wpOne o a w K := by
  obtain ⟨h0, o', ho', hall⟩ := mem_ready.1 hi
  rw [ho] at ho'
  obtain rfl := Option.some.inj ho'
  obtain ⟨d, hd, hds⟩ := H.dst i o hin ho
  have hdeps := fun e (he : e ∈ o.after) hb => hI.got _ (hall e he hb)
  have hput : ∀ v, a.put o.dst v = { a with tmps := a.tmps.setIfInBounds d v } := fun v => by rw [hd]; rfl
  have hsz : d < a.tmps.size := by rw [hI.fr.2.1]; exact hds
  have hil : i < listed.size := by
    rw [hI.head.size]
    exact (Array.getElem?_eq_some_iff.1 ho).1
  have other : ∀ j, j ≠ i → (listed.setIfInBounds i true).getD j false = true → ∃ d', (ops[j]?).bind (·.dst) = some d' ∧ (∀ v, (a.put o.dst v).tmps.getD d' undef = a.tmps.getD d' undef) ∧ listed.getD j false = true := fun j hji hj => by
    rw [getD_set_ne false (Ne.symm hji)] at hj
    have hjn : j < n := by
      rcases Nat.lt_or_ge j n with h | h
      · exact h
      · exfalso
        have hjs : j < ops.size := by
          rcases Nat.lt_or_ge j ops.size with h' | h'
          · exact h'
          · rw [← hI.head.size] at h'; simp [Array.getElem?_eq_none h'] at hj
        have h2 := hI.head.tail j h hjs
        have h3 : j < listed.size := by rw [hI.head.size]; exact hjs
        simp [h3] at h2 hj
        rw [h2] at hj; cases hj
    obtain ⟨d', hd', _⟩ := hI.got j hj
    refine ⟨d', hd', fun v => ?_, hj⟩
    have hne : d ≠ d' := fun e => by
      cases hoj : ops[j]? with
      | none => rw [hoj] at hd'; cases hd'
      | some o' =>
        rw [hoj] at hd'
        exact H.nd i j o o' hin hjn ho hoj (Ne.symm hji) (by rw [hd, e]; exact hd'.symm)
    rw [hput]
    simp [Array.getElem?_setIfInBounds_ne hne]
  have mine : ∀ v, (a.put o.dst v).tmps.getD d undef = v := fun v => by rw [hput]; simp [hsz]
  by_cases his : i = s
  · subst his
    have hf0 : listed.getD i false = false := getD_both h0
    have hf1 : (listed.setIfInBounds i true).getD i false = true := by simp [hil]
    have hinv := hI.inv
    rw [hf0] at hinv hdeps
    refine H.sp o hin ho a w hI.fr hinv hdeps K fun v w' hG hI' hT => hK _ _ ⟨hI.head.set hi hin, by rw [hf1]; exact hI', fr_put hI.fr hin ho hd v, fun j hj => ?_⟩
    rw [hf1]
    by_cases hji : j = i
    · subst hji
      exact ⟨d, by rw [ho]; exact hd, by rw [mine]; exact hG⟩
    · obtain ⟨d', hd', e', hjl⟩ := other j hji hj
      obtain ⟨d2, hd2, hG'⟩ := hI.got j hjl
      rw [hd'] at hd2
      obtain rfl := Option.some.inj hd2
      rw [hf0] at hG'
      exact ⟨d', hd', by rw [e']; exact hT j _ hji hG'⟩
  · have hfe : (listed.setIfInBounds i true).getD s false = listed.getD s false := getD_set_ne false his
    refine H.op i o hin his ho _ a w hI.fr hI.inv hdeps K fun v w' hG hb => hK _ _ ⟨hI.head.set hi hin, by rw [hfe]; exact H.imono _ _ _ hI.inv hb, fr_put hI.fr hin ho hd v, fun j hj => ?_⟩
    rw [hfe]
    by_cases hji : j = i
    · subst hji
      exact ⟨d, by rw [ho]; exact hd, by rw [mine]; exact hG⟩
    · obtain ⟨d', hd', e', hjl⟩ := other j hji hj
      obtain ⟨d2, hd2, hG'⟩ := hI.got j hjl
      rw [hd'] at hd2
      obtain rfl := Option.some.inj hd2
      exact ⟨d', hd', by rw [e']; exact H.mono _ j _ _ _ hG' hb⟩
/-- While an operation of the head is to come, what may come up is of the head; and there is such a one. -/
theorem rg_ready {n : Nat} {listed : Array Bool} (hs : Region.sinkB .any ops n = true) (hc : Region.chainB .any ops n = true) (hn : n < ops.size) (hlex : ∀ (i : Nat) (o : Oper), i < n → ops[i]? = some o → ∀ e ∈ o.after, e.on < i) (hi : HeadInv .any ops n listed) {j : Nat} (hj : j < n) (hu : listed.getD j true = false) :
    (∀ i, i ∈ Region.ready .any ops listed → i < n) ∧ Region.ready .any ops listed ≠ [] := by
  refine ⟨fun i hir => ?_, fun h0 => ?_⟩
  · rcases Nat.lt_or_ge i n with h | h
    · exact h
    · exact absurd hir (tail_waits hs hc hn hi _ j rfl hj hu i h)
  · have key : ∀ k, k < n → listed.getD k false = true := by
      intro k
      induction k using Nat.strongRecOn with
      | ind k ih =>
        intro hk
        cases h : listed.getD k true with
        | true =>
          have hl : k < listed.size := by rw [hi.size]; omega
          simp [hl] at h ⊢
          exact h
        | false =>
          exfalso
          have ho : ops[k]? = some ops[k] := Array.getElem?_eq_getElem (by omega)
          have hm : k ∈ Region.ready .any ops listed := mem_ready.2 ⟨h, ops[k], ho, fun e he _ => by
            have hlt := hlex k _ hk ho e he
            exact ih e.on hlt (by omega)⟩
          rw [h0] at hm
          cases hm
    have h1 := key j hj
    have h2 := getD_both hu
    rw [h1] at h2; cases h2
theorem rg_left {n m : Nat} {listed : Array Bool} (hi : HeadInv .any ops n listed) (hn : n < ops.size) (hc : (listed.toList.take n).count false = m + 1) : ∃ j, j < n ∧ listed.getD j true = false := by
  have : false ∈ listed.toList.take n := List.count_pos_iff.1 (by omega)
  obtain ⟨j, hj, e⟩ := List.getElem_of_mem this
  rw [List.length_take] at hj
  have h1 : j < listed.size := by rw [hi.size]; omega
  rw [List.getElem_take] at e
  exact ⟨j, by omega, by simpa [h1] using e⟩
theorem rg_none {n : Nat} {listed : Array Bool} (hi : HeadInv .any ops n listed) (hn : n < ops.size) (hc : (listed.toList.take n).count false = 0) : ∀ j, j < n → listed.getD j true = true := fun j hj => by
  have h1 : j < listed.size := by rw [hi.size]; omega
  cases h : listed[j] with
  | true => simp [h1, h]
  | false =>
    have : false ∈ listed.toList.take n := by
      refine List.mem_of_getElem? (i := j) ?_
      rw [List.getElem?_take, if_pos hj]
      simp [h1, h]
    have := List.count_pos_iff.2 this
    omega
theorem rg_count {n i m : Nat} {listed : Array Bool} (hi : HeadInv .any ops n listed) (hn : n < ops.size) (hin : i < n) (hu : listed.getD i true = false) (hc : (listed.toList.take n).count false = m + 1) : ((listed.setIfInBounds i true).toList.take n).count false = m := by
  have h1 : i < listed.size := by rw [hi.size]; omega
  rw [Array.toList_setIfInBounds, List.take_set]
  refine count_set ?_ hc
  rw [List.getElem?_take, if_pos hin]
  simp [h1] at hu
  simp [h1, hu]
theorem rg_flag {n s : Nat} {listed : Array Bool} (hi : HeadInv .any ops n listed) (hn : n < ops.size) (hall : ∀ j, j < n → listed.getD j true = true) : listed.getD s false = decide (s < n) := by
  rw [heads_of hi hall]
  by_cases h : s < ops.size
  · simp [h]
  · simp [h]; omega
theorem wpAny_grow {n s : Nat} {fr : Array Value} {G : Bool → Nat → Value → World → Prop} {Inv : Bool → World → Prop} (H : RgOps P ops n s fr G Inv fun o a w K => Oper.wp P o a w K Q)
    (hfin : ∀ a w, Fr ops n fr a → Inv (decide (s < n)) w → (∀ j, j < n → Got ops (G (decide (s < n))) j a w) → wpList P ops Q (ops.toList.drop n) a w) :
    ∀ (m : Nat) (listed : Array Bool) (a : Act) (w : World), RgInv ops n s fr G Inv listed a w → (listed.toList.take n).count false = m → wpAny P .any ops Q (m + (ops.size - n)) listed a w
  | 0, listed, a, w, hI, hc => by
    have hall := rg_none hI.head H.lt hc
    have hfl := rg_flag (s := s) hI.head H.lt hall
    have hinv := hI.inv
    have hgot := hI.got
    rw [hfl] at hinv hgot
    have hf := hfin a w hI.fr hinv fun j hj => hgot j (by
      have h1 : j < listed.size := by rw [hI.head.size]; have := H.lt; omega
      have := hall j hj
      simp [h1] at this ⊢; exact this)
    have hlen : (ops.toList.drop n).length = ops.size - n := by simp
    rw [Nat.zero_add, ← hlen]
    refine wpAny_of_seq _ n listed a w (fun j => by simp [List.getElem?_drop]) ?_ hf
    rw [hlen, heads_of hI.head hall]
    exact H.seq
  | m + 1, listed, a, w, hI, hc => by
    obtain ⟨j, hj, hu⟩ := rg_left hI.head H.lt hc
    obtain ⟨hr1, hr2⟩ := rg_ready H.sink H.chain H.lt H.lex hI.head hj hu
    rw [show m + 1 + (ops.size - n) = (m + (ops.size - n)) + 1 by omega]
    refine ⟨fun h => absurd h hr2, fun i hi => ?_⟩
    have hin := hr1 i hi
    obtain ⟨h0, o, ho, hall⟩ := mem_ready.1 hi
    have hg := H.guard i o hin ho _ a w fun e he hb => hI.got _ (hall e he hb)
    unfold wpOp
    simp only [ho]
    rw [if_pos hg]
    refine .inl ?_
    exact rg_step H hI hi hin ho fun v w' hI' => wpAny_grow H hfin m _ _ _ hI' (rg_count hI.head H.lt hin h0 hc)
theorem nodup_dst {l : List Oper} : ∀ {i j : Nat} {o o' : Oper}, (l.map (·.dst)).Nodup → l[i]? = some o → l[j]? = some o' → i ≠ j → o.dst ≠ o'.dst := by
  intro i j o o' h hi hj hne e
  have h1 : (l.map (·.dst))[i]? = some o.dst := by rw [List.getElem?_map, hi]; rfl
  have h2 : (l.map (·.dst))[j]? = some o.dst := by rw [List.getElem?_map, hj, e]; rfl
  obtain ⟨l1, e1⟩ := List.getElem?_eq_some_iff.1 h1
  obtain ⟨l2, e2⟩ := List.getElem?_eq_some_iff.1 h2
  rcases Nat.lt_or_ge i j with hlt | hge
  · exact (List.pairwise_iff_getElem.1 h i j l1 l2 hlt) (by rw [e1, e2])
  · exact (List.pairwise_iff_getElem.1 h j i l2 l1 (by omega)) (by rw [e1, e2])
/-- What can be reckoned of a written-out region. -/
def rgB (ops : Array Oper) (n s : Nat) : Bool := Region.sinkB .any ops n && Region.chainB .any ops n && decide (n < ops.size) && ((ops.toList.take n).all fun o => o.guard.isNone) && ((ops.toList.take n).all fun o => match o.dst with | some d => decide (d < s) | none => false) && decide ((ops.toList.take n).map (·.dst)).Nodup &&
  ((List.range n).all fun i => ((ops[i]?).map fun o => o.after.all fun e => decide (e.on < i)).getD true) && Region.seqB .any ops (ops.size - n) n ((List.range ops.size).map fun i => decide (i < n)).toArray
theorem RgOps.of {n s z : Nat} {fr : Array Value} {G : Bool → Nat → Value → World → Prop} {Inv : Bool → World → Prop} {wpOne : Oper → Act → World → (Act → World → Prop) → Prop} (h : rgB ops n z = true) (hz : fr.size = z) (mono : ∀ f j v w w', G f j v w → Ext w w' → G f j v w') (imono : ∀ f w w', Inv f w → Ext w w' → Inv f w')
    (op : ∀ (i : Nat) (o : Oper), i < n → i ≠ s → ops[i]? = some o → ∀ f a w, Fr ops n fr a → Inv f w → (∀ e ∈ o.after, Region.binds .any e = true → Got ops (G f) e.on a w) → ∀ K : Act → World → Prop, (∀ v w', G f i v w' → Ext w w' → K (a.put o.dst v) w') → wpOne o a w K)
    (sp : ∀ o : Oper, s < n → ops[s]? = some o → ∀ a w, Fr ops n fr a → Inv false w → (∀ e ∈ o.after, Region.binds .any e = true → Got ops (G false) e.on a w) → ∀ K : Act → World → Prop, (∀ v w', G true s v w' → Inv true w' → (∀ j u, j ≠ s → G false j u w → G true j u w') → K (a.put o.dst v) w') → wpOne o a w K) : RgOps P ops n s fr G Inv wpOne := by
  subst hz
  simp only [rgB, Bool.and_eq_true] at h
  obtain ⟨⟨⟨⟨⟨⟨⟨h1, h2⟩, h3⟩, h4⟩, h5⟩, h6⟩, h7⟩, h8⟩ := h
  have mem : ∀ {i : Nat} {o : Oper}, i < n → ops[i]? = some o → (ops.toList.take n)[i]? = some o := fun hi ho => by
    rw [List.getElem?_take, if_pos hi]; simpa using ho
  refine ⟨h1, h2, of_decide_eq_true h3, fun i o hi ho => ?_, fun i o hi ho => ?_, fun i j o o' hi hj ho ho' hne => nodup_dst (of_decide_eq_true h6) (mem hi ho) (mem hj ho') hne, fun i o hi ho e he => ?_, h8, mono, imono, op, sp⟩
  · have := List.all_eq_true.1 h4 o (List.mem_of_getElem? (mem hi ho))
    have hg : o.guard = none := by simpa using this
    intro f a w _
    simp [Region.wanted, hg]
  · have := List.all_eq_true.1 h5 o (List.mem_of_getElem? (mem hi ho))
    cases hod : o.dst with
    | none => rw [hod] at this; cases this
    | some d =>
      rw [hod] at this
      exact ⟨d, rfl, by simpa using this⟩
  · have := List.all_eq_true.1 h7 i (List.mem_range.2 hi)
    rw [ho] at this
    have h1 : (o.after.all fun e => decide (e.on < i)) = true := this
    exact of_decide_eq_true (Array.all_eq_true_iff_forall_mem.1 h1 e he)
/-- What stands in a slot by which a guard is decided. -/
theorem yielded_of {G : Nat → Value → World → Prop} {j : Nat} {a : Act} {w : World} {b : Bool} (h : Got ops G j a w) (hG : ∀ v w, G j v w → v = .bool b) : yielded ops a.tmps j = some b := by
  obtain ⟨d, hd, hg⟩ := h
  have e := hG _ _ hg
  unfold yielded
  rw [hd, Option.bind_some]
  rcases Nat.lt_or_ge d a.tmps.size with hl | hl
  · rw [Array.getElem?_eq_getElem hl]
    simp [hl] at e
    rw [e]
  · simp [Array.getElem?_eq_none hl, undef] at e
/-- As rgB, of a region with guards: gv tells what decides them. -/
def rgG (ops : Array Oper) (n s : Nat) (gv : Nat → Option Bool) : Bool := Region.sinkB .any ops n && Region.chainB .any ops n && decide (n < ops.size) && ((ops.toList.take n).all fun o => match o.guard with | none => true | some (j, b) => gv j == some b && o.after.any fun e => Region.binds .any e && e.on == j) && ((ops.toList.take n).all fun o => match o.dst with | some d => decide (d < s) | none => false) && decide ((ops.toList.take n).map (·.dst)).Nodup &&
  ((List.range n).all fun i => ((ops[i]?).map fun o => o.after.all fun e => decide (e.on < i)).getD true) && Region.seqB .any ops (ops.size - n) n ((List.range ops.size).map fun i => decide (i < n)).toArray
theorem RgOps.ofG {n z : Nat} {fr : Array Value} {G : Nat → Value → World → Prop} {Inv : World → Prop} {wpOne : Oper → Act → World → (Act → World → Prop) → Prop} (gv : Nat → Option Bool) (h : rgG ops n z gv = true) (hz : fr.size = z) (hgv : ∀ j b, gv j = some b → ∀ v w, G j v w → v = .bool b) (mono : ∀ j v w w', G j v w → Ext w w' → G j v w') (imono : ∀ w w', Inv w → Ext w w' → Inv w')
    (op : ∀ (i : Nat) (o : Oper), i < n → ops[i]? = some o → ∀ a w, Fr ops n fr a → Inv w → (∀ e ∈ o.after, Region.binds .any e = true → Got ops G e.on a w) → ∀ K : Act → World → Prop, (∀ v w', G i v w' → Ext w w' → K (a.put o.dst v) w') → wpOne o a w K) : RgOps P ops n n fr (fun _ => G) (fun _ => Inv) wpOne := by
  subst hz
  simp only [rgG, Bool.and_eq_true] at h
  obtain ⟨⟨⟨⟨⟨⟨⟨h1, h2⟩, h3⟩, h4⟩, h5⟩, h6⟩, h7⟩, h8⟩ := h
  have mem : ∀ {i : Nat} {o : Oper}, i < n → ops[i]? = some o → (ops.toList.take n)[i]? = some o := fun hi ho => by
    rw [List.getElem?_take, if_pos hi]; simpa using ho
  refine ⟨h1, h2, of_decide_eq_true h3, fun i o hi ho => ?_, fun i o hi ho => ?_, fun i j o o' hi hj ho ho' hne => nodup_dst (of_decide_eq_true h6) (mem hi ho) (mem hj ho') hne, fun i o hi ho e he => ?_, h8, fun _ => mono, fun _ => imono, fun i o hi _ ho _ a w hF hI hD K hK => op i o hi ho a w hF hI hD K hK, fun o hs => absurd hs (Nat.lt_irrefl _)⟩
  · have := List.all_eq_true.1 h4 o (List.mem_of_getElem? (mem hi ho))
    intro f a w hD
    cases hg : o.guard with
    | none => simp [Region.wanted, hg]
    | some jb =>
      obtain ⟨j, b⟩ := jb
      rw [hg] at this
      simp only [Bool.and_eq_true, beq_iff_eq] at this
      obtain ⟨t1, t2⟩ := this
      obtain ⟨e, he, hb⟩ := Array.any_eq_true'.1 t2
      simp only [Bool.and_eq_true, beq_iff_eq] at hb
      have hy := yielded_of (b := b) (by rw [← hb.2]; exact hD e he hb.1) (hgv j b t1)
      simp [Region.wanted, hg, hy]
  · have := List.all_eq_true.1 h5 o (List.mem_of_getElem? (mem hi ho))
    cases hod : o.dst with
    | none => rw [hod] at this; cases this
    | some d =>
      rw [hod] at this
      exact ⟨d, rfl, by simpa using this⟩
  · have := List.all_eq_true.1 h7 i (List.mem_range.2 hi)
    rw [ho] at this
    have h1 : (o.after.all fun e => decide (e.on < i)) = true := this
    exact of_decide_eq_true (Array.all_eq_true_iff_forall_mem.1 h1 e he)
theorem rg_begin {n s : Nat} {fr : Array Value} {G : Bool → Nat → Value → World → Prop} {Inv : Bool → World → Prop} {a : Act} (hdf : a.defers = []) (hfr : fr = a.tmps) (hn : n < ops.size) {w : World} (hw : Inv false w) : RgInv ops n s fr G Inv (Array.replicate ops.size false) a w ∧ ((Array.replicate ops.size false).toList.take n).count false = n := by
  have rep : ∀ j, (Array.replicate ops.size false).getD j false = false := getD_replicate_false _
  refine ⟨⟨⟨by simp, fun j oj _ hl => (by rw [rep] at hl; cases hl), fun t _ ht => getD_in (by simpa using ht) (rep _)⟩, by rw [rep]; exact hw, ⟨hdf, by rw [hfr], fun _ _ => by rw [hfr]⟩, fun j hj => (by rw [rep] at hj; cases hj)⟩, ?_⟩
  simp
  omega
/-- A region from a world and a frame on. -/
theorem region_grow {id n s : Nat} {a : Act} {w : World} (hm : P.follows .mixedOrders = true) (G : Bool → Nat → Value → World → Prop) (Inv : Bool → World → Prop) (hdf : a.defers = []) (hw : Inv false w.drew) (H : RgOps P ops n s a.tmps G Inv fun o a w K => Oper.wp P o a w K Q)
    (hfin : ∀ a' w', Fr ops n a.tmps a' → Inv (decide (s < n)) w' → (∀ j, j < n → Got ops (G (decide (s < n))) j a' w') → wpList P ops Q (ops.toList.drop n) a' w') : (Code.region id ops true).wp P Q a w := by
  refine wp_region_any hm ?_
  obtain ⟨h1, h2⟩ := rg_begin (G := G) (n := n) (s := s) hdf rfl H.lt hw
  have := wpAny_grow H hfin _ _ _ _ h1 h2
  rwa [show n + (ops.size - n) = ops.size by have := H.lt; omega] at this
/-- What an operation does alone it does in a round, too. -/
theorem wp_in {n l : Nat} {o : Oper} {a : Act} {w : World} {K : Act → World → Prop} (hd : ∀ c, o.op ≠ .defer c) (h : Oper.wp P o a w K Q) : Oper.wpIn (Fence.wide.inRound l) n P o a w K Q := by
  refine ⟨fun _ _ => trivial, ?_⟩
  rw [Oper.semAt_eq _ _ _ hd]
  unfold Oper.wp at h
  generalize (execOp a.eval o).run P w = r at h
  have hdep : (Fence.wide.inRound l).depth.isSome = true → 1 ≤ n := fun h => by simp [Fence.wide] at h
  cases r with
  | ok x w' =>
    cases x <;> simp only [Oper.upon] at h <;> simp only [Oper.uponIn]
    all_goals first
      | exact h
      | exact h.elim
      | exact ⟨hdep, calls_any h⟩
      | exact ⟨hdep, fun c cs _ => let ⟨v, w'', r, s⟩ := h c cs; ⟨v, w'', r, stepsIn_wide.2 s⟩⟩
  | halt x w' => cases x <;> simp only [Oper.upon] at h <;> simp only [Oper.uponIn] <;> exact h
/-- A row in a forced order. -/
theorem wpAnyIn_of_seq {F : Fence} {m : Nat} : ∀ (l : List Oper) (k : Nat) (listed : Array Bool) (a : Act) (w : World), (∀ j, l[j]? = ops[k + j]?) → Region.seqB .any ops l.length k listed = true → wpListIn F m P ops Q l a w → wpAnyIn F m P .any ops Q l.length listed a w
  | [], _, _, _, _, _, hB, h => ⟨by simpa [Region.seqB] using hB, h⟩
  | o :: l, k, listed, a, w, hl, hB, h => by
    have h0 : ops[k]? = some o := by simpa using (hl 0).symm
    simp only [List.length_cons, Region.seqB, Bool.and_eq_true, decide_eq_true_eq] at hB
    refine ⟨fun h1 => (by rw [hB.1] at h1; cases h1), fun i hi => ?_⟩
    rw [hB.1] at hi
    obtain rfl : i = k := by simpa using hi
    have hw : wpOpIn F m P ops Q i (wpListIn F m P ops Q l) a w := by
      unfold wpOpIn
      simp only [h0]
      exact h
    refine wpOpIn_mono (fun a' w' h' => wpAnyIn_of_seq l (i + 1) _ a' w' (fun j => ?_) hB.2 h') hw
    have := hl (j + 1)
    simpa [Nat.add_assoc, Nat.add_comm 1 j] using this
theorem wpAnyIn_grow {l p n s : Nat} {fr : Array Value} {G : Bool → Nat → Value → World → Prop} {Inv : Bool → World → Prop} (H : RgOps P ops n s fr G Inv fun o a w K => Oper.wp P o a w K Q) (hnd : ∀ (i : Nat) (o : Oper), i < n → ops[i]? = some o → ∀ c, o.op ≠ .defer c)
    (hfin : ∀ a w, Fr ops n fr a → Inv (decide (s < n)) w → (∀ j, j < n → Got ops (G (decide (s < n))) j a w) → wpListIn (Fence.wide.inRound l) p P ops Q (ops.toList.drop n) a w) :
    ∀ (m : Nat) (listed : Array Bool) (a : Act) (w : World), RgInv ops n s fr G Inv listed a w → (listed.toList.take n).count false = m → wpAnyIn (Fence.wide.inRound l) p P .any ops Q (m + (ops.size - n)) listed a w
  | 0, listed, a, w, hI, hc => by
    have hall := rg_none hI.head H.lt hc
    have hfl := rg_flag (s := s) hI.head H.lt hall
    have hinv := hI.inv
    have hgot := hI.got
    rw [hfl] at hinv hgot
    have hf := hfin a w hI.fr hinv fun j hj => hgot j (by
      have h1 : j < listed.size := by rw [hI.head.size]; have := H.lt; omega
      have := hall j hj
      simp [h1] at this ⊢; exact this)
    have hlen : (ops.toList.drop n).length = ops.size - n := by simp
    rw [Nat.zero_add, ← hlen]
    refine wpAnyIn_of_seq _ n listed a w (fun j => by simp [List.getElem?_drop]) ?_ hf
    rw [hlen, heads_of hI.head hall]
    exact H.seq
  | m + 1, listed, a, w, hI, hc => by
    obtain ⟨j, hj, hu⟩ := rg_left hI.head H.lt hc
    obtain ⟨hr1, hr2⟩ := rg_ready H.sink H.chain H.lt H.lex hI.head hj hu
    rw [show m + 1 + (ops.size - n) = (m + (ops.size - n)) + 1 by omega]
    refine ⟨fun h => absurd h hr2, fun i hi => ?_⟩
    have hin := hr1 i hi
    obtain ⟨h0, o, ho, hall⟩ := mem_ready.1 hi
    have hg := H.guard i o hin ho _ a w fun e he hb => hI.got _ (hall e he hb)
    unfold wpOpIn
    simp only [ho]
    rw [if_pos hg]
    refine wp_in (hnd i o hin ho) ?_
    exact rg_step H hI hi hin ho fun v w' hI' => wpAnyIn_grow H hnd hfin m _ _ _ hI' (rg_count hI.head H.lt hin h0 hc)
def noDefer (ops : Array Oper) (n : Nat) : Bool := (ops.toList.take n).all fun o => match o.op with | .defer _ => false | _ => true
/-- A region in a round, from a world and a frame on. -/
theorem region_grow_in {l p id n s : Nat} {a : Act} {w : World} (hm : P.follows .mixedOrders = true) (G : Bool → Nat → Value → World → Prop) (Inv : Bool → World → Prop) (hdf : a.defers = []) (hw : Inv false w.drew) (hnd : noDefer ops n = true) (H : RgOps P ops n s a.tmps G Inv fun o a w K => Oper.wp P o a w K Q)
    (hfin : ∀ a' w', Fr ops n a.tmps a' → Inv (decide (s < n)) w' → (∀ j, j < n → Got ops (G (decide (s < n))) j a' w') → wpListIn (Fence.wide.inRound l) p P ops Q (ops.toList.drop n) a' w') : (Code.region id ops true).wpIn (Fence.wide.inRound l) p P Q a w := by
  refine wpIn_region_any hm ?_
  obtain ⟨h1, h2⟩ := rg_begin (G := G) (n := n) (s := s) hdf rfl H.lt hw
  have := wpAnyIn_grow H (fun i o hi ho c hc => by
    have hm : o ∈ ops.toList.take n := by
      refine List.mem_of_getElem? (i := i) ?_
      rw [List.getElem?_take, if_pos hi]; simpa using ho
    have := List.all_eq_true.1 hnd o hm
    rw [hc] at this; cases this) hfin _ _ _ _ h1 h2
  rwa [show n + (ops.size - n) = ops.size by have := H.lt; omega] at this
end
end Go.Proofs.YtkljdpjdlccidaaDoor
