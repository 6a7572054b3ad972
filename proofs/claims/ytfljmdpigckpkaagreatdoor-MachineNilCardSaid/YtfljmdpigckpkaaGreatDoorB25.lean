/- Queue.Put that is refused; Queue.Drop; Queue.Drop; A machine of one task in memory, and what its steps change of it; What a machine is behind each change of its memory: a mark more, a task's cells, a looper's, a queue's, a global, the thread. -/
import Derived.Test.YtfljmdpigckpkaaGreatDoorB24
import Derived.Test.YtfljmdpigckpkaaGreatDoorB13
import Derived.Test.YtfljmdpigckpkaaGreatDoorB12
namespace Go.Proofs.YtfljmdpigckpkaaGreatDoor.QQ
open Go.RowKit Go.Shelf
attribute [local go_sem] Oper.semAt_some
section
variable {own : Nat → Bool} {bq bm bp : Nat} {l l' : List Ent} {pu : Int} {W w : World} {D : DM}
set_option maxHeartbeats 4000000 in
set_option maxRecDepth 100000 in
theorem Put_twice (h : QV own bq l pu W) (t d : Int) (f : Bool) (ht0 : 0 ≤ t) (ht1 : (Lit.int .i64 t).wf = true) (hd0 : 0 ≤ d) (hin : hasE l t = true) :
    Calls Tryz.prog 114 #[.pointer (some ⟨bq, 0, none⟩), .agg #[.int .i64 t, .bool f, .int .i64 d]] W fun e W' => e = .returned (.int .i64 7) ∧ Ext W W' := by
  obtain ⟨W1, hW1⟩ : ∃ W1, W1 = W.alloc (itmo t f d) := ⟨_, rfl⟩
  have hE1 : Ext W W1 := by rw [hW1]; exact Ext.one _ _
  have hr0 : W1.heap[W.heap.size]? = some (itmo t f d) := by rw [hW1]; exact World.alloc_heap_new _ _
  have hhas := has_ok (h.ext hE1) t ht1
  rw [hin] at hhas
  obtain ⟨⟨x0, x1, x2⟩, _, _⟩ := itmo_cells hr0
  have HE1 := Lib.hid hE1
  have HW := Lib.hid hW1
  have HHAS := Lib.hid hhas
  clear h hE1 hr0 hW1 hhas hin
  go_enter Tryz.func114, Tryz.ntmps114
  go_upto_region 1 with (fail)
  change Code.wp _ _ _ _ (W.alloc (itmo t f d))
  rw [← HW.out]
  go_wp2_with (go_at_call 180; refine HHAS.out.mono ?_; rintro e w2 ⟨rfl, rfl⟩)
  go_ret
  exact ⟨rfl, HE1.out⟩
set_option maxHeartbeats 4000000 in
set_option maxRecDepth 100000 in
theorem Put_bad (W : World) (bq : Nat) (t d : Int) (f : Bool) (hb : t < 0 ∨ d < 0) :
    Calls Tryz.prog 114 #[.pointer (some ⟨bq, 0, none⟩), .agg #[.int .i64 t, .bool f, .int .i64 d]] W fun e W' => e = .returned (.int .i64 2) ∧ Ext W W' := by
  obtain ⟨W1, hW1⟩ : ∃ W1, W1 = W.alloc (itmo t f d) := ⟨_, rfl⟩
  have hE1 : Ext W W1 := by rw [hW1]; exact Ext.one _ _
  have hr0 : W1.heap[W.heap.size]? = some (itmo t f d) := by rw [hW1]; exact World.alloc_heap_new _ _
  obtain ⟨⟨x0, x1, x2⟩, _, _⟩ := itmo_cells hr0
  have HE1 := Lib.hid hE1
  have HW := Lib.hid hW1
  clear hE1 hr0 hW1
  by_cases ht : t < 0
  · clear hb
    go_enter Tryz.func114, Tryz.ntmps114
    go_upto_region 1 with (fail)
    change Code.wp _ _ _ _ (W.alloc (itmo t f d))
    rw [← HW.out]
    go_wp2_with (fail)
    go_ret
    exact ⟨rfl, HE1.out⟩
  · have hd : d < 0 := hb.resolve_left ht
    clear hb
    go_enter Tryz.func114, Tryz.ntmps114
    go_upto_region 1 with (fail)
    change Code.wp _ _ _ _ (W.alloc (itmo t f d))
    rw [← HW.out]
    go_wp2_with (fail)
    go_ret
    exact ⟨rfl, HE1.out⟩

theorem CQ.dst (h : CQ l D) : Dst l := by
  unfold Dst
  rw [List.pairwise_iff_getElem]
  intro i j hi hj hij e
  rw [← nth_lt hi, ← nth_lt hj] at e
  have := h.inj hi hj e
  omega
theorem Con.cq_del {x : Ent} {nt : Int} (hc : Con l.length nt (fun t => ∃ i, i < l.length ∧ (nth l i).task = t) l' D) (hp : (x :: l').Perm l) (hx : x.task = nt) (hd : Dst l) : CQ l' (D.del (tk nt)) ∧ l'.Perm (drE l nt) := by
  have hlen := hp.length_eq
  have hd' : (x :: l').Pairwise fun a b => a.task ≠ b.task := (hp.pairwise_iff fun h => Ne.symm h).2 hd
  have hne : ∀ y, y ∈ l' → y.task ≠ nt := fun y hy e => (List.pairwise_cons.1 hd').1 y hy (by rw [hx, e])
  have hni : ∀ i, i < l'.length → (nth l' i).task ≠ nt := fun i hi => hne _ (nth_mem hi)
  refine ⟨⟨fun i hi => by rw [Maps.has_del_other (tk_ne (hni i hi))]; exact hc.has i hi, fun i hi => ?_, fun t ht => ?_, ?_, hc.rng, hc.tidy.del _⟩, ?_⟩
  · unfold at0
    rw [Maps.atKey_del_other (tk_ne (hni i hi))]
    exact hc.pos i hi
  · have htn : t ≠ nt := fun e => by subst e; rw [Maps.has_del_same] at ht; cases ht
    rw [Maps.has_del_other (tk_ne htn)] at ht
    obtain ⟨y, hy, e⟩ := mem_task.1 (hc.keys t ht)
    have := hp.mem_iff.2 hy
    rcases List.mem_cons.1 this with rfl | h
    · exact absurd (e.symm.trans hx) htn
    · exact mem_task.2 ⟨y, h, e⟩
  · have h1 := Maps.size_del (k := tk nt) hc.tidy
    have h2 := hc.size
    simp at hlen
    split at h1 <;> simp_all <;> omega
  · have h1 : (drE (x :: l') nt).Perm (drE l nt) := hp.filter _
    have h2 : drE (x :: l') nt = l' := by
      unfold drE
      rw [List.filter_cons, if_neg (by simp [hx])]
      exact List.filter_eq_self.2 fun y hy => by simpa using hne y hy
    rwa [h2] at h1
theorem QS.qv0 (h : QS (pQ own) W bq bp bm pu l' D w) (hc : CQ l' D) (hh : Heap eLt (nth l') l'.length) (hlen : l'.length ≤ 900000) :
    ∃ own', QV own' bq l' pu w ∧ Kept (pQ own) W w ∧ ∀ b, own' b = true → own b = true ∨ W.heap.size ≤ b := by
  obtain ⟨⟨v, h1, h2, h3⟩, h4, h5, h6, h7, h8, h9⟩ := h
  obtain ⟨es, clock, h10, _⟩ := id h5
  have mine : ∀ b t, Mine (pQ own) W b t → own b = true ∨ W.heap.size ≤ b := fun b t hm => by
    rcases Nat.lt_or_ge b W.heap.size with hl | hl
    · left; have := hm hl; simpa [pQ] using this
    · exact .inr hl
  have ow : ∀ b, ownB bq bm v b = true → b = bq ∨ b = bm ∨ v.ownBlock = some b := fun b hb => by
    unfold ownB at hb
    rcases Bool.or_eq_true_iff.1 hb with hb | hb
    · rcases Bool.or_eq_true_iff.1 hb with hb | hb
      · exact .inl (by simpa using hb)
      · exact .inr (.inl (by simpa using hb))
    · exact .inr (.inr (by simpa using hb))
  refine ⟨ownB bq bm v, ⟨⟨v, .map (some bm), h1, h2, fun g hv => by simp [ownB, hv], .inr ⟨bm, D, rfl, by simp [ownB], h5, hc⟩⟩, by simp [ownB], fun b hb' => ?_, hh, hlen⟩, h6, fun b hb' => ?_⟩
  · rcases ow b hb' with rfl | rfl | hv
    · exact ⟨_, h1, .inr (.inl rfl)⟩
    · exact ⟨_, h10, .inl rfl⟩
    · obtain ⟨o, k1, k2⟩ := own_is h2 b hv
      exact ⟨o, k1, .inr (.inr k2)⟩
  · rcases ow b hb' with rfl | rfl | hv
    · exact mine _ _ h7
    · exact mine _ _ h8
    · exact mine _ _ (h3 b hv)
/-- An entry goes, wherever it stands. -/
theorem remove_ok (h1 : QS (pQ own) W bq bp bm pu l D w) (hc : CQ l D) (hh : Heap eLt (nth l) l.length) {i : Nat} (hi : i < l.length) :
    Calls Tryz.prog 303 #[.iface 296 (pv bq bp), .int .i64 i] w fun e w2 => (∃ v, e = .returned v) ∧ ∃ l' D', (nth l i :: l').Perm l ∧ Heap eLt (nth l') l'.length ∧ QS (pQ own) W bq bp bm pu l' D' w2 ∧ Con l.length (nth l i).task (fun t => ∃ i, i < l.length ∧ (nth l i).task = t) l' D' := by
  have hs := h1.small
  have hI := hiE (p := pQ own) (W0 := W) (bq := bq) (bp := bp) (bm := bm) (pu := pu) (cp := l.length) (nt := (nth l i).task) (K := fun t => ∃ i, i < l.length ∧ (nth l i).task = t) ⟨i, hi, rfl⟩ (hc.rng i hi) (by omega)
  have hS : SE (pQ own) W bq bp bm pu l.length (nth l i).task (fun t => ∃ i, i < l.length ∧ (nth l i).task = t) l w := ⟨D, h1, hc.con_in hi⟩
  have fin : ∀ e w2, PopE (SE (pQ own) W bq bp bm pu l.length (nth l i).task (fun t => ∃ i, i < l.length ∧ (nth l i).task = t)) eLt 278 Ent.val l (nth l i) e w2 → (∃ v, e = .returned v) ∧ ∃ l' D', (nth l i :: l').Perm l ∧ Heap eLt (nth l') l'.length ∧ QS (pQ own) W bq bp bm pu l' D' w2 ∧ Con l.length (nth l i).task (fun t => ∃ i, i < l.length ∧ (nth l i).task = t) l' D' := fun e w2 h => by
    obtain ⟨h2, l', h3, h4, D', h5, h6⟩ := h
    exact ⟨⟨_, h2⟩, l', D', h3, h4, h5, h6⟩
  rcases Nat.lt_or_ge i (l.length - 1) with hl | hl
  · exact (hremove_ok hI l i (l.length - 1) w hS (by omega) hl hh).mono fin
  · have e : i = l.length - 1 := by omega
    have hr := hremove_last hI l (l.length - 1) w hS (by omega) hh
    rw [← e] at hr
    exact hr.mono fin
end
end Go.Proofs.YtfljmdpigckpkaaGreatDoor.QQ

namespace Go.Proofs.YtfljmdpigckpkaaGreatDoor.QQ
open Go.RowKit Go.Shelf
attribute [local go_sem] Oper.semAt_some
section
variable {own : Nat → Bool} {bq bm bp : Nat} {l l' : List Ent} {pu : Int} {W w : World} {D : DM}
/-- Where a task's entry stands, told by the map. -/
theorem look_ok (hm : w.ownsMap Tryz.prog 3 (plainElem Tryz.prog 3) bm (Maps.size D) D) (hc : CQ l D) {i : Nat} (hi : i < l.length) (ht : (Lit.int .i64 (nth l i).task).wf = true) :
    (Instr.lookup 214 (.map (some bm)) (.int .i64 (nth l i).task) false).run Tryz.prog w = .ok (.int .i64 i) w := by
  obtain ⟨c, hrun, hat, _⟩ := hm.lookup_int law3 Tryz.underlying214 Tryz.underlying3 (zeroI w) (key_wf ht)
  have hp := hc.pos i hi
  unfold at0 at hp
  rw [show (tk 0) = Lit.int .i64 0 from rfl, hat] at hp
  have e : c = i := by simpa [tk] using hp
  rw [hrun, e]
set_option maxHeartbeats 4000000 in
set_option maxRecDepth 100000 in
theorem Drop_ok (h : QV own bq l pu W) (task : Int) (ht : (Lit.int .i64 task).wf = true) :
    Calls Tryz.prog 259 #[.pointer (some ⟨bq, 0, none⟩), .int .i64 task] W fun e W' => e = .returned (.bool (hasE l task)) ∧ ∃ own' l', QV own' bq l' pu W' ∧ l'.Perm (drE l task) ∧ Kept (pQ own) W W' ∧ ∀ b, own' b = true → own b = true ∨ W.heap.size ≤ b := by
  have hhas := has_ok h task ht
  cases hb : hasE l task with
  | false =>
    rw [hb] at hhas
    have HH := Lib.hid h
    have HB := Lib.hid hb
    have HHAS := Lib.hid hhas
    clear h hb hhas
    go_enter Tryz.func259, Tryz.ntmps259
    go_wp2_with (go_at_call 180; refine HHAS.out.mono ?_; rintro e w2 ⟨rfl, rfl⟩)
    go_ret
    refine ⟨rfl, own, l, HH.out, ?_, Kept.refl _ _, fun b hb => .inl hb⟩
    have : drE l task = l := by
      refine List.filter_eq_self.2 fun x hx => ?_
      have := HB.out
      unfold hasE at this
      rw [List.any_eq_false] at this
      simpa using this x hx
    rw [this]
  | true =>
    rw [hb] at hhas
    obtain ⟨i, hi, hit⟩ := hasE_iff.1 hb
    subst hit
    obtain ⟨v, mv, h1, h2, h3, h4⟩ := h.ex
    rcases h4 with ⟨_, hl0⟩ | ⟨bm, D, rfl, hobm, hm, hc⟩
    · rw [hl0] at hi; simp at hi
    have hlt := (Array.getElem?_eq_some_iff.1 h1).1
    have c1 : W.cell? ⟨bq, 1, none⟩ = some (.map (some bm)) := by simp [World.cell?, h1]
    have hlook : ∀ w', Ext W w' → (Instr.lookup 214 (.map (some bm)) (.int .i64 (nth l i).task) false).run Tryz.prog w' = .ok (.int .i64 i) w' := fun w' hw => look_ok ((hw.kept (fun _ _ => true)).map hm rfl) hc hi ht
    have hlk0 := hlook _ (Ext.drew W)
    have hrem : ∀ w', Ext W w' → w'.heap[W.heap.size]? = some (.cells #[.pointer (some ⟨bq, 0, none⟩)] 171 (0, 0)) → Calls Tryz.prog 303 #[.iface 296 (pv bq W.heap.size), .int .i64 i] w' fun e w2 => (∃ v, e = .returned v) ∧ ∃ l' D', (nth l i :: l').Perm l ∧ Heap eLt (nth l') l'.length ∧ QS (pQ own) W bq W.heap.size bm pu l' D' w2 ∧ Con l.length (nth l i).task (fun t => ∃ i, i < l.length ∧ (nth l i).task = t) l' D' := fun w' hw hbp => by
      have hk := hw.kept (fun _ _ => true)
      exact remove_ok (QV.qs (hk.same _ _ h1 rfl) (hk.row h2 fun _ _ => rfl) (fun g hg => .inl (h3 g hg)) h.ob (.inl hobm) (hk.map hm rfl) (hw.kept _) h.len hbp) hc h.hp hi
    have hdst := hc.dst
    have HREM := Lib.hid hrem
    have HHAS := Lib.hid hhas
    have HLOOK := Lib.hid hlook
    have HDST := Lib.hid hdst
    have HKY := Lib.hid (key_wf ht)
    have HLEN := Lib.hid h.len
    generalize hx : nth l i = x at *
    clear h h1 h2 h3 hm hc hhas hrem hlook hdst hb ht hx
    go_enter Tryz.func259, Tryz.ntmps259
    go_upto_region 3 with (go_at_call 180; refine HHAS.out.mono ?_; rintro e w2 ⟨rfl, rfl⟩)
    go_region_with (first
      | (go_at_call 182; refine (pile_ok bq _).mono ?_; rintro e w4 ⟨rfl, hx4, hb4⟩; have hxx := (Ext.drew w2).trans hx4; have c14 := (hxx.kept (fun _ _ => true)).cell c1 (fun _ _ => rfl); have hl44 := hxx.size; have hlk4 := HLOOK.out _ hxx; have HXX := Lib.hid hxx; have HB4 := Lib.hid hb4; clear hxx hx4 hb4)
      | (go_at_call 303; refine (HREM.out _ HXX.out HB4.out).mono ?_; rintro e w5 ⟨⟨v5, rfl⟩, l', D2, hp5, hh5, hq5, hc5⟩; have HQ5 := Lib.hid hq5; have HP5 := Lib.hid hp5; have HH5 := Lib.hid hh5; have HC5 := Lib.hid hc5; clear hp5 hh5 hq5 hc5 c1 c14 hlk0 hlk4))
    all_goals
      obtain ⟨v6, q1, _, _⟩ := HQ5.out.qb
      have c15 : w5.cell? ⟨bq, 1, none⟩ = some (.map (some bm)) := by simp [World.cell?, q1]
      have hl5 := (Array.getElem?_eq_some_iff.1 q1).1
      clear q1
      go_wp2_with (at_delete; refine wpList_delete_own _ rfl _ _ 214 3 rfl 3 law3 Tryz.underlying214 (plainElem Tryz.prog 3) bm _ D2 rfl HQ5.out.mp (.int .i64 x.task) (tk x.task) rfl HKY.out ?_; intro w6 hown6 hturn6)
      go_ret
      obtain ⟨h7, h8⟩ := HC5.out.cq_del HP5.out rfl HDST.out
      have hlen := HP5.out.length_eq
      have hll := HLEN.out
      simp at hlen
      obtain ⟨own', r1, r2, r3⟩ := (HQ5.out.mapped hturn6.grown hown6).qv0 h7 HH5.out (by omega)
      exact ⟨rfl, own', l', r1, h8, r2, r3⟩
/-- What is left behind Take. -/
theorem duP_perm {now : Int} {E : List Ent} (ht : Tri l) (hp : E.Perm l) : duP now E = duP now l := by
  unfold duP
  rw [srt_congr ht hp]
theorem takeWhile_head {p : Ent → Bool} (L : List Ent) : (L.takeWhile p).head? = L.head?.filter p := by
  cases L with
  | nil => rfl
  | cons x r =>
    rw [List.takeWhile_cons]
    cases h : p x <;> simp [Option.filter, h]
theorem due_eq {now : Int} : ((srt l).takeWhile (dueAt now)).head? = duP now l := by
  rw [takeWhile_head]; rfl
theorem dueV_eq (o : Option Ent) : dueV o = dueW o := by cases o <;> rfl
end
end Go.Proofs.YtfljmdpigckpkaaGreatDoor.QQ

namespace Go.Proofs.YtfljmdpigckpkaaGreatDoor
open Go.RowKit Go.Shelf
theorem tagQ (o : Obj) : QQ.tag o = tag o := by cases o <;> rfl
theorem keptUp {p : Nat → Option TypeId → Bool} {w w' : World} (k : QQ.Kept p w w') : Kept p w w' := ⟨k.os, k.tape, k.output, k.size, fun b o hb hp => k.same b o hb (by rw [tagQ]; exact hp)⟩
theorem keptDn {p : Nat → Option TypeId → Bool} {w w' : World} (k : Kept p w w') : QQ.Kept p w w' := ⟨k.os, k.tape, k.output, k.size, fun b o hb hp => k.same b o hb (by rw [← tagQ]; exact hp)⟩
theorem extUp {w w' : World} (k : QQ.Ext w w') : Ext w w' := keptUp k
theorem extDn {w w' : World} (k : Ext w w') : QQ.Ext w w' := keptDn k
theorem nbQ {own : Nat → Bool} {b : Nat} {l : List QQ.Ent} {pu : Int} {w : World} {bq : Nat} {o : Obj} (h : QQ.QV own bq l pu w) (ho : w.heap[b]? = some o) (ht : tag o ≠ none ∧ tag o ≠ some 258 ∧ tag o ≠ some 278) : own b = false := by
  cases hb : own b with
  | false => rfl
  | true =>
    obtain ⟨o', h1, h2⟩ := h.tags b hb
    rw [ho] at h1
    cases h1
    rw [tagQ] at h2
    rcases h2 with h2 | h2 | h2
    · exact absurd h2 ht.1
    · exact absurd h2 ht.2.1
    · exact absurd h2 ht.2.2
/-- A mark. -/
structure Mk where
  kind : Int
  task : Int
  other : Int
  site : Int
  lk : Int
  la : Int
  lb : Int
  wr : Bool
def Mk.cells (x : Mk) : List Value := [.int .i64 x.kind, .int .i64 x.task, .int .i64 x.other, .int .i64 x.site, .int .i64 x.lk, .int .i64 x.la, .int .i64 x.lb, .bool x.wr]
def Mk.v (x : Mk) : Value := .agg #[.int .i64 x.kind, .int .i64 x.task, .int .i64 x.other, .int .i64 x.site, .int .i64 x.lk, .int .i64 x.la, .int .i64 x.lb, .bool x.wr]
/-- Where a machine lies. -/
structure Lay where
  bm : Nat
  bc : Nat
  bd : Nat
  bh : Nat
  gG : Nat
  cG : Nat
  gT : Nat
  cT : Nat
  gL : Nat
  cL : Nat
  b1 : Nat
  bt : Nat
  g : Nat
  bf : Nat
  gr : Nat
  l0 : Nat
  l1 : Nat
  q0 : Nat
  q1 : Nat
  pr : Prg
  lives : Value
  turned : Value
/-- What it is. -/
structure Sta where
  state : Int
  trap : Int
  th : Value
  G : List Int
  runs : Int
  e0 : List QQ.Ent
  M : List Mk
  lg : List Int
  steps : Int
  full : Bool
  thr : Option (Nat × List Int)
/-- The first task. -/
def tkv (s : Sta) : TV := ⟨1, 0, 0, 0, 0, 0, 0, false, 0, 0, 0, s.state, s.trap, -1, 0, s.th⟩
def mdeedL : List (Int × FuncId) := [(9, 138), (10, 139), (23, 140), (24, 141), (25, 142), (26, 143), (27, 144), (28, 145), (29, 146), (30, 147)]
def MVof (L : Lay) (s : Sta) (lv mv : Value) : MV := ⟨L.bc, L.pr, L.bd, L.bh, .slice (some ⟨L.gG, 0, none⟩) s.G.length L.cG, lv, L.lives, L.turned, .slice (some ⟨L.gT, 0, none⟩) 1 L.cT, .slice (some ⟨L.gL, 0, none⟩) 2 L.cL, mv, 0, s.steps, s.full⟩
structure MA (W3 : World) (L : Lay) (s : Sta) (w : World) : Prop where
  x3 : Ext W3 w
  m : ∃ lv mv, w.heap[L.bm]? = some (MVof L s lv mv).o ∧ w.ownsRow W3.heap.size 130 8 mv s.M.length (s.M.flatMap Mk.cells) ∧ w.ownsRow W3.heap.size 2 1 lv s.lg.length (rowV iV s.lg) ∧ ∀ b, lv.ownBlock = some b → b ≠ L.gG ∧ b ≠ L.gr
  d : w.heap[L.bd]? = some (dobj mdeedL)
  h : w.heap[L.bh]? = some heapo
  G : w.ownsRow W3.heap.size 2 1 (.slice (some ⟨L.gG, 0, none⟩) s.G.length L.cG) s.G.length (rowV iV s.G)
  T : w.ownsRow W3.heap.size 113 1 (.slice (some ⟨L.gT, 0, none⟩) 1 L.cT) 1 [.pointer (some ⟨L.b1, 0, none⟩)]
  t : w.heap[L.b1]? = some (tkv s).o
  P : w.ownsRow W3.heap.size 153 1 (.slice (some ⟨L.gL, 0, none⟩) 2 L.cL) 2 [.pointer (some ⟨L.l0, 0, none⟩), .pointer (some ⟨L.l1, 0, none⟩)]
  l0 : w.heap[L.l0]? = some (LV.mk s.runs L.q0).o
  l1 : w.heap[L.l1]? = some (LV.mk 0 L.q1).o
  q : ∃ own0 own1 pu pu1, QQ.QV own0 L.q0 s.e0 pu w ∧ QQ.QV own1 L.q1 [] pu1 w ∧ (∀ b, own0 b = true → own1 b = false ∧ b ≠ L.bd ∧ W3.heap.size ≤ b) ∧ ∀ b, own1 b = true → b ≠ L.bd
  tri : QQ.Tri s.e0
  lo : W3.heap.size ≤ L.bm ∧ W3.heap.size ≤ L.b1 ∧ W3.heap.size ≤ L.l0
  ne : L.l0 ≠ L.l1 ∧ L.gG ≠ L.gr
  th : ∀ k R, s.thr = some (k, R) → Th L.bt L.g L.bf L.gr L.bc ((0 : Nat) : Int) ((k : Nat) : Int) R 0 w ∧ Apart L.bt L.g L.bf L.gr w ∧ (W3.heap.size ≤ L.bt ∧ W3.heap.size ≤ L.g ∧ W3.heap.size ≤ L.bf ∧ W3.heap.size ≤ L.gr)
section
variable {W3 w w' : World} {L : Lay} {s : Sta}
theorem MA.ext (a : MA W3 L s w) (k : Ext w w') : MA W3 L s w' := by
  have kk := k.kept (fun _ _ => true)
  obtain ⟨lv, mv, m1, m2, m3, m4⟩ := a.m
  obtain ⟨o0, o1, p0, p1, q1, q2, q3⟩ := a.q
  exact ⟨a.x3.trans k, ⟨lv, mv, kk.same _ _ m1 rfl, kk.row m2 fun _ _ => rfl, kk.row m3 fun _ _ => rfl, m4⟩, kk.same _ _ a.d rfl, kk.same _ _ a.h rfl, kk.row a.G fun _ _ => rfl, kk.row a.T fun _ _ => rfl, kk.same _ _ a.t rfl, kk.row a.P fun _ _ => rfl, kk.same _ _ a.l0 rfl, kk.same _ _ a.l1 rfl,
    ⟨o0, o1, p0, p1, q1.ext (extDn k), q2.ext (extDn k), q3⟩, a.tri, a.lo, a.ne, fun k' R h => have := a.th k' R h; ⟨this.1.ext k, this.2.1.ext k.size, this.2.2⟩⟩
/-- Everything but what lies at the machine itself, its marks and its log: a change of blocks of other kinds leaves it. -/
structure MR (W3 : World) (L : Lay) (s : Sta) (w : World) : Prop where
  d : w.heap[L.bd]? = some (dobj mdeedL)
  h : w.heap[L.bh]? = some heapo
  G : w.ownsRow W3.heap.size 2 1 (.slice (some ⟨L.gG, 0, none⟩) s.G.length L.cG) s.G.length (rowV iV s.G)
  T : w.ownsRow W3.heap.size 113 1 (.slice (some ⟨L.gT, 0, none⟩) 1 L.cT) 1 [.pointer (some ⟨L.b1, 0, none⟩)]
  t : w.heap[L.b1]? = some (tkv s).o
  P : w.ownsRow W3.heap.size 153 1 (.slice (some ⟨L.gL, 0, none⟩) 2 L.cL) 2 [.pointer (some ⟨L.l0, 0, none⟩), .pointer (some ⟨L.l1, 0, none⟩)]
  l0 : w.heap[L.l0]? = some (LV.mk s.runs L.q0).o
  l1 : w.heap[L.l1]? = some (LV.mk 0 L.q1).o
  q : ∃ own0 own1 pu pu1, QQ.QV own0 L.q0 s.e0 pu w ∧ QQ.QV own1 L.q1 [] pu1 w ∧ (∀ b, own0 b = true → own1 b = false ∧ b ≠ L.bd ∧ W3.heap.size ≤ b) ∧ ∀ b, own1 b = true → b ≠ L.bd
  th : ∀ k R, s.thr = some (k, R) → Th L.bt L.g L.bf L.gr L.bc ((0 : Nat) : Int) ((k : Nat) : Int) R 0 w ∧ Apart L.bt L.g L.bf L.gr w ∧ (W3.heap.size ≤ L.bt ∧ W3.heap.size ≤ L.g ∧ W3.heap.size ≤ L.bf ∧ W3.heap.size ≤ L.gr)
theorem MA.r (a : MA W3 L s w) : MR W3 L s w := ⟨a.d, a.h, a.G, a.T, a.t, a.P, a.l0, a.l1, a.q, a.th⟩
/-- The block x is changed, of a kind that is none of these. -/
theorem MR.keep (a : MR W3 L s w) {x : Nat} {o : Obj} (hx : w.heap[x]? = some o) (k : Kept (ne' x) w w')
    (hn : tag o = some 70 ∨ tag o = some 130) : MR W3 L s w' := by
  have hs : ∀ b o', w.heap[b]? = some o' → tag o' ≠ some 70 → tag o' ≠ some 130 → w'.heap[b]? = some o' := fun b o' hb h1 h2 => k.same b o' hb (by
    simp only [ne', bne_iff_ne]
    refine tags_ne hb hx ?_
    rcases hn with e | e <;> rw [e] <;> assumption)
  have hr : ∀ {B n m : Nat} {e : TypeId} {v : Value} {xs : List Value}, w.ownsRow B e n v m xs → e ≠ 70 → e ≠ 130 → w'.ownsRow B e n v m xs := fun h h1 h2 => k.row h fun b hb => by
    obtain ⟨o', h3, h4⟩ := own_is h b hb
    simp only [ne', bne_iff_ne]
    refine tags_ne h3 hx ?_
    rw [h4]
    rcases hn with e | e <;> rw [e] <;> simp [h1, h2]
  obtain ⟨o0, o1, p0, p1, q1, q2, q3⟩ := a.q
  have hq : ∀ {own : Nat → Bool} {bq : Nat} {l : List QQ.Ent} {pu : Int}, QQ.QV own bq l pu w → QQ.QV own bq l pu w' := fun q => q.frame (keptDn k) fun b t hb => by
    have := nbQ q hx (by rcases hn with e | e <;> rw [e] <;> decide)
    simp only [ne', bne_iff_ne]
    rintro rfl
    rw [this] at hb
    cases hb
  refine ⟨hs _ _ a.d (by decide) (by decide), hs _ _ a.h (by decide) (by decide), hr a.G (by decide) (by decide), hr a.T (by decide) (by decide), hs _ _ a.t (by rw [TV.tag]; decide) (by rw [TV.tag]; decide), hr a.P (by decide) (by decide), hs _ _ a.l0 (by rw [LV.tag]; decide) (by rw [LV.tag]; decide), hs _ _ a.l1 (by rw [LV.tag]; decide) (by rw [LV.tag]; decide), ⟨o0, o1, p0, p1, hq q1, hq q2, q3⟩, fun k' R h => ?_⟩
  obtain ⟨t1, t2, t3⟩ := a.th k' R h
  exact ⟨⟨hs _ _ t1.t (by simp [tag]) (by simp [tag]), hs _ _ t1.s (by simp [tag]) (by simp [tag]), hs _ _ t1.f (by simp [tag]) (by simp [tag]), hr t1.r (by decide) (by decide)⟩, t2.ext k.size, t3⟩
/-- A cell of the machine itself is set. -/
theorem MA.setM (a : MA W3 L s w) {i : Nat} {u : Value} {s' : Sta} (hs : s'.state = s.state ∧ s'.trap = s.trap ∧ s'.th = s.th ∧ s'.G = s.G ∧ s'.runs = s.runs ∧ s'.e0 = s.e0 ∧ s'.M = s.M ∧ s'.lg = s.lg ∧ s'.thr = s.thr)
    (hm : ∀ lv mv, w.heap[L.bm]? = some (MVof L s lv mv).o → (w.setCell ⟨L.bm, i, none⟩ u).heap[L.bm]? = some (MVof L s' lv mv).o) : MA W3 L s' (w.setCell ⟨L.bm, i, none⟩ u) := by
  obtain ⟨lv, mv, m1, m2, m3, m4⟩ := a.m
  have k := Kept.one L.bm w i u
  have r := a.r.keep m1 k (.inl rfl)
  have hr : ∀ {B n m : Nat} {e : TypeId} {v : Value} {xs : List Value}, w.ownsRow B e n v m xs → e ≠ 70 → (w.setCell ⟨L.bm, i, none⟩ u).ownsRow B e n v m xs := fun h h1 => k.row h fun b hb => by
    obtain ⟨o', h3, h4⟩ := own_is h b hb
    simp only [ne', bne_iff_ne]
    exact tags_ne h3 m1 (by rw [h4, MV.tag]; simp [h1])
  obtain ⟨state, trap, th, G, runs, e0, M, lg, steps, full, thr⟩ := s
  obtain ⟨state', trap', th', G', runs', e0', M', lg', steps', full', thr'⟩ := s'
  obtain ⟨rfl, rfl, rfl, rfl, rfl, rfl, rfl, rfl, rfl⟩ := hs
  exact ⟨ext_ne a.x3 k a.lo.1, ⟨lv, mv, hm lv mv m1, hr m2 (by decide), hr m3 (by decide), m4⟩, r.d, r.h, r.G, r.T, r.t, r.P, r.l0, r.l1, r.q, a.tri, a.lo, a.ne, r.th⟩
theorem MA.setSteps (a : MA W3 L s w) (n : Int) : MA W3 L { s with steps := n } (w.setCell ⟨L.bm, 19, none⟩ (.int .i64 n)) := a.setM ⟨rfl, rfl, rfl, rfl, rfl, rfl, rfl, rfl, rfl⟩ fun _ _ h => MV.set_steps h n
theorem MA.setFull (a : MA W3 L s w) (b : Bool) : MA W3 L { s with full := b } (w.setCell ⟨L.bm, 20, none⟩ (.bool b)) := a.setM ⟨rfl, rfl, rfl, rfl, rfl, rfl, rfl, rfl, rfl⟩ fun _ _ h => MV.set_full h b
end
end Go.Proofs.YtfljmdpigckpkaaGreatDoor

namespace Go.Proofs.YtfljmdpigckpkaaGreatDoor
open Go.RowKit Go.Shelf
section
variable {W3 w w' : World} {L : Lay} {s : Sta} {x : Nat} {o : Obj}
theorem same_of (k : Kept (ne' x) w w') (hx : w.heap[x]? = some o) {b : Nat} {o' : Obj} (hb : w.heap[b]? = some o') (ht : tag o' ≠ tag o) : w'.heap[b]? = some o' := k.same b o' hb (by
  simp only [ne', bne_iff_ne]
  exact tags_ne hb hx ht)
theorem row_of (k : Kept (ne' x) w w') (hx : w.heap[x]? = some o) {B n m : Nat} {e : TypeId} {v : Value} {xs : List Value} (h : w.ownsRow B e n v m xs) (ht : some e ≠ tag o) : w'.ownsRow B e n v m xs := k.row h fun b hb => by
  obtain ⟨o', h3, h4⟩ := own_is h b hb
  simp only [ne', bne_iff_ne]
  exact tags_ne h3 hx (by rw [h4]; exact ht)
theorem qv_of (k : Kept (ne' x) w w') (hx : w.heap[x]? = some o) (ht : tag o ≠ none ∧ tag o ≠ some 258 ∧ tag o ≠ some 278) {own : Nat → Bool} {bq : Nat} {l : List QQ.Ent} {pu : Int} (q : QQ.QV own bq l pu w) : QQ.QV own bq l pu w' :=
  q.frame (keptDn k) fun b t hb => by
    have := nbQ q hx ht
    simp only [ne', bne_iff_ne]
    rintro rfl
    rw [this] at hb
    cases hb
theorem th_of (k : Kept (ne' x) w w') (hx : w.heap[x]? = some o) (ht : tag o ≠ some 290 ∧ tag o ≠ some 222 ∧ tag o ≠ some 203 ∧ tag o ≠ some 2) {bt g bf gr bc : Nat} {fn at' tr : Int} {R : List Int} (h : Th bt g bf gr bc fn at' R tr w) : Th bt g bf gr bc fn at' R tr w' :=
  ⟨same_of k hx h.t (by simpa [tag] using ht.1.symm), same_of k hx h.s (by simpa [tag] using ht.2.1.symm), same_of k hx h.f (by simpa [tag] using ht.2.2.1.symm), row_of k hx h.r (by exact fun e => ht.2.2.2 e.symm)⟩
/-- A mark more. -/
theorem MA.push (a : MA W3 L s w) {lv mv : Value} (m1 : w.heap[L.bm]? = some (MVof L s lv mv).o) (m2 : w.ownsRow W3.heap.size 130 8 mv s.M.length (s.M.flatMap Mk.cells)) (m3 : w.ownsRow W3.heap.size 2 1 lv s.lg.length (rowV iV s.lg)) (m4 : ∀ b, lv.ownBlock = some b → b ≠ L.gG ∧ b ≠ L.gr)
    (hg : w.grownBy w' mv.ownBlock) {A : Option Addr} {c n : Nat} {y : Mk} (ho : w'.ownsRow W3.heap.size 130 8 (.slice A n c) n ((s.M ++ [y]).flatMap Mk.cells)) (hn : n = s.M.length + 1) :
    w'.heap[L.bm]? = some (MVof L s lv mv).o ∧ MA W3 L { s with M := s.M ++ [y] } (w'.setCell ⟨L.bm, 17, none⟩ (.slice A n c)) := by
  have key : w'.heap[L.bm]? = some (MVof L s lv mv).o ∧ MR W3 L s w' ∧ w'.ownsRow W3.heap.size 2 1 lv s.lg.length (rowV iV s.lg) ∧ Ext W3 w' := by
    cases hb : mv.ownBlock with
    | none =>
      rw [hb] at hg
      have k : Ext w w' := Kept.grown hg fun j o e _ => by cases e
      have kk := k.kept (fun _ _ => true)
      exact ⟨kk.same _ _ m1 rfl, (a.ext k).r, kk.row m3 fun _ _ => rfl, a.x3.trans k⟩
    | some x =>
      obtain ⟨ob, h1, h2⟩ := own_is m2 x hb
      rw [hb] at hg
      have k : Kept (ne' x) w w' := Kept.grown hg fun j o e _ => by cases e; simp [ne']
      exact ⟨same_of k h1 m1 (by rw [MV.tag, h2]; decide), a.r.keep h1 k (.inr h2), row_of k h1 m3 (by rw [h2]; decide), ext_ne a.x3 k (own_base m2 x hb)⟩
  obtain ⟨h1, r, h3, x3⟩ := key
  refine ⟨h1, ?_⟩
  have k := Kept.one L.bm w' 17 (.slice A n c)
  have r2 := r.keep h1 k (.inl rfl)
  subst hn
  refine ⟨ext_ne x3 k a.lo.1, ⟨lv, .slice A (s.M.length + 1) c, MV.set_marks h1 _, ?_, row_of k h1 h3 (by rw [MV.tag]; decide), m4⟩, r2.d, r2.h, r2.G, r2.T, r2.t, r2.P, r2.l0, r2.l1, r2.q, a.tri, a.lo, a.ne, r2.th⟩
  have : (s.M ++ [y]).length = s.M.length + 1 := by simp
  simp only [this]
  exact row_of k h1 ho (by rw [MV.tag]; decide)
/-- A cell of the task is set. -/
theorem MA.setT (a : MA W3 L s w) {i : Nat} {u : Value} {st tr : Int} {th : Value} (h : (w.setCell ⟨L.b1, i, none⟩ u).heap[L.b1]? = some (tkv { s with state := st, trap := tr, th := th }).o) : MA W3 L { s with state := st, trap := tr, th := th } (w.setCell ⟨L.b1, i, none⟩ u) := by
  have k := Kept.one L.b1 w i u
  obtain ⟨lv, mv, m1, m2, m3, m4⟩ := a.m
  obtain ⟨o0, o1, p0, p1, q1, q2, q3⟩ := a.q
  have e : tag (tkv s).o = some 121 := rfl
  refine ⟨ext_ne a.x3 k a.lo.2.1, ⟨lv, mv, same_of k a.t m1 (by rw [e]; simp [MV.tag]), row_of k a.t m2 (by rw [e]; decide), row_of k a.t m3 (by rw [e]; decide), m4⟩, same_of k a.t a.d (by rw [e]; decide), same_of k a.t a.h (by rw [e]; decide), row_of k a.t a.G (by rw [e]; decide), row_of k a.t a.T (by rw [e]; decide), h, row_of k a.t a.P (by rw [e]; decide), same_of k a.t a.l0 (by rw [e]; simp [LV.tag]), same_of k a.t a.l1 (by rw [e]; simp [LV.tag]),
    ⟨o0, o1, p0, p1, qv_of k a.t (by rw [e]; decide) q1, qv_of k a.t (by rw [e]; decide) q2, q3⟩, a.tri, a.lo, a.ne, fun k' R hh => ?_⟩
  obtain ⟨t1, t2, t3⟩ := a.th k' R hh
  exact ⟨th_of k a.t (by rw [e]; decide) t1, t2.ext k.size, t3⟩
/-- What the first looper runs is set. -/
theorem MA.setL (a : MA W3 L s w) (n : Int) : MA W3 L { s with runs := n } (w.setCell ⟨L.l0, 0, none⟩ (.int .i64 n)) := by
  have k := Kept.one L.l0 w 0 (.int .i64 n)
  obtain ⟨lv, mv, m1, m2, m3, m4⟩ := a.m
  obtain ⟨o0, o1, p0, p1, q1, q2, q3⟩ := a.q
  have e : tag (LV.mk s.runs L.q0).o = some 174 := rfl
  refine ⟨ext_ne a.x3 k a.lo.2.2, ⟨lv, mv, same_of k a.l0 m1 (by rw [e]; simp [MV.tag]), row_of k a.l0 m2 (by rw [e]; decide), row_of k a.l0 m3 (by rw [e]; decide), m4⟩, same_of k a.l0 a.d (by rw [e]; decide), same_of k a.l0 a.h (by rw [e]; decide), row_of k a.l0 a.G (by rw [e]; decide), row_of k a.l0 a.T (by rw [e]; decide), same_of k a.l0 a.t (by rw [e]; simp [TV.tag]), row_of k a.l0 a.P (by rw [e]; decide), LV.set_runs a.l0 n, k.same _ _ a.l1 (by simp [ne', a.ne.1.symm]),
    ⟨o0, o1, p0, p1, qv_of k a.l0 (by rw [e]; decide) q1, qv_of k a.l0 (by rw [e]; decide) q2, q3⟩, a.tri, a.lo, a.ne, fun k' R hh => ?_⟩
  obtain ⟨t1, t2, t3⟩ := a.th k' R hh
  exact ⟨th_of k a.l0 (by rw [e]; decide) t1, t2.ext k.size, t3⟩
/-- The one global is set. -/
theorem MA.setG (a : MA W3 L s w) {i : Nat} (hi : i < s.G.length) (n : Int) : MA W3 L { s with G := s.G.set i n } (w.setCell ⟨L.gG, i, none⟩ (.int .i64 n)) ∧ (∀ j, w.frozen? ⟨L.gG, j, none⟩ = false) ∧ (∃ u, w.cell? ⟨L.gG, i, none⟩ = some u) ∧ L.gG < w.heap.size := by
  obtain ⟨g', c', e1, h1, h2, h3, h4, h5, hkp⟩ := own1_set a.G hi n
  obtain rfl : L.gG = g' := by injection e1 with e; injection e with e; injection e
  refine ⟨?_, h2, ⟨_, h3⟩, h4⟩
  have k : Kept (ne' L.gG) w (w.setCell ⟨L.gG, i, none⟩ (.int .i64 n)) := Kept.one _ _ _ _
  obtain ⟨lv, mv, m1, m2, m3, m4⟩ := a.m
  obtain ⟨o0, o1, p0, p1, q1, q2, q3⟩ := a.q
  obtain ⟨oG, g1, e⟩ := own_is a.G L.gG rfl
  refine ⟨ext_ne a.x3 k (own_base a.G L.gG rfl), ⟨lv, mv, ?_, row_of k g1 m2 (by rw [e]; decide), k.row m3 fun b hb => by simp [ne', (m4 b hb).1], m4⟩, same_of k g1 a.d (by rw [e]; decide), same_of k g1 a.h (by rw [e]; decide), ?_, row_of k g1 a.T (by rw [e]; decide), same_of k g1 a.t (by rw [e]; simp [TV.tag]), row_of k g1 a.P (by rw [e]; decide), same_of k g1 a.l0 (by rw [e]; simp [LV.tag]), same_of k g1 a.l1 (by rw [e]; simp [LV.tag]),
    ⟨o0, o1, p0, p1, qv_of k g1 (by rw [e]; decide) q1, qv_of k g1 (by rw [e]; decide) q2, q3⟩, a.tri, a.lo, a.ne, fun k' R hh => ?_⟩
  · have := same_of k g1 m1 (by rw [e]; simp [MV.tag])
    simpa [MVof] using this
  · simp only [List.length_set]
    exact h1
  · obtain ⟨t1, t2, t3⟩ := a.th k' R hh
    refine ⟨⟨same_of k g1 t1.t (by rw [e]; simp [tag]), same_of k g1 t1.s (by rw [e]; simp [tag]), same_of k g1 t1.f (by rw [e]; simp [tag]), k.row t1.r fun b hb => ?_⟩, t2.ext k.size, t3⟩
    obtain rfl : L.gr = b := by simpa [Value.ownBlock] using hb
    simp [ne', a.ne.2.symm]
/-- The first looper's queue has changed. -/
theorem MA.setQ (a : MA W3 L s w) {o0 o1 : Nat → Bool} {p0 p1 : Int} (q1 : QQ.QV o0 L.q0 s.e0 p0 w) (q2 : QQ.QV o1 L.q1 [] p1 w) (q3 : ∀ b, o0 b = true → o1 b = false ∧ b ≠ L.bd ∧ W3.heap.size ≤ b) (q4 : ∀ b, o1 b = true → b ≠ L.bd)
    {own' : Nat → Bool} {l' : List QQ.Ent} {pu' : Int} (k : QQ.Kept (QQ.pQ o0) w w') (q' : QQ.QV own' L.q0 l' pu' w') (hn : ∀ b, own' b = true → o0 b = true ∨ w.heap.size ≤ b) (ht : QQ.Tri l') : MA W3 L { s with e0 := l' } w' := by
  have kk := keptUp k
  have hs : ∀ b o', w.heap[b]? = some o' → tag o' ≠ none ∧ tag o' ≠ some 258 ∧ tag o' ≠ some 278 → w'.heap[b]? = some o' := fun b o' hb h => kk.same b o' hb (by simp [QQ.pQ, nbQ q1 hb h])
  have hr : ∀ {B n m : Nat} {e : TypeId} {v : Value} {xs : List Value}, w.ownsRow B e n v m xs → e ≠ 258 ∧ e ≠ 278 → w'.ownsRow B e n v m xs := fun h he => kk.row h fun b hb => by
    obtain ⟨o', h3, h4⟩ := own_is h b hb
    simp [QQ.pQ, nbQ q1 h3 (by rw [h4]; simp [he])]
  have hl : ∀ b, own' b = true → W3.heap.size ≤ b := fun b hb => by
    rcases hn b hb with h | h
    · exact (q3 b h).2.2
    · have := a.x3.size; omega
  have hbd := (Array.getElem?_eq_some_iff.1 a.d).1
  obtain ⟨lv, mv, m1, m2, m3, m4⟩ := a.m
  refine ⟨Kept.trans a.x3 (kk.mono fun b t _ hp => ?_), ⟨lv, mv, hs _ _ m1 (by rw [MV.tag]; decide), hr m2 (by decide), hr m3 (by decide), m4⟩, ?_, hs _ _ a.h (by decide), hr a.G (by decide), hr a.T (by decide), hs _ _ a.t (by rw [TV.tag]; decide), hr a.P (by decide), hs _ _ a.l0 (by rw [LV.tag]; decide), hs _ _ a.l1 (by rw [LV.tag]; decide),
    ⟨own', o1, pu', p1, q', q2.frame k fun b t hb => ?_, fun b hb => ⟨?_, ?_, hl b hb⟩, q4⟩, ht, a.lo, a.ne, fun k' R hh => ?_⟩
  · simp only [pOld, decide_eq_true_eq] at hp
    simp only [QQ.pQ, Bool.not_eq_true']
    cases hc : o0 b with
    | false => rfl
    | true => have := (q3 b hc).2.2; omega
  · refine kk.same _ _ a.d ?_
    simp only [QQ.pQ, Bool.not_eq_true']
    cases hc : o0 L.bd with
    | false => rfl
    | true => exact absurd rfl (q3 _ hc).2.1
  · simp only [QQ.pQ, Bool.not_eq_true']
    cases hc : o0 b with
    | false => rfl
    | true => rw [(q3 b hc).1] at hb; cases hb
  · rcases hn b hb with h | h
    · exact (q3 b h).1
    · cases hc : o1 b with
      | false => rfl
      | true => have := q2.lt hc; omega
  · rcases hn b hb with h | h
    · exact (q3 b h).2.1
    · omega
  · obtain ⟨t1, t2, t3⟩ := a.th k' R hh
    exact ⟨⟨hs _ _ t1.t (by simp [tag]), hs _ _ t1.s (by simp [tag]), hs _ _ t1.f (by simp [tag]), hr t1.r (by decide)⟩, t2.ext kk.size, t3⟩
/-- The thread's registers and its frame have changed. -/
theorem MA.setTh (a : MA W3 L s w) {k k' : Nat} {R R' : List Int} (hs : s.thr = some (k, R)) (kk : Kept (nF L.gr L.bf) w w') (h : Th L.bt L.g L.bf L.gr L.bc ((0 : Nat) : Int) ((k' : Nat) : Int) R' 0 w') : MA W3 L { s with thr := some (k', R') } w' := by
  obtain ⟨t1, t2, t3⟩ := a.th k R hs
  obtain ⟨o0, o1, p0, p1, q1, q2, q3⟩ := a.q
  obtain ⟨lv, mv, m1, m2, m3, m4⟩ := a.m
  obtain ⟨orr, r1, er⟩ := own_is t1.r L.gr rfl
  have hb : ∀ b o', w.heap[b]? = some o' → tag o' ≠ some 2 ∧ tag o' ≠ some 203 → b ≠ L.gr ∧ b ≠ L.bf := fun b o' hb hh => ⟨tags_ne hb r1 (by rw [er]; exact hh.1), tags_ne hb t1.f (by simpa [tag] using hh.2)⟩
  have hs' : ∀ b o', w.heap[b]? = some o' → tag o' ≠ some 2 ∧ tag o' ≠ some 203 → w'.heap[b]? = some o' := fun b o' h1 h2 => kk.same b o' h1 (by simp [nF, hb b o' h1 h2])
  have hr : ∀ {B n m : Nat} {e : TypeId} {v : Value} {xs : List Value}, w.ownsRow B e n v m xs → e ≠ 2 ∧ e ≠ 203 → w'.ownsRow B e n v m xs := fun h he => kk.row h fun b h0 => by
    obtain ⟨o', h3, h4⟩ := own_is h b h0
    simp [nF, hb b o' h3 (by rw [h4]; simp [he])]
  have hri : ∀ {B n m : Nat} {v : Value} {xs : List Value}, w.ownsRow B 2 n v m xs → (∀ b, v.ownBlock = some b → b ≠ L.gr) → w'.ownsRow B 2 n v m xs := fun h he => kk.row h fun b h0 => by
    obtain ⟨o', h3, h4⟩ := own_is h b h0
    have h5 : b ≠ L.bf := tags_ne h3 t1.f (by rw [h4]; simp [tag])
    simp [nF, he b h0, h5]
  have hq : ∀ {own : Nat → Bool} {bq : Nat} {l : List QQ.Ent} {pu : Int}, QQ.QV own bq l pu w → QQ.QV own bq l pu w' := fun q => q.frame (keptDn kk) fun b t h0 => by
    have n1 := nbQ q r1 (by rw [er]; decide)
    have n2 := nbQ q t1.f (by simp [tag])
    simp only [nF, Bool.and_eq_true, bne_iff_ne]
    constructor
    · rintro rfl; rw [n1] at h0; cases h0
    · rintro rfl; rw [n2] at h0; cases h0
  refine ⟨Kept.trans a.x3 (kk.mono fun b t _ hp => ?_), ⟨lv, mv, hs' _ _ m1 (by rw [MV.tag]; decide), hr m2 (by decide), hri m3 fun b h0 => (m4 b h0).2, m4⟩, hs' _ _ a.d (by decide), hs' _ _ a.h (by decide), hri a.G fun b h0 => ?_, hr a.T (by decide), hs' _ _ a.t (by rw [TV.tag]; decide), hr a.P (by decide), hs' _ _ a.l0 (by rw [LV.tag]; decide), hs' _ _ a.l1 (by rw [LV.tag]; decide),
    ⟨o0, o1, p0, p1, hq q1, hq q2, q3⟩, a.tri, a.lo, a.ne, fun k2 R2 hh => ?_⟩
  · simp only [pOld, decide_eq_true_eq] at hp
    have := t3.2.2
    simp [nF]; omega
  · obtain rfl : L.gG = b := by simpa [Value.ownBlock] using h0
    exact a.ne.2
  · cases hh
    exact ⟨h, t2.ext kk.size, t3⟩
/-- No thread is asked after any more. -/
theorem MA.noTh (a : MA W3 L s w) : MA W3 L { s with thr := none } w := ⟨a.x3, a.m, a.d, a.h, a.G, a.T, a.t, a.P, a.l0, a.l1, a.q, a.tri, a.lo, a.ne, fun _ _ h => by cases h⟩
end
end Go.Proofs.YtfljmdpigckpkaaGreatDoor
