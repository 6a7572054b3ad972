/- Queue.Drop. -/
import Derived.Test.YtmbdglolpagjdaaQwC
namespace Go.Proofs.Ytmbdglolpagjdaa
open Go.RowKit Go.Shelf
attribute [local go_sem] Oper.semAt_some
section
variable {own : Nat → Bool} {bq bm bp : Nat} {l l' : List Ent} {pu : Int} {W w : World} {D : DM}
/-- Where a task's entry stands, told by the map. -/
theorem look_ok (hm : w.ownsMap Try.prog 3 (plainElem Try.prog 3) bm (Maps.size D) D) (hc : CQ l D) {i : Nat} (hi : i < l.length) (ht : (Lit.int .i64 (nth l i).task).wf = true) :
    (Instr.lookup 57 (.map (some bm)) (.int .i64 (nth l i).task) false).run Try.prog w = .ok (.int .i64 i) w := by
  obtain ⟨c, hrun, hat, _⟩ := hm.lookup_int law3 Try.underlying57 Try.underlying3 (zeroI w) (key_wf ht)
  have hp := hc.pos i hi
  unfold at0 at hp
  rw [show (tk 0) = Lit.int .i64 0 from rfl, hat] at hp
  have e : c = i := by simpa [tk] using hp
  rw [hrun, e]
set_option maxHeartbeats 4000000 in
set_option maxRecDepth 100000 in
theorem Drop_ok (h : QV own bq l pu W) (task : Int) (ht : (Lit.int .i64 task).wf = true) :
    Calls Try.prog 18 #[.pointer (some ⟨bq, 0, none⟩), .int .i64 task] W fun e W' => e = .returned (.bool (hasE l task)) ∧ ∃ own' l', QV own' bq l' pu W' ∧ l'.Perm (drE l task) ∧ Kept (pQ own) W W' ∧ ∀ b, own' b = true → own b = true ∨ W.heap.size ≤ b := by
  have hhas := has_ok h task ht
  cases hb : hasE l task with
  | false =>
    rw [hb] at hhas
    have HH := Lib.hid h
    have HB := Lib.hid hb
    have HHAS := Lib.hid hhas
    clear h hb hhas
    go_enter Try.func18, Try.ntmps18
    go_wp2_with (go_at_call 35; refine HHAS.out.mono ?_; rintro e w2 ⟨rfl, rfl⟩)
    go_ret
    refine ⟨rfl, own, l, HH.out, ?_, Kept.refl _ _, fun b hb => .inl hb⟩
    have : drE l task = l := by
      refine List.filter_eq_self.2 fun x hx => ?_
      have := HB.out
      unfold hasE at this
      rw [List.any_eq_false] at this
      simpa using this x hx
    rw [this]
  | true =>
    rw [hb] at hhas
    obtain ⟨i, hi, hit⟩ := hasE_iff.1 hb
    subst hit
    obtain ⟨v, mv, h1, h2, h3, h4⟩ := h.ex
    rcases h4 with ⟨_, hl0⟩ | ⟨bm, D, rfl, hobm, hm, hc⟩
    · rw [hl0] at hi; simp at hi
    have hlt := (Array.getElem?_eq_some_iff.1 h1).1
    have c1 : W.cell? ⟨bq, 1, none⟩ = some (.map (some bm)) := by simp [World.cell?, h1]
    have hlook : ∀ w', Ext W w' → (Instr.lookup 57 (.map (some bm)) (.int .i64 (nth l i).task) false).run Try.prog w' = .ok (.int .i64 i) w' := fun w' hw => look_ok ((hw.kept (fun _ _ => true)).map hm rfl) hc hi ht
    have hlk0 := hlook _ (Ext.drew W)
    have hrem : ∀ w', Ext W w' → w'.heap[W.heap.size]? = some (.cells #[.pointer (some ⟨bq, 0, none⟩)] 24 (0, 0)) → Calls Try.prog 38 #[.iface 74 (pv bq W.heap.size), .int .i64 i] w' fun e w2 => (∃ v, e = .returned v) ∧ ∃ l' D', (nth l i :: l').Perm l ∧ Heap eLt (nth l') l'.length ∧ QS (pQ own) W bq W.heap.size bm pu l' D' w2 ∧ Con l.length (nth l i).task (fun t => ∃ i, i < l.length ∧ (nth l i).task = t) l' D' := fun w' hw hbp => by
      have hk := hw.kept (fun _ _ => true)
      exact remove_ok (QV.qs (hk.same _ _ h1 rfl) (hk.row h2 fun _ _ => rfl) (fun g hg => .inl (h3 g hg)) h.ob (.inl hobm) (hk.map hm rfl) (hw.kept _) h.len hbp) hc h.hp hi
    have hdst := hc.dst
    have HREM := Lib.hid hrem
    have HHAS := Lib.hid hhas
    have HLOOK := Lib.hid hlook
    have HDST := Lib.hid hdst
    have HKY := Lib.hid (key_wf ht)
    have HLEN := Lib.hid h.len
    generalize hx : nth l i = x at *
    clear h h1 h2 h3 hm hc hhas hrem hlook hdst hb ht hx
    go_enter Try.func18, Try.ntmps18
    go_upto_region 3 with (go_at_call 35; refine HHAS.out.mono ?_; rintro e w2 ⟨rfl, rfl⟩)
    go_region_with (first
      | (go_at_call 37; refine (pile_ok bq _).mono ?_; rintro e w4 ⟨rfl, hx4, hb4⟩; have hxx := (Ext.drew w2).trans hx4; have c14 := (hxx.kept (fun _ _ => true)).cell c1 (fun _ _ => rfl); have hl44 := hxx.size; have hlk4 := HLOOK.out _ hxx; have HXX := Lib.hid hxx; have HB4 := Lib.hid hb4; clear hxx hx4 hb4)
      | (go_at_call 38; refine (HREM.out _ HXX.out HB4.out).mono ?_; rintro e w5 ⟨⟨v5, rfl⟩, l', D2, hp5, hh5, hq5, hc5⟩; have HQ5 := Lib.hid hq5; have HP5 := Lib.hid hp5; have HH5 := Lib.hid hh5; have HC5 := Lib.hid hc5; clear hp5 hh5 hq5 hc5 c1 c14 hlk0 hlk4))
    all_goals
      obtain ⟨v6, q1, _, _⟩ := HQ5.out.qb
      have c15 : w5.cell? ⟨bq, 1, none⟩ = some (.map (some bm)) := by simp [World.cell?, q1]
      have hl5 := (Array.getElem?_eq_some_iff.1 q1).1
      clear q1
      go_wp2_with (at_delete; refine wpList_delete_own _ rfl _ _ 57 3 rfl 3 law3 Try.underlying57 (plainElem Try.prog 3) bm _ D2 rfl HQ5.out.mp (.int .i64 x.task) (tk x.task) rfl HKY.out ?_; intro w6 hown6 hturn6)
      go_ret
      obtain ⟨h7, h8⟩ := HC5.out.cq_del HP5.out rfl HDST.out
      have hlen := HP5.out.length_eq
      have hll := HLEN.out
      simp at hlen
      obtain ⟨own', r1, r2, r3⟩ := (HQ5.out.mapped hturn6.grown hown6).qv0 h7 HH5.out (by omega)
      exact ⟨rfl, own', l', r1, h8, r2, r3⟩
/-- What is left behind Take. -/
theorem duP_perm {now : Int} {E : List Ent} (ht : Tri l) (hp : E.Perm l) : duP now E = duP now l := by
  unfold duP
  rw [srt_congr ht hp]
theorem takeWhile_head {p : Ent → Bool} (L : List Ent) : (L.takeWhile p).head? = L.head?.filter p := by
  cases L with
  | nil => rfl
  | cons x r =>
    rw [List.takeWhile_cons]
    cases h : p x <;> simp [Option.filter, h]
theorem due_eq {now : Int} : ((srt l).takeWhile (dueAt now)).head? = duP now l := by
  rw [takeWhile_head]; rfl
theorem dueV_eq (o : Option Ent) : dueV o = dueW o := by cases o <;> rfl
end
end Go.Proofs.Ytmbdglolpagjdaa
