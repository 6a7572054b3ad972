/- QueueEmpties' walk: what is taken, plainly; items put. -/
import Derived.Test.YtmbdglolpagjdaaQyC
namespace Go.Proofs.Ytmbdglolpagjdaa
open Go.RowKit Go.Shelf
attribute [local go_sem] Oper.semAt_some
def allDue (l : List Ent) : Prop := ∀ x, x ∈ l → x.due ≤ 9223372036854775807
theorem allDue.perm {l l' : List Ent} (h : allDue l) (hp : l'.Perm l) : allDue l' := fun x hx => h x (hp.mem_iff.1 hx)
theorem allDue.dr {l : List Ent} (h : allDue l) (t : Int) : allDue (drE l t) := fun x hx => h x (List.mem_filter.1 hx).1
theorem Pl.dstl {l E : List Ent} {pu : Int} (h : Pl l E pu) : Dst l := (h.perm.pairwise_iff fun h => Ne.symm h).1 h.dst
theorem hasE_dr {l : List Ent} {s t : Int} (h : hasE l s = false) : hasE (drE l t) s = false := by
  cases hc : hasE (drE l t) s with
  | false => rfl
  | true =>
    obtain ⟨x, hx, e⟩ := mem_task.1 (hasE_iff.1 hc)
    rw [hasE_iff.2 (mem_task.2 ⟨x, (List.mem_filter.1 hx).1, e⟩)] at h; cases h
theorem hasE_dr_same {l : List Ent} {t : Int} : hasE (drE l t) t = false := by
  cases hc : hasE (drE l t) t with
  | false => rfl
  | true =>
    obtain ⟨x, hx, e⟩ := mem_task.1 (hasE_iff.1 hc)
    have := (List.mem_filter.1 hx).2
    simp [e] at this
theorem drE_len {l : List Ent} (hd : Dst l) {t : Int} (h : hasE l t = true) : (drE l t).length + 1 = l.length := by
  obtain ⟨i, hi, e⟩ := hasE_iff.1 h
  subst e
  exact dr_len hd hi
theorem drE_none {l : List Ent} {t : Int} (h : hasE l t = false) : drE l t = l := (drE_not fun k hk e => by rw [hasE_iff.2 ⟨k, hk, e⟩] at h; cases h).1
theorem srt_tail {l r : List Ent} {y : Ent} (ht : Tri l) (hd : Dst l) (h : srt l = y :: r) : y ∈ l ∧ srt (drE l y.task) = r := by
  have hp := srt_perm l
  have hs := srt_srt l
  unfold Srt at hs
  rw [h] at hp hs
  have hy : y ∈ l := hp.mem_iff.1 (by simp)
  refine ⟨hy, ?_⟩
  obtain ⟨i, hi, e⟩ := List.getElem_of_mem hy
  rw [← nth_lt hi] at e
  have := srt_cons ht hd hi fun k hk => by
    rw [e]
    have hm : nth l k ∈ y :: r := hp.mem_iff.2 (nth_mem hk)
    rcases List.mem_cons.1 hm with h1 | h1
    · rw [h1]; exact eLt_swo.irr _
    · exact (List.pairwise_cons.1 hs).1 _ h1
  rw [e, h] at this
  injection this with _ h2
  exact h2.symm
theorem duP_all {l r : List Ent} {y : Ent} (ha : allDue l) (h : srt l = y :: r) : duP 9223372036854775807 l = some y := by
  have hy : y ∈ l := (srt_perm l).mem_iff.1 (by rw [h]; simp)
  unfold duP
  rw [h, List.head?_cons, Option.filter_some, if_pos]
  simp [isD, ha y hy]
section
variable {own : Nat → Bool} {bq : Nat} {l E : List Ent} {pu : Int} {W w w' : World}
/-- A row of items is not the queue's. -/
theorem QV.row (h : QV own bq l pu w) {B n : Nat} {v : Value} {xs : List Value} (hr : w.ownsRow B 32 3 v n xs) (k : Kept (pQ own) w w') : w'.ownsRow B 32 3 v n xs := k.row hr fun g hg => by
  obtain ⟨o, h1, h2⟩ := own_is hr g hg
  rw [pQ, h.notag h1 (by rw [h2]; simp) (by rw [h2]; simp) (by rw [h2]; simp)]; rfl
/-- How QueueEmpties' queue stands. -/
structure Em (W : World) (pu : Int) (l : List Ent) (wr : World) : Prop where
  ex : ∃ own E, QV own W.heap.size l pu wr ∧ Pl l E pu ∧ (∀ b, own b = true → W.heap.size ≤ b)
  due : allDue l
  ext : Ext W wr
theorem Em.ext' {W : World} {l : List Ent} {wr w : World} (h : Em W pu l wr) (k : Ext wr w) : Em W pu l w := by
  obtain ⟨⟨own, E, h1, h2, h3⟩, h4, h5⟩ := h
  exact ⟨⟨own, E, h1.ext k, h2, h3⟩, h4, h5.trans k⟩
theorem Em.put {W : World} {l : List Ent} {wr : World} (h : Em W pu l wr) (x : ItD) (hw : (Lit.int .i64 x.t).wf = true) (hd : (Lit.int .i64 x.d).wf = true) (hpu : pu ≤ 1000) :
    Calls Try.prog 17 #[.pointer (some ⟨W.heap.size, 0, none⟩), .agg #[.int .i64 x.t, .bool x.f, .int .i64 x.d]] wr fun e w' => ∃ r : Int, e = .returned (.int .i64 r) ∧ ∃ l', Em W (if r = 0 then pu + 1 else pu) l' w' ∧ l'.length = (if r = 0 then l.length + 1 else l.length) := by
  obtain ⟨⟨own, E, hq, hpl, hge⟩, hdu, hx⟩ := h
  have hpu0 : 0 ≤ pu := by have := hpl.len; omega
  have hll : l.length ≤ 1000 := by have := hpl.len; rw [hpl.perm.length_eq] at this; omega
  have hput := Put_any hq ⟨x.t, x.f, x.d, pu⟩ rfl hw (by omega) ⟨hpu0, by omega⟩
  refine hput.mono fun e w' k => ?_
  obtain ⟨h1, own', l', h2, h3, h4, h5⟩ := k
  obtain ⟨hpl3, _⟩ := hpl.put_any (x := ⟨x.t, x.f, x.d, pu⟩) rfl h3
  refine ⟨_, h1, l', ⟨⟨own', _, h2, hpl3, ownSince hx hge h5⟩, ?_, keptSince hx hge h4⟩, ?_⟩
  · refine allDue.perm ?_ h3
    unfold putL
    split
    · intro y hy
      rcases List.mem_append.1 hy with hy | hy
      · exact hdu y hy
      · simp at hy; subst hy; exact (of_wf hd).2
    · exact hdu
  · rw [h3.length_eq]
    unfold putL
    split <;> simp_all
theorem Em.drop {W : World} {l : List Ent} {wr : World} (h : Em W pu l wr) (t : Int) (ht : (Lit.int .i64 t).wf = true) :
    Calls Try.prog 18 #[.pointer (some ⟨W.heap.size, 0, none⟩), .int .i64 t] wr fun e w' => ∃ b : Bool, e = .returned (.bool b) ∧ ∃ l', Em W pu l' w' ∧ ((b = true ∧ l'.length + 1 = l.length) ∨ (b = false ∧ l'.length = l.length)) ∧ hasE l' t = false ∧ ∀ s, hasE l s = false → hasE l' s = false := by
  obtain ⟨⟨own, E, hq, hpl, hge⟩, hdu, hx⟩ := h
  refine (Drop_ok hq t ht).mono fun e w' k => ?_
  obtain ⟨h1, own', l', h2, h3, h4, h5⟩ := k
  refine ⟨_, h1, l', ⟨⟨own', _, h2, hpl.drop h3, ownSince hx hge h5⟩, (hdu.dr t).perm h3, keptSince hx hge h4⟩, ?_, by rw [hasE_perm h3]; exact hasE_dr_same, fun s hs => by rw [hasE_perm h3]; exact hasE_dr hs⟩
  rw [h3.length_eq]
  cases hb : hasE l t with
  | true => exact .inl ⟨rfl, drE_len hpl.dstl hb⟩
  | false => exact .inr ⟨rfl, by rw [drE_none hb]⟩
theorem Em.take {W : World} {l : List Ent} {wr : World} (h : Em W pu l wr) :
    Calls Try.prog 20 #[.pointer (some ⟨W.heap.size, 0, none⟩), .int .i64 9223372036854775807] wr fun e w' => e = .returned (dueW (srt l).head?) ∧ (∃ l', Em W pu l' w' ∧ srt l' = (srt l).tail ∧ l'.length = l.length - 1 ∧ ∀ s, hasE l s = false → hasE l' s = false) ∧ ∀ {B n : Nat} {v : Value} {xs : List Value}, wr.ownsRow B 32 3 v n xs → w'.ownsRow B 32 3 v n xs := by
  obtain ⟨⟨own, E, hq, hpl, hge⟩, hdu, hx⟩ := h
  refine (Take_ok (now := 9223372036854775807) hq hpl.tri).mono fun e w' k => ?_
  obtain ⟨h1, own', l', h2, h3, h4, h5⟩ := k
  have hpl' := hpl.take h3
  have hem : ∀ hd : allDue l', Em W pu l' w' := fun hd => ⟨⟨own', _, h2, hpl', ownSince hx hge h5⟩, hd, keptSince hx hge h4⟩
  refine ⟨?_, ?_, fun hr => hq.row hr h4⟩
  · rw [h1]
    cases hs : srt l with
    | nil =>
      have : duP 9223372036854775807 l = none := by unfold duP; rw [hs]; rfl
      rw [this]; rfl
    | cons y r => rw [duP_all hdu hs]; rfl
  · cases hs : srt l with
    | nil =>
      have hl : l = [] := by have := (srt_perm l).length_eq; rw [hs] at this; exact List.eq_nil_of_length_eq_zero this.symm
      have hd : duP 9223372036854775807 l = none := by unfold duP; rw [hs]; rfl
      unfold tkE at h3
      rw [hd] at h3
      refine ⟨l', hem (hdu.perm h3), ?_, by rw [h3.length_eq, hl]; rfl, fun s hs => by rw [hasE_perm h3]; exact hs⟩
      rw [srt_congr hpl.tri h3, hs]; rfl
    | cons y r =>
      obtain ⟨hy, ht⟩ := srt_tail hpl.tri hpl.dstl hs
      unfold tkE at h3
      rw [duP_all hdu hs] at h3
      have htri : Tri (drE l y.task) := fun a ha b hb => hpl.tri a (List.mem_filter.1 ha).1 b (List.mem_filter.1 hb).1
      have hlen := drE_len hpl.dstl (hasE_iff.2 (mem_task.2 ⟨y, hy, rfl⟩))
      refine ⟨l', hem ((hdu.dr _).perm h3), ?_, by rw [h3.length_eq]; show (drE l y.task).length = _; omega, fun s hs => by rw [hasE_perm h3]; exact hasE_dr hs⟩
      rw [srt_congr htri h3, ht]; rfl
theorem Em.list {W : World} {l : List Ent} {wr : World} (h : Em W pu l wr) : Calls Try.prog 19 #[.pointer (some ⟨W.heap.size, 0, none⟩), .int .i64 (-1)] wr fun e w' => ∃ A c, e = .returned (.tuple #[.slice A (srt l).length c, .bool true]) ∧ Ext wr w' ∧ w'.ownsRow wr.heap.size 32 3 (.slice A (srt l).length c) (srt l).length (row3 (srt l)) := by
  obtain ⟨⟨own, E, hq, hpl, hge⟩, hdu, hx⟩ := h
  refine (list_ok (most := -1) hpl.tri hq.hp hq.len wr hq.ev).mono fun e w' k => ?_
  obtain ⟨P, A, c, h1, h2⟩ := k
  rw [if_neg (by omega)] at h1
  subst h1
  exact ⟨A, c, h2⟩
theorem Em.len {W : World} {l : List Ent} {wr : World} (h : Em W pu l wr) : Calls Try.prog 21 #[.pointer (some ⟨W.heap.size, 0, none⟩)] wr fun e w' => e = .returned (.int .i64 l.length) ∧ w' = wr := by
  obtain ⟨⟨own, E, hq, _, _⟩, _, _⟩ := h
  exact Len_ok hq.ev
end
end Go.Proofs.Ytmbdglolpagjdaa
