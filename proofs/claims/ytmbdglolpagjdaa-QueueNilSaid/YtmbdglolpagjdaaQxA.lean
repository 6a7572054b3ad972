/- Both queues beside one another: the program's and the document's. -/
import Derived.Test.YtmbdglolpagjdaaQwE
import Derived.Test.YtmbdglolpagjdaaQuX
import Derived.Test.YtmbdglolpagjdaaQvH
namespace Go.Proofs.Ytmbdglolpagjdaa
open Go.RowKit Go.Shelf
attribute [local go_sem] Oper.semAt_some

/-- The items of a heap, in the order in which they were put. -/
structure Pl (l E : List Ent) (pu : Int) : Prop where
  perm : E.Perm l
  ord : Ord E
  dst : Dst E
  lt : ∀ x, x ∈ E → x.nth < pu
  len : (E.length : Int) ≤ pu
theorem Pl.nil : Pl [] [] 0 := ⟨.refl _, .nil, .nil, by simp, by simp⟩
theorem Pl.tri {l E : List Ent} {pu : Int} (h : Pl l E pu) : Tri l := h.ord.tri.perm h.perm.symm
theorem Pl.srt {l E : List Ent} {pu : Int} (h : Pl l E pu) : Go.Proofs.Ytmbdglolpagjdaa.srt E = Go.Proofs.Ytmbdglolpagjdaa.srt l := srt_congr h.tri h.perm
theorem Pl.duP {l E : List Ent} {pu : Int} (h : Pl l E pu) (now : Int) : Go.Proofs.Ytmbdglolpagjdaa.duP now E = Go.Proofs.Ytmbdglolpagjdaa.duP now l := duP_perm h.tri h.perm
theorem hasE_perm {l E : List Ent} (h : E.Perm l) (t : Int) : hasE E t = hasE l t := by
  cases h1 : hasE l t with
  | true =>
    obtain ⟨x, hx, e⟩ := mem_task.1 (hasE_iff.1 h1)
    exact hasE_iff.2 (mem_task.2 ⟨x, h.mem_iff.2 hx, e⟩)
  | false =>
    cases h2 : hasE E t with
    | false => rfl
    | true =>
      obtain ⟨x, hx, e⟩ := mem_task.1 (hasE_iff.1 h2)
      rw [hasE_iff.2 (mem_task.2 ⟨x, h.mem_iff.1 hx, e⟩)] at h1; cases h1
theorem Pl.put {l l' E : List Ent} {pu : Int} {x : Ent} (h : Pl l E pu) (hx : x.nth = pu) (hno : hasE l x.task = false) (hp : l'.Perm (l ++ [x])) : Pl l' (E ++ [x]) (pu + 1) := by
  refine ⟨(h.perm.append_right [x]).trans hp.symm, ?_, ?_, fun y hy => ?_, by have := h.len; simp; omega⟩
  · unfold Ord
    rw [List.pairwise_append]
    exact ⟨h.ord, by simp, fun a ha b hb => by simp at hb; subst hb; rw [hx]; exact h.lt a ha⟩
  · unfold Dst
    rw [List.pairwise_append]
    refine ⟨h.dst, by simp, fun a ha b hb e => ?_⟩
    simp at hb; subst hb
    rw [← hasE_perm h.perm, hasE_iff.2 (mem_task.2 ⟨a, ha, e⟩)] at hno; cases hno
  · rcases List.mem_append.1 hy with hy | hy
    · have := h.lt y hy; omega
    · simp at hy; subst hy; omega
theorem Pl.drop {l l' E : List Ent} {pu : Int} (h : Pl l E pu) {t : Int} (hp : l'.Perm (drE l t)) : Pl l' (drE E t) pu :=
  ⟨(h.perm.filter _).trans hp.symm, h.ord.dr t, h.dst.dr t, fun x hx => h.lt x (List.mem_filter.1 hx).1, by
    have h1 := h.len
    have : (drE E t).length ≤ E.length := List.length_filter_le _ _
    omega⟩
theorem Pl.take {l l' E : List Ent} {pu now : Int} (h : Pl l E pu) (hp : l'.Perm (tkE now l)) : Pl l' (tkE now E) pu := by
  unfold tkE at hp ⊢
  rw [h.duP]
  cases hd : Go.Proofs.Ytmbdglolpagjdaa.duP now l with
  | none => rw [hd] at hp; exact ⟨h.perm.trans hp.symm, h.ord, h.dst, h.lt, h.len⟩
  | some x => rw [hd] at hp; exact h.drop hp
theorem Pl.again {l l' E : List Ent} {pu : Int} (h : Pl l E pu) (hp : l'.Perm l) : Pl l' E pu := ⟨h.perm.trans hp.symm, h.ord, h.dst, h.lt, h.len⟩
section
variable {own own' : Nat → Bool} {bq bw : Nat} {l E : List Ent} {pu : Int} {W W' : World}
theorem RQ.tagb (h : RQ bw E W) : ∃ o, W.heap[bw]? = some o ∧ tag o = some 29 := by
  obtain ⟨v, h1, _⟩ := h; exact ⟨_, h1, rfl⟩
theorem RQ.tagr (h : RQ bw E W) {g : Nat} (hg : Rowb bw W g) : ∃ o, W.heap[g]? = some o ∧ tag o = some 32 := by
  obtain ⟨v, h1, h2⟩ := h
  obtain ⟨v', h5, h6⟩ := hg
  rw [h1] at h5
  simp only [Option.some.injEq, Obj.cells.injEq, and_true] at h5
  have e : v = v' := by simpa using h5
  subst e
  exact own_is h2 g h6
theorem QV.notag (h : QV own bq l pu W) {b : Nat} {o : Obj} (ho : W.heap[b]? = some o) (h1 : tag o ≠ none) (h2 : tag o ≠ some 59) (h3 : tag o ≠ some 63) : own b = false := by
  cases hb : own b with
  | false => rfl
  | true =>
    obtain ⟨o', k1, k2⟩ := h.tags b hb
    rw [ho] at k1; cases k1
    rcases k2 with k | k | k
    · exact absurd k h1
    · exact absurd k h2
    · exact absurd k h3
/-- The document's queue is not the program's business. -/
theorem RQ.prog (h : RQ bw E W) (hq : QV own bq l pu W) (k : Kept (pQ own) W W') : RQ bw E W' := by
  obtain ⟨o, h1, h2⟩ := h.tagb
  refine h.of2 k ?_ fun g hg => ?_
  · rw [pQ, hq.notag h1 (by rw [h2]; simp) (by rw [h2]; simp) (by rw [h2]; simp)]; rfl
  · obtain ⟨o, h3, h4⟩ := h.tagr hg
    rw [pQ, hq.notag h3 (by rw [h4]; simp) (by rw [h4]; simp) (by rw [h4]; simp)]; rfl
theorem QV.not_bw (hq : QV own bq l pu W) (h : RQ bw E W) : own bw = false := by
  obtain ⟨o, h1, h2⟩ := h.tagb
  exact hq.notag h1 (by rw [h2]; simp) (by rw [h2]; simp) (by rw [h2]; simp)
theorem QV.ref (hq : QV own bq l pu W) (h : RQ bw E W) (k : Kept (pW bw) W W') : QV own bq l pu W' := hq.frame k fun b _ hb => by
  simp [pW]; intro e; subst e
  rw [hq.not_bw h] at hb; cases hb
/-- Both queues. -/
structure Both (own : Nat → Bool) (bq bw : Nat) (l E : List Ent) (pu : Int) (W : World) : Prop where
  q : QV own bq l pu W
  r : RQ bw E W
  pl : Pl l E pu
def pB (own : Nat → Bool) (bw : Nat) : Nat → Option TypeId → Bool := fun b _ => !own b && b != bw
theorem Kept.qB (h : Kept (pQ own) W W') (bw : Nat) : Kept (pB own bw) W W' := h.mono fun b t _ hp => by
  simp [pB] at hp; simp [pQ, hp.1]
theorem Kept.wB (h : Kept (pW bw) W W') (own : Nat → Bool) : Kept (pB own bw) W W' := h.mono fun b t _ hp => by
  simp [pB] at hp; simp [pW, hp.2]
/-- What a change of both queues leaves. -/
def Next2 (own : Nat → Bool) (bq bw : Nat) (pu : Int) (W W' : World) : Prop := ∃ own' l' E' pu', Both own' bq bw l' E' pu' W' ∧ pu' ≤ pu + 1 ∧ Kept (pB own bw) W W' ∧ ∀ b, own' b = true → own b = true ∨ W.heap.size ≤ b
theorem Both.ext (h : Both own bq bw l E pu W) (k : Ext W W') : Both own bq bw l E pu W' := ⟨h.q.ext k, h.r.ext k, h.pl⟩
theorem Both.same (h : Both own bq bw l E pu W) (k : Ext W W') : Next2 own bq bw pu W W' := ⟨own, l, E, pu, h.ext k, by omega, k.kept _, fun b hb => .inl hb⟩
/-- What Put answers. -/
def putR (l : List Ent) (t d : Int) : Int := if t < 0 ∨ d < 0 then 2 else if hasE l t = true then 7 else 0
def putL (l : List Ent) (x : Ent) : List Ent := if putR l x.task x.due = 0 then l ++ [x] else l
theorem Put_any (h : QV own bq l pu W) (x : Ent) (hx : x.nth = pu) (ht : (Lit.int .i64 x.task).wf = true) (hll : l.length < 900000) (hpu : 0 ≤ pu ∧ pu ≤ 1000000) :
    Calls Try.prog 17 #[.pointer (some ⟨bq, 0, none⟩), .agg #[.int .i64 x.task, .bool x.front, .int .i64 x.due]] W fun e W' => e = .returned (.int .i64 (putR l x.task x.due)) ∧ ∃ own' l', QV own' bq l' (if putR l x.task x.due = 0 then pu + 1 else pu) W' ∧ l'.Perm (putL l x) ∧ Kept (pQ own) W W' ∧ ∀ b, own' b = true → own b = true ∨ W.heap.size ≤ b := by
  unfold putL putR
  by_cases h1 : x.task < 0 ∨ x.due < 0
  · rw [if_pos h1]
    exact (Put_bad W bq x.task x.due x.front h1).mono fun e W' k => ⟨k.1, own, l, h.ext k.2, .refl _, k.2.kept _, fun b hb => .inl hb⟩
  · rw [if_neg h1]
    have h2 : 0 ≤ x.task ∧ 0 ≤ x.due := by omega
    cases h3 : hasE l x.task with
    | true => exact (Put_twice h x.task x.due x.front h2.1 ht h2.2 h3).mono fun e W' k => ⟨k.1, own, l, h.ext k.2, .refl _, k.2.kept _, fun b hb => .inl hb⟩
    | false =>
      refine (Put_new h x.task x.due x.front h2.1 ht h2.2 h3 hll hpu).mono fun e W' k => ⟨k.1, ?_⟩
      rw [← hx] at k ⊢
      exact k.2
theorem refPut_any (h : RQ bw E W) (x : Ent) (hn : E.length < 1000000) :
    Calls Try.prog 24 #[.pointer (some ⟨bw, 0, none⟩), .agg #[.int .i64 x.task, .bool x.front, .int .i64 x.due]] W fun e W' => e = .returned (.int .i64 (putR E x.task x.due)) ∧ RQ bw (putL E x) W' ∧ Kept (pW bw) W W' := by
  unfold putL putR
  by_cases h1 : x.task < 0 ∨ x.due < 0
  · rw [if_pos h1]
    exact (refPut_bad x h1).mono fun e W' k => ⟨k.1, h.ext k.2, k.2.kept _⟩
  · rw [if_neg h1]
    have h2 : 0 ≤ x.task ∧ 0 ≤ x.due := by omega
    cases h3 : hasE E x.task with
    | true =>
      obtain ⟨i, hi, e⟩ := hasE_iff.1 h3
      exact (refPut_twice h hn x h2 hi e).mono fun e W' k => ⟨k.1, h.ext k.2, k.2.kept _⟩
    | false =>
      exact (refPut_new h hn x h2 fun k hk e => by rw [hasE_iff.2 ⟨k, hk, e⟩] at h3; cases h3).mono fun e W' k => k
theorem Pl.put_any {l' : List Ent} {x : Ent} (h : Pl l E pu) (hx : x.nth = pu) (hp : l'.Perm (putL l x)) : Pl l' (putL E x) (if putR l x.task x.due = 0 then pu + 1 else pu) ∧ putR E x.task x.due = putR l x.task x.due := by
  have e : putR E x.task x.due = putR l x.task x.due := by unfold putR; rw [hasE_perm h.perm]
  refine ⟨?_, e⟩
  unfold putL at hp ⊢
  rw [e]
  by_cases hr : putR l x.task x.due = 0
  · rw [if_pos hr] at hp ⊢
    rw [if_pos hr]
    refine h.put hx ?_ hp
    unfold putR at hr
    split at hr
    · omega
    · split at hr
      · omega
      · simpa using ‹¬ hasE l x.task = true›
  · rw [if_neg hr] at hp ⊢
    rw [if_neg hr]
    exact h.again hp
end
end Go.Proofs.Ytmbdglolpagjdaa
