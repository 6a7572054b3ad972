/- Both heaps beside one another: the program's and the document's. -/
import Derived.Test.YtjgggfickbbieaaHqF
namespace Go.Proofs.Ytjgggfickbbieaa
open Go.RowKit Go.Shelf
attribute [local go_sem] Oper.semAt_some
abbrev Key := Int × Int × Int × Int × Int × List Int
/-- What a change of the program's heap leaves. -/
def StepP (own : Nat → Bool) (bh : Nat) (K : List Key) (W W' : World) : Prop := ∃ own' ps' L', PH own' bh ps' L' W' ∧ L'.map Ob.key = K ∧ Kept (pQ own) W W' ∧ ∀ b, own' b = true → own b = true ∨ W.heap.size ≤ b
/-- What a change of the document's heap leaves. -/
def StepR (own : Nat → Bool) (bw : Nat) (K : List Key) (W W' : World) : Prop := ∃ own' L', RH own' bw L' W' ∧ L'.map Ob.key = K ∧ Kept (pQ own) W W' ∧ ∀ b, own' b = true → own b = true ∨ W.heap.size ≤ b
structure Both (oP oR : Nat → Bool) (bh bw : Nat) (ps : List Nat) (L M : List Ob) (W : World) : Prop where
  p : PH oP bh ps L W
  r : RH oR bw M W
  key : L.map Ob.key = M.map Ob.key
  dis : ∀ b, oP b = true → oR b = false
def pB (oP oR : Nat → Bool) : Nat → Option TypeId → Bool := fun b _ => !oP b && !oR b
/-- What a change of both leaves. -/
def Next2 (oP oR : Nat → Bool) (bh bw : Nat) (W W' : World) : Prop := ∃ oP' oR' ps' L' M', Both oP' oR' bh bw ps' L' M' W' ∧ Kept (pB oP oR) W W' ∧ (∀ b, oP' b = true → oP b = true ∨ W.heap.size ≤ b) ∧ ∀ b, oR' b = true → oR b = true ∨ W.heap.size ≤ b
section
variable {oP oR : Nat → Bool} {bh bw : Nat} {ps : List Nat} {L M : List Ob} {W W1 W2 : World}
theorem Both.ext (h : Both oP oR bh bw ps L M W) (x : Ext W W1) : Both oP oR bh bw ps L M W1 := ⟨h.p.ext x, h.r.ext x, h.key, h.dis⟩
theorem Both.same (h : Both oP oR bh bw ps L M W) (x : Ext W W1) : Next2 oP oR bh bw W W1 := ⟨oP, oR, ps, L, M, h.ext x, x.kept _, fun _ hb => .inl hb, fun _ hb => .inl hb⟩
theorem Next2.pre (x : Ext W W1) (h : Next2 oP oR bh bw W1 W2) : Next2 oP oR bh bw W W2 := by
  obtain ⟨oP', oR', ps', L', M', h1, h2, h3, h4⟩ := h
  have := x.size
  exact ⟨oP', oR', ps', L', M', h1, (x.kept _).trans h2, fun b hb => (h3 b hb).imp id fun h => by omega, fun b hb => (h4 b hb).imp id fun h => by omega⟩
theorem Next2.post (h : Next2 oP oR bh bw W W1) (x : Ext W1 W2) : Next2 oP oR bh bw W W2 := by
  obtain ⟨oP', oR', ps', L', M', h1, h2, h3, h4⟩ := h
  exact ⟨oP', oR', ps', L', M', h1.ext x, h2.trans (x.kept _), h3, h4⟩
/-- The document's heap behind a change of the program's. -/
theorem Both.ref (h : Both oP oR bh bw ps L M W) (k : Kept (pQ oP) W W1) : RH oR bw M W1 := h.r.frame k fun b _ hb => by
  cases hc : oP b with
  | false => simp [pQ, hc]
  | true => rw [h.dis b hc] at hb; cases hb
theorem both_step (h : Both oP oR bh bw ps L M W) {K : List Key} (s1 : StepP oP bh K W W1) (s2 : StepR oR bw K W1 W2) : Next2 oP oR bh bw W W2 := by
  obtain ⟨oP', ps', L', p1, p2, p3, p4⟩ := s1
  obtain ⟨oR', M', r1, r2, r3, r4⟩ := s2
  have hz := p3.size
  have hPR : ∀ b, oP' b = true → oR b = false := fun b hb => by
    rcases p4 b hb with q | q
    · exact h.dis b q
    · exact h.r.fresh q
  refine ⟨oP', oR', ps', L', M', ⟨p1.frame r3 fun b _ hb => by simp [pQ, hPR b hb], r1, by rw [p2, r2], fun b hb => ?_⟩, ?_, p4, fun b hb => (r4 b hb).imp id fun q => by omega⟩
  · cases hc : oR' b with
    | false => rfl
    | true =>
      rcases r4 b hc with q | q
      · rw [hPR b hb] at q; cases q
      · have := p1.lt b hb; omega
  · exact (p3.mono fun b t _ hp => by simp [pB] at hp; simp [pQ, hp.1]).trans (r3.mono fun b t _ hp => by simp [pB] at hp; simp [pQ, hp.2])
theorem StepP.same (h : PH oP bh ps L W) (x : Ext W W1) : StepP oP bh (L.map Ob.key) W W1 := ⟨oP, ps, L, h.ext x, rfl, x.kept _, fun _ hb => .inl hb⟩
theorem StepR.same (h : RH oR bw M W) (x : Ext W W1) : StepR oR bw (M.map Ob.key) W W1 := ⟨oR, M, h.ext x, rfl, x.kept _, fun _ hb => .inl hb⟩
/-- The name of a new object. -/
def newK (L : List Ob) (k o si b : Int) (vals : List Int) : Key := (k, o, si, b, (cntO L b : Int), vals)
theorem newK_eq (h : L.map Ob.key = M.map Ob.key) (k o si b : Int) (vals : List Int) : newK L k o si b vals = newK M k o si b vals := by
  have hby : L.map Ob.by' = M.map Ob.by' := by
    have := congrArg (List.map fun k : Key => k.2.2.2.1) h
    simpa [List.map_map, Function.comp_def, Ob.key] using this
  unfold newK; rw [cntO_map hby]
theorem MadeP.step {k o si b : Int} {vals : List Int} (h : ∃ v, MadeP oP bh L ⟨k, o, v, vals, si, b, 0⟩ W W1) : StepP oP bh (L.map Ob.key ++ [newK L k o si b vals]) W W1 := by
  obtain ⟨v, own', ps', h1, h2, h3⟩ := h
  exact ⟨own', ps', _, h1, by simp [Ob.key, newK], h2, h3⟩
theorem Made.step {k o si b : Int} {vals : List Int} (h : ∃ v, Made oR bw M ⟨k, o, v, vals, si, b, 0⟩ W W1) : StepR oR bw (M.map Ob.key ++ [newK M k o si b vals]) W W1 := by
  obtain ⟨v, own', h1, h2, h3⟩ := h
  exact ⟨own', _, h1, by simp [Ob.key, newK], h2, h3⟩
/-- What Make answers, of a heap of n objects; what Closure does. -/
def mkR (n : Nat) (k s : Int) : Int × Int := if mkBad k s = true then (0, 2) else if n = 1024 then (0, 11) else ((n : Int) + 1, 0)
def mkK (L : List Ob) (k o s si b : Int) : List Key := if mkBad k s = true then L.map Ob.key else if L.length = 1024 then L.map Ob.key else L.map Ob.key ++ [newK L k o si b (List.replicate s.toNat 0)]
def clR (n m : Nat) : Int × Int := if 256 < m then (0, 2) else if n = 1024 then (0, 11) else ((n : Int) + 1, 0)
def clK (L : List Ob) (o si b : Int) (l : List Int) : List Key := if 256 < l.length then L.map Ob.key else if L.length = 1024 then L.map Ob.key else L.map Ob.key ++ [newK L 4 o si b l]
theorem mkK_eq (h : L.map Ob.key = M.map Ob.key) (k o s si b : Int) : mkK L k o s si b = mkK M k o s si b := by unfold mkK; rw [newK_eq h, key_len h, h]
theorem clK_eq (h : L.map Ob.key = M.map Ob.key) (o si b : Int) (l : List Int) : clK L o si b l = clK M o si b l := by unfold clK; rw [newK_eq h, key_len h, h]
theorem mkBad_nat {k s : Int} (h : mkBad k s = false) : (s.toNat : Int) = s := by simp [mkBad] at h; omega
theorem Make_all (h : PH oP bh ps L W) (k o s si b : Int) (hwf : (Lit.int .i64 b).wf = true) :
    Calls Try.prog 16 #[.pointer (some ⟨bh, 0, none⟩), .int .i64 k, .int .i64 o, .int .i64 s, .int .i64 si, .int .i64 b] W fun e W' => e = .returned (.tuple #[.int .i64 (mkR L.length k s).1, .int .i64 (mkR L.length k s).2]) ∧ StepP oP bh (mkK L k o s si b) W W' := by
  unfold mkR mkK
  cases hb : mkBad k s with
  | true => exact (Make_bad k o s si b h.bl hb).mono fun e W' ⟨h1, h2⟩ => ⟨h1, by subst h2; exact StepP.same h (Ext.refl _)⟩
  | false =>
    have hs := mkBad_nat hb
    rw [← hs] at hb ⊢
    simp only [Bool.false_eq_true, if_false, Int.toNat_natCast]
    by_cases hL : L.length = 1024
    · rw [if_pos hL, if_pos hL]
      exact (Make_full h k o si b s.toNat hb hL).mono fun e W' ⟨h1, h2⟩ => ⟨h1, StepP.same h h2⟩
    · rw [if_neg hL, if_neg hL]
      exact (Make_ok h k o si b s.toNat hb hwf (by have := h.len; omega)).mono fun e W' ⟨h1, h2⟩ => ⟨h1, MadeP.step h2⟩
theorem refMake_all (h : RH oR bw M W) (k o s si b : Int) :
    Calls Try.prog 25 #[.pointer (some ⟨bw, 0, none⟩), .int .i64 k, .int .i64 o, .int .i64 s, .int .i64 si, .int .i64 b] W fun e W' => e = .returned (.tuple #[.int .i64 (mkR M.length k s).1, .int .i64 (mkR M.length k s).2]) ∧ StepR oR bw (mkK M k o s si b) W W' := by
  unfold mkR mkK
  cases hb : mkBad k s with
  | true => exact (refMake_bad k o s si b hb).mono fun e W' ⟨h1, h2⟩ => ⟨h1, by subst h2; exact StepR.same h (Ext.refl _)⟩
  | false =>
    have hs := mkBad_nat hb
    rw [← hs] at hb ⊢
    simp only [Bool.false_eq_true, if_false, Int.toNat_natCast]
    by_cases hL : M.length = 1024
    · rw [if_pos hL, if_pos hL]
      exact (refMake_full h k o si b s.toNat hb hL).mono fun e W' ⟨h1, h2⟩ => ⟨h1, StepR.same h h2⟩
    · rw [if_neg hL, if_neg hL]
      exact (refMake_ok h k o si b s.toNat hb (by have := h.len; omega)).mono fun e W' ⟨h1, h2⟩ => ⟨h1, Made.step h2⟩
theorem Closure_all (h : PH oP bh ps L W) (o si b : Int) (l : List Int) (A : Option Addr) (c : Nat) (hs : Src W (.slice A l.length c) l.length (rowI l)) (hwf : (Lit.int .i64 b).wf = true) :
    Calls Try.prog 19 #[.pointer (some ⟨bh, 0, none⟩), .int .i64 o, .slice A l.length c, .int .i64 si, .int .i64 b] W fun e W' => e = .returned (.tuple #[.int .i64 (clR L.length l.length).1, .int .i64 (clR L.length l.length).2]) ∧ StepP oP bh (clK L o si b l) W W' := by
  unfold clR clK
  by_cases hl : 256 < l.length
  · rw [if_pos hl, if_pos hl]
    exact (Closure_bad o si b A l.length c hl).mono fun e W' ⟨h1, h2⟩ => ⟨h1, by subst h2; exact StepP.same h (Ext.refl _)⟩
  · rw [if_neg hl, if_neg hl]
    by_cases hL : L.length = 1024
    · rw [if_pos hL, if_pos hL]
      exact (Closure_full h o si b l A c hs (by omega) hL).mono fun e W' ⟨h1, h2⟩ => ⟨h1, StepP.same h h2⟩
    · rw [if_neg hL, if_neg hL]
      exact (Closure_ok h o si b l A c hs (by omega) hwf (by have := h.len; omega)).mono fun e W' ⟨h1, h2⟩ => ⟨h1, MadeP.step h2⟩
theorem refClosure_all (h : RH oR bw M W) (o si b : Int) (l : List Int) (A : Option Addr) (c : Nat) (hs : Src W (.slice A l.length c) l.length (rowI l)) :
    Calls Try.prog 26 #[.pointer (some ⟨bw, 0, none⟩), .int .i64 o, .slice A l.length c, .int .i64 si, .int .i64 b] W fun e W' => e = .returned (.tuple #[.int .i64 (clR M.length l.length).1, .int .i64 (clR M.length l.length).2]) ∧ StepR oR bw (clK M o si b l) W W' := by
  unfold clR clK
  by_cases hl : 256 < l.length
  · rw [if_pos hl, if_pos hl]
    exact (refClosure_bad o si b A l.length c hl).mono fun e W' ⟨h1, h2⟩ => ⟨h1, by subst h2; exact StepR.same h (Ext.refl _)⟩
  · rw [if_neg hl, if_neg hl]
    by_cases hL : M.length = 1024
    · rw [if_pos hL, if_pos hL]
      exact (refClosure_full h o si b l A c hs (by omega) hL).mono fun e W' ⟨h1, h2⟩ => ⟨h1, StepR.same h h2⟩
    · rw [if_neg hL, if_neg hL]
      exact (refClosure_ok h o si b l A c hs (by omega) (by have := h.len; omega)).mono fun e W' ⟨h1, h2⟩ => ⟨h1, Made.step h2⟩
theorem key_parts (h : L.map Ob.key = M.map Ob.key) (i : Nat) : (nt L i).kind = (nt M i).kind ∧ (nt L i).of = (nt M i).of ∧ (nt L i).site = (nt M i).site ∧ (nt L i).by' = (nt M i).by' ∧ (nt L i).nth = (nt M i).nth ∧ (nt L i).vals = (nt M i).vals := by
  have := key_nt h i
  simpa [Ob.key] using this
theorem hasO_eq (h : L.map Ob.key = M.map Ob.key) (id : Int) : hasO L id = hasO M id := by unfold hasO; rw [key_len h]
theorem atO_parts (h : L.map Ob.key = M.map Ob.key) (id : Int) : (atO L id).kind = (atO M id).kind ∧ (atO L id).vals = (atO M id).vals := by
  obtain ⟨h1, _, _, _, _, h2⟩ := key_parts h (id - 1).toNat
  exact ⟨h1, h2⟩
theorem lenO_eq (h : L.map Ob.key = M.map Ob.key) (id : Int) : lenO L id = lenO M id := by unfold lenO; rw [hasO_eq h, (atO_parts h id).2]
theorem getO_eq (h : L.map Ob.key = M.map Ob.key) (id i : Int) : getO L id i = getO M id i := by unfold getO; rw [lenO_eq h, (atO_parts h id).2]
theorem setE_eq (h : L.map Ob.key = M.map Ob.key) (id i : Int) : setE L id i = setE M id i := by unfold setE; rw [lenO_eq h, (atO_parts h id).1]
theorem setL_eq (h : L.map Ob.key = M.map Ob.key) (id i z : Int) : (setL L id i z).map Ob.key = (setL M id i z).map Ob.key := by
  unfold setL
  rw [setE_eq h]
  split
  · unfold setO
    rw [List.map_set, List.map_set, h]
    obtain ⟨h1, h2, h3, h4, h5, h6⟩ := key_parts h (id - 1).toNat
    simp only [Ob.key, h1, h2, h3, h4, h5, h6]
  · exact h
theorem Set_all (h : PH oP bh ps L W) (id i z : Int) : Calls Try.prog 21 #[.pointer (some ⟨bh, 0, none⟩), .int .i64 id, .int .i64 i, .int .i64 z] W fun e W' => e = .returned (.int .i64 (setE L id i)) ∧ StepP oP bh ((setL L id i z).map Ob.key) W W' :=
  (Set_ok h id i z).mono fun _ _ ⟨h1, h2, h3⟩ => ⟨h1, oP, ps, _, h2, rfl, h3, fun _ hb => .inl hb⟩
theorem refSet_all (h : RH oR bw M W) (id i z : Int) : Calls Try.prog 28 #[.pointer (some ⟨bw, 0, none⟩), .int .i64 id, .int .i64 i, .int .i64 z] W fun e W' => e = .returned (.int .i64 (setE M id i)) ∧ StepR oR bw ((setL M id i z).map Ob.key) W W' :=
  (refSet_ok h id i z).mono fun _ _ ⟨h1, h2, h3⟩ => ⟨h1, oR, _, h2, rfl, h3, fun _ hb => .inl hb⟩
end
end Go.Proofs.Ytjgggfickbbieaa
