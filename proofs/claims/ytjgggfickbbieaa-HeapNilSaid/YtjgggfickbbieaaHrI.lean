/- The document's heap: Make makes. -/
import Derived.Test.YtjgggfickbbieaaHrH
namespace Go.Proofs.Ytjgggfickbbieaa
open Go.RowKit Go.Shelf
attribute [local go_sem] Oper.semAt_some
theorem infoI : (Try.prog.info? 2).map (fun i => (i.zero, i.size, i.bytes)) = some (some (.int .i64 0), 1, 8) := by kernel_rfl
theorem zeros (n : Nat) : (madeCells (Value.int .i64 0).cells (n * 1)).toList = rowI (List.replicate n 0) := by
  simp only [rowI, List.map_replicate]
  apply List.eq_replicate_iff.2
  refine ⟨by simp [madeCells], fun u hu => ?_⟩
  simp [madeCells, Value.cells] at hu
  obtain ⟨a, _, rfl⟩ := hu
  simp [Nat.mod_one]
/-- What was made: a heap one object longer. -/
def Made (own : Nat → Bool) (bw : Nat) (L : List Ob) (x : Ob) (W W' : World) : Prop := ∃ own', RH own' bw (L ++ [{ x with nth := (cntO L x.by' : Int) }]) W' ∧ Kept (pQ own) W W' ∧ ∀ b, own' b = true → own b = true ∨ W.heap.size ≤ b
section
variable {own : Nat → Bool} {bw : Nat} {L : List Ob} {W : World}
set_option maxHeartbeats 2000000 in
set_option maxRecDepth 100000 in
theorem refMake_any (k o si b : Int) (n : Nat) (hb : mkBad k n = false) (R : Value) (Q : World → Prop)
    (hadd : ∀ w1, Ext W w1 → w1.ownsRow W.heap.size 2 1 (.slice (some ⟨W.heap.size, 0, none⟩) n n) n (rowI (List.replicate n 0)) → Calls Try.prog 44 #[.pointer (some ⟨bw, 0, none⟩), .agg #[.int .i64 k, .int .i64 o, .slice (some ⟨W.heap.size, 0, none⟩) n n, .int .i64 si, .int .i64 b, .int .i64 0]] w1 fun e W' => ∃ z r, e = .returned (.tuple #[.int .i64 z, .int .i64 r]) ∧ R = .tuple #[.int .i64 z, .int .i64 r] ∧ Q W') :
    Calls Try.prog 25 #[.pointer (some ⟨bw, 0, none⟩), .int .i64 k, .int .i64 o, .int .i64 n, .int .i64 si, .int .i64 b] W fun e W' => e = .returned R ∧ Q W' := by
  have hn : n ≤ 64 := by
    simp [mkBad] at hb; omega
  obtain ⟨i0, hi0, hz0, hz1, hz2⟩ := infoParts infoI
  obtain ⟨w1, hm, how, hgr⟩ := run_makeSlice_full (P := Try.prog) (w := W) W.heap.size 33 2 i0 (.int .i64 0) 1 Try.underlying33 hi0 hz0 hz1 .i64 .i64 n (by omega) (by rw [hz2]; omega) (by unfold maxLen; omega) (Nat.le_refl _)
  rw [zeros] at how
  have hx1 : Ext W w1 := Kept.grown hgr fun j o e => by cases e
  have HADD := Lib.hid (hadd w1 hx1 how)
  have h1 : ¬ (n : Int) < 0 := by omega
  have h2 : ¬ (n : Int) > 64 := by omega
  clear how hgr hx1 hadd
  by_cases k1 : k = 1
  · subst k1
    clear hb
    go_enter Try.func25, Try.ntmps25
    go_wp2_with (go_at_call 44; refine HADD.out.mono ?_; rintro e w2 ⟨z, r, rfl, hr, hq⟩; have HRQ := Lib.hid hr; have HQ := Lib.hid hq; clear hr hq)
    go_ret2
    exact ⟨by rw [HRQ.out]; rfl, HQ.out⟩
  by_cases k2 : k = 2
  · subst k2
    clear hb k1
    go_enter Try.func25, Try.ntmps25
    go_wp2_with (go_at_call 44; refine HADD.out.mono ?_; rintro e w2 ⟨z, r, rfl, hr, hq⟩; have HRQ := Lib.hid hr; have HQ := Lib.hid hq; clear hr hq)
    go_ret2
    exact ⟨by rw [HRQ.out]; rfl, HQ.out⟩
  have k3 : k = 3 := by simp [mkBad] at hb; omega
  subst k3
  have h3 : ((n : Int) != 1) = false := by simp [mkBad] at hb; simp; omega
  clear hb k1 k2
  go_enter Try.func25, Try.ntmps25
  go_wp2_with (go_at_call 44; refine HADD.out.mono ?_; rintro e w2 ⟨z, r, rfl, hr, hq⟩; have HRQ := Lib.hid hr; have HQ := Lib.hid hq; clear hr hq)
  go_ret2
  exact ⟨by rw [HRQ.out]; rfl, HQ.out⟩
theorem RH.fresh {own : Nat → Bool} {bw : Nat} {L : List Ob} {W : World} (h : RH own bw L W) {g : Nat} (hg : W.heap.size ≤ g) : own g = false := by
  cases hc : own g with
  | false => rfl
  | true => have := h.lt g hc; omega
theorem own_base {W : World} {B : Nat} {e : TypeId} {size : Nat} {v : Value} {n : Nat} {xs : List Value} (h : W.ownsRow B e size v n xs) : ∀ b, v.ownBlock = some b → B ≤ b := fun b hb => by
  obtain ⟨o, h1, _⟩ := own_is h b hb
  exact (own_tag h b o hb h1).2
theorem made_of {own : Nat → Bool} {bw : Nat} {L : List Ob} {W w1 w2 : World} (x : Ob) (hx1 : Ext W w1) (hv : ∀ g, x.v.ownBlock = some g → W.heap.size ≤ g)
    (h : ∃ own', RH own' bw (L ++ [{ x with nth := (cntO L x.by' : Int) }]) w2 ∧ Kept (pQ own) w1 w2 ∧ ∀ b', own' b' = true → own b' = true ∨ x.v.ownBlock = some b' ∨ w1.heap.size ≤ b') : Made own bw L x W w2 := by
  obtain ⟨own', r1, r2, r3⟩ := h
  refine ⟨own', r1, (hx1.kept _).trans r2, fun b' hb' => ?_⟩
  have := hx1.size
  rcases r3 b' hb' with r | r | r
  · exact .inl r
  · exact .inr (hv _ r)
  · exact .inr (by omega)
theorem refMake_ok (h : RH own bw L W) (k o si b : Int) (n : Nat) (hb : mkBad k n = false) (hL : L.length < 1024) :
    Calls Try.prog 25 #[.pointer (some ⟨bw, 0, none⟩), .int .i64 k, .int .i64 o, .int .i64 n, .int .i64 si, .int .i64 b] W fun e W' => e = .returned (.tuple #[.int .i64 ((L.length : Int) + 1), .int .i64 0]) ∧ ∃ v, Made own bw L ⟨k, o, v, List.replicate n 0, si, b, 0⟩ W W' := by
  have hn : n ≤ 64 := by
    simp [mkBad] at hb; omega
  exact refMake_any k o si b n hb _ _ fun _ hx1 how => (refAdd_ok (h.ext hx1) hL ⟨k, o, .slice (some ⟨W.heap.size, 0, none⟩) n n, List.replicate n 0, si, b, 0⟩ 0 (by simpa using own_zero how) (fun g hg => h.fresh (own_base how g hg)) (by simpa using (by omega : n ≤ 256))).mono fun _ _ ⟨h1, h2⟩ => ⟨_, _, h1, rfl, _, made_of _ hx1 (fun g hg => own_base how g hg) h2⟩
theorem refMake_full (h : RH own bw L W) (k o si b : Int) (n : Nat) (hb : mkBad k n = false) (hL : L.length = 1024) :
    Calls Try.prog 25 #[.pointer (some ⟨bw, 0, none⟩), .int .i64 k, .int .i64 o, .int .i64 n, .int .i64 si, .int .i64 b] W fun e W' => e = .returned (.tuple #[.int .i64 0, .int .i64 11]) ∧ Ext W W' :=
  refMake_any k o si b n hb _ _ fun _ hx1 _ => (refAdd_full (h.ext hx1) hL ⟨k, o, .slice (some ⟨W.heap.size, 0, none⟩) n n, [], si, b, 0⟩ 0).mono fun _ _ ⟨h1, h2⟩ => ⟨_, _, h1, rfl, hx1.trans h2⟩
end
end Go.Proofs.Ytjgggfickbbieaa
