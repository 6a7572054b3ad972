/- The program's heap: Make, Closure. -/
import Derived.Test.YtjgggfickbbieaaHpE
namespace Go.Proofs.Ytjgggfickbbieaa
open Go.RowKit Go.Shelf
attribute [local go_sem] Oper.semAt_some
section
variable {W : World}
set_option maxHeartbeats 2000000 in
set_option maxRecDepth 100000 in
theorem may_yes (k s : Int) (hb : mkBad k s = false) : Calls Try.prog 38 #[.int .i64 k, .int .i64 s] W fun e W' => e = .returned (.bool true) ∧ W' = W := by
  by_cases k1 : k = 1
  · subst k1
    obtain ⟨s0, s1⟩ : 0 ≤ s ∧ s ≤ 64 := by simp [mkBad] at hb; omega
    clear hb
    go_enter Try.func38, Try.ntmps38
    go_wp2_with fail
    go_ret
    exact ⟨rfl, rfl⟩
  by_cases k2 : k = 2
  · subst k2
    obtain ⟨s0, s1⟩ : 0 ≤ s ∧ s ≤ 64 := by simp [mkBad] at hb; omega
    clear hb k1
    go_enter Try.func38, Try.ntmps38
    go_wp2_with fail
    go_ret
    exact ⟨rfl, rfl⟩
  obtain ⟨rfl, rfl⟩ : k = 3 ∧ s = 1 := by
    simp [mkBad] at hb
    omega
  clear hb k1 k2
  go_enter Try.func38, Try.ntmps38
  go_wp2_with fail
  go_ret
  exact ⟨rfl, rfl⟩
set_option maxHeartbeats 2000000 in
set_option maxRecDepth 100000 in
theorem may_no (k s : Int) (hb : mkBad k s = true) : Calls Try.prog 38 #[.int .i64 k, .int .i64 s] W fun e W' => e = .returned (.bool false) ∧ W' = W := by
  by_cases k1 : k = 1
  · subst k1
    by_cases s0 : 0 ≤ s
    · have s1 : ¬ s ≤ 64 := by simp [mkBad] at hb; omega
      clear hb
      go_enter Try.func38, Try.ntmps38
      go_wp2_with fail
      go_ret
      exact ⟨rfl, rfl⟩
    · clear hb
      go_enter Try.func38, Try.ntmps38
      go_wp2_with fail
      go_ret
      exact ⟨rfl, rfl⟩
  by_cases k2 : k = 2
  · subst k2
    by_cases s0 : 0 ≤ s
    · have s1 : ¬ s ≤ 64 := by simp [mkBad] at hb; omega
      clear hb k1
      go_enter Try.func38, Try.ntmps38
      go_wp2_with fail
      go_ret
      exact ⟨rfl, rfl⟩
    · clear hb k1
      go_enter Try.func38, Try.ntmps38
      go_wp2_with fail
      go_ret
      exact ⟨rfl, rfl⟩
  have k1' : (k == 1) = false := by simpa using k1
  have k2' : (k == 2) = false := by simpa using k2
  by_cases k3 : k = 3
  · subst k3
    have s1 : (s == 1) = false := by simp [mkBad] at hb; simp; omega
    clear hb k1 k2 k1' k2'
    go_enter Try.func38, Try.ntmps38
    go_wp2_with fail
    go_ret
    exact ⟨rfl, rfl⟩
  have k3' : (k == 3) = false := by simpa using k3
  clear hb k1 k2 k3
  go_enter Try.func38, Try.ntmps38
  go_wp2_with fail
  go_ret
  exact ⟨rfl, rfl⟩
end
/-- What was made: a heap one object longer. -/
def MadeP (own : Nat → Bool) (bh : Nat) (L : List Ob) (x : Ob) (W W' : World) : Prop := ∃ own' ps', PH own' bh ps' (L ++ [{ x with nth := (cntO L x.by' : Int) }]) W' ∧ Kept (pQ own) W W' ∧ ∀ b, own' b = true → own b = true ∨ W.heap.size ≤ b
theorem made_p {own : Nat → Bool} {bh : Nat} {L : List Ob} {W w1 w2 : World} (x : Ob) (hx1 : Ext W w1) (hv : ∀ g, x.v.ownBlock = some g → W.heap.size ≤ g)
    (h : ∃ own' ps', PH own' bh ps' (L ++ [{ x with nth := (cntO L x.by' : Int) }]) w2 ∧ Kept (pQ own) w1 w2 ∧ ∀ b', own' b' = true → own b' = true ∨ x.v.ownBlock = some b' ∨ w1.heap.size ≤ b') : MadeP own bh L x W w2 := by
  obtain ⟨own', ps', r1, r2, r3⟩ := h
  refine ⟨own', ps', r1, (hx1.kept _).trans r2, fun b' hb' => ?_⟩
  have := hx1.size
  rcases r3 b' hb' with r | r | r
  · exact .inl r
  · exact .inr (hv _ r)
  · exact .inr (by omega)
theorem PH.fresh {own : Nat → Bool} {bh : Nat} {ps : List Nat} {L : List Ob} {W : World} (h : PH own bh ps L W) {g : Nat} (hg : W.heap.size ≤ g) : own g = false := by
  cases hc : own g with
  | false => rfl
  | true => have := h.lt g hc; omega
section
variable {own : Nat → Bool} {bh : Nat} {ps : List Nat} {L : List Ob} {W : World}
set_option maxHeartbeats 2000000 in
set_option maxRecDepth 100000 in
theorem Make_bad (k o s si b : Int) (hbh : bh < W.heap.size) (hb : mkBad k s = true) :
    Calls Try.prog 16 #[.pointer (some ⟨bh, 0, none⟩), .int .i64 k, .int .i64 o, .int .i64 s, .int .i64 si, .int .i64 b] W fun e W' => e = .returned (.tuple #[.int .i64 0, .int .i64 2]) ∧ W' = W := by
  have HM := Lib.hid (may_no (W := W) k s hb)
  clear hb
  go_enter Try.func16, Try.ntmps16
  go_wp2_with (go_at_call 38; refine HM.out.mono ?_; rintro e w2 ⟨rfl, rfl⟩)
  go_ret2
  exact ⟨rfl, rfl⟩
set_option maxHeartbeats 2000000 in
set_option maxRecDepth 100000 in
theorem Make_any (h : PH own bh ps L W) (k o si b : Int) (n : Nat) (hb : mkBad k n = false) (R : Value) (Q : World → Prop)
    (hadd : ∀ w1, Ext W w1 → w1.ownsRow W.heap.size 2 1 (.slice (some ⟨W.heap.size, 0, none⟩) n n) n (rowI (List.replicate n 0)) → Calls Try.prog 39 #[.pointer (some ⟨bh, 0, none⟩), .agg #[.int .i64 k, .int .i64 o, .slice (some ⟨W.heap.size, 0, none⟩) n n, .int .i64 si, .int .i64 b, .int .i64 0]] w1 fun e W' => ∃ z r, e = .returned (.tuple #[.int .i64 z, .int .i64 r]) ∧ R = .tuple #[.int .i64 z, .int .i64 r] ∧ Q W') :
    Calls Try.prog 16 #[.pointer (some ⟨bh, 0, none⟩), .int .i64 k, .int .i64 o, .int .i64 n, .int .i64 si, .int .i64 b] W fun e W' => e = .returned R ∧ Q W' := by
  have hn : n ≤ 64 := by
    simp [mkBad] at hb; omega
  have HM := Lib.hid (may_yes (W := W) k n hb)
  obtain ⟨i0, hi0, hz0, hz1, hz2⟩ := infoParts infoI
  obtain ⟨w1, hm, how, hgr⟩ := run_makeSlice_full (P := Try.prog) (w := W) W.heap.size 33 2 i0 (.int .i64 0) 1 Try.underlying33 hi0 hz0 hz1 .i64 .i64 n (by omega) (by rw [hz2]; omega) (by unfold maxLen; omega) (Nat.le_refl _)
  rw [zeros] at how
  have hx1 : Ext W w1 := Kept.grown hgr fun j o e => by cases e
  have HADD := Lib.hid (hadd w1 hx1 how)
  have hbh := h.bl
  clear h hadd hb how hgr hx1
  go_enter Try.func16, Try.ntmps16
  go_wp2_with (first
    | (go_at_call 38; refine HM.out.mono ?_; rintro e w2 ⟨rfl, rfl⟩)
    | (go_at_call 39; refine HADD.out.mono ?_; rintro e w3 ⟨z, r, rfl, hr, hq⟩; have HRQ := Lib.hid hr; have HQ := Lib.hid hq; clear hr hq))
  go_ret2
  exact ⟨by rw [HRQ.out]; rfl, HQ.out⟩
theorem Make_ok (h : PH own bh ps L W) (k o si b : Int) (n : Nat) (hb : mkBad k n = false) (hwf : (Lit.int .i64 b).wf = true) (hL : L.length < 1024) :
    Calls Try.prog 16 #[.pointer (some ⟨bh, 0, none⟩), .int .i64 k, .int .i64 o, .int .i64 n, .int .i64 si, .int .i64 b] W fun e W' => e = .returned (.tuple #[.int .i64 ((L.length : Int) + 1), .int .i64 0]) ∧ ∃ v, MadeP own bh L ⟨k, o, v, List.replicate n 0, si, b, 0⟩ W W' := by
  have hn : n ≤ 64 := by
    simp [mkBad] at hb; omega
  refine Make_any h k o si b n hb _ _ fun w1 hx1 how => ?_
  refine (add_ok (h.ext hx1) hL ⟨k, o, .slice (some ⟨W.heap.size, 0, none⟩) n n, List.replicate n 0, si, b, 0⟩ 0 hwf (by simpa using own_zero how) (fun g hg => h.fresh (own_base how g hg)) (by simpa using (by omega : n ≤ 256))).mono fun _ _ ⟨h1, h2⟩ => ⟨_, _, h1, rfl, _, made_p _ hx1 (fun g hg => own_base how g hg) h2⟩
theorem Make_full (h : PH own bh ps L W) (k o si b : Int) (n : Nat) (hb : mkBad k n = false) (hL : L.length = 1024) :
    Calls Try.prog 16 #[.pointer (some ⟨bh, 0, none⟩), .int .i64 k, .int .i64 o, .int .i64 n, .int .i64 si, .int .i64 b] W fun e W' => e = .returned (.tuple #[.int .i64 0, .int .i64 11]) ∧ Ext W W' :=
  Make_any h k o si b n hb _ _ fun _ hx1 _ => (add_full (h.ext hx1) hL ⟨k, o, .slice (some ⟨W.heap.size, 0, none⟩) n n, [], si, b, 0⟩ 0).mono fun _ _ ⟨h1, h2⟩ => ⟨_, _, h1, rfl, hx1.trans h2⟩
set_option maxHeartbeats 2000000 in
set_option maxRecDepth 100000 in
theorem Closure_bad (o si b : Int) (A : Option Addr) (m c : Nat) (hm : 256 < m) :
    Calls Try.prog 19 #[.pointer (some ⟨bh, 0, none⟩), .int .i64 o, .slice A m c, .int .i64 si, .int .i64 b] W fun e W' => e = .returned (.tuple #[.int .i64 0, .int .i64 2]) ∧ W' = W := by
  have h1 : (m : Int) > 256 := by omega
  go_enter Try.func19, Try.ntmps19
  go_wp2_with fail
  go_ret2
  exact ⟨rfl, rfl⟩
set_option maxHeartbeats 2000000 in
set_option maxRecDepth 100000 in
theorem Closure_any (h : PH own bh ps L W) (o si b : Int) (l : List Int) (A : Option Addr) (c : Nat) (hs : Src W (.slice A l.length c) l.length (rowI l)) (hl : l.length ≤ 256) (R : Value) (Q : World → Prop)
    (hadd : ∀ w1 A1 c1, Ext W w1 → w1.ownsRow W.heap.size 2 1 (.slice A1 l.length c1) l.length (rowI l) → Calls Try.prog 39 #[.pointer (some ⟨bh, 0, none⟩), .agg #[.int .i64 4, .int .i64 o, .slice A1 l.length c1, .int .i64 si, .int .i64 b, .int .i64 0]] w1 fun e W' => ∃ z r, e = .returned (.tuple #[.int .i64 z, .int .i64 r]) ∧ R = .tuple #[.int .i64 z, .int .i64 r] ∧ Q W') :
    Calls Try.prog 19 #[.pointer (some ⟨bh, 0, none⟩), .int .i64 o, .slice A l.length c, .int .i64 si, .int .i64 b] W fun e W' => e = .returned R ∧ Q W' := by
  have h1 : ¬ (l.length : Int) > 256 := by omega
  have HC := Lib.hid (copied_ok l A c hs (by omega))
  have HADD := Lib.hid hadd
  have hbh := h.bl
  clear h hadd hs
  go_enter Try.func19, Try.ntmps19
  go_wp2_with (first
    | (go_at_call 41; refine HC.out.mono ?_; rintro e w2 ⟨A1, c1, rfl, hx2, ho2⟩; have HAD := Lib.hid (HADD.out _ _ _ hx2 ho2); clear hx2 ho2)
    | (go_at_call 39; refine HAD.out.mono ?_; rintro e w3 ⟨z, r, rfl, hr, hq⟩; have HRQ := Lib.hid hr; have HQ := Lib.hid hq; clear hr hq))
  go_ret2
  exact ⟨by rw [HRQ.out]; rfl, HQ.out⟩
theorem Closure_ok (h : PH own bh ps L W) (o si b : Int) (l : List Int) (A : Option Addr) (c : Nat) (hs : Src W (.slice A l.length c) l.length (rowI l)) (hl : l.length ≤ 256) (hwf : (Lit.int .i64 b).wf = true) (hL : L.length < 1024) :
    Calls Try.prog 19 #[.pointer (some ⟨bh, 0, none⟩), .int .i64 o, .slice A l.length c, .int .i64 si, .int .i64 b] W fun e W' => e = .returned (.tuple #[.int .i64 ((L.length : Int) + 1), .int .i64 0]) ∧ ∃ v, MadeP own bh L ⟨4, o, v, l, si, b, 0⟩ W W' :=
  Closure_any h o si b l A c hs hl _ _ fun _ A1 c1 hx1 how => (add_ok (h.ext hx1) hL ⟨4, o, .slice A1 l.length c1, l, si, b, 0⟩ 0 hwf (own_zero how) (fun g hg => h.fresh (own_base how g hg)) hl).mono fun _ _ ⟨h1, h2⟩ => ⟨_, _, h1, rfl, _, made_p _ hx1 (fun g hg => own_base how g hg) h2⟩
theorem Closure_full (h : PH own bh ps L W) (o si b : Int) (l : List Int) (A : Option Addr) (c : Nat) (hs : Src W (.slice A l.length c) l.length (rowI l)) (hl : l.length ≤ 256) (hL : L.length = 1024) :
    Calls Try.prog 19 #[.pointer (some ⟨bh, 0, none⟩), .int .i64 o, .slice A l.length c, .int .i64 si, .int .i64 b] W fun e W' => e = .returned (.tuple #[.int .i64 0, .int .i64 11]) ∧ Ext W W' :=
  Closure_any h o si b l A c hs hl _ _ fun _ A1 c1 hx1 _ => (add_full (h.ext hx1) hL ⟨4, o, .slice A1 l.length c1, [], si, b, 0⟩ 0).mono fun _ _ ⟨h1, h2⟩ => ⟨_, _, h1, rfl, hx1.trans h2⟩
end
end Go.Proofs.Ytjgggfickbbieaa
