/- A heap gone over in order: what may be next is laid in. -/
import Derived.Test.YtmbdglolpagjdaaQuO
import Derived.Test.YtmbdglolpagjdaaQuP
import Derived.Deep.LoopGhost
import Derived.LoopIn
import Derived.Laws.EntriesVeiled
namespace Go.Proofs.Ytmbdglolpagjdaa
open Go.RowKit Go.Shelf
section
variable {B : Nat} {W0 : World} {l : List Ent} {bl bp : Nat}
theorem PS.rebase {s : List Nat} {W : World} (h : PS B W0 l bl bp s W) : PS B W l bl bp s W := ⟨h.pb, h.lb, Kept.refl _ _, h.hB, h.hlt, h.lsm, h.ssm⟩
theorem PS.body {s : List Nat} {W W' : World} {X : Nat} (h : PS B W0 l bl bp s W) (k : Kept (pK X) W W') : PS B W' l bl bp s W' := by
  obtain ⟨⟨v, h1, h2⟩, ⟨A, c, h3, h4⟩, h5, h6, h7, h8, h9⟩ := h
  exact ⟨⟨v, k.same _ _ h1 rfl, k.row h2 fun _ _ => rfl⟩, ⟨A, c, k.same _ _ h3 rfl, k.row h4 fun _ _ => rfl⟩, Kept.refl _ _, h6, h7, h8, h9⟩
theorem pR_pvio (B b bl bp : Nat) : pR B b (tag (pvio bl bp)) = true := by simp [pR, tag, pvio]
def ReachE (B : Nat) (W0 : World) (l : List Ent) (bl bp : Nat) (s : List Nat) (j : Nat) (e : Ending) (w' : World) : Prop :=
  e = .returned (.tuple #[]) ∧ ∃ s', PS B W0 l bl bp s' w' ∧ Heap (iLt l) (nth s') s'.length ∧ ((l.length ≤ j ∧ s' = s) ∨ (j < l.length ∧ s'.Perm (s ++ [j])))

set_option maxHeartbeats 1000000 in
set_option maxRecDepth 100000 in
theorem reach_ok {s : List Nat} {W : World} {bn j : Nat} (h : PS B W0 l bl bp s W) (hb : W.heap[bn]? = some (pvio bl bp)) (hh : Heap (iLt l) (nth s) s.length) (hs : j < l.length → s.length < 1000000) :
    Calls Try.prog 53 #[.int .i64 (j : Int), .pointer (some ⟨bl, 0, none⟩), .pointer (some ⟨bn, 0, none⟩)] W (ReachE B W0 l bl bp s j) := by
  obtain ⟨A, c, c0, _, _⟩ := h.list
  obtain ⟨p0, p1, p2⟩ := pvio_cells hb
  have hpu := fun (hl : j < l.length) => hpush_ok hiI s j W h ⟨hl, hs hl⟩ hh
  have HP := Lib.hid hpu
  have H := Lib.hid h
  have HH := Lib.hid hh
  have hsm := h.lsm
  clear h hh hb hpu hs
  go_enter Try.func53, Try.ntmps53
  rcases Nat.lt_or_ge j l.length with hl | hl
  · have hl' : (j : Int) < (l.length : Int) := by omega
    go_wp2_with fail
    refine (HP.out hl).mono ?_
    rintro e w' ⟨rfl, s', hp, hh, hs⟩
    go_wp2_with fail
    go_end0
    exact ⟨rfl, s', hs, hh, .inr ⟨hl, hp⟩⟩
  · have hl' : ¬ (j : Int) < (l.length : Int) := by omega
    go_wp2_with fail
    go_end0
    exact ⟨rfl, s, H.out, HH.out, .inl ⟨hl, rfl⟩⟩

/-- What a round begins with: what was given, what may be next. -/
def Rel (B : Nat) (l : List Ent) (bl bp bn : Nat) (J : List Ent → World → Prop) (k : Nat) (w : World) : Prop :=
  ∃ out s, Fr l out s [] ∧ k + out.length = l.length ∧ Heap (iLt l) (nth s) s.length ∧ PS B w l bl bp s w ∧ w.heap[bn]? = some (pvio bl bp) ∧ J (out.map (nth l)) w

set_option maxHeartbeats 1000000 in
set_option maxRecDepth 100000 in
theorem inOrder1_in (n lp : Nat) (J Jx : List Ent → World → Prop) (ht : Tri l) (hh : Heap eLt (nth l) l.length) (hsm : l.length ≤ 900000) (W : World) (A : Option Addr) (c : Nat)
    (hbl : W.heap[bl]? = some (.cells #[.slice A l.length c] 56 (0, 0))) (how : W.ownsRow 0 63 4 (.slice A l.length c) l.length (row4 l))
    (hJ : ∀ s, Stab W.heap.size (J s)) (hJx : ∀ s, Stab W.heap.size (Jx s))
    (hY : ∀ pre x W1, pre ++ [x] <+: srt l → J pre W1 → YieldAt Fence.wide (n - 1) Try.prog lp #[x.val] W1 fun e W2 => (e = .returned (.bool true) ∧ J (pre ++ [x]) W2 ∧ Kept (pK W.heap.size) W1 W2) ∨ (e = .returned (.bool false) ∧ Jx (pre ++ [x]) W2))
    (h0 : J [] W) : CallsIn Fence.wide n Try.prog 50 #[.func (.yield lp) #[] #[], .pointer (some ⟨bl, 0, none⟩)] W fun e W' => (∃ v, e = .returned v) ∧ (J (srt l) W' ∨ ∃ pre x, pre ++ [x] <+: srt l ∧ Jx (pre ++ [x]) W') := by
  refine callsIn_of_wp Try.func50 rfl trivial ?_ rfl
  simp only [Try.ntmps50, List.size_toArray, List.length_cons, List.length_nil, Nat.reduceAdd, Nat.reduceSub, Array.replicate_succ, Array.replicate_zero, List.push_toArray, List.append_toArray, List.nil_append, List.cons_append]
  have hmf : ∀ (fn : Fn) (first cap : Array Value) (w : World), (Instr.makeFunc fn first cap).run Try.prog w = .ok (.func fn first cap) w := fun _ _ _ _ => rfl
  obtain ⟨W1, hW1⟩ : ∃ W1, W1 = (W.alloc (.cells #[.slice none 0 0] 42 (0, 0))).alloc (pvio bl W.heap.size) := ⟨_, rfl⟩
  have hE : Ext W W1 := by rw [hW1]; exact Ext.two _ _ _
  have hb1 : W1.heap[W.heap.size]? = some (.cells #[.slice none 0 0] 42 (0, 0)) := by rw [hW1]; exact (Below.heap_alloc _ _ _ (by simp)).trans (World.alloc_heap_new _ _)
  have hb2 : W1.heap[W.heap.size + 1]? = some (pvio bl W.heap.size) := by rw [hW1]; have := World.alloc_heap_new (W.alloc (.cells #[.slice none 0 0] 42 (0, 0))) (pvio bl W.heap.size); rwa [World.size_alloc] at this
  have k1 := hE.kept (fun _ _ => true)
  have hP : PS W.heap.size W1 l bl W.heap.size [] W1 := ⟨⟨_, hb1, World.ownsRow_nil _ _ _ _⟩, ⟨A, c, k1.same _ _ hbl rfl, k1.row how fun _ _ => rfl⟩, Kept.refl _ _, Nat.le_refl _, by simp, by omega, by simp⟩
  have hJ1 : J [] W1 := hJ [] _ _ h0 (hE.kept _)
  have hr0 : Calls Try.prog 53 #[.int .i64 0, .pointer (some ⟨bl, 0, none⟩), .pointer (some ⟨W.heap.size + 1, 0, none⟩)] W1 (ReachE W.heap.size W1 l bl W.heap.size [] 0) := reach_ok (j := 0) hP hb2 (fun k _ hk => absurd hk (by simp)) (fun _ => by simp)
  have HR0 := Lib.hid hr0
  have HB2 := Lib.hid hb2
  have HJ := Lib.hid hJ
  have HJX := Lib.hid hJx
  have HJ1 := Lib.hid hJ1
  have HY := Lib.hid hY
  have HT := Lib.hid ht
  have HH := Lib.hid hh
  have HW := Lib.hid hW1
  clear hr0 hb1 hb2 hJ hJx hJ1 hY ht hh h0 hbl how k1 hP hE hW1
  gi_wp2
  refine ⟨trivial, fun h => by simp [Fence.wide] at h, ?_⟩
  change CallsIn _ _ _ _ _ ((W.alloc (.cells #[.slice none 0 0] 42 (0, 0))).alloc (pvio bl W.heap.size)) _
  rw [← HW.out]
  refine callsIn_wide.2 (HR0.out.mono ?_)
  rintro e w1 ⟨rfl, s1, hP1, hH1, hs1⟩
  have hst : ∃ k, Rel W.heap.size l bl W.heap.size (W.heap.size + 1) J k w1 := by
    refine ⟨l.length, [], s1, ?_, by simp, hH1, hP1.rebase, hP1.kept.same _ _ HB2.out (pR_pvio _ _ _ _), HJ.out _ _ _ HJ1.out hP1.kept⟩
    rcases hs1 with ⟨h1, rfl⟩ | ⟨h1, h2⟩
    · exact (Fr.start l).skip h1
    · exact (Fr.start l).reach h1 (by simp) (by simp) h2
  have HST := Lib.hid hst
  clear hst hP1 hH1 hs1
  gi_wp2
  gi_loopw [] (fun wr => ∃ k, Rel W.heap.size l bl W.heap.size (W.heap.size + 1) J k wr) (fun wr => leastOf fun k => Rel W.heap.size l bl W.heap.size (W.heap.size + 1) J k wr)
  case atStart => exact HST.out
  case round =>
    obtain ⟨hk, hmin⟩ := leastOf_spec hrel
    obtain ⟨out, s, hF, hkl, hHs, hPs, hbn, hJs⟩ := hk
    obtain ⟨v, hv1, hv2⟩ := hPs.pb
    obtain ⟨A2, c2, rfl⟩ := own1 hv2
    obtain ⟨c0, _, _, _, _⟩ := hPs.slot rfl hv1
    obtain ⟨p0, p1, p2⟩ := pvio_cells hbn
    have HBN := Lib.hid hbn
    have HMIN := Lib.hid hmin
    clear hv1 hv2 hbn hmin hrel
    by_cases hs0 : s.length = 0
    · have : s = [] := List.eq_nil_of_length_eq_zero hs0
      subst this
      have hfin := hF.all HT.out HH.out
      rw [hfin] at hJs
      clear hfin hF hHs hPs
      gi_wp2
      go_end0
      exact ⟨⟨_, rfl⟩, .inl hJs⟩
    · obtain ⟨m, hm⟩ : ∃ m, s.length = m + 1 := ⟨s.length - 1, by omega⟩
      have hs1 : (0 : Int) < (s.length : Int) := by omega
      have hpop := hpop_ok hiI s m wr hPs hm hHs
      have hi := hPs.hlt 0 (by omega)
      have hmn : ∀ a, a ∈ s → eLt (nth l a) (nth l (nth s 0)) = false := fun a ha => by
        obtain ⟨k, hk, e⟩ := List.getElem_of_mem ha
        have := hHs.root (iLt_swo l) k hk
        rw [nth_lt hk, e] at this; exact this
      have HF := Lib.hid hF
      have HKL := Lib.hid hkl
      have HJS := Lib.hid hJs
      have HPOP := Lib.hid hpop
      have HMN := Lib.hid hmn
      have HM := Lib.hid hm
      clear hF hkl hJs hpop hmn hPs hHs hm hs0
      generalize hie : nth s 0 = i at *
      have HIE := Lib.hid hie
      clear hie
      gi_wp2
      refine ⟨trivial, fun h => by simp [Fence.wide] at h, ?_⟩
      refine callsIn_wide.2 (HPOP.out.mono ?_)
      rintro e w2 ⟨rfl, s', hp, hh', hP2⟩
      obtain ⟨hFn, hc1, hc2⟩ := HF.out.pop HH.out hp HMN.out
      have hpre : out.map (nth l) ++ [nth l i] <+: srt l := by have := hFn.pre HT.out; simpa using this
      have hJ2 := HJ.out _ _ _ HJS.out hP2.kept
      have hbn2 := hP2.kept.same _ _ HBN.out (pR_pvio _ _ _ _)
      obtain ⟨A3, c3, q0, _, how3⟩ := hP2.list
      obtain ⟨g3, rfl, _, a0, a1, a2, a3⟩ := own4_cells how3 hi
      have hi' : (i : Int) < (l.length : Int) := by omega
      have hsm' : (l.length : Int) ≤ 900000 := by omega
      obtain ⟨fn, tmps, assign, body, hy, hR⟩ := HY.out _ _ _ hpre hJ2
      simp only [Ent.val] at hy
      have hlen := hFn.len
      have HFN := Lib.hid hFn
      have HC1 := Lib.hid hc1
      have HC2 := Lib.hid hc2
      have HPRE := Lib.hid hpre
      have HP2 := Lib.hid hP2
      have HB2' := Lib.hid hbn2
      have HHH := Lib.hid hh'
      clear hFn hc1 hc2 hpre hJ2 hbn2 how3 hP2 hh' hp c0 p0 p1 p2
      dsimp only
      gi_wp2
      refine ⟨fun h => by simp [Fence.wide] at h, hR.mono ?_⟩
      rintro e W3 (⟨rfl, hJ3, hk3⟩ | ⟨rfl, hJx3⟩)
      · have hP3 := HP2.out.body hk3
        have hbn3 := hk3.same _ _ HB2'.out (by simp [pK, tag, pvio])
        have hr1 := reach_ok (j := 2 * i + 1) hP3 hbn3 HHH.out (fun _ => by simp at hlen; omega)
        rw [show ((2 * i + 1 : Nat) : Int) = 2 * (i : Int) + 1 by omega] at hr1
        have HR1 := Lib.hid hr1
        have HBN3 := Lib.hid hbn3
        have HJ3 := Lib.hid hJ3
        clear hr1 hP3 hbn3 hJ3 hk3 hR hy q0 a0 a1 a2 a3
        gi_wp2
        refine ⟨trivial, fun h => by simp [Fence.wide] at h, ?_⟩
        refine callsIn_wide.2 (HR1.out.mono ?_)
        rintro e w4 ⟨rfl, s4, hP4, hH4, hs4⟩
        have hF4 : Fr l (out ++ [i]) s4 [2 * i + 2] ∧ 2 * i + 2 ∉ (out ++ [i]) ++ s4 := by
          rcases hs4 with ⟨h1, rfl⟩ | ⟨h1, h2⟩
          · exact ⟨HFN.out.skip h1, HC2.out⟩
          · refine ⟨HFN.out.reach h1 HC1.out (fun _ => by simp) h2, fun hm => ?_⟩
            have h3 := HC2.out
            simp at hm h3
            rcases hm with hm | hm | hm
            · exact h3.1 hm
            · omega
            · have := h2.mem_iff.1 hm
              simp at this
              exact h3.2.2 this
        have hbn4 := hP4.kept.same _ _ HBN3.out (pR_pvio _ _ _ _)
        have hlen4 := hF4.1.len
        have hr2 := reach_ok (j := 2 * i + 2) hP4 hbn4 hH4 (fun _ => by simp at hlen4; omega)
        rw [show ((2 * i + 2 : Nat) : Int) = 2 * (i : Int) + 2 by omega] at hr2
        have HR2 := Lib.hid hr2
        have HF4 := Lib.hid hF4
        clear hr2 hP4 hbn4 hH4 hs4 hF4 hlen4
        gi_wp2
        refine ⟨trivial, fun h => by simp [Fence.wide] at h, ?_⟩
        refine callsIn_wide.2 (HR2.out.mono ?_)
        rintro e w5 ⟨rfl, s5, hP5, hH5, hs5⟩
        have hF5 : Fr l (out ++ [i]) s5 [] := by
          rcases hs5 with ⟨h1, rfl⟩ | ⟨h1, h2⟩
          · exact HF4.out.1.skip h1
          · exact HF4.out.1.reach h1 HF4.out.2 (fun _ => by simp; right; omega) h2
        have hrel5 : Rel W.heap.size l bl W.heap.size (W.heap.size + 1) J (l.length - (out.length + 1)) w5 := ⟨out ++ [i], s5, hF5, by simp at hlen ⊢; omega, hH5, hP5.rebase, hP5.kept.same _ _ HBN3.out (pR_pvio _ _ _ _), by rw [List.map_append]; exact HJ.out _ _ _ HJ3.out hP5.kept⟩
        have HREL := Lib.hid hrel5
        clear hrel5 hF5 hP5 hH5 hs5
        gi_wp2
        go_roundw
        case rel => exact ⟨_, HREL.out⟩
        case measure => exact Nat.lt_of_le_of_lt ((leastOf_spec ⟨_, HREL.out⟩).2 _ HREL.out) (by have := HKL.out; simp at hlen; omega)
      · gi_wp2
        refine bodyPost_ret (results_none rfl _ _ _) rfl ?_
        exact ⟨⟨_, rfl⟩, .inr ⟨_, _, HPRE.out, hJx3⟩⟩
/-- A heap in its box is gone over in order. -/
theorem inOrder_seq (ht : Tri l) (hh : Heap eLt (nth l) l.length) (hsm : l.length ≤ 900000) (w : World) (A : Option Addr) (c : Nat)
    (hbl : w.heap[bl]? = some (.cells #[.slice A l.length c] 56 (0, 0))) (how : w.ownsRow 0 63 4 (.slice A l.length c) l.length (row4 l)) :
    Seq 50 #[.pointer (some ⟨bl, 0, none⟩)] (fun x : Ent => #[x.val]) (srt l) w := fun n lp J Jx W hW hJ hJx hY h0 => by
  have hlt : ∀ {b : Nat} {o : Obj}, w.heap[b]? = some o → b < w.heap.size := fun h => (Array.getElem?_eq_some_iff.1 h).1
  have k : Kept (fun b _ => decide (b < w.heap.size)) w W := hW
  refine inOrder1_in n lp J Jx ht hh hsm W A c (k.same _ _ hbl (by simp [hlt hbl])) ?_ hJ hJx (fun pre x W1 hp hj => ?_) h0
  · refine ⟨how.1, ?_⟩
    rcases how.2 with h1 | ⟨g, cap, cur, e, h1, h2, h3⟩
    · exact .inl h1
    · exact .inr ⟨g, cap, cur, e, h1, k.same _ _ h2 (by simp [hlt h2]), h3⟩
  · obtain ⟨fn, tmps, assign, body, hy, hR⟩ := hY pre x W1 hp hj
    exact ⟨fn, tmps, assign, body, hy, hR.mono fun e W2 h => h.imp id fun h => ⟨h.1, h.2.1⟩⟩

set_option maxHeartbeats 1000000 in
set_option maxRecDepth 100000 in
theorem inOrder_ok (A : Option Addr) (n c : Nat) (w : World) :
    Calls Try.prog 40 #[.slice A n c] w fun e w' => e = .returned (.func (.func 50) #[] #[.pointer (some ⟨w.heap.size, 0, none⟩)]) ∧ w' = w.alloc (.cells #[.slice A n c] 56) := by
  have hmf : ∀ (fn : Fn) (first cap : Array Value) (w : World), (Instr.makeFunc fn first cap).run Try.prog w = .ok (.func fn first cap) w := fun _ _ _ _ => rfl
  go_enter Try.func40, Try.ntmps40
  go_wp2
  go_ret
  exact ⟨rfl, rfl⟩
end
end Go.Proofs.Ytmbdglolpagjdaa
