/- A heap gone over in order, plainly: the order of its entries; what has been given, and what may be next; A heap gone over in order: what may be next is laid in; Entries of a queue that may not be there; those that are due, gone over. -/
import Derived.Test.YtfljmdpigckpkaaGreatDoorB14
import Derived.Test.YtfljmdpigckpkaaGreatDoorB19
import Derived.Deep.LoopGhost
import Derived.LoopIn
import Derived.Laws.EntriesVeiled
namespace Go.Proofs.YtfljmdpigckpkaaGreatDoor.QQ
open Go.RowKit Go.Shelf

def Srt (l : List Ent) : Prop := l.Pairwise fun a b => eLt b a = false
/-- Of two entries that are not the same one comes ahead. -/
def Tri (l : List Ent) : Prop := ∀ x, x ∈ l → ∀ y, y ∈ l → eLt x y = false → eLt y x = false → x = y
def srt (l : List Ent) : List Ent := l.mergeSort fun a b => !eLt b a
theorem srt_perm (l : List Ent) : (srt l).Perm l := List.mergeSort_perm _ _
theorem srt_srt (l : List Ent) : Srt (srt l) := by
  have := List.pairwise_mergeSort (le := fun a b => !eLt b a) (fun a b c h1 h2 => by
    simp at *; exact eLt_swo.ntr _ _ _ h2 h1) (fun a b => by
    simp
    cases h : eLt b a
    · simp
    · right; exact eLt_swo.asym _ _ h) l
  exact this.imp fun h => by simpa using h
theorem Srt.eq {l a b : List Ent} (ht : Tri l) (ha : a.Perm l) (hb : b.Perm l) (sa : Srt a) (sb : Srt b) : a = b :=
  List.Perm.eq_of_pairwise (le := fun a b => eLt b a = false) (fun x y hx hy h1 h2 => ht x (ha.mem_iff.1 hx) y (hb.mem_iff.1 hy) h2 h1) sa sb (ha.trans hb.symm)
theorem srt_congr {l l' : List Ent} (ht : Tri l) (h : l'.Perm l) : srt l' = srt l := Srt.eq ht ((srt_perm l').trans h) (srt_perm l) (srt_srt _) (srt_srt _)
theorem Tri.perm {l l' : List Ent} (ht : Tri l) (h : l'.Perm l) : Tri l' := fun x hx y hy => ht x (h.mem_iff.1 hx) y (h.mem_iff.1 hy)
theorem Heap.root {α : Type} {lt : α → α → Bool} (S : Swo lt) {f : Nat → α} {n : Nat} (h : Heap lt f n) : ∀ k, k < n → lt (f k) (f 0) = false := by
  intro k
  induction k using Nat.strongRecOn with
  | _ k ih =>
    intro hk
    rcases Nat.eq_zero_or_pos k with rfl | h0
    · exact S.irr _
    · exact S.ntr _ _ _ (h k h0 hk) (ih ((k - 1) / 2) (by omega) (by omega))

/-- What has been given of a heap (out), what may be next (s), what is looked at yet (pend). -/
structure Fr (l : List Ent) (out s pend : List Nat) : Prop where
  nd : (out ++ s).Nodup
  lt : ∀ i, i ∈ out ++ s → i < l.length
  par : ∀ i, i ∈ out ++ s → 0 < i → (i - 1) / 2 ∈ out
  up : ∀ j, j < l.length → j ∉ out ++ s → j ∈ pend ∨ (0 < j ∧ (j - 1) / 2 ∉ out)
  so : (out.map (nth l)).Pairwise fun a b => eLt b a = false
  le : ∀ x, x ∈ out → ∀ y, y < l.length → y ∉ out → eLt (nth l y) (nth l x) = false
section
variable {l : List Ent} {out s s' pend : List Nat}
theorem Fr.start (l : List Ent) : Fr l [] [] [0] :=
  ⟨by simp, by simp, by simp, fun j _ _ => by
    rcases Nat.eq_zero_or_pos j with rfl | h
    · left; simp
    · right; exact ⟨h, by simp⟩, by simp, by simp⟩
theorem Fr.perm (h : Fr l out s pend) (hp : s'.Perm s) : Fr l out s' pend := by
  have h1 : (out ++ s').Perm (out ++ s) := hp.append_left out
  exact ⟨h1.nodup_iff.2 h.nd, fun i hi => h.lt i (h1.mem_iff.1 hi), fun i hi => h.par i (h1.mem_iff.1 hi), fun j hj hn => h.up j hj fun hm => hn (h1.mem_iff.2 hm), h.so, h.le⟩
theorem Fr.skip {j : Nat} (h : Fr l out s (j :: pend)) (hj : l.length ≤ j) : Fr l out s pend :=
  ⟨h.nd, h.lt, h.par, fun k hk hn => by
    rcases h.up k hk hn with h1 | h1
    · rcases List.mem_cons.1 h1 with rfl | h1
      · omega
      · exact .inl h1
    · exact .inr h1, h.so, h.le⟩
theorem Fr.reach {j : Nat} (h : Fr l out s (j :: pend)) (hj : j < l.length) (hn : j ∉ out ++ s) (hp : 0 < j → (j - 1) / 2 ∈ out) (hs : s'.Perm (s ++ [j])) : Fr l out s' pend := by
  refine Fr.perm ?_ hs
  have e : out ++ (s ++ [j]) = (out ++ s) ++ [j] := by simp
  have hm : ∀ i, i ∈ out ++ (s ++ [j]) ↔ i ∈ out ++ s ∨ i = j := fun i => by rw [e]; simp [or_assoc]
  refine ⟨?_, fun i hi => ?_, fun i hi h0 => ?_, fun k hk hkn => ?_, h.so, h.le⟩
  · rw [e, List.nodup_append]
    exact ⟨h.nd, by simp, fun a ha b hb => by simp at hb; subst hb; intro e; subst e; exact hn ha⟩
  · rcases (hm i).1 hi with h1 | rfl
    · exact h.lt i h1
    · exact hj
  · rcases (hm i).1 hi with h1 | rfl
    · exact h.par i h1 h0
    · exact hp h0
  · rw [hm] at hkn
    rcases h.up k hk (fun e => hkn (.inl e)) with h1 | h1
    · rcases List.mem_cons.1 h1 with h2 | h2
      · exact absurd (.inr h2) hkn
      · exact .inl h2
    · exact .inr h1
/-- What is not given yet has over it, or is, what may be next. -/
theorem Fr.anc (h : Fr l out s []) (hh : Heap eLt (nth l) l.length) : ∀ y, y < l.length → y ∉ out → ∃ a, a ∈ s ∧ eLt (nth l y) (nth l a) = false := by
  intro y
  induction y using Nat.strongRecOn with
  | _ y ih =>
    intro hy hn
    by_cases hs : y ∈ s
    · exact ⟨y, hs, eLt_swo.irr _⟩
    · rcases h.up y hy (by simp [hn, hs]) with h1 | ⟨h0, h1⟩
      · simp at h1
      · obtain ⟨a, ha, h2⟩ := ih ((y - 1) / 2) (by omega) (by omega) h1
        exact ⟨a, ha, eLt_swo.ntr _ _ _ (hh y h0 hy) h2⟩
theorem Fr.pop {i : Nat} (h : Fr l out s []) (hh : Heap eLt (nth l) l.length) (hp : (i :: s').Perm s) (hm : ∀ a, a ∈ s → eLt (nth l a) (nth l i) = false) :
    Fr l (out ++ [i]) s' [2 * i + 1, 2 * i + 2] ∧ (2 * i + 1 ∉ (out ++ [i]) ++ s') ∧ (2 * i + 2 ∉ (out ++ [i]) ++ s') := by
  have hi : i ∈ s := hp.mem_iff.1 (by simp)
  have hP : ((out ++ [i]) ++ s').Perm (out ++ s) := by
    rw [List.append_assoc]; exact (List.Perm.append_left out (by simpa using hp))
  have hnd := hP.nodup_iff.2 h.nd
  have hil := h.lt i (by simp [hi])
  have hio : i ∉ out := fun e => by
    have := h.nd; rw [List.nodup_append] at this; exact this.2.2 i e i hi rfl
  have hall : ∀ y, y < l.length → y ∉ out → eLt (nth l y) (nth l i) = false := fun y hy hn => by
    obtain ⟨a, ha, h1⟩ := h.anc hh y hy hn
    exact eLt_swo.ntr _ _ _ h1 (hm a ha)
  have hc : ∀ c, (c - 1) / 2 = i → 0 < c → c ∉ (out ++ [i]) ++ s' := fun c e h0 hcm => by
    have := h.par c (hP.mem_iff.1 hcm) h0
    rw [e] at this; exact hio this
  refine ⟨⟨hnd, fun k hk => h.lt k (hP.mem_iff.1 hk), fun k hk h0 => by simp [h.par k (hP.mem_iff.1 hk) h0], fun j hj hn => ?_, ?_, fun x hx y hy hn => ?_⟩, hc _ (by omega) (by omega), hc _ (by omega) (by omega)⟩
  · rcases h.up j hj (fun e => hn (hP.mem_iff.2 e)) with h1 | ⟨h0, h1⟩
    · simp at h1
    · by_cases e : (j - 1) / 2 = i
      · left
        have : j = 2 * i + 1 ∨ j = 2 * i + 2 := (par_two h0).1 e
        simpa using this
      · right; exact ⟨h0, by simp [h1, e]⟩
  · rw [List.map_append, List.pairwise_append]
    exact ⟨h.so, by simp, fun a ha b hb => by
      obtain ⟨x, hx, rfl⟩ := List.mem_map.1 ha
      simp at hb; subst hb
      exact h.le x hx i hil hio⟩
  · simp at hx hn
    rcases hx with hx | rfl
    · exact h.le x hx y hy hn.1
    · exact hall y hy hn.1
theorem map_range (l : List Ent) : (List.range l.length).map (nth l) = l := by
  apply List.ext_getElem?
  intro k
  rw [List.getElem?_map]
  rcases Nat.lt_or_ge k l.length with h | h
  · rw [List.getElem?_range h, nth_some h]; rfl
  · rw [List.getElem?_eq_none (by simpa using h), List.getElem?_eq_none h]; rfl
/-- What was given is the beginning of the list in order. -/
theorem Fr.pre (h : Fr l out s pend) (ht : Tri l) : out.map (nth l) <+: srt l := by
  have hnd : out.Nodup := by have := h.nd; rw [List.nodup_append] at this; exact this.1
  obtain ⟨rest, hrest⟩ : ∃ r, r = (List.range l.length).filter fun j => !decide (j ∈ out) := ⟨_, rfl⟩
  have hP : (out ++ rest).Perm (List.range l.length) := by
    rw [List.perm_ext_iff_of_nodup]
    · intro a
      simp only [hrest, List.mem_append, List.mem_filter, List.mem_range]
      constructor
      · rintro (h1 | h1)
        · exact h.lt a (by simp [h1])
        · exact h1.1
      · intro h1
        by_cases e : a ∈ out
        · exact .inl e
        · exact .inr ⟨h1, by simp [e]⟩
    · rw [List.nodup_append]
      refine ⟨hnd, by rw [hrest]; exact List.nodup_range.filter _, fun a ha b hb e => ?_⟩
      subst e; rw [hrest] at hb; simp [ha] at hb
    · exact List.nodup_range
  have hM : (out.map (nth l) ++ rest.map (nth l)).Perm l := by
    have := hP.map (nth l)
    rwa [List.map_append, map_range] at this
  have hE : out.map (nth l) ++ srt (rest.map (nth l)) = srt l := by
    refine Srt.eq ht (((srt_perm _).append_left _).trans hM) (srt_perm l) ?_ (srt_srt l)
    show List.Pairwise _ _
    rw [List.pairwise_append]
    refine ⟨h.so, srt_srt _, fun a ha b hb => ?_⟩
    obtain ⟨x, hx, rfl⟩ := List.mem_map.1 ha
    obtain ⟨y, hy, rfl⟩ := List.mem_map.1 ((srt_perm _).mem_iff.1 hb)
    rw [hrest] at hy
    simp at hy
    exact h.le x hx y hy.1 hy.2
  exact ⟨_, hE⟩
theorem Fr.all (h : Fr l out [] []) (ht : Tri l) (hh : Heap eLt (nth l) l.length) : out.map (nth l) = srt l := by
  have h1 := h.pre ht
  refine h1.eq_of_length ?_
  rw [(srt_perm l).length_eq, List.length_map]
  have hP : out.Perm (List.range l.length) := by
    rw [List.perm_ext_iff_of_nodup (by have := h.nd; simpa using this) List.nodup_range]
    intro a
    rw [List.mem_range]
    refine ⟨fun ha => h.lt a (by simp [ha]), fun ha => ?_⟩
    by_cases e : a ∈ out
    · exact e
    · obtain ⟨b, hb, _⟩ := h.anc hh a ha e
      simp at hb
  rw [hP.length_eq, List.length_range]
theorem Fr.len (h : Fr l out s pend) : out.length + s.length ≤ l.length := by
  obtain ⟨rest, hrest⟩ : ∃ r, r = (List.range l.length).filter fun j => !decide (j ∈ out ++ s) := ⟨_, rfl⟩
  have hP : ((out ++ s) ++ rest).Perm (List.range l.length) := by
    rw [List.perm_ext_iff_of_nodup]
    · intro a
      rw [List.mem_append, hrest, List.mem_filter, List.mem_range]
      constructor
      · rintro (h1 | h1)
        · exact h.lt a h1
        · exact h1.1
      · intro h1
        by_cases e : a ∈ out ++ s
        · exact .inl e
        · exact .inr ⟨h1, by simpa using e⟩
    · rw [List.nodup_append]
      refine ⟨h.nd, by rw [hrest]; exact List.nodup_range.filter _, fun a ha b hb e => ?_⟩
      subst e; rw [hrest, List.mem_filter] at hb; simp [ha] at hb
    · exact List.nodup_range
  have := hP.length_eq
  simp at this
  omega
end
end Go.Proofs.YtfljmdpigckpkaaGreatDoor.QQ

namespace Go.Proofs.YtfljmdpigckpkaaGreatDoor.QQ
open Go.RowKit Go.Shelf
section
variable {B : Nat} {W0 : World} {l : List Ent} {bl bp : Nat}
theorem PS.rebase {s : List Nat} {W : World} (h : PS B W0 l bl bp s W) : PS B W l bl bp s W := ⟨h.pb, h.lb, Kept.refl _ _, h.hB, h.hlt, h.lsm, h.ssm⟩
theorem PS.body {s : List Nat} {W W' : World} {X : Nat} (h : PS B W0 l bl bp s W) (k : Kept (pK X) W W') : PS B W' l bl bp s W' := by
  obtain ⟨⟨v, h1, h2⟩, ⟨A, c, h3, h4⟩, h5, h6, h7, h8, h9⟩ := h
  exact ⟨⟨v, k.same _ _ h1 rfl, k.row h2 fun _ _ => rfl⟩, ⟨A, c, k.same _ _ h3 rfl, k.row h4 fun _ _ => rfl⟩, Kept.refl _ _, h6, h7, h8, h9⟩
theorem pR_pvio (B b bl bp : Nat) : pR B b (tag (pvio bl bp)) = true := by simp [pR, tag, pvio]
def ReachE (B : Nat) (W0 : World) (l : List Ent) (bl bp : Nat) (s : List Nat) (j : Nat) (e : Ending) (w' : World) : Prop :=
  e = .returned (.tuple #[]) ∧ ∃ s', PS B W0 l bl bp s' w' ∧ Heap (iLt l) (nth s') s'.length ∧ ((l.length ≤ j ∧ s' = s) ∨ (j < l.length ∧ s'.Perm (s ++ [j])))

set_option maxHeartbeats 1000000 in
set_option maxRecDepth 100000 in
theorem reach_ok {s : List Nat} {W : World} {bn j : Nat} (h : PS B W0 l bl bp s W) (hb : W.heap[bn]? = some (pvio bl bp)) (hh : Heap (iLt l) (nth s) s.length) (hs : j < l.length → s.length < 1000000) :
    Calls Tryz.prog 310 #[.int .i64 (j : Int), .pointer (some ⟨bl, 0, none⟩), .pointer (some ⟨bn, 0, none⟩)] W (ReachE B W0 l bl bp s j) := by
  obtain ⟨A, c, c0, _, _⟩ := h.list
  obtain ⟨p0, p1, p2⟩ := pvio_cells hb
  have hpu := fun (hl : j < l.length) => hpush_ok hiI s j W h ⟨hl, hs hl⟩ hh
  have HP := Lib.hid hpu
  have H := Lib.hid h
  have HH := Lib.hid hh
  have hsm := h.lsm
  clear h hh hb hpu hs
  go_enter Tryz.func310, Tryz.ntmps310
  rcases Nat.lt_or_ge j l.length with hl | hl
  · have hl' : (j : Int) < (l.length : Int) := by omega
    go_wp2_with fail
    refine (HP.out hl).mono ?_
    rintro e w' ⟨rfl, s', hp, hh, hs⟩
    go_wp2_with fail
    go_end0
    exact ⟨rfl, s', hs, hh, .inr ⟨hl, hp⟩⟩
  · have hl' : ¬ (j : Int) < (l.length : Int) := by omega
    go_wp2_with fail
    go_end0
    exact ⟨rfl, s, H.out, HH.out, .inl ⟨hl, rfl⟩⟩

/-- What a round begins with: what was given, what may be next. -/
def Rel (B : Nat) (l : List Ent) (bl bp bn : Nat) (J : List Ent → World → Prop) (k : Nat) (w : World) : Prop :=
  ∃ out s, Fr l out s [] ∧ k + out.length = l.length ∧ Heap (iLt l) (nth s) s.length ∧ PS B w l bl bp s w ∧ w.heap[bn]? = some (pvio bl bp) ∧ J (out.map (nth l)) w

set_option maxHeartbeats 1000000 in
set_option maxRecDepth 100000 in
theorem inOrder1_in (n lp : Nat) (J Jx : List Ent → World → Prop) (ht : Tri l) (hh : Heap eLt (nth l) l.length) (hsm : l.length ≤ 900000) (W : World) (A : Option Addr) (c : Nat)
    (hbl : W.heap[bl]? = some (.cells #[.slice A l.length c] 256 (0, 0))) (how : W.ownsRow 0 278 4 (.slice A l.length c) l.length (row4 l))
    (hJ : ∀ s, Stab W.heap.size (J s)) (hJx : ∀ s, Stab W.heap.size (Jx s))
    (hY : ∀ pre x W1, pre ++ [x] <+: srt l → J pre W1 → YieldAt Fence.wide (n - 1) Tryz.prog lp #[x.val] W1 fun e W2 => (e = .returned (.bool true) ∧ J (pre ++ [x]) W2 ∧ Kept (pK W.heap.size) W1 W2) ∨ (e = .returned (.bool false) ∧ Jx (pre ++ [x]) W2))
    (h0 : J [] W) : CallsIn Fence.wide n Tryz.prog 307 #[.func (.yield lp) #[] #[], .pointer (some ⟨bl, 0, none⟩)] W fun e W' => (∃ v, e = .returned v) ∧ (J (srt l) W' ∨ ∃ pre x, pre ++ [x] <+: srt l ∧ Jx (pre ++ [x]) W') := by
  refine callsIn_of_wp Tryz.func307 rfl trivial ?_ rfl
  simp only [Tryz.ntmps307, List.size_toArray, List.length_cons, List.length_nil, Nat.reduceAdd, Nat.reduceSub, Array.replicate_succ, Array.replicate_zero, List.push_toArray, List.append_toArray, List.nil_append, List.cons_append]
  have hmf : ∀ (fn : Go.Fn) (first cap : Array Value) (w : World), (Instr.makeFunc fn first cap).run Tryz.prog w = .ok (.func fn first cap) w := fun _ _ _ _ => rfl
  obtain ⟨W1, hW1⟩ : ∃ W1, W1 = (W.alloc (.cells #[.slice none 0 0] 23 (0, 0))).alloc (pvio bl W.heap.size) := ⟨_, rfl⟩
  have hE : Ext W W1 := by rw [hW1]; exact Ext.two _ _ _
  have hb1 : W1.heap[W.heap.size]? = some (.cells #[.slice none 0 0] 23 (0, 0)) := by rw [hW1]; exact (Below.heap_alloc _ _ _ (by simp)).trans (World.alloc_heap_new _ _)
  have hb2 : W1.heap[W.heap.size + 1]? = some (pvio bl W.heap.size) := by rw [hW1]; have := World.alloc_heap_new (W.alloc (.cells #[.slice none 0 0] 23 (0, 0))) (pvio bl W.heap.size); rwa [World.size_alloc] at this
  have k1 := hE.kept (fun _ _ => true)
  have hP : PS W.heap.size W1 l bl W.heap.size [] W1 := ⟨⟨_, hb1, World.ownsRow_nil _ _ _ _⟩, ⟨A, c, k1.same _ _ hbl rfl, k1.row how fun _ _ => rfl⟩, Kept.refl _ _, Nat.le_refl _, by simp, by omega, by simp⟩
  have hJ1 : J [] W1 := hJ [] _ _ h0 (hE.kept _)
  have hr0 : Calls Tryz.prog 310 #[.int .i64 0, .pointer (some ⟨bl, 0, none⟩), .pointer (some ⟨W.heap.size + 1, 0, none⟩)] W1 (ReachE W.heap.size W1 l bl W.heap.size [] 0) := reach_ok (j := 0) hP hb2 (fun k _ hk => absurd hk (by simp)) (fun _ => by simp)
  have HR0 := Lib.hid hr0
  have HB2 := Lib.hid hb2
  have HJ := Lib.hid hJ
  have HJX := Lib.hid hJx
  have HJ1 := Lib.hid hJ1
  have HY := Lib.hid hY
  have HT := Lib.hid ht
  have HH := Lib.hid hh
  have HW := Lib.hid hW1
  clear hr0 hb1 hb2 hJ hJx hJ1 hY ht hh h0 hbl how k1 hP hE hW1
  gi_wp2
  refine ⟨trivial, fun h => by simp [Fence.wide] at h, ?_⟩
  change CallsIn _ _ _ _ _ ((W.alloc (.cells #[.slice none 0 0] 23 (0, 0))).alloc (pvio bl W.heap.size)) _
  rw [← HW.out]
  refine callsIn_wide.2 (HR0.out.mono ?_)
  rintro e w1 ⟨rfl, s1, hP1, hH1, hs1⟩
  have hst : ∃ k, Rel W.heap.size l bl W.heap.size (W.heap.size + 1) J k w1 := by
    refine ⟨l.length, [], s1, ?_, by simp, hH1, hP1.rebase, hP1.kept.same _ _ HB2.out (pR_pvio _ _ _ _), HJ.out _ _ _ HJ1.out hP1.kept⟩
    rcases hs1 with ⟨h1, rfl⟩ | ⟨h1, h2⟩
    · exact (Fr.start l).skip h1
    · exact (Fr.start l).reach h1 (by simp) (by simp) h2
  have HST := Lib.hid hst
  clear hst hP1 hH1 hs1
  gi_wp2
  gi_loopw [] (fun wr => ∃ k, Rel W.heap.size l bl W.heap.size (W.heap.size + 1) J k wr) (fun wr => leastOf fun k => Rel W.heap.size l bl W.heap.size (W.heap.size + 1) J k wr)
  case atStart => exact HST.out
  case round =>
    obtain ⟨hk, hmin⟩ := leastOf_spec hrel
    obtain ⟨out, s, hF, hkl, hHs, hPs, hbn, hJs⟩ := hk
    obtain ⟨v, hv1, hv2⟩ := hPs.pb
    obtain ⟨A2, c2, rfl⟩ := own1 hv2
    obtain ⟨c0, _, _, _, _⟩ := hPs.slot rfl hv1
    obtain ⟨p0, p1, p2⟩ := pvio_cells hbn
    have HBN := Lib.hid hbn
    have HMIN := Lib.hid hmin
    clear hv1 hv2 hbn hmin hrel
    by_cases hs0 : s.length = 0
    · have : s = [] := List.eq_nil_of_length_eq_zero hs0
      subst this
      have hfin := hF.all HT.out HH.out
      rw [hfin] at hJs
      clear hfin hF hHs hPs
      gi_wp2
      go_end0
      exact ⟨⟨_, rfl⟩, .inl hJs⟩
    · obtain ⟨m, hm⟩ : ∃ m, s.length = m + 1 := ⟨s.length - 1, by omega⟩
      have hs1 : (0 : Int) < (s.length : Int) := by omega
      have hpop := hpop_ok hiI s m wr hPs hm hHs
      have hi := hPs.hlt 0 (by omega)
      have hmn : ∀ a, a ∈ s → eLt (nth l a) (nth l (nth s 0)) = false := fun a ha => by
        obtain ⟨k, hk, e⟩ := List.getElem_of_mem ha
        have := hHs.root (iLt_swo l) k hk
        rw [nth_lt hk, e] at this; exact this
      have HF := Lib.hid hF
      have HKL := Lib.hid hkl
      have HJS := Lib.hid hJs
      have HPOP := Lib.hid hpop
      have HMN := Lib.hid hmn
      have HM := Lib.hid hm
      clear hF hkl hJs hpop hmn hPs hHs hm hs0
      generalize hie : nth s 0 = i at *
      have HIE := Lib.hid hie
      clear hie
      gi_wp2
      refine ⟨trivial, fun h => by simp [Fence.wide] at h, ?_⟩
      refine callsIn_wide.2 (HPOP.out.mono ?_)
      rintro e w2 ⟨rfl, s', hp, hh', hP2⟩
      obtain ⟨hFn, hc1, hc2⟩ := HF.out.pop HH.out hp HMN.out
      have hpre : out.map (nth l) ++ [nth l i] <+: srt l := by have := hFn.pre HT.out; simpa using this
      have hJ2 := HJ.out _ _ _ HJS.out hP2.kept
      have hbn2 := hP2.kept.same _ _ HBN.out (pR_pvio _ _ _ _)
      obtain ⟨A3, c3, q0, _, how3⟩ := hP2.list
      obtain ⟨g3, rfl, _, a0, a1, a2, a3⟩ := own4_cells how3 hi
      have hi' : (i : Int) < (l.length : Int) := by omega
      have hsm' : (l.length : Int) ≤ 900000 := by omega
      obtain ⟨fn, tmps, assign, body, hy, hR⟩ := HY.out _ _ _ hpre hJ2
      simp only [Ent.val] at hy
      have hlen := hFn.len
      have HFN := Lib.hid hFn
      have HC1 := Lib.hid hc1
      have HC2 := Lib.hid hc2
      have HPRE := Lib.hid hpre
      have HP2 := Lib.hid hP2
      have HB2' := Lib.hid hbn2
      have HHH := Lib.hid hh'
      clear hFn hc1 hc2 hpre hJ2 hbn2 how3 hP2 hh' hp c0 p0 p1 p2
      dsimp only
      gi_wp2
      refine ⟨fun h => by simp [Fence.wide] at h, hR.mono ?_⟩
      rintro e W3 (⟨rfl, hJ3, hk3⟩ | ⟨rfl, hJx3⟩)
      · have hP3 := HP2.out.body hk3
        have hbn3 := hk3.same _ _ HB2'.out (by simp [pK, tag, pvio])
        have hr1 := reach_ok (j := 2 * i + 1) hP3 hbn3 HHH.out (fun _ => by simp at hlen; omega)
        rw [show ((2 * i + 1 : Nat) : Int) = 2 * (i : Int) + 1 by omega] at hr1
        have HR1 := Lib.hid hr1
        have HBN3 := Lib.hid hbn3
        have HJ3 := Lib.hid hJ3
        clear hr1 hP3 hbn3 hJ3 hk3 hR hy q0 a0 a1 a2 a3
        gi_wp2
        refine ⟨trivial, fun h => by simp [Fence.wide] at h, ?_⟩
        refine callsIn_wide.2 (HR1.out.mono ?_)
        rintro e w4 ⟨rfl, s4, hP4, hH4, hs4⟩
        have hF4 : Fr l (out ++ [i]) s4 [2 * i + 2] ∧ 2 * i + 2 ∉ (out ++ [i]) ++ s4 := by
          rcases hs4 with ⟨h1, rfl⟩ | ⟨h1, h2⟩
          · exact ⟨HFN.out.skip h1, HC2.out⟩
          · refine ⟨HFN.out.reach h1 HC1.out (fun _ => by simp) h2, fun hm => ?_⟩
            have h3 := HC2.out
            simp at hm h3
            rcases hm with hm | hm | hm
            · exact h3.1 hm
            · omega
            · have := h2.mem_iff.1 hm
              simp at this
              exact h3.2.2 this
        have hbn4 := hP4.kept.same _ _ HBN3.out (pR_pvio _ _ _ _)
        have hlen4 := hF4.1.len
        have hr2 := reach_ok (j := 2 * i + 2) hP4 hbn4 hH4 (fun _ => by simp at hlen4; omega)
        rw [show ((2 * i + 2 : Nat) : Int) = 2 * (i : Int) + 2 by omega] at hr2
        have HR2 := Lib.hid hr2
        have HF4 := Lib.hid hF4
        clear hr2 hP4 hbn4 hH4 hs4 hF4 hlen4
        gi_wp2
        refine ⟨trivial, fun h => by simp [Fence.wide] at h, ?_⟩
        refine callsIn_wide.2 (HR2.out.mono ?_)
        rintro e w5 ⟨rfl, s5, hP5, hH5, hs5⟩
        have hF5 : Fr l (out ++ [i]) s5 [] := by
          rcases hs5 with ⟨h1, rfl⟩ | ⟨h1, h2⟩
          · exact HF4.out.1.skip h1
          · exact HF4.out.1.reach h1 HF4.out.2 (fun _ => by simp; right; omega) h2
        have hrel5 : Rel W.heap.size l bl W.heap.size (W.heap.size + 1) J (l.length - (out.length + 1)) w5 := ⟨out ++ [i], s5, hF5, by simp at hlen ⊢; omega, hH5, hP5.rebase, hP5.kept.same _ _ HBN3.out (pR_pvio _ _ _ _), by rw [List.map_append]; exact HJ.out _ _ _ HJ3.out hP5.kept⟩
        have HREL := Lib.hid hrel5
        clear hrel5 hF5 hP5 hH5 hs5
        gi_wp2
        go_roundw
        case rel => exact ⟨_, HREL.out⟩
        case measure => exact Nat.lt_of_le_of_lt ((leastOf_spec ⟨_, HREL.out⟩).2 _ HREL.out) (by have := HKL.out; simp at hlen; omega)
      · gi_wp2
        refine bodyPost_ret (results_none rfl _ _ _) rfl ?_
        exact ⟨⟨_, rfl⟩, .inr ⟨_, _, HPRE.out, hJx3⟩⟩
/-- A heap in its box is gone over in order. -/
theorem inOrder_seq (ht : Tri l) (hh : Heap eLt (nth l) l.length) (hsm : l.length ≤ 900000) (w : World) (A : Option Addr) (c : Nat)
    (hbl : w.heap[bl]? = some (.cells #[.slice A l.length c] 256 (0, 0))) (how : w.ownsRow 0 278 4 (.slice A l.length c) l.length (row4 l)) :
    Seq 307 #[.pointer (some ⟨bl, 0, none⟩)] (fun x : Ent => #[x.val]) (srt l) w := fun n lp J Jx W hW hJ hJx hY h0 => by
  have hlt : ∀ {b : Nat} {o : Obj}, w.heap[b]? = some o → b < w.heap.size := fun h => (Array.getElem?_eq_some_iff.1 h).1
  have k : Kept (fun b _ => decide (b < w.heap.size)) w W := hW
  refine inOrder1_in n lp J Jx ht hh hsm W A c (k.same _ _ hbl (by simp [hlt hbl])) ?_ hJ hJx (fun pre x W1 hp hj => ?_) h0
  · refine ⟨how.1, ?_⟩
    rcases how.2 with h1 | ⟨g, cap, cur, e, h1, h2, h3⟩
    · exact .inl h1
    · exact .inr ⟨g, cap, cur, e, h1, k.same _ _ h2 (by simp [hlt h2]), h3⟩
  · obtain ⟨fn, tmps, assign, body, hy, hR⟩ := hY pre x W1 hp hj
    exact ⟨fn, tmps, assign, body, hy, hR.mono fun e W2 h => h.imp id fun h => ⟨h.1, h.2.1⟩⟩

set_option maxHeartbeats 1000000 in
set_option maxRecDepth 100000 in
theorem inOrder_ok (A : Option Addr) (n c : Nat) (w : World) :
    Calls Tryz.prog 264 #[.slice A n c] w fun e w' => e = .returned (.func (.func 307) #[] #[.pointer (some ⟨w.heap.size, 0, none⟩)]) ∧ w' = w.alloc (.cells #[.slice A n c] 256) := by
  have hmf : ∀ (fn : Go.Fn) (first cap : Array Value) (w : World), (Instr.makeFunc fn first cap).run Tryz.prog w = .ok (.func fn first cap) w := fun _ _ _ _ => rfl
  go_enter Tryz.func264, Tryz.ntmps264
  go_wp2
  go_ret
  exact ⟨rfl, rfl⟩
end
end Go.Proofs.YtfljmdpigckpkaaGreatDoor.QQ

namespace Go.Proofs.YtfljmdpigckpkaaGreatDoor.QQ
open Go.RowKit Go.Shelf
attribute [local go_sem] Oper.semAt_some

/-- What a queue's entries are, of one that is there or not. -/
def EV (qv : Value) (l : List Ent) (W : World) : Prop :=
  (qv = .pointer none ∧ l = []) ∨ ∃ bq v mv pu, qv = .pointer (some ⟨bq, 0, none⟩) ∧ W.heap[bq]? = some (.cells #[v, mv, .int .i64 pu] 258 (0, 0)) ∧ W.ownsRow 0 278 4 v l.length (row4 l)
theorem EV.of {p : PP} {qv : Value} {l : List Ent} {W W' : World} (h : EV qv l W) (k : Kept p W W') (hp : ∀ b, b < W.heap.size → p b (some 258) = true ∧ p b (some 278) = true) : EV qv l W' := by
  rcases h with h | ⟨bq, v, mv, pu, h1, h2, h3⟩
  · exact .inl h
  · refine .inr ⟨bq, v, mv, pu, h1, k.same _ _ h2 (hp _ (Array.getElem?_eq_some_iff.1 h2).1).1, ?_⟩
    refine ⟨h3.1, ?_⟩
    rcases h3.2 with h | ⟨g, cap, cur, e, h4, h5, h6⟩
    · exact .inl h
    · exact .inr ⟨g, cap, cur, e, h4, k.same _ _ h5 (hp _ (Array.getElem?_eq_some_iff.1 h5).1).2, h6⟩
theorem EV.ext {qv : Value} {l : List Ent} {W W' : World} (h : EV qv l W) (k : Ext W W') : EV qv l W' := EV.of h k fun b hb => by simp [pOld, hb]
theorem EV.pR {B : Nat} {qv : Value} {l : List Ent} {W W' : World} (h : EV qv l W) (k : Kept (pR B) W W') : EV qv l W' := EV.of h k fun b _ => by simp [Go.Proofs.YtfljmdpigckpkaaGreatDoor.QQ.pR]
theorem EV.pK {B : Nat} {qv : Value} {l : List Ent} {W W' : World} (h : EV qv l W) (k : Kept (pK B) W W') : EV qv l W' := EV.of h k fun b _ => by simp [Go.Proofs.YtfljmdpigckpkaaGreatDoor.QQ.pK]

set_option maxHeartbeats 1000000 in
set_option maxRecDepth 100000 in
theorem entries_ok {qv : Value} {l : List Ent} {W : World} (h : EV qv l W) :
    Calls Tryz.prog 265 #[qv] W fun e W' => ∃ A c, e = .returned (.slice A l.length c) ∧ W' = W ∧ W.ownsRow 0 278 4 (.slice A l.length c) l.length (row4 l) := by
  rcases h with ⟨rfl, rfl⟩ | ⟨bq, v, mv, pu, rfl, h1, h2⟩
  · go_enter Tryz.func265, Tryz.ntmps265
    go_wp2
    go_ret
    exact ⟨none, 0, rfl, rfl, World.ownsRow_nil _ _ _ _⟩
  · have hlt := (Array.getElem?_eq_some_iff.1 h1).1
    have c0 : W.cell? ⟨bq, 0, none⟩ = some v := by simp [World.cell?, h1]
    obtain ⟨A, c, rfl⟩ := own4 h2
    have H2 := Lib.hid h2
    clear h1 h2
    go_enter Tryz.func265, Tryz.ntmps265
    go_wp2
    go_ret
    exact ⟨A, c, rfl, rfl, H2.out⟩

def dueAt (now : Int) (x : Ent) : Bool := x.front || decide (x.due ≤ now)
set_option maxHeartbeats 1000000 in
set_option maxRecDepth 100000 in
theorem isDue_ok (x : Ent) (now : Int) (w : World) : Calls Tryz.prog 266 #[x.val, .int .i64 now] w fun e w' => e = .returned (.bool (dueAt now x)) ∧ Ext w w' := by
  obtain ⟨t, f, d, n⟩ := x
  unfold Ent.val
  dsimp only
  go_enter Tryz.func266, Tryz.ntmps266
  cases f with
  | true =>
    go_wp2
    go_ret
    exact ⟨by simp [dueAt], Ext.one _ _⟩
  | false =>
    go_wp2
    go_ret
    exact ⟨by simp [dueAt], Ext.one _ _⟩

theorem tw_pre {α : Type} {p : α → Bool} : ∀ {L pre : List α}, pre <+: L → (∀ x, x ∈ pre → p x = true) → pre <+: L.takeWhile p
  | L, [], _, _ => List.nil_prefix
  | [], x :: r, h, _ => by simp at h
  | y :: L, x :: r, h, hp => by
    obtain ⟨rfl, h2⟩ := List.cons_prefix_cons.1 h
    rw [List.takeWhile_cons, if_pos (hp x (by simp))]
    exact List.cons_prefix_cons.2 ⟨rfl, tw_pre h2 fun z hz => hp z (by simp [hz])⟩
theorem tw_stop {α : Type} {p : α → Bool} : ∀ {L pre : List α} {x : α}, pre ++ [x] <+: L → (∀ x, x ∈ pre → p x = true) → p x = false → L.takeWhile p = pre
  | [], pre, x, h, _, _ => by simp at h
  | y :: L, [], x, h, _, hx => by
    obtain ⟨rfl, _⟩ := List.cons_prefix_cons.1 h
    rw [List.takeWhile_cons, if_neg (by simp [hx])]
  | y :: L, z :: r, x, h, hp, hx => by
    obtain ⟨rfl, h2⟩ := List.cons_prefix_cons.1 h
    rw [List.takeWhile_cons, if_pos (hp z (by simp)), tw_stop h2 (fun z hz => hp z (by simp [hz])) hx]

theorem tw_all {α : Type} {p : α → Bool} : ∀ {L : List α}, (∀ x, x ∈ L → p x = true) → L.takeWhile p = L
  | [], _ => rfl
  | x :: r, h => by rw [List.takeWhile_cons, if_pos (h x (by simp)), tw_all fun z hz => h z (by simp [hz])]
/-- A function's way out over the mark of its one loop. -/
theorem leave1 {F : Fence} {n : Nat} {P : Program} {fn : Func} {tmps : Array Value} {R : Ending → World → Prop} {D : Nat} {w : World} (hd : w.heap[D]? = some (.deferred (some [])))
    (h : ∃ v, (results fn tmps).run P (w.putObj D (.deferred none)) = .ok v (w.putObj D (.deferred none)) ∧ R (.returned v) (w.putObj D (.deferred none))) : LeavesInM F n P fn tmps R [markAt D] .returning w :=
  ⟨by simp, .inl ⟨D, _, rfl, run_takeDeferred hd, h⟩⟩
theorem dtag {w : World} {D : Nat} (hd : w.heap[D]? = some (.deferred (some []))) : ∀ o, w.heap[D]? = some o → tag o = none := fun o ho => by rw [hd] at ho; cases ho; rfl

theorem round_any {n m l l' : Nat} {P : Program} {f : FuncId} {tmps : Array Value} {assign body : Code} {w : World} {R : Ending → World → Prop} (h : RoundIn Fence.wide n P l f tmps assign body w R) : RoundIn (Fence.wide.inRound l') m P l f tmps assign body w R :=
  ⟨trivial, fun c cs _ => h.2 c cs (room_wide _)⟩
theorem calls_any {m l' : Nat} {P : Program} {f : FuncId} {args : Array Value} {w : World} {R : Ending → World → Prop} (h : Calls P f args w R) : CallsIn (Fence.wide.inRound l') m P f args w R := (callsIn_wide.2 h : CallsIn Fence.wide m P f args w R).inRound l'
theorem eg50 (args : Array Value) (w : World) : (callFunc 307 args).run Tryz.prog w = .ok (.enter 307 args) w := by kernel_rfl
section
variable {l : List Ent} {qv : Value} {b1 b2 : Nat} {now : Int}
set_option maxHeartbeats 1000000 in
set_option maxRecDepth 100000 in
theorem due_seq (ht : Tri l) (hh : Heap eLt (nth l) l.length) (hsm : l.length ≤ 900000) (w : World) (hE : EV qv l w) (h1 : w.heap[b1]? = some (.cells #[qv] 171 (0, 0))) (h2 : w.heap[b2]? = some (.cells #[.int .i64 now] 2 (0, 0))) :
    Seq 263 #[.pointer (some ⟨b1, 0, none⟩), .pointer (some ⟨b2, 0, none⟩)] (fun x : Ent => #[x.val]) ((srt l).takeWhile (dueAt now)) w := by
  intro n lp J Jx W hW hJ hJx hY h0
  have hlt : ∀ {b : Nat} {o : Obj}, w.heap[b]? = some o → b < w.heap.size := fun h => (Array.getElem?_eq_some_iff.1 h).1
  have k1 := hW.same _ _ h1 (by simp [pOld, hlt h1])
  have k2 := hW.same _ _ h2 (by simp [pOld, hlt h2])
  have hEW := hE.ext hW
  clear h1 h2 hE hW hlt
  have c1 : W.cell? ⟨b1, 0, none⟩ = some qv := by simp [World.cell?, k1]
  have hb1 := (Array.getElem?_eq_some_iff.1 k1).1
  refine callsIn_of_wp_marks (F := Fence.wide) Tryz.func263 rfl trivial ?_ rfl
  simp only [Tryz.ntmps263, List.size_toArray, List.length_cons, List.length_nil, Nat.reduceAdd, Nat.reduceSub, Array.replicate_succ, Array.replicate_zero, List.push_toArray, List.append_toArray, List.nil_append, List.cons_append]
  obtain ⟨W1, hW1⟩ : ∃ W1, W1 = W.alloc (.cells #[.func (.yield lp) #[] #[]] 348 (0, 0)) := ⟨_, rfl⟩
  have hE1 : Ext W W1 := by rw [hW1]; exact Ext.one _ _
  have hen := entries_ok (hEW.ext hE1)
  have HEN := Lib.hid hen
  have HW := Lib.hid hW1
  have HY := Lib.hid hY
  have HJ := Lib.hid hJ
  have HJX := Lib.hid hJx
  have H0 := Lib.hid h0
  have HE1 := Lib.hid hE1
  have HT := Lib.hid ht
  have HHH := Lib.hid hh
  have K2 := Lib.hid k2
  clear hen hW1 hY hJ hJx h0 hE1 hEW k1 k2 ht hh
  generalize hQ : bodyPostM Fence.wide n Tryz.prog _ _ = Q
  have HQ := Lib.hid hQ
  clear hQ
  gi_wp2
  refine ⟨trivial, fun h => by simp [Fence.wide] at h, ?_⟩
  change CallsIn _ _ _ _ _ (W.alloc (.cells #[.func (.yield lp) #[] #[]] 348 (0, 0))) _
  rw [← HW.out]
  refine callsIn_wide.2 (HEN.out.mono ?_)
  rintro e w1 ⟨A, c, rfl, hw1, how⟩
  subst hw1
  have HOW := Lib.hid how
  clear how
  gi_wp2
  refine ⟨trivial, fun h => by simp [Fence.wide] at h, ?_⟩
  refine callsIn_wide.2 ((inOrder_ok A l.length c w1).mono ?_)
  rintro e w2 ⟨rfl, hw2⟩
  have HW2 := Lib.hid hw2
  clear hw2
  gi_wp2
  have hw1 : W.heap.size < w1.heap.size := by rw [HW.out]; simp
  have hby : w2.heap[W.heap.size]? = some (.cells #[.func (.yield lp) #[] #[]] 348 (0, 0)) := by
    rw [HW2.out, Below.heap_alloc _ _ _ (by omega), HW.out]; exact World.alloc_heap_new _ _
  have hE2 : Ext w1 w2 := by rw [HW2.out]; exact Ext.one _ _
  have hEE := HE1.out.trans hE2
  have hb22 := (hEE.kept (fun _ _ => true)).same _ _ K2.out rfl
  have hbl : w2.heap[w1.heap.size]? = some (.cells #[.slice A l.length c] 256 (0, 0)) := by rw [HW2.out]; exact World.alloc_heap_new _ _
  have how2 := (hE2.kept (fun _ _ => true)).row HOW.out fun _ _ => rfl
  have hsz : W.heap.size ≤ w2.heap.size := hEE.size
  have hseq := inOrder_seq HT.out HHH.out hsm w2 A c hbl how2
  have hj2 := HJ.out [] _ _ H0.out (hEE.kept _)
  refine range_q (a := ⟨#[.func (.yield lp) #[] #[], .pointer (some ⟨b1, 0, none⟩), .pointer (some ⟨b2, 0, none⟩), .pointer (some ⟨W.heap.size, 0, none⟩), undef, qv, .slice A l.length c, .func (.func 307) #[] #[.pointer (some ⟨w1.heap.size, 0, none⟩)], undef, undef, undef, undef, undef, undef, undef, undef, undef, undef, undef], []⟩)
    (gf := 307) (lb := #[.pointer (some ⟨w1.heap.size, 0, none⟩)]) rfl eg50 hseq (fun _ => rfl)
    (fun pre W' => J pre W' ∧ (∀ x, x ∈ pre → dueAt now x = true) ∧ W'.heap[W.heap.size]? = some (.cells #[.func (.yield lp) #[] #[]] 348 (0, 0)) ∧ W'.heap[b2]? = some (.cells #[.int .i64 now] 2 (0, 0)))
    (fun c pre' W' => c = .ret ∧ ((∃ pre x, pre' = pre ++ [x] ∧ dueAt now x = false ∧ (∀ y, y ∈ pre → dueAt now y = true) ∧ J pre W') ∨ ((∀ y, y ∈ pre' → dueAt now y = true) ∧ Jx pre' W')))
    (fun s X Y h k => ⟨(HJ.out s).le hsz _ _ h.1 k, h.2.1, k.same _ _ h.2.2.1 (by simp [pR, tag]), k.same _ _ h.2.2.2 (by simp [pR, tag])⟩)
    (fun c s X Y h k => ⟨h.1, h.2.imp (fun ⟨pre, x, e, h1, h2, h3⟩ => ⟨pre, x, e, h1, h2, (HJ.out pre).le hsz _ _ h3 k⟩) fun ⟨h1, h2⟩ => ⟨h1, (HJX.out s).le hsz _ _ h2 k⟩⟩)
    ⟨hj2, by simp, hby, hb22⟩
    (fun x a' W' => ∃ bx, a' = ⟨#[.func (.yield lp) #[] #[], .pointer (some ⟨b1, 0, none⟩), .pointer (some ⟨b2, 0, none⟩), .pointer (some ⟨W.heap.size, 0, none⟩), .pointer (some ⟨bx, 0, none⟩), qv, .slice A l.length c, .func (.func 307) #[] #[.pointer (some ⟨w1.heap.size, 0, none⟩)], x.val, undef, undef, undef, undef, undef, undef, undef, undef, undef, undef], []⟩ ∧ W'.heap[bx]? = some (ento x))
    (fun x a' X Y ⟨bx, e, h⟩ k => ⟨bx, e, k.same _ _ h (by simp [pR, tag, ento])⟩)
    ?assign ?body ?done ?stop
  case assign =>
    rintro lq pre x W' K hI hpre hK
    have HK := Lib.hid hK
    have HI := Lib.hid hI
    clear hK hI
    unfold Ent.val
    gi_wp2
    have h := HI.out
    exact HK.out _ _ (Kept.alloc _ _ _) ⟨(HJ.out pre).le hsz _ _ h.1 (Kept.alloc _ _ _), h.2.1, (Kept.alloc (fun _ _ => true) W' _).same _ _ h.2.2.1 rfl, (Kept.alloc (fun _ _ => true) W' _).same _ _ h.2.2.2 rfl⟩ ⟨_, rfl, World.alloc_heap_new _ _⟩
  case body =>
    rintro lq pre x a' W' hlq hpre hI ⟨bx, rfl, hbx⟩
    obtain ⟨hIJ, hId, hIy, hIn⟩ := hI
    obtain ⟨x0, x1, x2, x3⟩ := ento_cells hbx
    have y0 : W'.cell? ⟨W.heap.size, 0, none⟩ = some (.func (.yield lp) #[] #[]) := by simp [World.cell?, hIy]
    have n0 : W'.cell? ⟨b2, 0, none⟩ = some (.int .i64 now) := by simp [World.cell?, hIn]
    have HIJ := Lib.hid hIJ
    have HID := Lib.hid hId
    have HIY := Lib.hid hIy
    have HIN := Lib.hid hIn
    have HBX := Lib.hid hbx
    have HPRE := Lib.hid hpre
    have hdu := isDue_ok x now W'
    have HDU := Lib.hid hdu
    clear hIJ hId hIy hIn hbx hpre hdu hby hb22 hbl how2 hseq hj2
    simp only [Ent.val] at HDU
    unfold Ent.val
    gi_wp2
    refine ⟨trivial, fun h => by simp [Fence.wide] at h, ?_⟩
    refine calls_any (HDU.out.mono ?_)
    rintro e w3 ⟨rfl, hx3⟩
    have hk3 := hx3.kept (fun _ _ => true)
    cases hdue : dueAt now x with
    | false =>
      have HD := Lib.hid hdue
      have HX3 := Lib.hid hx3
      clear hdue hx3 hk3
      gi_wp2
      refine ⟨(by intro f h; cases h), ?_⟩
      gi_wp2
      exact ⟨HX3.out.kept _, rfl, .inl ⟨pre, x, rfl, HD.out, HID.out, (HJ.out pre).le hsz _ _ HIJ.out (HX3.out.kept _)⟩⟩
    | true =>
      obtain ⟨fn, tmps, assign, body, hy, hR⟩ := HY.out pre x w3 (tw_pre HPRE.out fun z hz => by
        rcases List.mem_append.1 hz with h | h
        · exact HID.out z h
        · simp at h; subst h; exact hdue) ((HJ.out pre).le hsz _ _ HIJ.out (hx3.kept _))
      obtain ⟨x0, x1, x2, x3⟩ := ento_cells (hk3.same _ _ HBX.out rfl)
      have y0 : w3.cell? ⟨W.heap.size, 0, none⟩ = some (.func (.yield lp) #[] #[]) := by simp [World.cell?, hk3.same _ _ HIY.out rfl]
      have HD := Lib.hid hdue
      have HX3 := Lib.hid hx3
      clear hdue hx3 hk3
      simp only [Ent.val] at hy
      have hIY3 := (HX3.out.kept (fun _ _ => true)).same _ _ HIY.out rfl
      have hIN3 := (HX3.out.kept (fun _ _ => true)).same _ _ HIN.out rfl
      have HIY3 := Lib.hid hIY3
      have HIN3 := Lib.hid hIN3
      clear hIY3 hIN3
      gi_wp2
      refine ⟨fun h => by simp [Fence.wide] at h, round_any (hR.mono ?_)⟩
      have hdue1 : ∀ y, y ∈ pre ++ [x] → dueAt now y = true := fun y hy => by
        rcases List.mem_append.1 hy with h | h
        · exact HID.out y h
        · simp at h; subst h; exact HD.out
      have HD1 := Lib.hid hdue1
      clear hdue1 hR hy
      rintro e W3 (⟨rfl, hJ3, hk3⟩ | ⟨rfl, hJx3, hk3⟩)
      · have HJ3 := Lib.hid hJ3
        have HK3 := Lib.hid hk3
        clear hJ3 hk3
        gi_wp2
        exact ⟨(HX3.out.kept _).trans (HK3.out.mono fun b t _ => pK_le hsz b t), HJ3.out, HD1.out, HK3.out.same _ _ HIY3.out rfl, HK3.out.same _ _ HIN3.out rfl⟩
      · have HJ3 := Lib.hid hJx3
        have HK3 := Lib.hid hk3
        clear hJx3 hk3
        gi_wp2
        exact ⟨(HX3.out.kept _).trans (HK3.out.mono fun b t _ => pN_le hsz b t), rfl, .inr ⟨HD1.out, HJ3.out⟩⟩
  case done =>
    rintro W' ⟨hj, hd, _, _⟩ hD
    have e : (srt l).takeWhile (dueAt now) = srt l := tw_all hd
    show Q _ _ _
    rw [← HQ.out]
    refine leave1 hD ⟨.tuple #[], by simp [results, Tryz.results263, go_sem], ⟨_, rfl⟩, .inl ?_⟩
    rw [e]
    exact (HJ.out _).putObj _ hj hsz (dtag hD)
  case stop =>
    rintro c pre x W' hpre ⟨rfl, hc⟩ hD
    gi_wp2
    show Q _ _ _
    rw [← HQ.out]
    refine leave1 hD ⟨.tuple #[], by simp [results, Tryz.results263, go_sem], ⟨_, rfl⟩, ?_⟩
    rcases hc with ⟨pre', x', e, h1, h2, h3⟩ | ⟨h1, h2⟩
    · left
      obtain ⟨rfl, e2⟩ := List.append_inj' e rfl
      simp at e2; subst e2
      rw [tw_stop hpre h2 h1]
      exact (HJ.out _).putObj _ h3 hsz (dtag hD)
    · right
      exact ⟨pre, x, tw_pre hpre h1, (HJX.out _).putObj _ h2 hsz (dtag hD)⟩
end
end Go.Proofs.YtfljmdpigckpkaaGreatDoor.QQ
