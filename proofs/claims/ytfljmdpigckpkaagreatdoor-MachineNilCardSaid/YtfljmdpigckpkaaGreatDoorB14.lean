/- container/heap's Push, Pop, Remove, over any value with the methods of a heap; What stays of memory from one world to another; a loop over an iterator that makes and turns memory of its own; Entries; what is ahead of what; A queue's heap as a value with the methods of a heap: what it reads. -/
import Derived.Test.YtfljmdpigckpkaaGreatDoorB13
import Derived.RangeFuncBox
import Derived.RangeFuncNested
import Derived.RangeFuncLeaves
import Derived.OwnWalkIn
import Derived.TacticsInMore
import Derived.LoopNIn
import Derived.LoopIn
import Derived.Maps.OwnIn
import Derived.Maps.OwnSet
import Derived.Maps.AppendAt
import Derived.Deep.RegionHeld3
import Derived.StillTailTactics
import Derived.BigRegion
import Derived.Deep.RegionLaw
import Derived.Deep.AppendLies
namespace Go.Proofs.YtfljmdpigckpkaaGreatDoor.QQ
open Go.RowKit Go.Shelf
section
variable {α : Type} [Inhabited α]
theorem swp_last {l : List α} {i n : Nat} (hn : l.length = n + 1) : ∃ a, swp l i n = a ++ [nth l i] ∧ a.length = n ∧ ∀ k, k < n → nth a k = if k = i then nth l n else nth l k := by
  have h1 : (swp l i n).length = n + 1 := by rw [swp_len, hn]
  refine ⟨(swp l i n).take n, ?_, by simp [h1], fun k hk => ?_⟩
  · have h2 := List.take_succ_eq_append_getElem (l := swp l i n) (i := n) (by omega)
    rw [List.take_of_length_le (by omega)] at h2
    have h3 : (swp l i n)[n]'(by omega) = nth l i := by simp [swp]
    rw [h3] at h2
    exact h2
  · have h3 := nth_swp (l := l) (i := i) (j := n) k (by omega)
    have h4 : nth ((swp l i n).take n) k = nth (swp l i n) k := by
      rw [nth_lt (by rw [List.length_take]; omega), nth_lt (by omega)]; simp
    rw [h4, h3]
    unfold sw
    by_cases e : k = i
    · rw [if_pos e, if_pos e]
    · rw [if_neg e, if_neg e, if_neg (by omega)]
theorem last_split {l : List α} {n : Nat} (hn : l.length = n + 1) : ∃ a, l = a ++ [nth l n] ∧ a.length = n ∧ ∀ k, k < n → nth a k = nth l k := by
  obtain ⟨a, h1, h2, h3⟩ := swp_last (i := n) hn
  refine ⟨a, ?_, h2, fun k hk => by rw [h3 k hk, if_neg (by omega)]⟩
  rw [← h1]
  apply List.ext_getElem (by rw [swp_len])
  intro k h4 h5
  have h6 := nth_swp (l := l) (i := n) (j := n) k h4
  rw [nth_lt h5] at h6
  rw [h6]
  unfold sw
  by_cases e : k = n
  · subst e; rw [if_pos rfl, nth_lt h4]
  · rw [if_neg e, if_neg e, nth_lt h4]
variable {S : List α → World → Prop} {lt : α → α → Bool} {T : TypeId} {rv : Value} {te : TypeId} {enc : α → Value} {ok : List α → α → Prop} {top gn gl gs gp gq : Nat}
omit [Inhabited α] in
theorem HD.ext0 {f g : Nat → α} {n i : Nat} (h : HD lt f n i i) (he : ∀ k, k < n → g k = f k) : HD lt g n i i := by
  obtain ⟨h1, h2, h3, h4⟩ := h
  refine ⟨fun k h0 hk hki hp => ?_, fun c h0 hc hp hn => ?_, fun e => absurd rfl e, h4⟩
  · have := h1 k h0 hk hki hp
    unfold okAt at this ⊢
    rw [he k hk, he _ (by omega)]; exact this
  · rw [he c hc, he _ (by omega)]; exact h2 c h0 hc hp hn
def DnE2 (S : List α → World → Prop) (lt : α → α → Bool) (a t : List α) (i0 : Nat) (e : Ending) (w' : World) : Prop :=
  (e = .returned (.bool true) ∧ ∃ a', a'.Perm a ∧ Heap lt (nth a') a.length ∧ S (a' ++ t) w') ∨ (e = .returned (.bool false) ∧ ∃ a', a'.Perm a ∧ HU lt (nth a') a.length i0 ∧ S (a' ++ t) w')
theorem DnE.two {a t : List α} {i0 : Nat} {e : Ending} {w' : World} (h : DnE S lt a t i0 e w') : DnE2 S lt a t i0 e w' := by
  obtain ⟨b, a', rfl, h1, h2, h3, h4⟩ := h
  cases b with
  | true => exact .inl ⟨rfl, a', h1, h2 rfl, h4⟩
  | false => exact .inr ⟨rfl, a', h1, h3 rfl, h4⟩
def PushE (S : List α → World → Prop) (lt : α → α → Bool) (l : List α) (x : α) (e : Ending) (w' : World) : Prop := e = .returned (.tuple #[]) ∧ ∃ l', l'.Perm (l ++ [x]) ∧ Heap lt (nth l') l'.length ∧ S l' w'
/-- What heap.Pop and heap.Remove leave: x has gone. -/
def PopE (S : List α → World → Prop) (lt : α → α → Bool) (te : TypeId) (enc : α → Value) (l : List α) (x : α) (e : Ending) (w' : World) : Prop := e = .returned (.iface te (enc x)) ∧ ∃ l', (x :: l').Perm l ∧ Heap lt (nth l') l'.length ∧ S l' w'
theorem PopE.of {l a' : List α} {x : α} {w' : World} {n : Nat} (hp : (x :: a').Perm l) (hn : n = a'.length) (hh : Heap lt (nth a') n) (hS : S a' w') : PopE S lt te enc l x (.returned (.iface te (enc x))) w' := by
  subst hn; exact ⟨rfl, a', hp, hh, hS⟩

set_option maxHeartbeats 1000000 in
set_option maxRecDepth 100000 in
theorem hpush_ok (h : HI S lt T rv te enc ok top gn gl gs gp gq) (l : List α) (x : α) (w : World) (hS : S l w) (hok : ok l x) (hh : Heap lt (nth l) l.length) :
    Calls Tryz.prog 181 #[.iface T rv, .iface te (enc x)] w (PushE S lt l x) := by
  have mn := h.mn; have mp := h.mp; have en := h.en; have ep := h.ep
  have hp := h.push l x w hS hok
  have H := Lib.hid h
  have HH := Lib.hid hh
  clear h hh hok
  have hsm := H.out.small
  go_enter Tryz.func181, Tryz.ntmps181
  go_wp2_with (go_at_fn gp; refine hp.mono ?_; rintro e w1 ⟨rfl, hS1⟩; have hb1 := H.out.bound _ _ hS1; have hn1 := H.out.len _ _ hS1; clear hS1 hS hp)
  have hl : ((l ++ [x]).length : Int) = (l.length : Int) + 1 := by simp
  rw [hl] at hn1
  simp only [List.length_append, List.length_cons, List.length_nil] at hb1
  clear hl
  have hb2 : (l.length : Int) + 1 ≤ 1000000000000 := by omega
  go_wp2_with (first
    | (go_at_fn gn; refine hn1.mono ?_; rintro e w2 ⟨rfl, hS2⟩; have HS2 := Lib.hid hS2; clear hS2)
    | (go_at_call 273; refine (up_ok H.out (l ++ [x]) [] l.length _ (by rw [List.append_nil]; exact HS2.out) (by simp) (by simpa using HH.out.push (fun k hk => nth_left hk))).mono ?_; rintro e w3 ⟨rfl, a', hp, hq, hr⟩; have HA := Lib.hid (And.intro hp (And.intro hq hr)); clear hp hq hr))
  go_end0
  obtain ⟨h1, h2, h3⟩ := HA.out
  rw [List.append_nil] at h3
  exact ⟨rfl, a', h1, by rw [h1.length_eq]; exact h2, h3⟩

set_option maxHeartbeats 1000000 in
set_option maxRecDepth 100000 in
theorem hpop_ok (h : HI S lt T rv te enc ok top gn gl gs gp gq) (l : List α) (n : Nat) (w : World) (hS : S l w) (hn : l.length = n + 1) (hh : Heap lt (nth l) l.length) :
    Calls Tryz.prog 311 #[.iface T rv] w (PopE S lt te enc l (nth l 0)) := by
  have mn := h.mn; have ms := h.ms; have mq := h.mq; have en := h.en; have es := h.es; have eq := h.eq
  have hb := h.bound _ _ hS
  have hl := h.len _ _ hS
  have hl' : (l.length : Int) = (n : Int) + 1 := by omega
  rw [hl'] at hl
  rw [hn] at hb hh
  obtain ⟨a, ha1, ha2, ha3⟩ := swp_last (i := 0) hn
  have hsw := fun W hW => h.swap l W hW 0 n (by omega) (by omega)
  rw [ha1] at hsw
  have H := Lib.hid h
  have hd : HD lt (nth a) n 0 0 := (hh.down (m := n) (i := 0) (by omega) h.swo (nth l n)).ext0 ha3
  have HP := Lib.hid (p := (nth l 0 :: a).Perm l) (by
    have h1 := swp_perm (l := l) (i := 0) (j := n) (by omega) (by omega)
    rw [ha1] at h1
    exact List.perm_append_comm.trans h1)
  have HSW := Lib.hid hsw
  have HDD := Lib.hid hd
  have HA2 := Lib.hid ha2
  clear h hh hsw hd ha1 ha2 ha3 hn hl' hS
  have hsm := H.out.small
  have hb2 : (n : Int) + 1 ≤ 1000000000000 := by omega
  generalize nth l 0 = x at *
  simp only [Int.cast_ofNat_Int] at HSW
  go_enter Tryz.func311, Tryz.ntmps311
  go_wp2_with (first
    | (go_at_fn gn; refine hl.mono ?_; rintro e w1 ⟨rfl, hS1⟩; have HS1 := Lib.hid hS1; clear hS1)
    | (go_at_fn gs; refine (HSW.out _ HS1.out).mono ?_; rintro e w2 ⟨rfl, hS1⟩; have HS2 := Lib.hid hS1; clear hS1)
    | (go_at_call 331; refine (Calls.mono (by have h1 := down_ok H.out a [x] 0 _ HS2.out (by omega) (by rw [HA2.out]; exact HDD.out); rw [HA2.out] at h1; exact h1) ?_); rintro e w3 ⟨b, a', rfl, hp, hq, hr, hS3⟩; have HQ := Lib.hid (And.intro hp (And.intro hq hr)); have hpop := H.out.pop _ _ _ hS3; clear hp hq hr hS3)
    | (go_at_fn gq; refine hpop.mono ?_; rintro e w4 ⟨rfl, hS1⟩; have HS4 := Lib.hid hS1; clear hS1))
  go_ret
  obtain ⟨h1, h2, h3⟩ := HQ.out
  refine PopE.of ((h1.cons x).trans HP.out) h1.length_eq.symm ?_ HS4.out
  cases b with
  | true => exact h2 rfl
  | false => exact (h3 rfl).zero

set_option maxHeartbeats 1000000 in
set_option maxRecDepth 100000 in
theorem hremove_last (h : HI S lt T rv te enc ok top gn gl gs gp gq) (l : List α) (n : Nat) (w : World) (hS : S l w) (hn : l.length = n + 1) (hh : Heap lt (nth l) l.length) :
    Calls Tryz.prog 303 #[.iface T rv, .int .i64 n] w (PopE S lt te enc l (nth l n)) := by
  have mn := h.mn; have mq := h.mq; have en := h.en; have eq := h.eq
  have hb := h.bound _ _ hS
  have hl := h.len _ _ hS
  have hl' : (l.length : Int) = (n : Int) + 1 := by omega
  rw [hl'] at hl
  rw [hn] at hb hh
  obtain ⟨a, ha1, ha2, ha3⟩ := last_split hn
  have H := Lib.hid h
  have hp : (nth l n :: a).Perm l := by
    have h1 : (a ++ [nth l n]).Perm (nth l n :: a) := List.perm_append_comm
    rw [← ha1] at h1
    exact h1.symm
  have HP := Lib.hid hp
  have HA1 := Lib.hid ha1
  have HA2 := Lib.hid ha2
  have HHH := Lib.hid ((hh.ext (g := nth l) (fun _ _ => rfl)))
  have hha : Heap lt (nth a) n := fun k h0 hk => by
    have := hh k h0 (by omega)
    unfold okAt at this ⊢
    rw [ha3 k hk, ha3 _ (by omega)]; exact this
  have HHA := Lib.hid hha
  clear h hh ha1 ha2 ha3 hn hl' hS hp HHH hha
  have hsm := H.out.small
  have hb2 : (n : Int) + 1 ≤ 1000000000000 := by omega
  generalize nth l n = x at *
  have e1 : ((n : Int) == (n : Int)) = true := by simp
  have e2 : ((n : Int) != (n : Int)) = false := by simp
  go_enter Tryz.func303, Tryz.ntmps303
  go_wp2_with (first
    | (go_at_fn gn; refine hl.mono ?_; rintro e w1 ⟨rfl, hS1⟩; rw [HA1.out] at hS1; have hpop := H.out.pop _ _ _ hS1; clear hS1)
    | (go_at_fn gq; refine hpop.mono ?_; rintro e w4 ⟨rfl, hS1⟩; have HS4 := Lib.hid hS1; clear hS1))
  go_ret
  exact PopE.of HP.out HA2.out.symm HHA.out HS4.out

set_option maxHeartbeats 1000000 in
set_option maxRecDepth 100000 in
theorem hremove_ok (h : HI S lt T rv te enc ok top gn gl gs gp gq) (l : List α) (i n : Nat) (w : World) (hS : S l w) (hn : l.length = n + 1) (hi : i < n) (hh : Heap lt (nth l) l.length) :
    Calls Tryz.prog 303 #[.iface T rv, .int .i64 i] w (PopE S lt te enc l (nth l i)) := by
  have mn := h.mn; have ms := h.ms; have mq := h.mq; have en := h.en; have es := h.es; have eq := h.eq
  have hb := h.bound _ _ hS
  have hl := h.len _ _ hS
  have hl' : (l.length : Int) = (n : Int) + 1 := by omega
  rw [hl'] at hl
  rw [hn] at hb hh
  obtain ⟨a, ha1, ha2, ha3⟩ := swp_last (i := i) hn
  have hsw := fun W hW => h.swap l W hW i n (by omega) (by omega)
  rw [ha1] at hsw
  have H := Lib.hid h
  have hd : HD lt (nth a) n i i := (hh.down (m := n) (i := i) (by omega) h.swo (nth l n)).ext0 ha3
  have HP := Lib.hid (p := (nth l i :: a).Perm l) (by
    have h1 := swp_perm (l := l) (i := i) (j := n) (by omega) (by omega)
    rw [ha1] at h1
    exact List.perm_append_comm.trans h1)
  have HSW := Lib.hid hsw
  have HDD := Lib.hid hd
  have HA2 := Lib.hid ha2
  clear h hh hsw hd ha1 ha2 ha3 hn hl' hS
  have hsm := H.out.small
  have hb2 : (n : Int) + 1 ≤ 1000000000000 := by omega
  generalize nth l i = x at *
  have e1 : ((n : Int) == (i : Int)) = false := by simp; omega
  have e2 : ((n : Int) != (i : Int)) = true := by simp; omega
  go_enter Tryz.func303, Tryz.ntmps303
  go_wp2_with (first
    | (go_at_fn gn; refine hl.mono ?_; rintro e w1 ⟨rfl, hS1⟩; have HS1 := Lib.hid hS1; clear hS1)
    | (go_at_fn gs; refine (HSW.out _ HS1.out).mono ?_; rintro e w2 ⟨rfl, hS1⟩; have HS2 := Lib.hid hS1; clear hS1)
    | (go_at_call 331; refine (Calls.mono (by have h1 := down_ok H.out a [x] i _ HS2.out (by have := HA2.out; omega) (by rw [HA2.out]; exact HDD.out); rw [HA2.out] at h1; exact h1) fun _ _ h => (?_ : _)); refine (fun (_ : DnE2 S lt a [x] i _ _) => ?_) h.two; rcases ‹DnE2 S lt a [x] i _ _› with ⟨rfl, a', hp, hq, hS3⟩ | ⟨rfl, a', hp, hq, hS3⟩ <;> (have HQ := Lib.hid hp; have HR := Lib.hid hq; have HS3 := Lib.hid hS3; clear hp hq hS3 h))
    | (go_at_call 273; (refine (up_ok H.out a' [x] i _ HS3.out (by have h1 := HQ.out.length_eq; have := HA2.out; omega) (by have h1 := HQ.out.length_eq; have h2 := HR.out; have h3 := HA2.out; rw [h3] at h2; rw [h1, h3]; exact h2)).mono ?_); rintro e w5 ⟨rfl, a2, hp, hq, hr⟩; have HU2 := Lib.hid (And.intro hp (And.intro hq hr)); have hpop := H.out.pop _ _ _ hr; clear hp hq hr)
    | (go_at_fn gq; refine hpop.mono ?_; rintro e w4 ⟨rfl, hS1⟩; have HS4 := Lib.hid hS1; clear hS1)
    | (go_at_fn gq; refine (H.out.pop _ _ _ HS3.out).mono ?_; rintro e w4 ⟨rfl, hS1⟩; have HS4 := Lib.hid hS1; clear hS1))
  all_goals go_ret
  · exact PopE.of ((HQ.out.cons x).trans HP.out) HQ.out.length_eq.symm HR.out HS4.out
  · obtain ⟨h1, h2, _⟩ := HU2.out
    exact PopE.of (((h1.trans HQ.out).cons x).trans HP.out) h1.length_eq.symm h2 HS4.out
end
end Go.Proofs.YtfljmdpigckpkaaGreatDoor.QQ

namespace Go.Proofs.YtfljmdpigckpkaaGreatDoor.QQ
open Go.RowKit Go.Shelf

/-- Of what type a block's cells are. -/
def tag : Obj → Option TypeId
  | .cells _ t _ => some t
  | _ => none
theorem tag_loop (r : Loop) : tag (.loop r) = none := rfl
theorem tag_def (r : Option (List Deferred)) : tag (.deferred r) = none := rfl
/-- The blocks that p names are as they were; none has gone. -/
structure Kept (p : Nat → Option TypeId → Bool) (W W' : World) : Prop where
  os : W'.os = W.os
  tape : W'.tape = W.tape
  output : W'.output = W.output
  size : W.heap.size ≤ W'.heap.size
  same : ∀ b o, W.heap[b]? = some o → p b (tag o) = true → W'.heap[b]? = some o
section
variable {p q : Nat → Option TypeId → Bool} {W W' W'' : World}
theorem Kept.refl (p : Nat → Option TypeId → Bool) (W : World) : Kept p W W := ⟨rfl, rfl, rfl, Nat.le_refl _, fun _ _ h _ => h⟩
theorem Kept.trans (h : Kept p W W') (k : Kept p W' W'') : Kept p W W'' := ⟨k.os.trans h.os, k.tape.trans h.tape, k.output.trans h.output, Nat.le_trans h.size k.size, fun b o hb hp => k.same b o (h.same b o hb hp) hp⟩
theorem Kept.mono (h : Kept p W W') (hq : ∀ b t, b < W.heap.size → q b t = true → p b t = true) : Kept q W W' := ⟨h.os, h.tape, h.output, h.size, fun b o hb hp => h.same b o hb (hq b _ (Array.getElem?_eq_some_iff.1 hb).1 hp)⟩
theorem Kept.drew (p : Nat → Option TypeId → Bool) (W : World) : Kept p W W.drew := ⟨rfl, rfl, rfl, Nat.le_refl _, fun _ _ h _ => h⟩
theorem Kept.alloc (p : Nat → Option TypeId → Bool) (W : World) (o : Obj) : Kept p W (W.alloc o) := ⟨rfl, rfl, rfl, by simp, fun b o' hb _ => (Below.heap_alloc W o b (Array.getElem?_eq_some_iff.1 hb).1).trans hb⟩
theorem Kept.setCell {a : Addr} (v : Value) (ho : ∀ o, W.heap[a.block]? = some o → p a.block (tag o) = false) : Kept p W (W.setCell a v) :=
  ⟨rfl, rfl, rfl, (KeepsWalks.setCell W a v).size, fun b o hb hp => by
    have hne : b ≠ a.block := fun e => by subst e; rw [ho o hb] at hp; cases hp
    exact (Below.heap_setCell _ _ _ b hne).trans hb⟩
theorem Kept.putObj {l : Nat} {o' : Obj} (ho : ∀ o, W.heap[l]? = some o → p l (tag o) = false) : Kept p W (W.putObj l o') :=
  ⟨rfl, rfl, rfl, by simp, fun b o hb hp => by
    have hne : b ≠ l := fun e => by subst e; rw [ho o hb] at hp; cases hp
    exact (World.putObj_heap_other hne).trans hb⟩
theorem Kept.grown {row : Option Nat} (hg : W.grownBy W' row) (ho : ∀ j o, row = some j → W.heap[j]? = some o → p j (tag o) = false) : Kept p W W' :=
  ⟨hg.os, hg.tape, hg.output, hg.size, fun b o hb hp => by
    refine (hg.block b (Array.getElem?_eq_some_iff.1 hb).1 fun e => ?_).trans hb
    rw [ho b o e.symm hb] at hp; cases hp⟩
theorem Kept.below {B : Nat} (h : Kept p W W') (hp : ∀ b t, b < B → p b t = true) (hB : B ≤ W.heap.size) : Below B W W' :=
  ⟨h.os, h.tape, h.output, h.size, fun b hb => by
    have hb' : b < W.heap.size := by omega
    rw [Array.getElem?_eq_getElem hb', h.same b _ (Array.getElem?_eq_getElem hb') (hp b _ hb)]⟩
theorem Kept.of_below {B : Nat} (h : Below B W W') (hp : ∀ b t, b < W.heap.size → p b t = true → b < B) : Kept p W W' :=
  ⟨h.os, h.tape, h.output, h.size, fun b _ hb hb' => (h.block b (hp b _ (Array.getElem?_eq_some_iff.1 hb).1 hb')).trans hb⟩
theorem Kept.cell (h : Kept p W W') {a : Addr} {v : Value} (hc : W.cell? a = some v) (hp : ∀ o, W.heap[a.block]? = some o → p a.block (tag o) = true) : W'.cell? a = some v := by
  have hlt := World.block_lt_of_cell? W a hc
  exact (World.cell?_of_block (by rw [h.same a.block _ (Array.getElem?_eq_getElem hlt) (hp _ (Array.getElem?_eq_getElem hlt)), Array.getElem?_eq_getElem hlt])).trans hc
theorem Kept.row (h : Kept p W W') {base : Nat} {e : TypeId} {size n : Nat} {v : Value} {xs : List Value} (hr : W.ownsRow base e size v n xs) (hp : ∀ g, v.ownBlock = some g → p g (some e) = true) : W'.ownsRow base e size v n xs := by
  refine ⟨hr.1, ?_⟩
  rcases hr.2 with h1 | ⟨g, cap, cur, rfl, h1, h2, h3⟩
  · exact .inl h1
  · exact .inr ⟨g, cap, cur, rfl, h1, h.same g _ h2 (hp g (by simp [Value.ownBlock])), h3⟩
theorem Kept.map {H : Type} {P : Program} {k : TypeId} {R : Value → Option (DataW H × List MemPlace)} {b n : Nat} {D : DataW H} (h : Kept p W W') (hm : W.ownsMap P k R b n D) (hp : p b none = true) : W'.ownsMap P k R b n D := by
  obtain ⟨es, clock, h1, h2⟩ := hm
  exact ⟨es, clock, h.same b _ h1 hp, h2⟩
end
/-- All old blocks. -/
def pOld (B : Nat) : Nat → Option TypeId → Bool := fun b _ => decide (b < B)
/-- What an iterator's own steps leave as it is: what was there ahead of it, and cells but for numbers and a box of their list. -/
def pR (B : Nat) : Nat → Option TypeId → Bool := fun b t => decide (b < B) || (match t with | none => false | some t => !(t == 3 || t == 23))
/-- What a loop's body leaves as it is: cells but for items and a box of their list; what is no cells, from B on. -/
def pK (B : Nat) : Nat → Option TypeId → Bool := fun b t => match t with | none => decide (B ≤ b) | some t => !(t == 102 || t == 196)
def pN (B : Nat) : Nat → Option TypeId → Bool := fun b t => match t with | none => decide (B ≤ b) | some _ => false
theorem pR_le {B B' : Nat} (h : B ≤ B') (b : Nat) (t : Option TypeId) (hp : pR B b t = true) : pR B' b t = true := by
  unfold pR at *; simp only [Bool.or_eq_true, decide_eq_true_eq] at *
  rcases hp with h1 | h1
  · left; omega
  · right; exact h1
theorem pK_le {B B' : Nat} (h : B ≤ B') (b : Nat) (t : Option TypeId) (hp : pK B' b t = true) : pK B b t = true := by
  unfold pK at *; cases t with
  | none => simp only [decide_eq_true_eq] at *; omega
  | some t => exact hp
theorem pN_le {B B' : Nat} (h : B ≤ B') (b : Nat) (t : Option TypeId) (hp : pN B' b t = true) : pN B b t = true := by
  unfold pN at *; cases t with
  | none => simp only [decide_eq_true_eq] at *; omega
  | some t => exact hp
theorem pN_pK {B : Nat} (b : Nat) (t : Option TypeId) (hp : pN B b t = true) : pK B b t = true := by
  unfold pN pK at *; cases t with
  | none => exact hp
  | some t => cases hp
/-- What abides an iterator's own steps. -/
def Stab (B : Nat) (φ : World → Prop) : Prop := ∀ W W', φ W → Kept (pR B) W W' → φ W'
theorem Stab.le {B B' : Nat} {φ : World → Prop} (h : Stab B φ) (hB : B ≤ B') : Stab B' φ := fun W W' hw hk => h W W' hw (hk.mono fun b t _ => pR_le hB b t)
theorem Stab.putObj {B l : Nat} {φ : World → Prop} {W : World} (h : Stab B φ) (o : Obj) (hw : φ W) (hl : B ≤ l) (hn : ∀ o, W.heap[l]? = some o → tag o = none) : φ (W.putObj l o) :=
  h _ _ hw (Kept.putObj fun o ho => by rw [hn o ho]; simp [pR]; omega)
/-- g, called with a loop's yield, gives it the items xs, one by one. -/
def Seq {α : Type} (g : Nat) (lb : Array Value) (encs : α → Array Value) (xs : List α) (w : World) : Prop :=
  ∀ (n l : Nat) (J Jx : List α → World → Prop) (W : World), Kept (pOld w.heap.size) w W → (∀ s, Stab W.heap.size (J s)) → (∀ s, Stab W.heap.size (Jx s)) →
    (∀ pre x W1, pre ++ [x] <+: xs → J pre W1 → YieldAt Fence.wide (n - 1) Tryz.prog l (encs x) W1 fun e W2 =>
      (e = .returned (.bool true) ∧ J (pre ++ [x]) W2 ∧ Kept (pK W.heap.size) W1 W2) ∨ (e = .returned (.bool false) ∧ Jx (pre ++ [x]) W2 ∧ Kept (pN W.heap.size) W1 W2)) →
    J [] W → CallsIn Fence.wide n Tryz.prog g (#[.func (.yield l) #[] #[]] ++ lb) W fun e W' => (∃ v, e = .returned v) ∧ (J xs W' ∨ ∃ pre x, pre ++ [x] <+: xs ∧ Jx (pre ++ [x]) W')
theorem Seq.kept {α : Type} {g : Nat} {lb : Array Value} {encs : α → Array Value} {xs : List α} {w w' : World} (h : Seq g lb encs xs w) (hk : Kept (pOld w.heap.size) w w') : Seq g lb encs xs w' :=
  fun n l J Jx W hW => h n l J Jx W (hk.trans (hW.mono fun b t _ hb => by simp only [pOld, decide_eq_true_eq] at *; have := hk.size; omega))
/-- How the body of a round may be left. -/
def qPost {α : Type} (B : Nat) (I : List α → World → Prop) (Ix : Code → List α → World → Prop) (xs : List α) (W : World) : Exit → Act → World → Prop
  | .normal, _, W' => Kept (pK B) W W' ∧ I xs W'
  | .ret, _, W' => Kept (pN B) W W' ∧ Ix .ret xs W'
  | .exit id, _, W' => Kept (pN B) W W' ∧ Ix (.exit id) xs W'
  | .goto t, _, W' => Kept (pN B) W W' ∧ Ix (.goto t) xs W'
  | .panic _, _, _ => False
  | .outgrown, _, _ => False
def markAt (D : Nat) : Deferred := { target := .collected D, args := #[] }

theorem range_q {α : Type} {n : Nat} {g : Operand} {ps : Array Tmp} {assign body : Code} {Q : Exit → Act → World → Prop} {a : Act} {w : World} {gf : Nat} {lb : Array Value}
    (hg : a.eval g = .func (.func gf) #[] lb) (eg : ∀ args w, (callFunc gf args).run Tryz.prog w = .ok (.enter gf args) w)
    {encs : α → Array Value} {xs : List α} (hseq : Seq gf lb encs xs w) (hps : ∀ x, (encs x).size = ps.size)
    (I : List α → World → Prop) (Ix : Code → List α → World → Prop) (hI : ∀ s, Stab w.heap.size (I s)) (hIx : ∀ c s, Stab w.heap.size (Ix c s)) (h0 : I [] w)
    (Ax : α → Act → World → Prop) (hAx : ∀ x a', Stab w.heap.size (Ax x a'))
    (hassign : ∀ (l : Nat) (pre : List α) (x : α) (W : World) (K : Act → World → Prop), I pre W → pre ++ [x] <+: xs → (∀ a' W', Kept (pK w.heap.size) W W' → I pre W' → Ax x a' W' → K a' W') →
      assign.wpIn (Fence.wide.inRound l) (n - 1 - 1) Tryz.prog (Exit.then K (fun _ _ _ => False)) { tmps := (ps.zip (encs x)).foldl (fun t (p, v) => t.setIfInBounds p v) a.tmps, defers := [] } W)
    (hbody : ∀ (l : Nat) (pre : List α) (x : α) (a' : Act) (W : World), w.heap.size ≤ l → pre ++ [x] <+: xs → I pre W → Ax x a' W → body.wpIn (Fence.wide.inRound l) (n - 1 - 1) Tryz.prog (qPost w.heap.size I Ix (pre ++ [x]) W) a' W)
    (hdone : ∀ W, I xs W → W.heap[w.heap.size]? = some (.deferred (some [])) → Q .normal { a with defers := markAt w.heap.size :: a.defers } W)
    (hstop : ∀ c pre x W, pre ++ [x] <+: xs → Ix c (pre ++ [x]) W → W.heap[w.heap.size]? = some (.deferred (some [])) → c.wpIn Fence.wide n Tryz.prog Q { a with defers := markAt w.heap.size :: a.defers } W) :
    (Code.rangeFunc g ps assign body).wpIn Fence.wide n Tryz.prog Q a w := by
  refine wpIn_rangeFunc fun fn hfn => ?_
  obtain ⟨rec, hrec⟩ : ∃ rec : LoopState → Option Code → Loop, rec = fun st pe => { state := st, pending := pe, fn, tmps := a.tmps, params := ps, assign, body, defers := w.heap.size } := ⟨_, rfl⟩
  generalize hWs : (w.alloc (.deferred (some []))).alloc (.loop (rec .ready none)) = Ws
  have hs : Ws.heap.size = w.heap.size + 2 := by rw [← hWs]; simp
  have hr : Ws.heap[w.heap.size + 1]? = some (.loop (rec .ready none)) := by
    rw [← hWs]; have := World.alloc_heap_new (w.alloc (.deferred (some []))) (.loop (rec .ready none)); rwa [World.size_alloc] at this
  have hm : Ws.heap[w.heap.size]? = some (.deferred (some [])) := by
    rw [← hWs]; exact (Below.heap_alloc _ _ _ (by simp)).trans (World.alloc_heap_new w _)
  have hk : ∀ p, Kept p w Ws := fun p => by rw [← hWs]; exact (Kept.alloc p w _).trans (Kept.alloc p _ _)
  refine ⟨w.heap.size + 1, [markAt w.heap.size], Ws, { target := .fn (.func gf) lb, args := #[.func (.yield (w.heap.size + 1)) #[] #[]] }, Ws, gf, #[.func (.yield (w.heap.size + 1)) #[] #[]] ++ lb, Ws, ?_, ?_, fun _ _ => trivial, ?_, fun h => by simp [Fence.wide] at h, ?_⟩
  · rw [← hWs, hrec]; exact run_enterLoop_outer _ _ _ _ _
  · simp only [resolve, hg]; simp [go_sem]
  · simp [invoke, go_sem, eg]
  have kR : ∀ {W W' : World} {st pe} {b : Nat}, Kept (pR Ws.heap.size) W W' → b < w.heap.size + 2 → W.heap[b]? = some st → tag st = pe → W'.heap[b]? = some st := fun h hb h1 _ => h.same _ _ h1 (by simp [pR]; left; omega)
  refine (hseq (n - 1) (w.heap.size + 1)
    (fun pre W => I pre W ∧ W.heap[w.heap.size + 1]? = some (.loop (rec .ready none)) ∧ W.heap[w.heap.size]? = some (.deferred (some [])))
    (fun pre W => ∃ c, Ix c pre W ∧ W.heap[w.heap.size + 1]? = some (.loop (rec .done (some c))) ∧ W.heap[w.heap.size]? = some (.deferred (some [])))
    Ws (hk _)
    (fun s W W' h hkk => ⟨(hI s).le (by omega) W W' h.1 hkk, kR hkk (by omega) h.2.1 rfl, kR hkk (by omega) h.2.2 rfl⟩)
    (fun s W W' h hkk => by obtain ⟨c, h1, h2, h3⟩ := h; exact ⟨c, (hIx c s).le (by omega) W W' h1 hkk, kR hkk (by omega) h2 rfl, kR hkk (by omega) h3 rfl⟩)
    ?round ⟨hI _ _ _ h0 (hk _), hr, hm⟩).mono ?behind
  case round =>
    rintro pre x W hpre ⟨hi, hl, hd⟩
    have hy := run_yield (P := Tryz.prog) (args := encs x) hl (by rw [hrec]; exact hps x)
    rw [hrec] at hy
    refine ⟨fn, _, assign, body, hy, roundIn_of_wpIn hfn (hassign _ pre x W _ hi hpre ?_)⟩
    clear hy
    intro a' Wa hka hia hax
    have hN : ∀ {W W' : World} {o : Obj} {b : Nat}, Kept (pK w.heap.size) W W' → w.heap.size ≤ b → W.heap[b]? = some o → tag o = none → W'.heap[b]? = some o := fun h hb h1 h2 => h.same _ _ h1 (by rw [h2]; simp [pK, hb])
    have hl1 := hN hka (by omega) hl rfl
    have hd1 := hN hka (by omega) hd rfl
    have hlt : w.heap.size + 1 < Wa.heap.size := (Array.getElem?_eq_some_iff.1 hl1).1
    refine ⟨_, run_beginRound hl1 (by rw [hrec]), ?_⟩
    have hn1 : ∀ o, Wa.heap[w.heap.size + 1]? = some o → tag o = none := fun o ho => by rw [hl1] at ho; cases ho; rfl
    have hl2 : (Wa.putObj (w.heap.size + 1) (.loop { rec .ready none with state := .busy })).heap[w.heap.size + 1]? = some (.loop { rec .ready none with state := .busy }) := World.putObj_heap_same hlt
    have hd2 : (Wa.putObj (w.heap.size + 1) (.loop { rec .ready none with state := .busy })).heap[w.heap.size]? = some (.deferred (some [])) := (World.putObj_heap_other (by omega)).trans hd1
    have hk2 : Kept (pK Ws.heap.size) Wa (Wa.putObj (w.heap.size + 1) (.loop { rec .ready none with state := .busy })) := Kept.putObj fun o ho => by rw [hn1 o ho]; simp [pK]; omega
    refine wpIn_mono (hbody _ pre x a' _ (by omega) hpre ((hI pre).putObj _ hia (by omega) hn1) ((hAx x a').putObj _ hax (by omega) hn1)) ?_
    have fin : ∀ (jump : Option Code) (W3 : World), Kept (pN w.heap.size) (Wa.putObj (w.heap.size + 1) (.loop { rec .ready none with state := .busy })) W3 →
        (Instr.endRound (w.heap.size + 1) jump).run Tryz.prog W3 = .ok (.bool jump.isNone) (W3.putObj (w.heap.size + 1) (.loop (rec (if jump.isNone then .ready else .done) jump))) ∧
        (∀ o, W3.heap[w.heap.size + 1]? = some o → tag o = none) ∧
        (W3.putObj (w.heap.size + 1) (.loop (rec (if jump.isNone then .ready else .done) jump))).heap[w.heap.size + 1]? = some (.loop (rec (if jump.isNone then .ready else .done) jump)) ∧
        (W3.putObj (w.heap.size + 1) (.loop (rec (if jump.isNone then .ready else .done) jump))).heap[w.heap.size]? = some (.deferred (some [])) := fun jump W3 h3 => by
      have hl3 := h3.same _ _ hl2 (by rw [tag_loop]; simp [pN])
      have hd3 := h3.same _ _ hd2 (by rw [tag_def]; simp [pN])
      have := run_endRound (P := Tryz.prog) jump hl3
      rw [hrec] at this hl3 ⊢
      exact ⟨this, fun o ho => by rw [hl3] at ho; cases ho; rfl, World.putObj_heap_same (Array.getElem?_eq_some_iff.1 hl3).1, (World.putObj_heap_other (by omega)).trans hd3⟩
    have low : ∀ {W3 : World} {o' : Obj}, Kept (pN w.heap.size) (Wa.putObj (w.heap.size + 1) (.loop { rec .ready none with state := .busy })) W3 → (∀ o, W3.heap[w.heap.size + 1]? = some o → tag o = none) → Kept (pN Ws.heap.size) W (W3.putObj (w.heap.size + 1) o') := fun h3 h2 =>
      ((hka.mono fun b t _ hp => pN_pK b t (pN_le (by omega) b t hp)).trans (hk2.mono fun b t _ => pN_pK b t)).trans ((h3.mono fun b t _ => pN_le (by omega) b t).trans (Kept.putObj fun o ho => by rw [h2 o ho]; simp [pN]; omega))
    rintro e a3 W3 hp
    cases e with
    | normal =>
      obtain ⟨hk3, hi3⟩ := hp
      obtain ⟨h1, h2, h3, h4⟩ := fin none W3 (hk3.mono fun b t _ => pN_pK b t)
      refine ⟨_, _, h1, .inl ⟨rfl, ⟨(hI _).putObj _ hi3 (by omega) h2, h3, h4⟩, ?_⟩⟩
      refine ((hka.mono fun b t _ => pK_le (by omega) b t).trans hk2).trans ((hk3.mono fun b t _ => pK_le (by omega) b t).trans (Kept.putObj fun o ho => ?_))
      rw [h2 o ho]; simp [pK]; omega
    | ret =>
      obtain ⟨hk3, hi3⟩ := hp
      obtain ⟨h1, h2, h3, h4⟩ := fin (some .ret) W3 hk3
      exact ⟨_, _, h1, .inr ⟨rfl, ⟨.ret, (hIx _ _).putObj _ hi3 (by omega) h2, h3, h4⟩, low hk3 h2⟩⟩
    | exit id =>
      obtain ⟨hk3, hi3⟩ := hp
      obtain ⟨h1, h2, h3, h4⟩ := fin (some (.exit id)) W3 hk3
      exact ⟨_, _, h1, .inr ⟨rfl, ⟨.exit id, (hIx _ _).putObj _ hi3 (by omega) h2, h3, h4⟩, low hk3 h2⟩⟩
    | goto t =>
      obtain ⟨hk3, hi3⟩ := hp
      obtain ⟨h1, h2, h3, h4⟩ := fin (some (.goto t)) W3 hk3
      exact ⟨_, _, h1, .inr ⟨rfl, ⟨.goto t, (hIx _ _).putObj _ hi3 (by omega) h2, h3, h4⟩, low hk3 h2⟩⟩
    | panic ch => exact hp.elim
    | outgrown => exact hp.elim
  case behind =>
    rintro e W2 ⟨⟨v, rfl⟩, ⟨hi, hl, hd⟩ | ⟨pre, x, hpre, c, hi, hl, hd⟩⟩
    · have h1 := run_endLoop (P := Tryz.prog) hl (by rw [hrec]; simp)
      rw [hrec] at h1
      exact ⟨none, _, h1, hdone _ ((hI _).putObj _ hi (by omega) fun o ho => by rw [hl] at ho; cases ho; rfl) ((World.putObj_heap_other (by omega)).trans hd)⟩
    · have h1 := run_endLoop (P := Tryz.prog) hl (by rw [hrec]; simp)
      rw [hrec] at h1
      exact ⟨some c, _, h1, hstop c pre x _ hpre ((hIx _ _).putObj _ hi (by omega) fun o ho => by rw [hl] at ho; cases ho; rfl) ((World.putObj_heap_other (by omega)).trans hd)⟩
end Go.Proofs.YtfljmdpigckpkaaGreatDoor.QQ

namespace Go.Proofs.YtfljmdpigckpkaaGreatDoor.QQ
open Go.RowKit Go.Shelf

/-- What was there is as it was. -/
def Ext (W W' : World) : Prop := Kept (pOld W.heap.size) W W'
theorem Ext.kept {W W' : World} (h : Ext W W') (p : Nat → Option TypeId → Bool) : Kept p W W' := h.mono fun _ _ hb _ => by simp [pOld, hb]
theorem Ext.of {W W' : World} (h : Below W.heap.size W W') : Ext W W' := Kept.of_below h fun _ _ hb _ => hb
theorem Ext.refl (W : World) : Ext W W := Kept.refl _ W
theorem Ext.trans {A B C : World} (h : Ext A B) (k : Ext B C) : Ext A C := Kept.trans h (k.kept _)
theorem Ext.one (w : World) (o : Obj) : Ext w (w.alloc o) := Kept.alloc _ _ _
theorem Ext.two (w : World) (o o' : Obj) : Ext w ((w.alloc o).alloc o') := (Ext.one w o).trans (Ext.one _ o')
theorem Ext.drew (w : World) : Ext w w.drew := Kept.drew _ _

structure Ent where
  task : Int
  front : Bool
  due : Int
  nth : Int
deriving Inhabited, DecidableEq
def Ent.cells (x : Ent) : List Value := [.int .i64 x.task, .bool x.front, .int .i64 x.due, .int .i64 x.nth]
def Ent.val (x : Ent) : Value := .agg #[.int .i64 x.task, .bool x.front, .int .i64 x.due, .int .i64 x.nth]
/-- x comes ahead of y. -/
def eLt (x y : Ent) : Bool :=
  if x.front != y.front then x.front else if x.front then decide (x.nth > y.nth) else if x.due != y.due then decide (x.due < y.due) else decide (x.nth < y.nth)
theorem eLt_swo : Swo eLt := by
  constructor
  · rintro ⟨_, f, d, n⟩ ⟨_, f', d', n'⟩ h
    cases f <;> cases f' <;> simp [eLt] at h ⊢ <;> (try split at h) <;> (try split) <;> (try simp_all) <;> (try omega)
  · rintro ⟨_, f, d, n⟩ ⟨_, f', d', n'⟩ ⟨_, f2, d2, n2⟩ h h2
    cases f <;> cases f' <;> cases f2 <;> simp [eLt] at h h2 ⊢ <;> (try split at h) <;> (try split at h2) <;> (try split) <;> (try simp_all) <;> (try omega)

set_option maxHeartbeats 1000000 in
set_option maxRecDepth 100000 in
theorem ahead_ok (x y : Ent) (w : World) : Calls Tryz.prog 274 #[x.val, y.val] w fun e w' => e = .returned (.bool (eLt x y)) ∧ Ext w w' := by
  obtain ⟨t, f, d, n⟩ := x
  obtain ⟨t', f', d', n'⟩ := y
  unfold Ent.val
  dsimp only
  go_enter Tryz.func274, Tryz.ntmps274
  cases f with
  | true =>
    cases f' with
    | true =>
      go_wp2
      go_ret
      exact ⟨by simp [eLt], Ext.two _ _ _⟩
    | false =>
      go_wp2
      go_ret
      exact ⟨by simp [eLt], Ext.two _ _ _⟩
  | false =>
    cases f' with
    | true =>
      go_wp2
      go_ret
      exact ⟨by simp [eLt], Ext.two _ _ _⟩
    | false =>
      by_cases h : d = d'
      · subst h
        go_wp2
        go_ret
        exact ⟨by simp [eLt], Ext.two _ _ _⟩
      · have h1 : (d != d') = true := by simpa using h
        go_wp2
        go_ret
        exact ⟨by simp [eLt, h], Ext.two _ _ _⟩
end Go.Proofs.YtfljmdpigckpkaaGreatDoor.QQ

namespace Go.Proofs.YtfljmdpigckpkaaGreatDoor.QQ
open Go.RowKit Go.Shelf

abbrev PP := Nat → Option TypeId → Bool
abbrev DM := DataW Unit
theorem keptStore {p : PP} {W0 W : World} (h : Kept p W0 W) {a : Addr} (v : Value) (ho : ∀ o, W.heap[a.block]? = some o → a.block < W0.heap.size → p a.block (tag o) = false) : Kept p W0 (W.setCell a v) :=
  ⟨h.os, h.tape, h.output, Nat.le_trans h.size (KeepsWalks.setCell W a v).size, fun b o hb hp => by
    have h1 := h.same b o hb hp
    refine (Below.heap_setCell _ _ _ b fun e => ?_).trans h1
    subst e
    rw [ho o h1 (Array.getElem?_eq_some_iff.1 hb).1] at hp; cases hp⟩
theorem keptGrown {p : PP} {W0 W W' : World} {row : Option Nat} (h : Kept p W0 W) (hg : W.grownBy W' row) (ho : ∀ j o, row = some j → W.heap[j]? = some o → j < W0.heap.size → p j (tag o) = false) : Kept p W0 W' :=
  ⟨hg.os.trans h.os, hg.tape.trans h.tape, hg.output.trans h.output, Nat.le_trans h.size hg.size, fun b o hb hp => by
    have h1 := h.same b o hb hp
    refine (hg.block b (Array.getElem?_eq_some_iff.1 h1).1 fun e => ?_).trans h1
    rw [ho b o e.symm h1 (Array.getElem?_eq_some_iff.1 hb).1] at hp; cases hp⟩
/-- p names none of the blocks in which a queue lies. -/
def Mine (p : PP) (W0 : World) (b : Nat) (t : Option TypeId) : Prop := b < W0.heap.size → p b t = false
def row4 (l : List Ent) : List Value := l.flatMap Ent.cells
theorem row4_len (l : List Ent) : (row4 l).length = l.length * 4 := by
  unfold row4; induction l with
  | nil => rfl
  | cons x r ih => simp [List.flatMap_cons, Ent.cells, ih]; omega
theorem row4_get {l : List Ent} : ∀ {i : Nat}, i < l.length → ∀ k, k < 4 → (row4 l)[i * 4 + k]? = (nth l i).cells[k]? := by
  induction l with
  | nil => intro i h; simp at h
  | cons x r ih =>
    intro i h k hk
    cases i with
    | zero =>
      have : nth (x :: r) 0 = x := rfl
      rw [this]
      simp only [row4, List.flatMap_cons, Nat.zero_mul, Nat.zero_add]
      rw [List.getElem?_append_left (by simp [Ent.cells]; omega)]
    | succ i =>
      have h1 := ih (i := i) (by simpa using h) k hk
      have : nth (x :: r) (i + 1) = nth r i := rfl
      rw [this, ← h1]
      simp only [row4, List.flatMap_cons]
      rw [List.getElem?_append_right (by simp [Ent.cells]; omega)]
      congr 1
      simp [Ent.cells]; omega
/-- A queue's heap in memory: its entries; its map; all else that p names is as it was at W0. -/
structure QS (p : PP) (W0 : World) (bq bp bm : Nat) (pu : Int) (l : List Ent) (D : DM) (W : World) : Prop where
  qb : ∃ v, W.heap[bq]? = some (.cells #[v, .map (some bm), .int .i64 pu] 258 (0, 0)) ∧ W.ownsRow 0 278 4 v l.length (row4 l) ∧ ∀ g, v.ownBlock = some g → Mine p W0 g (some 278)
  bpb : W.heap[bp]? = some (.cells #[.pointer (some ⟨bq, 0, none⟩)] 171 (0, 0))
  mp : W.ownsMap Tryz.prog 3 (plainElem Tryz.prog 3) bm (Maps.size D) D
  kept : Kept p W0 W
  mq : Mine p W0 bq (some 258)
  mm : Mine p W0 bm none
  small : l.length ≤ 1000000
theorem QS.ext {p : PP} {W0 : World} {bq bp bm : Nat} {pu : Int} {l : List Ent} {D : DM} {W W' : World} (h : QS p W0 bq bp bm pu l D W) (k : Ext W W') : QS p W0 bq bp bm pu l D W' := by
  obtain ⟨⟨v, h1, h2, h3⟩, h4, h5, h6, h7, h8, h9⟩ := h
  have k1 := k.kept (fun _ _ => true)
  exact ⟨⟨v, k1.same _ _ h1 rfl, k1.row h2 fun _ _ => rfl, h3⟩, k1.same _ _ h4 rfl, k1.map h5 rfl, h6.trans (k.kept p), h7, h8, h9⟩
/-- A slice of entries, written out. -/
theorem own4 {W : World} {v : Value} {l : List Ent} (h : W.ownsRow 0 278 4 v l.length (row4 l)) : ∃ A c, v = .slice A l.length c := by
  rcases h.2 with ⟨rfl, h0⟩ | ⟨g, cap, _, rfl, _⟩
  · exact ⟨none, 0, by rw [h0]⟩
  · exact ⟨_, cap, rfl⟩
theorem own4_cells {W : World} {A : Option Addr} {c : Nat} {l : List Ent} (h : W.ownsRow 0 278 4 (.slice A l.length c) l.length (row4 l)) {i : Nat} (hi : i < l.length) :
    ∃ g, A = some ⟨g, 0, none⟩ ∧ (∀ o, W.heap[g]? = some o → tag o = some 278) ∧ W.cell? ⟨g, i * 4, none⟩ = some (.int .i64 (nth l i).task) ∧ W.cell? ⟨g, i * 4 + 1, none⟩ = some (.bool (nth l i).front) ∧
      W.cell? ⟨g, i * 4 + 2, none⟩ = some (.int .i64 (nth l i).due) ∧ W.cell? ⟨g, i * 4 + 3, none⟩ = some (.int .i64 (nth l i).nth) := by
  rcases h.2 with ⟨_, h0⟩ | ⟨g, cap, cur, e, _, h1, h2, h3, h4, h5⟩
  · omega
  · injection e with e _ _
    refine ⟨g, e, fun o ho => by rw [h1] at ho; cases ho; rfl, ?_⟩
    have hc : ∀ k, k < 4 → W.cell? ⟨g, i * 4 + k, none⟩ = (nth l i).cells[k]? := fun k hk => by
      have h6 : cur.toList[i * 4 + k]? = (row4 l)[i * 4 + k]? := by rw [← h5, List.getElem?_take, if_pos (by omega)]
      rw [row4_get hi k hk] at h6
      simp only [World.cell?, h1]
      simpa using h6
    exact ⟨hc 0 (by omega), hc 1 (by omega), hc 2 (by omega), hc 3 (by omega)⟩
/-- The value that container/heap is given. -/
def pv (bq bp : Nat) : Value := .agg #[.pointer (some ⟨bq, 0, none⟩), .func (.func 274) #[] #[], .func (.func 275) #[] #[.pointer (some ⟨bp, 0, none⟩)]]

section
variable {p : PP} {W0 : World} {bq bp bm : Nat} {pu : Int}
set_option maxHeartbeats 1000000 in
set_option maxRecDepth 100000 in
theorem elen_ok {l : List Ent} {D : DM} {W : World} (h : QS p W0 bq bp bm pu l D W) : Calls Tryz.prog 359 #[pv bq bp] W fun e W' => e = .returned (.int .i64 l.length) ∧ Ext W W' := by
  obtain ⟨v, h1, h2, h3⟩ := h.qb
  obtain ⟨A, c, rfl⟩ := own4 h2
  have hlt := (Array.getElem?_eq_some_iff.1 h1).1
  have c0 : W.cell? ⟨bq, 0, none⟩ = some (.slice A l.length c) := by simp [World.cell?, h1]
  unfold pv
  have HH := Lib.hid h
  clear h h1 h2 h3
  go_enter Tryz.func359, Tryz.ntmps359
  go_wp2
  go_ret
  exact ⟨rfl, Ext.one _ _⟩

/-- The box in which a method keeps its receiver. -/
def pvo (bq bp : Nat) : Obj := .cells #[.pointer (some ⟨bq, 0, none⟩), .func (.func 274) #[] #[], .func (.func 275) #[] #[.pointer (some ⟨bp, 0, none⟩)]] 296
theorem pvo_cells {W : World} {b bq bp : Nat} (h : W.heap[b]? = some (pvo bq bp)) : W.cell? ⟨b, 0, none⟩ = some (.pointer (some ⟨bq, 0, none⟩)) ∧ W.cell? ⟨b, 1, none⟩ = some (.func (.func 274) #[] #[]) ∧ W.cell? ⟨b, 2, none⟩ = some (.func (.func 275) #[] #[.pointer (some ⟨bp, 0, none⟩)]) := by
  simp [World.cell?, h, pvo]

set_option maxHeartbeats 1000000 in
set_option maxRecDepth 100000 in
theorem eless_ok {l : List Ent} {D : DM} {W : World} (h : QS p W0 bq bp bm pu l D W) {i j : Nat} (hi : i < l.length) (hj : j < l.length) : Calls Tryz.prog 360 #[pv bq bp, .int .i64 i, .int .i64 j] W fun e W' => e = .returned (.bool (eLt (nth l i) (nth l j))) ∧ Ext W W' := by
  obtain ⟨W1, hW1⟩ : ∃ W1, W1 = W.alloc (pvo bq bp) := ⟨_, rfl⟩
  have hx : Ext W W1 := by rw [hW1]; exact Ext.one _ _
  have hb : W1.heap[W.heap.size]? = some (pvo bq bp) := by rw [hW1]; exact World.alloc_heap_new _ _
  obtain ⟨p0, p1, _⟩ := pvo_cells hb
  obtain ⟨v, h1, h2, h3⟩ := (h.ext hx).qb
  obtain ⟨A, c, rfl⟩ := own4 h2
  have c0 : W1.cell? ⟨bq, 0, none⟩ = some (.slice A l.length c) := by simp [World.cell?, h1]
  obtain ⟨g, rfl, _, a0, a1, a2, a3⟩ := own4_cells h2 hi
  obtain ⟨g', e, _, b0, b1, b2, b3⟩ := own4_cells h2 hj
  injection e with e; injection e with e; subst e
  have hi' : (i : Int) < (l.length : Int) := by omega
  have hj' : (j : Int) < (l.length : Int) := by omega
  have hsm : (l.length : Int) ≤ 1000000 := by have := h.small; omega
  have hah := fun w => ahead_ok (nth l i) (nth l j) w
  have HX := Lib.hid hx
  have HW := Lib.hid hW1
  simp only [Ent.val] at hah
  clear h h1 h2 h3 hb hx hW1
  generalize nth l i = x at *
  generalize nth l j = y at *
  unfold pv
  go_enter Tryz.func360, Tryz.ntmps360
  go_wp2_with fail
  change Code.wp _ _ _ _ (W.alloc (pvo bq bp))
  rw [← HW.out]
  go_still_tail 16, (by kernel_rfl)
  change wpList _ _ _ _ _ W1.drew
  go_wp2_with fail
  refine (hah _).mono ?_
  rintro e w' ⟨rfl, hx2⟩
  go_wp2_with fail
  go_ret
  exact ⟨rfl, HX.out.trans ((Ext.drew _).trans hx2)⟩
end
end Go.Proofs.YtfljmdpigckpkaaGreatDoor.QQ
