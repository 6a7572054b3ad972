/- container/heap's Push, Pop, Remove, over any value with the methods of a heap. -/
import Derived.Test.YtmbdglolpagjdaaQuE
namespace Go.Proofs.Ytmbdglolpagjdaa
open Go.RowKit Go.Shelf
section
variable {α : Type} [Inhabited α]
theorem swp_last {l : List α} {i n : Nat} (hn : l.length = n + 1) : ∃ a, swp l i n = a ++ [nth l i] ∧ a.length = n ∧ ∀ k, k < n → nth a k = if k = i then nth l n else nth l k := by
  have h1 : (swp l i n).length = n + 1 := by rw [swp_len, hn]
  refine ⟨(swp l i n).take n, ?_, by simp [h1], fun k hk => ?_⟩
  · have h2 := List.take_succ_eq_append_getElem (l := swp l i n) (i := n) (by omega)
    rw [List.take_of_length_le (by omega)] at h2
    have h3 : (swp l i n)[n]'(by omega) = nth l i := by simp [swp]
    rw [h3] at h2
    exact h2
  · have h3 := nth_swp (l := l) (i := i) (j := n) k (by omega)
    have h4 : nth ((swp l i n).take n) k = nth (swp l i n) k := by
      rw [nth_lt (by rw [List.length_take]; omega), nth_lt (by omega)]; simp
    rw [h4, h3]
    unfold sw
    by_cases e : k = i
    · rw [if_pos e, if_pos e]
    · rw [if_neg e, if_neg e, if_neg (by omega)]
theorem last_split {l : List α} {n : Nat} (hn : l.length = n + 1) : ∃ a, l = a ++ [nth l n] ∧ a.length = n ∧ ∀ k, k < n → nth a k = nth l k := by
  obtain ⟨a, h1, h2, h3⟩ := swp_last (i := n) hn
  refine ⟨a, ?_, h2, fun k hk => by rw [h3 k hk, if_neg (by omega)]⟩
  rw [← h1]
  apply List.ext_getElem (by rw [swp_len])
  intro k h4 h5
  have h6 := nth_swp (l := l) (i := n) (j := n) k h4
  rw [nth_lt h5] at h6
  rw [h6]
  unfold sw
  by_cases e : k = n
  · subst e; rw [if_pos rfl, nth_lt h4]
  · rw [if_neg e, if_neg e, nth_lt h4]
variable {S : List α → World → Prop} {lt : α → α → Bool} {T : TypeId} {rv : Value} {te : TypeId} {enc : α → Value} {ok : List α → α → Prop} {top gn gl gs gp gq : Nat}
omit [Inhabited α] in
theorem HD.ext0 {f g : Nat → α} {n i : Nat} (h : HD lt f n i i) (he : ∀ k, k < n → g k = f k) : HD lt g n i i := by
  obtain ⟨h1, h2, h3, h4⟩ := h
  refine ⟨fun k h0 hk hki hp => ?_, fun c h0 hc hp hn => ?_, fun e => absurd rfl e, h4⟩
  · have := h1 k h0 hk hki hp
    unfold okAt at this ⊢
    rw [he k hk, he _ (by omega)]; exact this
  · rw [he c hc, he _ (by omega)]; exact h2 c h0 hc hp hn
def DnE2 (S : List α → World → Prop) (lt : α → α → Bool) (a t : List α) (i0 : Nat) (e : Ending) (w' : World) : Prop :=
  (e = .returned (.bool true) ∧ ∃ a', a'.Perm a ∧ Heap lt (nth a') a.length ∧ S (a' ++ t) w') ∨ (e = .returned (.bool false) ∧ ∃ a', a'.Perm a ∧ HU lt (nth a') a.length i0 ∧ S (a' ++ t) w')
theorem DnE.two {a t : List α} {i0 : Nat} {e : Ending} {w' : World} (h : DnE S lt a t i0 e w') : DnE2 S lt a t i0 e w' := by
  obtain ⟨b, a', rfl, h1, h2, h3, h4⟩ := h
  cases b with
  | true => exact .inl ⟨rfl, a', h1, h2 rfl, h4⟩
  | false => exact .inr ⟨rfl, a', h1, h3 rfl, h4⟩
def PushE (S : List α → World → Prop) (lt : α → α → Bool) (l : List α) (x : α) (e : Ending) (w' : World) : Prop := e = .returned (.tuple #[]) ∧ ∃ l', l'.Perm (l ++ [x]) ∧ Heap lt (nth l') l'.length ∧ S l' w'
/-- What heap.Pop and heap.Remove leave: x has gone. -/
def PopE (S : List α → World → Prop) (lt : α → α → Bool) (te : TypeId) (enc : α → Value) (l : List α) (x : α) (e : Ending) (w' : World) : Prop := e = .returned (.iface te (enc x)) ∧ ∃ l', (x :: l').Perm l ∧ Heap lt (nth l') l'.length ∧ S l' w'
theorem PopE.of {l a' : List α} {x : α} {w' : World} {n : Nat} (hp : (x :: a').Perm l) (hn : n = a'.length) (hh : Heap lt (nth a') n) (hS : S a' w') : PopE S lt te enc l x (.returned (.iface te (enc x))) w' := by
  subst hn; exact ⟨rfl, a', hp, hh, hS⟩

set_option maxHeartbeats 1000000 in
set_option maxRecDepth 100000 in
theorem hpush_ok (h : HI S lt T rv te enc ok top gn gl gs gp gq) (l : List α) (x : α) (w : World) (hS : S l w) (hok : ok l x) (hh : Heap lt (nth l) l.length) :
    Calls Try.prog 36 #[.iface T rv, .iface te (enc x)] w (PushE S lt l x) := by
  have mn := h.mn; have mp := h.mp; have en := h.en; have ep := h.ep
  have hp := h.push l x w hS hok
  have H := Lib.hid h
  have HH := Lib.hid hh
  clear h hh hok
  have hsm := H.out.small
  go_enter Try.func36, Try.ntmps36
  go_wp2_with (go_at_fn gp; refine hp.mono ?_; rintro e w1 ⟨rfl, hS1⟩; have hb1 := H.out.bound _ _ hS1; have hn1 := H.out.len _ _ hS1; clear hS1 hS hp)
  have hl : ((l ++ [x]).length : Int) = (l.length : Int) + 1 := by simp
  rw [hl] at hn1
  simp only [List.length_append, List.length_cons, List.length_nil] at hb1
  clear hl
  have hb2 : (l.length : Int) + 1 ≤ 1000000000000 := by omega
  go_wp2_with (first
    | (go_at_fn gn; refine hn1.mono ?_; rintro e w2 ⟨rfl, hS2⟩; have HS2 := Lib.hid hS2; clear hS2)
    | (go_at_call 46; refine (up_ok H.out (l ++ [x]) [] l.length _ (by rw [List.append_nil]; exact HS2.out) (by simp) (by simpa using HH.out.push (fun k hk => nth_left hk))).mono ?_; rintro e w3 ⟨rfl, a', hp, hq, hr⟩; have HA := Lib.hid (And.intro hp (And.intro hq hr)); clear hp hq hr))
  go_end0
  obtain ⟨h1, h2, h3⟩ := HA.out
  rw [List.append_nil] at h3
  exact ⟨rfl, a', h1, by rw [h1.length_eq]; exact h2, h3⟩

set_option maxHeartbeats 1000000 in
set_option maxRecDepth 100000 in
theorem hpop_ok (h : HI S lt T rv te enc ok top gn gl gs gp gq) (l : List α) (n : Nat) (w : World) (hS : S l w) (hn : l.length = n + 1) (hh : Heap lt (nth l) l.length) :
    Calls Try.prog 54 #[.iface T rv] w (PopE S lt te enc l (nth l 0)) := by
  have mn := h.mn; have ms := h.ms; have mq := h.mq; have en := h.en; have es := h.es; have eq := h.eq
  have hb := h.bound _ _ hS
  have hl := h.len _ _ hS
  have hl' : (l.length : Int) = (n : Int) + 1 := by omega
  rw [hl'] at hl
  rw [hn] at hb hh
  obtain ⟨a, ha1, ha2, ha3⟩ := swp_last (i := 0) hn
  have hsw := fun W hW => h.swap l W hW 0 n (by omega) (by omega)
  rw [ha1] at hsw
  have H := Lib.hid h
  have hd : HD lt (nth a) n 0 0 := (hh.down (m := n) (i := 0) (by omega) h.swo (nth l n)).ext0 ha3
  have HP := Lib.hid (p := (nth l 0 :: a).Perm l) (by
    have h1 := swp_perm (l := l) (i := 0) (j := n) (by omega) (by omega)
    rw [ha1] at h1
    exact List.perm_append_comm.trans h1)
  have HSW := Lib.hid hsw
  have HDD := Lib.hid hd
  have HA2 := Lib.hid ha2
  clear h hh hsw hd ha1 ha2 ha3 hn hl' hS
  have hsm := H.out.small
  have hb2 : (n : Int) + 1 ≤ 1000000000000 := by omega
  generalize nth l 0 = x at *
  simp only [Int.cast_ofNat_Int] at HSW
  go_enter Try.func54, Try.ntmps54
  go_wp2_with (first
    | (go_at_fn gn; refine hl.mono ?_; rintro e w1 ⟨rfl, hS1⟩; have HS1 := Lib.hid hS1; clear hS1)
    | (go_at_fn gs; refine (HSW.out _ HS1.out).mono ?_; rintro e w2 ⟨rfl, hS1⟩; have HS2 := Lib.hid hS1; clear hS1)
    | (go_at_call 49; refine (Calls.mono (by have h1 := down_ok H.out a [x] 0 _ HS2.out (by omega) (by rw [HA2.out]; exact HDD.out); rw [HA2.out] at h1; exact h1) ?_); rintro e w3 ⟨b, a', rfl, hp, hq, hr, hS3⟩; have HQ := Lib.hid (And.intro hp (And.intro hq hr)); have hpop := H.out.pop _ _ _ hS3; clear hp hq hr hS3)
    | (go_at_fn gq; refine hpop.mono ?_; rintro e w4 ⟨rfl, hS1⟩; have HS4 := Lib.hid hS1; clear hS1))
  go_ret
  obtain ⟨h1, h2, h3⟩ := HQ.out
  refine PopE.of ((h1.cons x).trans HP.out) h1.length_eq.symm ?_ HS4.out
  cases b with
  | true => exact h2 rfl
  | false => exact (h3 rfl).zero

set_option maxHeartbeats 1000000 in
set_option maxRecDepth 100000 in
theorem hremove_last (h : HI S lt T rv te enc ok top gn gl gs gp gq) (l : List α) (n : Nat) (w : World) (hS : S l w) (hn : l.length = n + 1) (hh : Heap lt (nth l) l.length) :
    Calls Try.prog 38 #[.iface T rv, .int .i64 n] w (PopE S lt te enc l (nth l n)) := by
  have mn := h.mn; have mq := h.mq; have en := h.en; have eq := h.eq
  have hb := h.bound _ _ hS
  have hl := h.len _ _ hS
  have hl' : (l.length : Int) = (n : Int) + 1 := by omega
  rw [hl'] at hl
  rw [hn] at hb hh
  obtain ⟨a, ha1, ha2, ha3⟩ := last_split hn
  have H := Lib.hid h
  have hp : (nth l n :: a).Perm l := by
    have h1 : (a ++ [nth l n]).Perm (nth l n :: a) := List.perm_append_comm
    rw [← ha1] at h1
    exact h1.symm
  have HP := Lib.hid hp
  have HA1 := Lib.hid ha1
  have HA2 := Lib.hid ha2
  have HHH := Lib.hid ((hh.ext (g := nth l) (fun _ _ => rfl)))
  have hha : Heap lt (nth a) n := fun k h0 hk => by
    have := hh k h0 (by omega)
    unfold okAt at this ⊢
    rw [ha3 k hk, ha3 _ (by omega)]; exact this
  have HHA := Lib.hid hha
  clear h hh ha1 ha2 ha3 hn hl' hS hp HHH hha
  have hsm := H.out.small
  have hb2 : (n : Int) + 1 ≤ 1000000000000 := by omega
  generalize nth l n = x at *
  have e1 : ((n : Int) == (n : Int)) = true := by simp
  have e2 : ((n : Int) != (n : Int)) = false := by simp
  go_enter Try.func38, Try.ntmps38
  go_wp2_with (first
    | (go_at_fn gn; refine hl.mono ?_; rintro e w1 ⟨rfl, hS1⟩; rw [HA1.out] at hS1; have hpop := H.out.pop _ _ _ hS1; clear hS1)
    | (go_at_fn gq; refine hpop.mono ?_; rintro e w4 ⟨rfl, hS1⟩; have HS4 := Lib.hid hS1; clear hS1))
  go_ret
  exact PopE.of HP.out HA2.out.symm HHA.out HS4.out

set_option maxHeartbeats 1000000 in
set_option maxRecDepth 100000 in
theorem hremove_ok (h : HI S lt T rv te enc ok top gn gl gs gp gq) (l : List α) (i n : Nat) (w : World) (hS : S l w) (hn : l.length = n + 1) (hi : i < n) (hh : Heap lt (nth l) l.length) :
    Calls Try.prog 38 #[.iface T rv, .int .i64 i] w (PopE S lt te enc l (nth l i)) := by
  have mn := h.mn; have ms := h.ms; have mq := h.mq; have en := h.en; have es := h.es; have eq := h.eq
  have hb := h.bound _ _ hS
  have hl := h.len _ _ hS
  have hl' : (l.length : Int) = (n : Int) + 1 := by omega
  rw [hl'] at hl
  rw [hn] at hb hh
  obtain ⟨a, ha1, ha2, ha3⟩ := swp_last (i := i) hn
  have hsw := fun W hW => h.swap l W hW i n (by omega) (by omega)
  rw [ha1] at hsw
  have H := Lib.hid h
  have hd : HD lt (nth a) n i i := (hh.down (m := n) (i := i) (by omega) h.swo (nth l n)).ext0 ha3
  have HP := Lib.hid (p := (nth l i :: a).Perm l) (by
    have h1 := swp_perm (l := l) (i := i) (j := n) (by omega) (by omega)
    rw [ha1] at h1
    exact List.perm_append_comm.trans h1)
  have HSW := Lib.hid hsw
  have HDD := Lib.hid hd
  have HA2 := Lib.hid ha2
  clear h hh hsw hd ha1 ha2 ha3 hn hl' hS
  have hsm := H.out.small
  have hb2 : (n : Int) + 1 ≤ 1000000000000 := by omega
  generalize nth l i = x at *
  have e1 : ((n : Int) == (i : Int)) = false := by simp; omega
  have e2 : ((n : Int) != (i : Int)) = true := by simp; omega
  go_enter Try.func38, Try.ntmps38
  go_wp2_with (first
    | (go_at_fn gn; refine hl.mono ?_; rintro e w1 ⟨rfl, hS1⟩; have HS1 := Lib.hid hS1; clear hS1)
    | (go_at_fn gs; refine (HSW.out _ HS1.out).mono ?_; rintro e w2 ⟨rfl, hS1⟩; have HS2 := Lib.hid hS1; clear hS1)
    | (go_at_call 49; refine (Calls.mono (by have h1 := down_ok H.out a [x] i _ HS2.out (by have := HA2.out; omega) (by rw [HA2.out]; exact HDD.out); rw [HA2.out] at h1; exact h1) fun _ _ h => (?_ : _)); refine (fun (_ : DnE2 S lt a [x] i _ _) => ?_) h.two; rcases ‹DnE2 S lt a [x] i _ _› with ⟨rfl, a', hp, hq, hS3⟩ | ⟨rfl, a', hp, hq, hS3⟩ <;> (have HQ := Lib.hid hp; have HR := Lib.hid hq; have HS3 := Lib.hid hS3; clear hp hq hS3 h))
    | (go_at_call 46; (refine (up_ok H.out a' [x] i _ HS3.out (by have h1 := HQ.out.length_eq; have := HA2.out; omega) (by have h1 := HQ.out.length_eq; have h2 := HR.out; have h3 := HA2.out; rw [h3] at h2; rw [h1, h3]; exact h2)).mono ?_); rintro e w5 ⟨rfl, a2, hp, hq, hr⟩; have HU2 := Lib.hid (And.intro hp (And.intro hq hr)); have hpop := H.out.pop _ _ _ hr; clear hp hq hr)
    | (go_at_fn gq; refine hpop.mono ?_; rintro e w4 ⟨rfl, hS1⟩; have HS4 := Lib.hid hS1; clear hS1)
    | (go_at_fn gq; refine (H.out.pop _ _ _ HS3.out).mono ?_; rintro e w4 ⟨rfl, hS1⟩; have HS4 := Lib.hid hS1; clear hS1))
  all_goals go_ret
  · exact PopE.of ((HQ.out.cons x).trans HP.out) HQ.out.length_eq.symm HR.out HS4.out
  · obtain ⟨h1, h2, _⟩ := HU2.out
    exact PopE.of (((h1.trans HQ.out).cons x).trans HP.out) h1.length_eq.symm h2 HS4.out
end
end Go.Proofs.Ytmbdglolpagjdaa
