/- A heap gone over in order, plainly: the order of its entries; what has been given, and what may be next. -/
import Derived.Test.YtmbdglolpagjdaaQuG
namespace Go.Proofs.Ytmbdglolpagjdaa
open Go.RowKit Go.Shelf

def Srt (l : List Ent) : Prop := l.Pairwise fun a b => eLt b a = false
/-- Of two entries that are not the same one comes ahead. -/
def Tri (l : List Ent) : Prop := ∀ x, x ∈ l → ∀ y, y ∈ l → eLt x y = false → eLt y x = false → x = y
def srt (l : List Ent) : List Ent := l.mergeSort fun a b => !eLt b a
theorem srt_perm (l : List Ent) : (srt l).Perm l := List.mergeSort_perm _ _
theorem srt_srt (l : List Ent) : Srt (srt l) := by
  have := List.pairwise_mergeSort (le := fun a b => !eLt b a) (fun a b c h1 h2 => by
    simp at *; exact eLt_swo.ntr _ _ _ h2 h1) (fun a b => by
    simp
    cases h : eLt b a
    · simp
    · right; exact eLt_swo.asym _ _ h) l
  exact this.imp fun h => by simpa using h
theorem Srt.eq {l a b : List Ent} (ht : Tri l) (ha : a.Perm l) (hb : b.Perm l) (sa : Srt a) (sb : Srt b) : a = b :=
  List.Perm.eq_of_pairwise (le := fun a b => eLt b a = false) (fun x y hx hy h1 h2 => ht x (ha.mem_iff.1 hx) y (hb.mem_iff.1 hy) h2 h1) sa sb (ha.trans hb.symm)
theorem srt_congr {l l' : List Ent} (ht : Tri l) (h : l'.Perm l) : srt l' = srt l := Srt.eq ht ((srt_perm l').trans h) (srt_perm l) (srt_srt _) (srt_srt _)
theorem Tri.perm {l l' : List Ent} (ht : Tri l) (h : l'.Perm l) : Tri l' := fun x hx y hy => ht x (h.mem_iff.1 hx) y (h.mem_iff.1 hy)
theorem Heap.root {α : Type} {lt : α → α → Bool} (S : Swo lt) {f : Nat → α} {n : Nat} (h : Heap lt f n) : ∀ k, k < n → lt (f k) (f 0) = false := by
  intro k
  induction k using Nat.strongRecOn with
  | _ k ih =>
    intro hk
    rcases Nat.eq_zero_or_pos k with rfl | h0
    · exact S.irr _
    · exact S.ntr _ _ _ (h k h0 hk) (ih ((k - 1) / 2) (by omega) (by omega))

/-- What has been given of a heap (out), what may be next (s), what is looked at yet (pend). -/
structure Fr (l : List Ent) (out s pend : List Nat) : Prop where
  nd : (out ++ s).Nodup
  lt : ∀ i, i ∈ out ++ s → i < l.length
  par : ∀ i, i ∈ out ++ s → 0 < i → (i - 1) / 2 ∈ out
  up : ∀ j, j < l.length → j ∉ out ++ s → j ∈ pend ∨ (0 < j ∧ (j - 1) / 2 ∉ out)
  so : (out.map (nth l)).Pairwise fun a b => eLt b a = false
  le : ∀ x, x ∈ out → ∀ y, y < l.length → y ∉ out → eLt (nth l y) (nth l x) = false
section
variable {l : List Ent} {out s s' pend : List Nat}
theorem Fr.start (l : List Ent) : Fr l [] [] [0] :=
  ⟨by simp, by simp, by simp, fun j _ _ => by
    rcases Nat.eq_zero_or_pos j with rfl | h
    · left; simp
    · right; exact ⟨h, by simp⟩, by simp, by simp⟩
theorem Fr.perm (h : Fr l out s pend) (hp : s'.Perm s) : Fr l out s' pend := by
  have h1 : (out ++ s').Perm (out ++ s) := hp.append_left out
  exact ⟨h1.nodup_iff.2 h.nd, fun i hi => h.lt i (h1.mem_iff.1 hi), fun i hi => h.par i (h1.mem_iff.1 hi), fun j hj hn => h.up j hj fun hm => hn (h1.mem_iff.2 hm), h.so, h.le⟩
theorem Fr.skip {j : Nat} (h : Fr l out s (j :: pend)) (hj : l.length ≤ j) : Fr l out s pend :=
  ⟨h.nd, h.lt, h.par, fun k hk hn => by
    rcases h.up k hk hn with h1 | h1
    · rcases List.mem_cons.1 h1 with rfl | h1
      · omega
      · exact .inl h1
    · exact .inr h1, h.so, h.le⟩
theorem Fr.reach {j : Nat} (h : Fr l out s (j :: pend)) (hj : j < l.length) (hn : j ∉ out ++ s) (hp : 0 < j → (j - 1) / 2 ∈ out) (hs : s'.Perm (s ++ [j])) : Fr l out s' pend := by
  refine Fr.perm ?_ hs
  have e : out ++ (s ++ [j]) = (out ++ s) ++ [j] := by simp
  have hm : ∀ i, i ∈ out ++ (s ++ [j]) ↔ i ∈ out ++ s ∨ i = j := fun i => by rw [e]; simp [or_assoc]
  refine ⟨?_, fun i hi => ?_, fun i hi h0 => ?_, fun k hk hkn => ?_, h.so, h.le⟩
  · rw [e, List.nodup_append]
    exact ⟨h.nd, by simp, fun a ha b hb => by simp at hb; subst hb; intro e; subst e; exact hn ha⟩
  · rcases (hm i).1 hi with h1 | rfl
    · exact h.lt i h1
    · exact hj
  · rcases (hm i).1 hi with h1 | rfl
    · exact h.par i h1 h0
    · exact hp h0
  · rw [hm] at hkn
    rcases h.up k hk (fun e => hkn (.inl e)) with h1 | h1
    · rcases List.mem_cons.1 h1 with h2 | h2
      · exact absurd (.inr h2) hkn
      · exact .inl h2
    · exact .inr h1
/-- What is not given yet has over it, or is, what may be next. -/
theorem Fr.anc (h : Fr l out s []) (hh : Heap eLt (nth l) l.length) : ∀ y, y < l.length → y ∉ out → ∃ a, a ∈ s ∧ eLt (nth l y) (nth l a) = false := by
  intro y
  induction y using Nat.strongRecOn with
  | _ y ih =>
    intro hy hn
    by_cases hs : y ∈ s
    · exact ⟨y, hs, eLt_swo.irr _⟩
    · rcases h.up y hy (by simp [hn, hs]) with h1 | ⟨h0, h1⟩
      · simp at h1
      · obtain ⟨a, ha, h2⟩ := ih ((y - 1) / 2) (by omega) (by omega) h1
        exact ⟨a, ha, eLt_swo.ntr _ _ _ (hh y h0 hy) h2⟩
theorem Fr.pop {i : Nat} (h : Fr l out s []) (hh : Heap eLt (nth l) l.length) (hp : (i :: s').Perm s) (hm : ∀ a, a ∈ s → eLt (nth l a) (nth l i) = false) :
    Fr l (out ++ [i]) s' [2 * i + 1, 2 * i + 2] ∧ (2 * i + 1 ∉ (out ++ [i]) ++ s') ∧ (2 * i + 2 ∉ (out ++ [i]) ++ s') := by
  have hi : i ∈ s := hp.mem_iff.1 (by simp)
  have hP : ((out ++ [i]) ++ s').Perm (out ++ s) := by
    rw [List.append_assoc]; exact (List.Perm.append_left out (by simpa using hp))
  have hnd := hP.nodup_iff.2 h.nd
  have hil := h.lt i (by simp [hi])
  have hio : i ∉ out := fun e => by
    have := h.nd; rw [List.nodup_append] at this; exact this.2.2 i e i hi rfl
  have hall : ∀ y, y < l.length → y ∉ out → eLt (nth l y) (nth l i) = false := fun y hy hn => by
    obtain ⟨a, ha, h1⟩ := h.anc hh y hy hn
    exact eLt_swo.ntr _ _ _ h1 (hm a ha)
  have hc : ∀ c, (c - 1) / 2 = i → 0 < c → c ∉ (out ++ [i]) ++ s' := fun c e h0 hcm => by
    have := h.par c (hP.mem_iff.1 hcm) h0
    rw [e] at this; exact hio this
  refine ⟨⟨hnd, fun k hk => h.lt k (hP.mem_iff.1 hk), fun k hk h0 => by simp [h.par k (hP.mem_iff.1 hk) h0], fun j hj hn => ?_, ?_, fun x hx y hy hn => ?_⟩, hc _ (by omega) (by omega), hc _ (by omega) (by omega)⟩
  · rcases h.up j hj (fun e => hn (hP.mem_iff.2 e)) with h1 | ⟨h0, h1⟩
    · simp at h1
    · by_cases e : (j - 1) / 2 = i
      · left
        have : j = 2 * i + 1 ∨ j = 2 * i + 2 := (par_two h0).1 e
        simpa using this
      · right; exact ⟨h0, by simp [h1, e]⟩
  · rw [List.map_append, List.pairwise_append]
    exact ⟨h.so, by simp, fun a ha b hb => by
      obtain ⟨x, hx, rfl⟩ := List.mem_map.1 ha
      simp at hb; subst hb
      exact h.le x hx i hil hio⟩
  · simp at hx hn
    rcases hx with hx | rfl
    · exact h.le x hx y hy hn.1
    · exact hall y hy hn.1
theorem map_range (l : List Ent) : (List.range l.length).map (nth l) = l := by
  apply List.ext_getElem?
  intro k
  rw [List.getElem?_map]
  rcases Nat.lt_or_ge k l.length with h | h
  · rw [List.getElem?_range h, nth_some h]; rfl
  · rw [List.getElem?_eq_none (by simpa using h), List.getElem?_eq_none h]; rfl
/-- What was given is the beginning of the list in order. -/
theorem Fr.pre (h : Fr l out s pend) (ht : Tri l) : out.map (nth l) <+: srt l := by
  have hnd : out.Nodup := by have := h.nd; rw [List.nodup_append] at this; exact this.1
  obtain ⟨rest, hrest⟩ : ∃ r, r = (List.range l.length).filter fun j => !decide (j ∈ out) := ⟨_, rfl⟩
  have hP : (out ++ rest).Perm (List.range l.length) := by
    rw [List.perm_ext_iff_of_nodup]
    · intro a
      simp only [hrest, List.mem_append, List.mem_filter, List.mem_range]
      constructor
      · rintro (h1 | h1)
        · exact h.lt a (by simp [h1])
        · exact h1.1
      · intro h1
        by_cases e : a ∈ out
        · exact .inl e
        · exact .inr ⟨h1, by simp [e]⟩
    · rw [List.nodup_append]
      refine ⟨hnd, by rw [hrest]; exact List.nodup_range.filter _, fun a ha b hb e => ?_⟩
      subst e; rw [hrest] at hb; simp [ha] at hb
    · exact List.nodup_range
  have hM : (out.map (nth l) ++ rest.map (nth l)).Perm l := by
    have := hP.map (nth l)
    rwa [List.map_append, map_range] at this
  have hE : out.map (nth l) ++ srt (rest.map (nth l)) = srt l := by
    refine Srt.eq ht (((srt_perm _).append_left _).trans hM) (srt_perm l) ?_ (srt_srt l)
    show List.Pairwise _ _
    rw [List.pairwise_append]
    refine ⟨h.so, srt_srt _, fun a ha b hb => ?_⟩
    obtain ⟨x, hx, rfl⟩ := List.mem_map.1 ha
    obtain ⟨y, hy, rfl⟩ := List.mem_map.1 ((srt_perm _).mem_iff.1 hb)
    rw [hrest] at hy
    simp at hy
    exact h.le x hx y hy.1 hy.2
  exact ⟨_, hE⟩
theorem Fr.all (h : Fr l out [] []) (ht : Tri l) (hh : Heap eLt (nth l) l.length) : out.map (nth l) = srt l := by
  have h1 := h.pre ht
  refine h1.eq_of_length ?_
  rw [(srt_perm l).length_eq, List.length_map]
  have hP : out.Perm (List.range l.length) := by
    rw [List.perm_ext_iff_of_nodup (by have := h.nd; simpa using this) List.nodup_range]
    intro a
    rw [List.mem_range]
    refine ⟨fun ha => h.lt a (by simp [ha]), fun ha => ?_⟩
    by_cases e : a ∈ out
    · exact e
    · obtain ⟨b, hb, _⟩ := h.anc hh a ha e
      simp at hb
  rw [hP.length_eq, List.length_range]
theorem Fr.len (h : Fr l out s pend) : out.length + s.length ≤ l.length := by
  obtain ⟨rest, hrest⟩ : ∃ r, r = (List.range l.length).filter fun j => !decide (j ∈ out ++ s) := ⟨_, rfl⟩
  have hP : ((out ++ s) ++ rest).Perm (List.range l.length) := by
    rw [List.perm_ext_iff_of_nodup]
    · intro a
      rw [List.mem_append, hrest, List.mem_filter, List.mem_range]
      constructor
      · rintro (h1 | h1)
        · exact h.lt a h1
        · exact h1.1
      · intro h1
        by_cases e : a ∈ out ++ s
        · exact .inl e
        · exact .inr ⟨h1, by simpa using e⟩
    · rw [List.nodup_append]
      refine ⟨h.nd, by rw [hrest]; exact List.nodup_range.filter _, fun a ha b hb e => ?_⟩
      subst e; rw [hrest, List.mem_filter] at hb; simp [ha] at hb
    · exact List.nodup_range
  have := hP.length_eq
  simp at this
  omega
end
end Go.Proofs.Ytmbdglolpagjdaa
