/- The document's heap: Get, Set. -/
import Derived.Test.YtjgggfickbbieaaHrC
namespace Go.Proofs.Ytjgggfickbbieaa
open Go.RowKit Go.Shelf
attribute [local go_sem] Oper.semAt_some
theorem lenO_in {L : List Ob} {id i : Int} (h0 : 0 ≤ i) (h : i < lenO L id) : ∃ (j k : Nat), hasO L id = true ∧ j < L.length ∧ id = (j : Int) + 1 ∧ atO L id = nt L j ∧ i = (k : Int) ∧ k < (nt L j).vals.length := by
  unfold lenO at h
  split at h
  · next hb =>
    obtain ⟨j, hj, e, ha⟩ := hasO_true hb
    rw [ha] at h
    exact ⟨j, i.toNat, hb, hj, e, ha, by omega, by omega⟩
  · omega
theorem lenO_rng {own : Nat → Bool} {bw : Nat} {L : List Ob} {W : World} (h : RH own bw L W) (id : Int) : 0 ≤ lenO L id ∧ lenO L id ≤ 256 := by
  unfold lenO
  split
  · next hb =>
    obtain ⟨j, hj, e, ha⟩ := hasO_true hb
    rw [ha]
    have := h.wid j hj
    omega
  · omega
/-- A value of a row is stored. -/
theorem ownI_set {W : World} {B : Nat} {v : Value} {l : List Int} (h : W.ownsRow B 2 1 v l.length (rowI l)) {i : Nat} (hi : i < l.length) (z : Int) :
    ∃ g c, v = .slice (some ⟨g, 0, none⟩) l.length c ∧ (W.setCell ⟨g, i, none⟩ (.int .i64 z)).ownsRow B 2 1 v l.length (rowI (l.set i z)) ∧ (∀ n, W.frozen? ⟨g, n, none⟩ = false) ∧ g < W.heap.size ∧ (∃ o, W.heap[g]? = some o ∧ tag o = some 2) ∧ Kept (fun b _ => b != g) W (W.setCell ⟨g, i, none⟩ (.int .i64 z)) := by
  rcases h.2 with ⟨_, h0⟩ | ⟨g, cap, cur, e, hb, h1, h2, h3, h4, h5⟩
  · omega
  · refine ⟨g, cap, e, ⟨by simp [rowI], .inr ⟨g, cap, _, e, hb, heap_setCell_same W g i _ _ _ h1, h2, h3, by simpa using h4, ?_⟩⟩, fun n => frozen_of_row W g n _ _ h1, (Array.getElem?_eq_some_iff.1 h1).1, ⟨_, h1, rfl⟩, Kept.setCell _ fun o ho => by simp⟩
    simp only [Array.toList_setIfInBounds, List.take_set, h5, rowI, List.map_set]
def getO (L : List Ob) (id i : Int) : Int × Int := if 0 ≤ i ∧ i < lenO L id then ((atO L id).vals.getD i.toNat 0, 0) else (0, 13)
section
variable {own : Nat → Bool} {bw : Nat} {L : List Ob} {W : World}
set_option maxHeartbeats 1000000 in
set_option maxRecDepth 100000 in
theorem refGet_ok (h : RH own bw L W) (id i : Int) : Calls Try.prog 27 #[.pointer (some ⟨bw, 0, none⟩), .int .i64 id, .int .i64 i] W fun e W' => e = .returned (.tuple #[.int .i64 (getO L id i).1, .int .i64 (getO L id i).2]) ∧ W' = W := by
  have HH := Lib.hid (refLen_ok h id)
  have hr := lenO_rng h id
  unfold getO
  by_cases h0 : 0 ≤ i
  · by_cases h1 : i < lenO L id
    · rw [if_pos ⟨h0, h1⟩]
      obtain ⟨j, k, hb, hj, rfl, ha, rfl, hk⟩ := lenO_in h0 h1
      rw [ha]
      obtain ⟨v, e1, e2, e3⟩ := h.ex
      obtain ⟨g, c, rfl, c0, c1, c2, c3, c4, c5⟩ := own6_cells e2 hj
      obtain ⟨g2, cc, hv, d0⟩ := ownI_cell (h.vs j hj) hk
      rw [hv] at c2
      have b0 : W.cell? ⟨bw, 0, none⟩ = some (.slice (some ⟨g, 0, none⟩) L.length c) := by simp [World.cell?, e1]
      have hl := h.len
      have hw := h.wid j hj
      have hil : (j : Int) < (L.length : Int) := by omega
      have hkl : (k : Int) < ((nt L j).vals.length : Int) := by omega
      have h1' : ¬ lenO L ((j : Int) + 1) ≤ (k : Int) := by omega
      generalize lenO L ((j : Int) + 1) = z at *
      clear h e1 e2 hb ha hv c0 c1 c3 c4 c5 h1
      go_enter Try.func27, Try.ntmps27
      go_wp2_with (go_at_call 30; refine HH.out.mono ?_; rintro e w2 ⟨rfl, rfl⟩)
      refine bodyPost_ret (v := .tuple #[.int .i64 ((nt L j).vals.getD k 0), .int .i64 0]) (by simp [results, Try.results27, go_sem, hk]) rfl ?_
      exact ⟨rfl, rfl⟩
    · rw [if_neg (fun h => h1 h.2)]
      have h1' : lenO L id ≤ i := by omega
      generalize lenO L id = z at *
      clear h h1
      go_enter Try.func27, Try.ntmps27
      go_wp2_with (go_at_call 30; refine HH.out.mono ?_; rintro e w2 ⟨rfl, rfl⟩)
      refine bodyPost_ret (v := .tuple #[.int .i64 0, .int .i64 13]) (by simp [results, Try.results27, go_sem]) rfl ?_
      exact ⟨rfl, rfl⟩
  · rw [if_neg (fun h => h0 h.1)]
    clear h HH
    go_enter Try.func27, Try.ntmps27
    go_wp2_with fail
    refine bodyPost_ret (v := .tuple #[.int .i64 0, .int .i64 13]) (by simp [results, Try.results27, go_sem]) rfl ?_
    exact ⟨rfl, rfl⟩
/-- A heap in which one value was set. -/
def setO (L : List Ob) (j k : Nat) (z : Int) : List Ob := L.set j { nt L j with vals := (nt L j).vals.set k z }
theorem setO_nt {L : List Ob} {j k : Nat} {z : Int} (hj : j < L.length) (i : Nat) : nt (setO L j k z) i = if i = j then { nt L j with vals := (nt L j).vals.set k z } else nt L i := by
  unfold setO nt
  by_cases e : i = j
  · subst e; simp [List.getD, hj]
  · rw [if_neg e]
    have e2 : ¬ j = i := fun h => e h.symm
    simp [List.getD, e2]
theorem row6_set {L : List Ob} {j : Nat} {x : Ob} (hx : x.c6 = (nt L j).c6) (hj : j < L.length) : row6 (L.set j x) = row6 L := by
  have e : (L.set j x).map Ob.c6 = L.map Ob.c6 := by
    rw [List.map_set, hx, nt_lt hj]
    apply List.ext_getElem?
    intro i
    rw [List.getElem?_set]
    split
    · next h => subst h; simp [hj]
    · rfl
  simp only [row6, List.flatMap_def, e]
theorem RH.set (h : RH own bw L W) {j k : Nat} (hj : j < L.length) (hk : k < (nt L j).vals.length) (z : Int) :
    ∃ g c, (nt L j).v = .slice (some ⟨g, 0, none⟩) (nt L j).vals.length c ∧ RH own bw (setO L j k z) (W.setCell ⟨g, k, none⟩ (.int .i64 z)) ∧ (∀ n, W.frozen? ⟨g, n, none⟩ = false) ∧ g < W.heap.size ∧ Kept (pQ own) W (W.setCell ⟨g, k, none⟩ (.int .i64 z)) := by
  obtain ⟨g, c, hv, ho, hf, hg, ⟨o, hto, ht⟩, hkp⟩ := ownI_set (h.vs j hj) hk z
  have hgo := h.ovs j hj g (by rw [hv]; rfl)
  refine ⟨g, c, hv, ?_, hf, hg, hkp.mono fun b t _ hb => by simp [pQ] at hb; simp; intro e; subst e; rw [hgo] at hb; cases hb⟩
  have hlen : (setO L j k z).length = L.length := by simp [setO]
  obtain ⟨v, e1, e2, e3⟩ := h.ex
  have hne : bw ≠ g := fun e => by subst e; rw [hto] at e1; cases e1; simp [tag] at ht
  have key : ∀ i, (nt (setO L j k z) i).v = (nt L i).v := fun i => (by
    rw [setO_nt hj]
    split
    · next e => subst e; rfl
    · rfl)
  refine ⟨⟨v, hkp.same _ _ e1 (by simpa using hne), ?_, e3⟩, fun i hi => ?_, fun i i2 hi hi2 b hb hb2 => ?_, fun i hi b hb => ?_, h.ob, fun b hb => Nat.lt_of_lt_of_le (h.lt b hb) hkp.size, by rw [hlen]; exact h.len, fun i hi => ?_⟩
  · rw [hlen, show row6 (setO L j k z) = row6 L from row6_set rfl hj]
    refine hkp.row e2 fun b hb => ?_
    have : b ≠ g := fun e => by
      subst e
      obtain ⟨o', h5, h6⟩ := own_is e2 b hb
      rw [hto] at h5; cases h5
      rw [ht] at h6; simp at h6
    simpa using this
  · rw [hlen] at hi
    rw [setO_nt hj]
    by_cases e : i = j
    · subst e
      rw [if_pos rfl]
      have := ho
      simpa using this
    · rw [if_neg e]
      refine hkp.row (h.vs i hi) fun b hb => ?_
      have : b ≠ g := fun e2 => by
        subst e2
        exact e (h.dis i j hi hj b hb (by rw [hv]; rfl))
      simpa using this
  · rw [hlen] at hi hi2
    rw [key] at hb hb2
    exact h.dis i i2 hi hi2 b hb hb2
  · rw [hlen] at hi
    rw [key] at hb
    exact h.ovs i hi b hb
  · rw [hlen] at hi
    rw [setO_nt hj]
    split
    · next e => subst e; simpa using h.wid i hi
    · exact h.wid i hi
def setE (L : List Ob) (id i : Int) : Int := if 0 ≤ i ∧ i < lenO L id ∧ (atO L id).kind ≠ 4 then 0 else 13
def setL (L : List Ob) (id i z : Int) : List Ob := if setE L id i = 0 then setO L (id - 1).toNat i.toNat z else L
set_option maxHeartbeats 1000000 in
set_option maxRecDepth 100000 in
theorem refSet_ok (h : RH own bw L W) (id i z : Int) : Calls Try.prog 28 #[.pointer (some ⟨bw, 0, none⟩), .int .i64 id, .int .i64 i, .int .i64 z] W fun e W' => e = .returned (.int .i64 (setE L id i)) ∧ RH own bw (setL L id i z) W' ∧ Kept (pQ own) W W' := by
  have HH := Lib.hid (refLen_ok h id)
  have HI := Lib.hid (refIs_ok h id 4)
  have HR := Lib.hid h
  have hr := lenO_rng h id
  by_cases h0 : 0 ≤ i
  · by_cases h1 : i < lenO L id
    · obtain ⟨j, k, hb, hj, rfl, ha, rfl, hk⟩ := lenO_in h0 h1
      rw [ha, hb] at HI
      by_cases h4 : (nt L j).kind = 4
      · have e0 : setE L ((j : Int) + 1) (k : Int) = 13 := by unfold setE; rw [if_neg (fun h => h.2.2 (by rw [ha]; exact h4))]
        unfold setL
        rw [e0]
        rw [decide_eq_true h4] at HI
        have h1' : ¬ lenO L ((j : Int) + 1) ≤ (k : Int) := by omega
        generalize lenO L ((j : Int) + 1) = zz at *
        clear h hb ha h1
        go_enter Try.func28, Try.ntmps28
        go_wp2_with (first
          | (go_at_call 30; refine HH.out.mono ?_; rintro e w2 ⟨rfl, rfl⟩)
          | (go_at_call 29; refine HI.out.mono ?_; rintro e w2 ⟨rfl, rfl⟩))
        go_ret
        exact ⟨rfl, HR.out, Kept.refl _ _⟩
      · have e0 : setE L ((j : Int) + 1) (k : Int) = 0 := by unfold setE; rw [if_pos ⟨h0, h1, by rw [ha]; exact h4⟩]
        unfold setL
        rw [e0, if_pos rfl, show ((j : Int) + 1 - 1).toNat = j by omega, show (k : Int).toNat = k by omega]
        rw [decide_eq_false h4] at HI
        obtain ⟨v, e1, e2, e3⟩ := h.ex
        obtain ⟨g, c, rfl, c0, c1, c2, c3, c4, c5⟩ := own6_cells e2 hj
        obtain ⟨g2, cc, hv, hset, hfz, hg2, hkp⟩ := h.set hj hk z
        obtain ⟨g3, cc3, hv3, d0⟩ := ownI_cell (h.vs j hj) hk
        rw [hv] at hv3
        injection hv3 with q1 q2 q3
        injection q1 with q1; injection q1 with q1
        subst q1
        rw [hv] at c2
        have b0 : W.cell? ⟨bw, 0, none⟩ = some (.slice (some ⟨g, 0, none⟩) L.length c) := by simp [World.cell?, e1]
        have hl := h.len
        have hw := h.wid j hj
        have hil : (j : Int) < (L.length : Int) := by omega
        have hkl : (k : Int) < ((nt L j).vals.length : Int) := by omega
        have h1' : ¬ lenO L ((j : Int) + 1) ≤ (k : Int) := by omega
        have HS := Lib.hid hset
        have HK := Lib.hid hkp
        have HV := Lib.hid hv
        generalize lenO L ((j : Int) + 1) = zz at *
        clear h e1 e2 hb ha hv c0 c1 c3 c4 c5 h1 hset hkp
        go_enter Try.func28, Try.ntmps28
        go_wp2_with (first
          | (go_at_call 30; refine HH.out.mono ?_; rintro e w2 ⟨rfl, rfl⟩)
          | (go_at_call 29; refine HI.out.mono ?_; rintro e w2 ⟨rfl, rfl⟩))
        go_ret
        exact ⟨rfl, HS.out, HK.out⟩
    · have e0 : setE L id i = 13 := by unfold setE; rw [if_neg (fun h => h1 h.2.1)]
      unfold setL
      rw [e0]
      have h1' : lenO L id ≤ i := by omega
      generalize lenO L id = zz at *
      clear h h1
      go_enter Try.func28, Try.ntmps28
      go_wp2_with (go_at_call 30; refine HH.out.mono ?_; rintro e w2 ⟨rfl, rfl⟩)
      go_ret
      exact ⟨rfl, HR.out, Kept.refl _ _⟩
  · have e0 : setE L id i = 13 := by unfold setE; rw [if_neg (fun h => h0 h.1)]
    unfold setL
    rw [e0]
    clear h
    go_enter Try.func28, Try.ntmps28
    go_wp2_with fail
    go_ret
    exact ⟨rfl, HR.out, Kept.refl _ _⟩
end
end Go.Proofs.Ytjgggfickbbieaa
