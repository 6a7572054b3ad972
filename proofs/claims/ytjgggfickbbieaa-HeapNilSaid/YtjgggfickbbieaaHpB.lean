/- The program's heap: Is, Len, Get, Set, Count. -/
import Derived.Test.YtjgggfickbbieaaHpA
namespace Go.Proofs.Ytjgggfickbbieaa
open Go.RowKit Go.Shelf
attribute [local go_sem] Oper.semAt_some
theorem cntO_eq (L : List Ob) (t : Int) : cntO L t = ((L.map Ob.by').filter (· == t)).length := by
  rw [List.filter_map, List.length_map]; rfl
theorem cntO_map {L M : List Ob} (h : L.map Ob.by' = M.map Ob.by') (t : Int) : cntO L t = cntO M t := by rw [cntO_eq, cntO_eq, h]
section
variable {own : Nat → Bool} {bh : Nat} {ps : List Nat} {L : List Ob} {W : World}
set_option maxHeartbeats 1000000 in
set_option maxRecDepth 100000 in
theorem Is_ok (h : PH own bh ps L W) (id k : Int) : Calls Try.prog 22 #[.pointer (some ⟨bh, 0, none⟩), .int .i64 id, .int .i64 k] W fun e W' => e = .returned (.bool (hasO L id && decide ((atO L id).kind = k))) ∧ W' = W := by
  cases hb : hasO L id with
  | false =>
    have HF := Lib.hid (find_no h hb)
    rw [Bool.false_and]
    clear h hb
    go_enter Try.func22, Try.ntmps22
    go_wp2_with (go_at_call 40; refine HF.out.mono ?_; rintro e w2 ⟨rfl, rfl⟩)
    go_ret
    exact ⟨rfl, rfl⟩
  | true =>
    rw [Bool.true_and]
    obtain ⟨j, hj, rfl, ha⟩ := hasO_true hb
    rw [ha]
    have HF := Lib.hid (find_yes h hj)
    obtain ⟨⟨x0, _, _, _⟩, _, xl⟩ := obo_cells (h.bo j hj)
    clear h hb ha
    by_cases hk : (nt L j).kind = k
    · rw [decide_eq_true hk]
      rw [hk] at x0
      clear hk
      go_enter Try.func22, Try.ntmps22
      go_wp2_with (go_at_call 40; refine HF.out.mono ?_; rintro e w2 ⟨rfl, rfl⟩)
      go_ret
      exact ⟨rfl, rfl⟩
    · rw [decide_eq_false hk]
      have hk' : ((nt L j).kind == k) = false := by simpa using hk
      clear hk
      go_enter Try.func22, Try.ntmps22
      go_wp2_with (go_at_call 40; refine HF.out.mono ?_; rintro e w2 ⟨rfl, rfl⟩)
      go_ret
      exact ⟨rfl, rfl⟩
set_option maxHeartbeats 1000000 in
set_option maxRecDepth 100000 in
theorem Len_ok (h : PH own bh ps L W) (id : Int) : Calls Try.prog 23 #[.pointer (some ⟨bh, 0, none⟩), .int .i64 id] W fun e W' => e = .returned (.int .i64 (lenO L id)) ∧ W' = W := by
  unfold lenO
  cases hb : hasO L id with
  | false =>
    have HF := Lib.hid (find_no h hb)
    rw [if_neg (by simp)]
    clear h hb
    go_enter Try.func23, Try.ntmps23
    go_wp2_with (go_at_call 40; refine HF.out.mono ?_; rintro e w2 ⟨rfl, rfl⟩)
    go_ret
    exact ⟨rfl, rfl⟩
  | true =>
    rw [if_pos rfl]
    obtain ⟨j, hj, rfl, ha⟩ := hasO_true hb
    rw [ha]
    have HF := Lib.hid (find_yes h hj)
    obtain ⟨⟨_, _, x2, _⟩, _, xl⟩ := obo_cells (h.bo j hj)
    obtain ⟨A, c, hv⟩ := own_slice3 (h.vs j hj)
    rw [hv] at x2
    clear h hb ha hv
    go_enter Try.func23, Try.ntmps23
    go_wp2_with (go_at_call 40; refine HF.out.mono ?_; rintro e w2 ⟨rfl, rfl⟩)
    go_ret
    exact ⟨rfl, rfl⟩
set_option maxHeartbeats 1000000 in
set_option maxRecDepth 100000 in
theorem Count_ok (h : PH own bh ps L W) : Calls Try.prog 18 #[.pointer (some ⟨bh, 0, none⟩)] W fun e W' => e = .returned (.int .i64 L.length) ∧ W' = W := by
  obtain ⟨A, c, mv, h1, c0, _⟩ := h.list
  have hbh := h.bl
  clear h h1
  go_enter Try.func18, Try.ntmps18
  go_wp2
  go_ret
  exact ⟨rfl, rfl⟩
set_option maxHeartbeats 1000000 in
set_option maxRecDepth 100000 in
theorem Get_ok (h : PH own bh ps L W) (id i : Int) : Calls Try.prog 20 #[.pointer (some ⟨bh, 0, none⟩), .int .i64 id, .int .i64 i] W fun e W' => e = .returned (.tuple #[.int .i64 (getO L id i).1, .int .i64 (getO L id i).2]) ∧ W' = W := by
  unfold getO
  by_cases hc : 0 ≤ i ∧ i < lenO L id
  · rw [if_pos hc]
    obtain ⟨j, k, hb, hj, rfl, ha, rfl, hk⟩ := lenO_in hc.1 hc.2
    rw [ha]
    obtain ⟨g, c, hv, hcall⟩ := value_yes h hj hk
    obtain ⟨g2, cc, hv2, d0⟩ := ownI_cell (h.vs j hj) hk
    rw [hv] at hv2
    injection hv2 with q1 _ _
    injection q1 with q1; injection q1 with q1
    subst q1
    have hgl : g < W.heap.size := World.block_lt_of_cell? W _ d0
    have HV := Lib.hid hcall
    clear h hc hb ha hv hcall
    show Calls _ _ _ _ fun e W' => e = .returned (.tuple #[.int .i64 ((nt L j).vals.getD ((k : Int)).toNat 0), .int .i64 0]) ∧ W' = W
    rw [Int.toNat_natCast]
    generalize (nt L j).vals.getD k 0 = z at *
    go_enter Try.func20, Try.ntmps20
    go_wp2_with (go_at_call 42; refine HV.out.mono ?_; rintro e w2 ⟨rfl, rfl⟩)
    go_ret2
    exact ⟨rfl, rfl⟩
  · rw [if_neg hc]
    have HV := Lib.hid (value_no h hc)
    clear h hc
    go_enter Try.func20, Try.ntmps20
    go_wp2_with (go_at_call 42; refine HV.out.mono ?_; rintro e w2 ⟨rfl, rfl⟩)
    go_ret2
    exact ⟨rfl, rfl⟩
/-- A value is stored. -/
theorem PH.set (h : PH own bh ps L W) {j k : Nat} (hj : j < L.length) (hk : k < (nt L j).vals.length) (z : Int) :
    ∃ g c, (nt L j).v = .slice (some ⟨g, 0, none⟩) (nt L j).vals.length c ∧ PH own bh ps (setO L j k z) (W.setCell ⟨g, k, none⟩ (.int .i64 z)) ∧ (∀ n, W.frozen? ⟨g, n, none⟩ = false) ∧ g < W.heap.size ∧ Kept (pQ own) W (W.setCell ⟨g, k, none⟩ (.int .i64 z)) := by
  obtain ⟨g, c, hv, ho, hf, hg, ⟨o, hto, ht⟩, hkp⟩ := ownI_set (h.vs j hj) hk z
  have hgo := h.ovs j hj g (by rw [hv]; rfl)
  refine ⟨g, c, hv, ?_, hf, hg, hkp.mono fun b t _ hb => by simp [pQ] at hb; simp; intro e; subst e; rw [hgo] at hb; cases hb⟩
  have hlen : (setO L j k z).length = L.length := by simp [setO]
  obtain ⟨v, mv, e1, e2, e3, e4⟩ := h.ex
  have htag : ∀ b o', W.heap[b]? = some o' → tag o' ≠ some 2 → b ≠ g := fun b o' hb hn e => by subst e; rw [hto] at hb; cases hb; exact hn ht
  have hne : bh ≠ g := htag _ _ e1 (by simp [tag])
  have hkc : ∀ b, b ≠ g → ∀ o, W.heap[b]? = some o → (W.setCell ⟨g, k, none⟩ (.int .i64 z)).heap[b]? = some o := fun b hb o ho => hkp.same _ _ ho (by simpa using hb)
  have key : ∀ i, (nt (setO L j k z) i).v = (nt L i).v ∧ (nt (setO L j k z) i).kind = (nt L i).kind ∧ (nt (setO L j k z) i).of = (nt L i).of ∧ (nt (setO L j k z) i).site = (nt L i).site ∧ (nt (setO L j k z) i).by' = (nt L i).by' ∧ (nt (setO L j k z) i).nth = (nt L i).nth := fun i => (by
    rw [setO_nt hj]
    split
    · next e => subst e; exact ⟨rfl, rfl, rfl, rfl, rfl, rfl⟩
    · exact ⟨rfl, rfl, rfl, rfl, rfl, rfl⟩)
  have hcnt : ∀ t, cntO (setO L j k z) t = cntO L t := fun t => cntO_map (by
    unfold setO
    rw [List.map_set, nt_lt hj]
    apply List.ext_getElem?
    intro i
    rw [List.getElem?_set]
    split
    · next h => subst h; simp [hj]
    · rfl) t
  refine ⟨⟨v, mv, hkc _ hne _ e1, ?_, e3, ?_⟩, by rw [hlen]; exact h.pl, fun i hi => ?_, fun i hi => ?_, fun i hi => ?_, fun i i2 hi hi2 b hb hb2 => ?_, fun i hi b hb => ?_, h.ob, fun b hb => Nat.lt_of_lt_of_le (h.lt b hb) hkp.size, by rw [hlen]; exact h.len, fun i hi => ?_⟩
  · rw [hlen]
    refine hkp.row e2 fun b hb => ?_
    obtain ⟨o', h5, h6⟩ := own_is e2 b hb
    simpa using htag b _ h5 (by rw [h6]; simp)
  · rcases e4 with ⟨a1, a2⟩ | ⟨bm, D, a1, a2, a3, a4⟩
    · subst a2; simp at hj
    · obtain ⟨es, clock, hb10, _⟩ := id a3
      refine .inr ⟨bm, D, a1, a2, hkp.map a3 (by simpa using htag bm _ hb10 (by simp [tag])), ⟨fun t => by rw [hcnt]; exact a4.at' t, by rw [hlen]; exact a4.size, a4.tidy⟩⟩
  · rw [hlen] at hi
    have hb := h.bo i hi
    have := hkc _ (htag _ _ hb (by simp [tag, obo])) _ hb
    rw [this]
    obtain ⟨k1, k2, k3, k4, k5, k6⟩ := key i
    simp only [obo, k1, k2, k3, k4, k5, k6]
  · rw [hlen] at hi; exact h.ops i hi
  · rw [hlen] at hi
    rw [setO_nt hj]
    by_cases e : i = j
    · subst e
      rw [if_pos rfl]
      have := ho
      simpa using this
    · rw [if_neg e]
      refine hkp.row (h.vs i hi) fun b hb => ?_
      have : b ≠ g := fun e2 => by
        subst e2
        exact e (h.dis i j hi hj b hb (by rw [hv]; rfl))
      simpa using this
  · rw [hlen] at hi hi2
    rw [(key _).1] at hb hb2
    exact h.dis i i2 hi hi2 b hb hb2
  · rw [hlen] at hi
    rw [(key _).1] at hb
    exact h.ovs i hi b hb
  · rw [hlen] at hi
    rw [setO_nt hj]
    split
    · next e => subst e; simpa using h.wid i hi
    · exact h.wid i hi
set_option maxHeartbeats 1000000 in
set_option maxRecDepth 100000 in
theorem Set_ok (h : PH own bh ps L W) (id i z : Int) : Calls Try.prog 21 #[.pointer (some ⟨bh, 0, none⟩), .int .i64 id, .int .i64 i, .int .i64 z] W fun e W' => e = .returned (.int .i64 (setE L id i)) ∧ PH own bh ps (setL L id i z) W' ∧ Kept (pQ own) W W' := by
  have HR := Lib.hid h
  have HI := Lib.hid (Is_ok h id 4)
  by_cases hc : 0 ≤ i ∧ i < lenO L id
  · obtain ⟨j, k, hb, hj, rfl, ha, rfl, hk⟩ := lenO_in hc.1 hc.2
    rw [ha, hb] at HI
    obtain ⟨g, c, hv, hcall⟩ := value_yes h hj hk
    have HV := Lib.hid hcall
    by_cases h4 : (nt L j).kind = 4
    · have e0 : setE L ((j : Int) + 1) (k : Int) = 13 := by unfold setE; rw [if_neg (fun h => h.2.2 (by rw [ha]; exact h4))]
      unfold setL
      rw [e0]
      rw [decide_eq_true h4] at HI
      clear h hb ha hc hv hcall
      go_enter Try.func21, Try.ntmps21
      go_wp2_with (first
        | (go_at_call 42; refine HV.out.mono ?_; rintro e w2 ⟨rfl, rfl⟩)
        | (go_at_call 22; refine HI.out.mono ?_; rintro e w2 ⟨rfl, rfl⟩))
      go_ret
      exact ⟨rfl, HR.out, Kept.refl _ _⟩
    · have e0 : setE L ((j : Int) + 1) (k : Int) = 0 := by unfold setE; rw [if_pos ⟨hc.1, hc.2, by rw [ha]; exact h4⟩]
      unfold setL
      rw [e0, if_pos rfl, show ((j : Int) + 1 - 1).toNat = j by omega, show (k : Int).toNat = k by omega]
      rw [decide_eq_false h4] at HI
      obtain ⟨g2, c2, hv2, hset, hfz, hg2, hkp⟩ := h.set hj hk z
      rw [hv] at hv2
      injection hv2 with q1 _ _
      injection q1 with q1; injection q1 with q1
      subst q1
      obtain ⟨g3, cc3, hv3, d0⟩ := ownI_cell (h.vs j hj) hk
      rw [hv] at hv3
      injection hv3 with q1 _ _
      injection q1 with q1; injection q1 with q1
      subst q1
      have HS := Lib.hid hset
      have HK := Lib.hid hkp
      clear h hb ha hc hv hcall hset hkp
      go_enter Try.func21, Try.ntmps21
      go_wp2_with (first
        | (go_at_call 42; refine HV.out.mono ?_; rintro e w2 ⟨rfl, rfl⟩)
        | (go_at_call 22; refine HI.out.mono ?_; rintro e w2 ⟨rfl, rfl⟩))
      go_ret
      exact ⟨rfl, HS.out, HK.out⟩
  · have e0 : setE L id i = 13 := by unfold setE; rw [if_neg (fun h => hc ⟨h.1, h.2.1⟩)]
    have HV := Lib.hid (value_no h hc)
    unfold setL
    rw [e0]
    clear h hc HI
    go_enter Try.func21, Try.ntmps21
    go_wp2_with (go_at_call 42; refine HV.out.mono ?_; rintro e w2 ⟨rfl, rfl⟩)
    go_ret
    exact ⟨rfl, HR.out, Kept.refl _ _⟩
end
end Go.Proofs.Ytjgggfickbbieaa
