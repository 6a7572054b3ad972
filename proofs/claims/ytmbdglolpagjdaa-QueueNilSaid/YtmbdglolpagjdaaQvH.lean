/- The document's queue: the least time; lists of items that are the same. -/
import Derived.Test.YtmbdglolpagjdaaQvG
import Derived.BigQuiet
namespace Go.Proofs.Ytmbdglolpagjdaa
open Go.RowKit Go.Shelf
attribute [local go_sem] Oper.semAt_some

/-- The least time of items that are no front ones. -/
def nxP (E : List Ent) : Option Int := ((srt E).find? fun x => !x.front).map (·.due)
def nxW : Option Int → Value
  | none => .tuple #[.int .i64 0, .bool false]
  | some d => .tuple #[.int .i64 d, .bool true]
theorem nx_none {E : List Ent} (h : ∀ k, k < E.length → (nth E k).front = true) : nxP E = none := by
  unfold nxP
  rw [List.find?_eq_none.2 fun x hx => ?_]
  · rfl
  · obtain ⟨k, hk, e⟩ := List.getElem_of_mem ((srt_perm E).mem_iff.1 hx)
    rw [← nth_lt hk] at e
    have := h k hk
    rw [e] at this
    simp [this]
theorem nx_some {E : List Ent} {f : Nat} (hf : f < E.length) (h0 : (nth E f).front = false) (h : ∀ k, k < E.length → (nth E k).front = false → (nth E f).due ≤ (nth E k).due) : nxP E = some (nth E f).due := by
  unfold nxP
  cases hy : (srt E).find? fun x => !x.front with
  | none =>
    have := List.find?_eq_none.1 hy (nth E f) ((srt_perm E).mem_iff.2 (nth_mem hf))
    simp [h0] at this
  | some y =>
    have hy0 : y.front = false := by have := List.find?_some hy; simpa using this
    have hym : y ∈ srt E := List.mem_of_find?_eq_some hy
    obtain ⟨k, hk, e⟩ := List.getElem_of_mem ((srt_perm E).mem_iff.1 hym)
    rw [← nth_lt hk] at e
    have h1 := h k hk (by rw [e]; exact hy0)
    rw [e] at h1
    have h2 : y.due ≤ (nth E f).due := by
      obtain ⟨h3, as', bs', e1, h4⟩ := List.find?_eq_some_iff_append.1 hy
      have hfm : nth E f ∈ srt E := (srt_perm E).mem_iff.2 (nth_mem hf)
      rw [e1] at hfm
      have hs := srt_srt E
      unfold Srt at hs
      rw [e1, List.pairwise_append, List.pairwise_cons] at hs
      rcases List.mem_append.1 hfm with h5 | h5
      · have := h4 _ h5; simp [h0] at this
      · rcases List.mem_cons.1 h5 with h6 | h6
        · rw [h6]; exact Int.le_refl _
        · have := hs.2.1.1 _ h6
          unfold eLt at this
          simp [h0, hy0] at this
          split at this <;> omega
    simp; omega
section
variable {E : List Ent} {bw : Nat} {W : World}
def NxI (E : List Ent) (i : Nat) (v4 v5 : Value) : Prop := (v4 = .int .i64 0 ∧ v5 = .bool false ∧ ∀ k, k < i → (nth E k).front = true) ∨
  ∃ f, f < i ∧ v4 = .int .i64 (nth E f).due ∧ v5 = .bool true ∧ (nth E f).front = false ∧ ∀ k, k < i → (nth E k).front = false → (nth E f).due ≤ (nth E k).due
theorem NxI.old {E : List Ent} {i : Nat} {v4 v5 : Value} (h : NxI E i v4 v5) (hx : (nth E i).front = true) : NxI E (i + 1) v4 v5 := by
  rcases h with ⟨h1, h2, h3⟩ | ⟨f, h1, h2, h3, h4, h5⟩
  · refine .inl ⟨h1, h2, fun k hk => ?_⟩
    rcases Nat.lt_or_ge k i with h | h
    · exact h3 k h
    · have : k = i := by omega
      subst this; exact hx
  · refine .inr ⟨f, by omega, h2, h3, h4, fun k hk hk2 => ?_⟩
    rcases Nat.lt_or_ge k i with h | h
    · exact h5 k h hk2
    · have : k = i := by omega
      subst this; rw [hx] at hk2; cases hk2
theorem NxI.first {E : List Ent} {i : Nat} (h : ∀ k, k < i → (nth E k).front = true) (hx : (nth E i).front = false) : NxI E (i + 1) (.int .i64 (nth E i).due) (.bool true) := by
  refine .inr ⟨i, by omega, rfl, rfl, hx, fun k hk hk2 => ?_⟩
  rcases Nat.lt_or_ge k i with h' | h'
  · rw [h k h'] at hk2; cases hk2
  · have : k = i := by omega
    subst this; exact Int.le_refl _
theorem NxI.new {E : List Ent} {i f : Nat} (h : ∀ k, k < i → (nth E k).front = false → (nth E f).due ≤ (nth E k).due) (hx : (nth E i).front = false) (hd : (nth E i).due < (nth E f).due) : NxI E (i + 1) (.int .i64 (nth E i).due) (.bool true) := by
  refine .inr ⟨i, by omega, rfl, rfl, hx, fun k hk hk2 => ?_⟩
  rcases Nat.lt_or_ge k i with h' | h'
  · have := h k h' hk2; omega
  · have : k = i := by omega
    subst this; exact Int.le_refl _
theorem NxI.keep {E : List Ent} {i f : Nat} (hf : f < i) (h0 : (nth E f).front = false) (h : ∀ k, k < i → (nth E k).front = false → (nth E f).due ≤ (nth E k).due) (hd : ¬ (nth E i).due < (nth E f).due) : NxI E (i + 1) (.int .i64 (nth E f).due) (.bool true) := by
  refine .inr ⟨f, by omega, rfl, rfl, h0, fun k hk hk2 => ?_⟩
  rcases Nat.lt_or_ge k i with h' | h'
  · exact h k h' hk2
  · have : k = i := by omega
    subst this; omega
set_option maxHeartbeats 2000000 in
set_option maxRecDepth 100000 in
theorem refNext_ok (h : RQ bw E W) (hn : E.length ≤ 1000000) :
    Calls Try.prog 28 #[.pointer (some ⟨bw, 0, none⟩)] W fun e W' => e = .returned (nxW (nxP E)) ∧ W' = W := by
  have hlt := h.lt
  have HR := Lib.hid h
  clear h
  go_enter Try.func28, Try.ntmps28
  go_wp2
  go_loopw [4, 5, 6] (fun v4 v5 v6 wr => W = wr ∧ ∃ i : Nat, v6 = .int .i64 i ∧ i ≤ E.length ∧ NxI E i v4 v5) (fun _ _ v6 _ => E.length - (intOf v6).toNat)
  case atStart => exact ⟨rfl, 0, rfl, by omega, .inl ⟨rfl, rfl, by simp⟩⟩
  case round =>
    obtain ⟨rfl, i, rfl, hi, hI⟩ := hrel
    rcases Nat.lt_or_ge i E.length with hl | hl
    · have hl' : (i : Int) < (E.length : Int) := by omega
      obtain ⟨g, c, c0, a0, a1, a2⟩ := HR.out.cells hl
      cases hfr : (nth E i).front with
      | true =>
        rw [hfr] at a1
        have HI := Lib.hid (hI.old hfr)
        clear hI hfr
        generalize nth E i = x at a0 a1 a2
        go_wp2
        go_roundw
        case rel => exact ⟨trivial, i + 1, by go_num, by omega, HI.out⟩
        case measure => simp [intOf]; omega
      | false =>
        rw [hfr] at a1
        rcases hI with ⟨rfl, rfl, h3⟩ | ⟨f, h1, rfl, rfl, h4, h5⟩
        · have HI := Lib.hid (NxI.first h3 hfr)
          clear h3 hfr
          generalize nth E i = x at *
          go_wp2
          go_roundw
          case rel => exact ⟨trivial, i + 1, by go_num, by omega, HI.out⟩
          case measure => simp [intOf]; omega
        · by_cases hd : (nth E i).due < (nth E f).due
          · have HI := Lib.hid (NxI.new h5 hfr hd)
            clear h5 hfr h4
            generalize (nth E i) = x at *
            generalize (nth E f) = y at *
            go_wp2
            go_roundw
            case rel => exact ⟨trivial, i + 1, by go_num, by omega, HI.out⟩
            case measure => simp [intOf]; omega
          · have HI := Lib.hid (NxI.keep h1 h4 h5 hd)
            clear h5 hfr h4
            generalize (nth E i) = x at *
            generalize (nth E f) = y at *
            go_wp2
            go_roundw
            case rel => exact ⟨trivial, i + 1, by go_num, by omega, HI.out⟩
            case measure => simp [intOf]; omega
    · have hl' : ¬ (i : Int) < (E.length : Int) := by omega
      obtain ⟨A, c, c0⟩ := HR.out.slice
      have e : i = E.length := by omega
      rcases hI with ⟨rfl, rfl, h3⟩ | ⟨f, h1, rfl, rfl, h4, h5⟩
      · have HN := Lib.hid (nx_none (E := E) (by rw [← e]; exact h3))
        clear h3
        go_wp2
        refine bodyPost_ret (v := .tuple #[.int .i64 0, .bool false]) (by simp [results, Try.results28, go_sem]) rfl ?_
        rw [HN.out]; exact ⟨rfl, rfl⟩
      · have HN := Lib.hid (nx_some (E := E) (f := f) (by omega) h4 (by rw [← e]; exact h5))
        clear h4 h5
        go_wp2
        refine bodyPost_ret (v := .tuple #[.int .i64 (nth E f).due, .bool true]) (by simp [results, Try.results28, go_sem]) rfl ?_
        rw [HN.out]; exact ⟨rfl, rfl⟩
/-- What is told of an item. -/
def Ent.key (x : Ent) : Int × Bool × Int := (x.task, x.front, x.due)
def sameE (L M : List Ent) : Bool := decide (L.map Ent.key = M.map Ent.key)
theorem key_at {L : List Ent} {i : Nat} (hi : i < L.length) : (L.map Ent.key)[i]? = some (nth L i).key := by rw [List.getElem?_map, nth_some hi]; rfl
theorem same_ne {L M : List Ent} (h : L.length ≠ M.length) : sameE L M = false := by
  unfold sameE
  simp only [decide_eq_false_iff_not]
  intro e
  have := congrArg List.length e
  simp at this
  exact h this
theorem same_at {L M : List Ent} {i : Nat} (hi : i < L.length) (hm : i < M.length) (h : (nth L i).key ≠ (nth M i).key) : sameE L M = false := by
  unfold sameE
  simp only [decide_eq_false_iff_not]
  intro e
  have h1 := key_at hi
  rw [e, key_at hm] at h1
  exact h (by simpa using h1.symm)
theorem same_all {L M : List Ent} (hl : L.length = M.length) (h : ∀ k, k < L.length → (nth L k).key = (nth M k).key) : sameE L M = true := by
  unfold sameE
  simp only [decide_eq_true_eq]
  apply List.ext_getElem?
  intro k
  rcases Nat.lt_or_ge k L.length with hk | hk
  · rw [key_at hk, key_at (by omega), h k hk]
  · rw [List.getElem?_eq_none (by simpa using hk), List.getElem?_eq_none (by simp; omega)]
set_option maxHeartbeats 2000000 in
set_option maxRecDepth 100000 in
theorem refSame_ok {L M : List Ent} {A B : Option Addr} {c d : Nat} {B1 B2 : Nat} (hA : W.ownsRow B1 32 3 (.slice A L.length c) L.length (row3 L)) (hB : W.ownsRow B2 32 3 (.slice B M.length d) M.length (row3 M)) (hn : L.length ≤ 1000000) :
    Calls Try.prog 15 #[.slice A L.length c, .slice B M.length d] W fun e W' => e = .returned (.bool (sameE L M)) ∧ Ext W W' := by
  have HA := Lib.hid hA
  have HB := Lib.hid hB
  clear hA hB
  by_cases hl : L.length = M.length
  · rw [← hl] at HB ⊢
    obtain ⟨b, hb⟩ : ∃ b, b = sameE L M := ⟨_, rfl⟩
    rw [← hb]
    have HBB := Lib.hid hb
    have HL := Lib.hid hl
    clear hb hl
    go_enter Try.func15, Try.ntmps15
    go_wp2_with fail
    go_loopg [5] L.length (fun k v5 wr => ∃ i : Nat, i + k = L.length ∧ v5 = .int .i64 i ∧ Ext W wr ∧ ∀ j, j < i → (nth L j).key = (nth M j).key)
    case atStart => exact ⟨0, by omega, rfl, Ext.refl _, by simp⟩
    case round =>
      obtain ⟨i, hik, rfl, hx, hall⟩ := hrel
      have HX0 := Lib.hid hx
      have hA := (hx.kept (fun _ _ => true)).row HA.out fun _ _ => rfl
      have hB := (hx.kept (fun _ _ => true)).row HB.out fun _ _ => rfl
      have HIK := Lib.hid hik
      have HALL := Lib.hid hall
      have hi : i ≤ L.length := by omega
      clear hik hall hx
      by_cases hlt : i < L.length
      · obtain ⟨g, rfl, p0, p1, p2⟩ := own3_cells hA hlt
        obtain ⟨g', rfl, q0, q1, q2⟩ := own3_cells (l := M) (by rw [HL.out] at hB; exact hB) (show i < M.length by rw [← HL.out]; exact hlt)
        have hil : (i : Int) < (L.length : Int) := by omega
        obtain ⟨x, hx⟩ : ∃ x, x = nth L i := ⟨_, rfl⟩
        obtain ⟨y, hy⟩ : ∃ y, y = nth M i := ⟨_, rfl⟩
        rw [← hx] at p0 p1 p2
        rw [← hy] at q0 q1 q2
        have HX := Lib.hid hx
        have HY := Lib.hid hy
        clear hx hy hA hB
        by_cases hk : x.key = y.key
        · obtain ⟨k1, k2, k3⟩ : x.task = y.task ∧ x.front = y.front ∧ x.due = y.due := by simpa [Ent.key] using hk
          rw [← k1] at q0
          rw [← k2] at q1
          rw [← k3] at q2
          have HK := Lib.hid hk
          clear hk k1 k2 k3
          go_upto_region 6 with (fail)
          go_region
          all_goals
            go_wp2_with fail
            go_roundg (gk - 1)
            case measure => have := HIK.out; omega
            case rel => exact ⟨i + 1, by have := HIK.out; omega, by go_num, HX0.out.trans (Ext.drew _), fun j hj => by
              rcases Nat.lt_or_ge j i with h | h
              · exact HALL.out j h
              · have : j = i := by omega
                subst this; rw [← HX.out, ← HY.out]; exact HK.out⟩
        · have HK := Lib.hid hk
          by_cases k1 : x.task = y.task
          · rw [← k1] at q0
            by_cases k2 : x.front = y.front
            · rw [← k2] at q1
              have k3 : ¬ x.due = y.due := fun k3 => hk (by simp [Ent.key, k1, k2, k3])
              clear hk k1 k2
              go_upto_region 6 with (fail)
              go_region
              all_goals
                go_wp2_with fail
                go_ret
                refine ⟨ret_bool ?_, HX0.out.trans (Ext.drew _)⟩
                rw [HBB.out, same_at hlt (by rw [← HL.out]; exact hlt) (by rw [← HX.out, ← HY.out]; exact HK.out)]
            · clear hk k1
              go_upto_region 6 with (fail)
              go_region
              all_goals
                go_wp2_with fail
                go_ret
                refine ⟨ret_bool ?_, HX0.out.trans (Ext.drew _)⟩
                rw [HBB.out, same_at hlt (by rw [← HL.out]; exact hlt) (by rw [← HX.out, ← HY.out]; exact HK.out)]
          · clear hk
            go_upto_region 6 with (fail)
            go_region
            all_goals
              go_wp2_with fail
              go_ret
              refine ⟨ret_bool ?_, HX0.out.trans (Ext.drew _)⟩
              rw [HBB.out, same_at hlt (by rw [← HL.out]; exact hlt) (by rw [← HX.out, ← HY.out]; exact HK.out)]
      · clear hA hB
        go_wp2_with fail
        go_ret
        exact ⟨ret_bool (by rw [HBB.out]; exact (same_all HL.out (fun k hk => HALL.out k (by omega))).symm), HX0.out⟩
  · rw [same_ne hl]
    go_enter Try.func15, Try.ntmps15
    have hl' : ((L.length : Int) == (M.length : Int)) = false := by simp; omega
    go_wp2_with fail
    go_ret
    exact ⟨rfl, Ext.refl _⟩
end
end Go.Proofs.Ytmbdglolpagjdaa
