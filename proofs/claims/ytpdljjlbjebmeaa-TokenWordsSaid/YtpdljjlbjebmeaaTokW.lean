/- token.Words: the words, sorted. -/
import Derived.Test.YtpdljjlbjebmeaaIter
import Derived.Test.YtpdljjlbjebmeaaTokG
import Derived.BigFrameIn
import Derived.Lib.SmallJoins
import Derived.Lib.Hide
namespace Go.Proofs.Ytpdljjlbjebmeaa
open Go.RowKit Go.Maps Go.Sort Go.Shelf Go.WideMaps
open Go.WideElems (Fit rd rg)

theorem ents_keys : ∀ (ws : List (List UInt8)) (n : Nat), (ents n ws).map (·.key) = ws.map fun s => Value.string ⟨s.toArray⟩
  | [], _ => rfl
  | s :: r, n => by simp [ents, ents_keys r (n + 1)]
theorem ents_born : ∀ (ws : List (List UInt8)) (n : Nat), (ents n ws).map (·.born) = List.range' n ws.length
  | [], _ => rfl
  | s :: r, n => by simp [ents, ents_born r (n + 1), List.range'_succ]
theorem ents_mem : ∀ (ws : List (List UInt8)) (n : Nat) (x : MapEntry), x ∈ ents n ws → ∃ s ∈ ws, ∃ b, n ≤ b ∧ b < n + ws.length ∧ x = ⟨.string ⟨s.toArray⟩, .agg #[], b⟩
  | [], _, x, h => by simp [ents] at h
  | s :: r, n, x, h => by
    rcases List.mem_cons.1 h with rfl | h
    · exact ⟨s, List.mem_cons_self .., n, Nat.le_refl _, by simp, rfl⟩
    · obtain ⟨t, ht, b, h1, h2, h3⟩ := ents_mem r (n + 1) x h
      exact ⟨t, List.mem_cons_of_mem _ ht, b, by omega, by simp; omega, h3⟩
theorem words_short : ∀ s ∈ wordsL, s.length ≤ 32 := by
  intro s hs
  have hall : wordsL.all (fun x => decide (x.length ≤ 32)) = true := by decide
  simpa using List.all_eq_true.1 hall s hs
theorem wk36 : wk 36 = wordsL := rfl
theorem ents_size (n : Nat) (ws : List (List UInt8)) : (ents n ws).toArray.size = ws.length := by
  have := congrArg List.length (ents_born ws n)
  simpa using this
theorem words_nodup : wordsL.Nodup := by decide

theorem words_fit : Fit (H := Unit) Try.prog 9 unitElem (ents 0 wordsL).toArray 36 := by
  refine ⟨by decide, ⟨?_, ?_, ?_⟩, ?_⟩
  · intro x hx
    obtain ⟨s, _, b, _, hb, rfl⟩ := ents_mem wordsL 0 x (by simpa using hx)
    exact hb
  · show ((ents 0 wordsL).map (·.born)).Nodup
    rw [ents_born]
    exact List.nodup_range' ..
  · show ((ents 0 wordsL).map (·.key)).Nodup
    rw [ents_keys]
    refine List.pairwise_map.2 (words_nodup.imp_of_mem ?_)
    intro a b _ _ hab e
    exact hab (by simpa using e)
  · intro x hx
    obtain ⟨s, hs, b, _, hb, rfl⟩ := ents_mem wordsL 0 x (by simpa using hx)
    exact ⟨_, Go.WideElems.rd_mk (keyOf_string_mk Try.underlying9 (by have := words_short s hs; simp [ByteArray.size, maxLen]; omega)) unitElem_mk⟩

noncomputable def wordsD : DataW Unit := .map (((ents 0 wordsL).toArray.toList.map (rg Try.prog 9 unitElem)).foldr DataW.insert [])
theorem words_rg : ∀ (ws : List (List UInt8)) (n : Nat), (∀ s ∈ ws, s.length ≤ 32) → (ents n ws).map (rg (H := Unit) Try.prog 9 unitElem) = ws.map fun s => (Lit.string s, DataW.agg [])
  | [], _, _ => rfl
  | s :: r, n, h => by
    have hs := h s (List.mem_cons_self ..)
    have e := Go.WideElems.rg_of (Go.WideElems.rd_mk (P := Try.prog) (k := 9) (R := unitElem (H := Unit)) (born := n) (val := .agg #[]) (keyOf_string_mk (s := ⟨s.toArray⟩) Try.underlying9 (by simp [ByteArray.size, maxLen]; omega)) unitElem_mk)
    simp only [ents, List.map_cons, e, words_rg r (n + 1) (fun t ht => h t (List.mem_cons_of_mem _ ht))]
theorem words_strs : (strKeys wordsD).Perm wordsL := by
  unfold wordsD
  rw [words_rg wordsL 0 words_short]
  have h := (Go.WideShapes.sorted_perm (H := Unit) (wordsL.map fun s => (Lit.string s, DataW.agg []))).map (fun p => strOf p.1)
  rw [List.map_map] at h
  refine List.Perm.trans h ?_
  have e : ((fun p : Lit × DataW Unit => strOf p.1) ∘ fun s => (Lit.string s, DataW.agg [])) = (id : List UInt8 → List UInt8) := by funext s; rfl
  rw [e, List.map_id]
theorem words_sorted : wordsL.mergeSort leB = wordsL := List.mergeSort_of_pairwise (by decide)
theorem words_size : Maps.size wordsD = 36 := by
  unfold wordsD
  rw [words_rg wordsL 0 words_short]
  have h := (Go.WideShapes.sorted_perm (H := Unit) (wordsL.map fun s => (Lit.string s, DataW.agg []))).length_eq
  have h36 : wordsL.length = 36 := rfl
  rw [List.length_map, h36] at h
  exact h

theorem wobj36 : wobj (wk 36) = Obj.map (ents 0 wordsL).toArray 36 := by
  unfold wobj
  rw [wk36, show wordsL.length = 36 from rfl]
theorem words_own (w : World) : (w.alloc (wobj (wk 36))).ownsMap Try.prog 9 (unitElem (H := Unit)) w.heap.size 36 wordsD := by
  rw [wobj36]
  refine ⟨(ents 0 wordsL).toArray, 36, heap_alloc_new w _, words_fit, ?_, ?_⟩
  · rw [ents_size]; exact Nat.le_refl 36
  · unfold wordsD; rfl

set_option maxRecDepth 100000 in
set_option maxHeartbeats 1000000 in
theorem words_ok (w : World) :
    Calls Try.prog 12 #[] w fun e w' => ∃ v, e = .returned v ∧ w'.ownsRow w.heap.size 9 1 v 36 (wordsL.map encStr) ∧ Below w.heap.size w w' := by
  have hown := words_own w
  have hS := Try.slices_Sorted_keys_33_34 w.heap.size 36 wordsD unitElem (w.alloc (wobj (wk 36))) hown (by rw [words_size]; decide) (by rw [words_size]; decide)
  have hz : (w.alloc (wobj (wk 36))).heap.size = w.heap.size + 1 := by simp
  rw [hz] at hS
  have HS := Lib.hid hS
  clear hS hown
  refine (callsIn_wide (n := 6)).1 ?_
  have hfK : Fence.wide.fn 34 := trivial
  have hfS : Fence.wide.fn 33 := trivial
  have hfW : Fence.wide.fn 24 := trivial
  refine callsIn_of_wp Try.func12 rfl trivial ?_ rfl
  simp only [Try.ntmps12, List.size_toArray, List.length_nil, Nat.reduceSub, Array.replicate_succ, Array.replicate_zero, List.push_toArray, List.append_toArray, List.nil_append, List.cons_append]
  gi_wp2_with fail
  refine (callsIn_wide.2 (wordSet_ok _)).mono ?_
  rintro e w' ⟨rfl, rfl⟩
  gi_wp2_with fail
  refine (Try.maps_Keys_34 _ _).mono ?_
  rintro e w' ⟨rfl, rfl⟩
  gi_wp2_with fail
  refine HS.out.mono ?_
  rintro e w' ⟨v, ss, rfl, hP, hrow, _, hb⟩
  gi_wp2_with fail
  go_ret
  have hp : ss.Perm wordsL := hP.trans words_strs
  have hl : ss.length = 36 := hp.length_eq
  have hm : ss.mergeSort leB = wordsL := (mergeSort_of_perm hp).trans words_sorted
  rw [hl] at hrow
  have hm' : (ss.mergeSort fun x y => decide (x ≤ y)) = wordsL := hm
  rw [hm'] at hrow
  refine ⟨v, rfl, Joins.ownsRow_le hrow (by simp; omega), ((Below.refl _ _).alloc (Nat.le_refl _) _).trans ((((Below.refl _ _).alloc (Nat.le_refl _) _).trans (hb.mono (by simp))).mono (by omega))⟩
end Go.Proofs.Ytpdljjlbjebmeaa
