/- The program's lives: the map of those components that began, plainly; two of them held against each other. -/
import Derived.Test.YtecehjcombkkaaaDoorLwH
import Derived.Shelf.SlMaps.Clone
import Derived.Lib.SlMapEqual
namespace Go.Proofs.YtecehjcombkkaaaDoor
open Go.RowKit Go.Shelf
abbrev DM := DataW Unit
def tk (t : Int) : Lit := .int .i64 t
def at0 (D : DM) (t : Int) : DM := D.atKey (tk t) (.lit (tk 0))
def putD (D : DM) (t i : Int) : DM := D.put (tk t) (.lit (tk i))
theorem tk_ne {a b : Int} (h : a ≠ b) : tk a ≠ tk b := by simp [tk, h]
theorem tk_key (a : Int) : WideAt.IsKeyLit (tk a) := by simp [tk, WideAt.IsKeyLit]
/-- How many began. -/
def begun (C : List Int) : Nat := C.countP (fun z => z != -1)
/-- What the map says of the states. -/
structure MC (C : List Int) (D : DM) : Prop where
  at' : ∀ c, at0 D c = .lit (tk (stO C c + 1))
  has' : ∀ c, Maps.has D (tk c) = (stO C c != -1)
  key : ∀ k, Maps.has D k = true → ∃ c, k = tk c
  size : Maps.size D = begun C
  tidy : Maps.Tidy D
theorem stO_nat (C : List Int) {k : Nat} (hk : k < C.length) : stO C k = C[k] := by
  unfold stO
  rw [if_pos (inL_nat hk)]
  simp [hk]
theorem stO_set {C : List Int} {k : Nat} (hk : k < C.length) (z c : Int) : stO (C.set k z) c = if c = k then z else stO C c := by
  by_cases e : c = k
  · subst e
    rw [if_pos rfl, stO_nat _ (by simpa using hk)]
    simp
  · rw [if_neg e]
    unfold stO
    rw [List.length_set]
    by_cases hi : inL C.length c = true
    · obtain ⟨j, rfl, hj⟩ := inL_true hi
      have hne : k ≠ j := by omega
      rw [if_pos hi, if_pos hi]
      simp [List.getD_eq_getElem?_getD, List.getElem?_set_ne hne]
    · rw [if_neg hi, if_neg hi]
abbrev D0 : DM := DataW.map (H := Unit) []
theorem stO_none (n : Nat) (c : Int) : stO (List.replicate n (-1)) c = -1 := by
  unfold stO
  split
  · next h =>
    rw [List.length_replicate] at h
    obtain ⟨k, rfl, hk⟩ := inL_true h
    simp [List.getD_eq_getElem?_getD, hk]
  · rfl
theorem MC.new (n : Nat) : MC (List.replicate n (-1)) D0 := by
  refine ⟨fun c => ?_, fun c => ?_, fun k h => ?_, ?_, Maps.tidy_empty⟩
  · rw [stO_none]; rfl
  · rw [stO_none]; rfl
  · simp [Maps.has] at h
  · unfold begun
    rw [List.countP_replicate]
    simp [Maps.size]
theorem MC.set {C : List Int} {D : DM} (h : MC C D) {k : Nat} (hk : k < C.length) {z : Int} (hz : z ≠ -1) : MC (C.set k z) (putD D k (z + 1)) := by
  refine ⟨fun c => ?_, fun c => ?_, fun q hq => ?_, ?_, h.tidy.put (tk_key _) _⟩
  · rw [stO_set hk]
    by_cases e : c = k
    · subst e
      rw [if_pos rfl, at0, putD, Maps.atKey_put_same h.tidy.isMap (tk_key _)]
    · rw [if_neg e, at0, putD, Maps.atKey_put_other (tk_ne e)]
      exact h.at' c
  · rw [stO_set hk]
    by_cases e : c = k
    · subst e
      rw [if_pos rfl, putD, Maps.has_put_same h.tidy.isMap (tk_key _)]
      simp [hz]
    · rw [if_neg e, putD, Maps.has_put_other (tk_ne e)]
      exact h.has' c
  · by_cases e : q = tk k
    · exact ⟨_, e⟩
    · rw [putD, Maps.has_put_other e] at hq
      exact h.key q hq
  · unfold putD
    rw [Maps.size_put h.tidy, h.has', stO_nat C hk, h.size]
    unfold begun
    rw [List.countP_set hk]
    have h1 : (z != -1) = true := by simp [hz]
    rw [h1]
    by_cases e : C[k] = -1
    · have h2 : (C[k] != -1) = false := by simp [e]
      simp [h2]
    · have h2 : (C[k] != -1) = true := by simp [e]
      have h3 : 0 < List.countP (fun z => z != -1) C := List.countP_pos_iff.2 ⟨C[k], List.getElem_mem _, h2⟩
      simp [h2]
      omega
theorem begun_le (C : List Int) : begun C ≤ C.length := List.countP_le_length
/-- What stands for the components that began, in the one and in the other. -/
theorem begun_mono : ∀ (A B : List Int), A.length = B.length → (∀ i : Nat, i < A.length → A.getD i 0 ≠ -1 → B.getD i 0 = A.getD i 0) → begun A ≤ begun B ∧ (begun A = begun B → A = B)
  | [], B, hl, _ => by
    have : B = [] := List.eq_nil_of_length_eq_zero hl.symm
    subst this
    exact ⟨Nat.le_refl _, fun _ => rfl⟩
  | a :: A, [], hl, _ => by simp at hl
  | a :: A, b :: B, hl, h => by
    have hl' : A.length = B.length := by simpa using hl
    obtain ⟨h1, h2⟩ := begun_mono A B hl' fun i hi hn => by
      have := h (i + 1) (by simpa using hi) (by simpa using hn)
      simpa using this
    have h0 := h 0 (by simp)
    simp only [List.getD_cons_zero] at h0
    unfold begun at h1 h2 ⊢
    rw [List.countP_cons, List.countP_cons]
    by_cases ea : a = -1
    · subst ea
      by_cases eb : b = -1
      · subst eb
        simp
        exact ⟨h1, h2⟩
      · have q : (b != -1) = true := by simp [eb]
        simp [q]
        exact ⟨by omega, fun e => by omega⟩
    · have := h0 ea
      subst this
      have q : (b != -1) = true := by simp [ea]
      simp [q]
      exact ⟨h1, h2⟩
/-- Are two numbers of a map the same? -/
def eqN : DM → DM → Bool
  | .lit (.int _ a), .lit (.int _ b) => a == b
  | _, _ => false
def entO (C : List Int) (c : Int) : Lit × DM := (tk c, .lit (tk (stO C c + 1)))
theorem good_ent {C C2 : List Int} {D2 : DM} (h2 : MC C2 D2) {c : Int} (hc : stO C c ≠ -1) : Lib.goodD eqN D2 (entO C c) = (stO C2 c == stO C c) := by
  unfold Lib.goodD entO
  dsimp only
  rw [h2.has']
  by_cases e : stO C2 c = -1
  · have q : (stO C2 c == stO C c) = false := by simp [e]; omega
    rw [q, e]
    rfl
  · have q : (stO C2 c != -1) = true := by simp [e]
    have hh : Maps.has D2 (tk c) = true := by rw [h2.has', q]
    have ha := h2.at' c
    unfold at0 at ha
    rw [q, Bool.true_and, Maps.atKey_indep hh .nil (.lit (tk 0)), ha]
    unfold eqN tk
    dsimp only
    by_cases e2 : stO C2 c = stO C c
    · simp [e2]
    · have e3 : (stO C c + 1 == stO C2 c + 1) = false := by simp; omega
      rw [e3]
      simp [e2]
section
variable {C C2 : List Int} {es : List (Lit × DM)} {D2 : DM}
theorem ent_of (h : MC C (.map es)) (hkeys : ∀ p ∈ es, WideAt.IsKeyLit p.1) {p : Lit × DM} (hp : p ∈ es) : ∃ c, stO C c ≠ -1 ∧ p = entO C c := by
  obtain ⟨es', e, hap⟩ := h.tidy
  cases e
  have hk : Maps.has (.map es : DM) p.1 = true := List.any_eq_true.2 ⟨p, hp, WideAt.sameKey_self (hkeys p hp)⟩
  obtain ⟨c, hc⟩ := h.key _ hk
  have hv := WideAt.atKey_mem (.lit (tk 0)) (hkeys p hp) hap hp
  have ha := h.at' c
  unfold at0 at ha
  rw [← hc, hv] at ha
  refine ⟨c, ?_, Prod.ext hc ha⟩
  rw [hc, h.has'] at hk
  simpa using hk
theorem ent_in (h : MC C (.map es)) (hkeys : ∀ p ∈ es, WideAt.IsKeyLit p.1) {c : Int} (hc : stO C c ≠ -1) : entO C c ∈ es := by
  obtain ⟨es', e, hap⟩ := h.tidy
  cases e
  have hh : Maps.has (.map es : DM) (tk c) = true := by rw [h.has']; simp [hc]
  obtain ⟨p, hp, hs⟩ := List.any_eq_true.1 (show es.any (fun p => p.1.sameKey (tk c)) = true from hh)
  have e1 : p.1 = tk c := WideAt.sameKey_eq hs
  obtain ⟨c', _, hc'⟩ := ent_of h hkeys hp
  have e2 : c' = c := by
    rw [hc'] at e1
    simpa [entO, tk] using e1
  subst e2
  rw [← hc']
  exact hp
/-- maps.Equal, plainly. -/
theorem equal_plain (h1 : MC C (.map es)) (h2 : MC C2 D2) (hkeys : ∀ p ∈ es, WideAt.IsKeyLit p.1) (hn : C.length = C2.length) : Lib.equalFuncD eqN (.map es) D2 = decide (C = C2) := by
  by_cases e : C = C2
  · subst e
    unfold Lib.equalFuncD
    rw [decide_eq_true rfl, h1.size, h2.size, decide_eq_true rfl, Bool.true_and]
    refine List.all_eq_true.2 fun p hp => ?_
    obtain ⟨c, hc, rfl⟩ := ent_of h1 hkeys hp
    rw [good_ent h2 hc]
    simp
  · rw [decide_eq_false e]
    cases hq : Lib.equalFuncD eqN (.map es) D2 with
    | false => rfl
    | true =>
      unfold Lib.equalFuncD at hq
      rw [Bool.and_eq_true, decide_eq_true_eq, h1.size, h2.size] at hq
      refine absurd ((begun_mono C C2 hn fun i hi hne => ?_).2 hq.1) e
      have hs : stO C i = C.getD i 0 := by rw [stO_nat C hi]; simp [hi]
      have hs2 : stO C2 i = C2.getD i 0 := by rw [stO_nat C2 (by omega)]; simp [show i < C2.length by omega]
      have hc : stO C i ≠ -1 := by rw [hs]; exact hne
      have := List.all_eq_true.1 hq.2 _ (ent_in h1 hkeys hc)
      rw [good_ent h2 hc, hs, hs2] at this
      simpa using this
end
end Go.Proofs.YtecehjcombkkaaaDoor
