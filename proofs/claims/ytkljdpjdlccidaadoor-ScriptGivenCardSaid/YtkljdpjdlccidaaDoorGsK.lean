/- What is given by a script, plainly: as the document picks it, and sorted. -/
import Derived.Test.YtkljdpjdlccidaaDoorGsE
import Derived.Test.YtkljdpjdlccidaaDoorGsP
namespace Go.Proofs.YtkljdpjdlccidaaDoor
open Go
/-- What was not refused. -/
def okD (D : List (En × Int)) : List En := (D.filter fun d => decide (d.2 = 0)).map Prod.fst
def cls (D : List (En × Int)) (kk : Int) : List En := (okD D).filter fun x => decide (x.k = kk)
/-- What is still to come of a kind. -/
def selE (b : Bool) (last : Int) (x : En) : Bool := !b || decide (last < x.a)
def stpE (kk : Int) (b : Bool) (last : Int) (s : Int × Bool) (d : En × Int) : Int × Bool := if d.2 = 0 ∧ d.1.k = kk ∧ selE b last d.1 = true ∧ (s.2 = false ∨ d.1.a < s.1) then (d.1.a, true) else s
def nxt (kk : Int) (b : Bool) (last : Int) (D : List (En × Int)) : Int × Bool := D.foldl (stpE kk b last) (0, false)
theorem nxt_snoc (kk : Int) (b : Bool) (last : Int) (D : List (En × Int)) (d : En × Int) : nxt kk b last (D ++ [d]) = stpE kk b last (nxt kk b last D) d := by simp [nxt]
theorem okD_snoc (D : List (En × Int)) (d : En × Int) : okD (D ++ [d]) = okD D ++ (if d.2 = 0 then [d.1] else []) := by
  unfold okD
  rw [List.filter_append, List.map_append]
  congr 1
  by_cases h : d.2 = 0 <;> simp [h]
theorem cls_snoc (D : List (En × Int)) (kk : Int) (d : En × Int) : cls (D ++ [d]) kk = cls D kk ++ (if d.2 = 0 ∧ d.1.k = kk then [d.1] else []) := by
  unfold cls
  rw [okD_snoc, List.filter_append]
  congr 1
  by_cases h : d.2 = 0 <;> by_cases h2 : d.1.k = kk <;> simp [h, h2]
theorem nxt_ok (kk : Int) (b : Bool) (last : Int) : ∀ D : List (En × Int), ((nxt kk b last D).2 = false ∧ ∀ x ∈ cls D kk, selE b last x = false) ∨ ((nxt kk b last D).2 = true ∧ (∃ x ∈ cls D kk, selE b last x = true ∧ x.a = (nxt kk b last D).1) ∧ ∀ x ∈ cls D kk, selE b last x = true → (nxt kk b last D).1 ≤ x.a) := by
  intro D
  induction D using snocS with
  | h0 => left; exact ⟨rfl, by simp [cls, okD]⟩
  | h1 D d ih =>
    rw [nxt_snoc, cls_snoc]
    generalize nxt kk b last D = s at *
    unfold stpE
    by_cases h : d.2 = 0 ∧ d.1.k = kk
    · simp only [h, and_self, true_and, if_true]
      cases hs : selE b last d.1 with
      | false =>
        simp only [Bool.false_eq_true, false_and, if_false]
        rcases ih with ⟨i1, i2⟩ | ⟨i1, ⟨x, i2, i3, i4⟩, i5⟩
        · left
          refine ⟨i1, fun x hx => ?_⟩
          rcases List.mem_append.1 hx with hx | hx
          · exact i2 x hx
          · obtain rfl : x = d.1 := by simpa using hx
            exact hs
        · right
          refine ⟨i1, ⟨x, List.mem_append_left _ i2, i3, i4⟩, fun y hy hsy => ?_⟩
          rcases List.mem_append.1 hy with hy | hy
          · exact i5 y hy hsy
          · obtain rfl : y = d.1 := by simpa using hy
            rw [hs] at hsy; cases hsy
      | true =>
        simp only [true_and]
        rcases ih with ⟨i1, i2⟩ | ⟨i1, ⟨x, i2, i3, i4⟩, i5⟩
        · right
          simp only [i1, true_or, if_true]
          refine ⟨trivial, ⟨d.1, by simp, hs, rfl⟩, fun y hy hsy => ?_⟩
          rcases List.mem_append.1 hy with hy | hy
          · rw [i2 y hy] at hsy; cases hsy
          · obtain rfl : y = d.1 := by simpa using hy
            exact Int.le_refl _
        · right
          simp only [i1, Bool.true_eq_false, false_or]
          by_cases hl : d.1.a < s.1
          · simp only [hl, if_true]
            refine ⟨trivial, ⟨d.1, by simp, hs, rfl⟩, fun y hy hsy => ?_⟩
            rcases List.mem_append.1 hy with hy | hy
            · have := i5 y hy hsy; omega
            · obtain rfl : y = d.1 := by simpa using hy
              exact Int.le_refl _
          · simp only [hl, if_false]
            refine ⟨i1, ⟨x, List.mem_append_left _ i2, i3, i4⟩, fun y hy hsy => ?_⟩
            rcases List.mem_append.1 hy with hy | hy
            · exact i5 y hy hsy
            · obtain rfl : y = d.1 := by simpa using hy
              omega
    · have h1 : ¬ (d.2 = 0 ∧ d.1.k = kk ∧ selE b last d.1 = true ∧ (s.2 = false ∨ d.1.a < s.1)) := fun q => h ⟨q.1, q.2.1⟩
      rw [if_neg h1, if_neg h, List.append_nil]
      exact ih
/-- What has been picked so far. -/
def picked (D : List (En × Int)) (kk : Int) (b : Bool) (last : Int) : List En := soS ltE ((cls D kk).filter fun x => !selE b last x)
theorem cls_k {D : List (En × Int)} {kk : Int} {x : En} (h : x ∈ cls D kk) : x.k = kk := by
  unfold cls at h
  simpa using (List.mem_filter.1 h).2
theorem picked_none {D : List (En × Int)} {kk : Int} {last : Int} : picked D kk false last = [] := by
  unfold picked
  rw [List.filter_eq_nil_iff.2 (by intro x _; simp [selE])]
  rfl
theorem picked_all {D : List (En × Int)} {kk : Int} {b : Bool} {last : Int} (h : ∀ x ∈ cls D kk, selE b last x = false) : picked D kk b last = soS ltE (cls D kk) := by
  unfold picked
  congr 1
  exact List.filter_eq_self.2 fun x hx => by rw [h x hx]; rfl
theorem ltE_same {x y : En} (hk : x.k = y.k) : ltE x y = decide (x.a < y.a) := by
  unfold ltE
  rw [hk]
  simp
theorem srt_same : ∀ l : List En, (∀ x ∈ l, ∀ y ∈ l, ltE x y = false) → SoS ltE l
  | [], _ => trivial
  | x :: l, h => ⟨fun y hy => h y (List.mem_cons_of_mem _ hy) x (List.mem_cons_self ..), srt_same l fun y hy z hz => h y (List.mem_cons_of_mem _ hy) z (List.mem_cons_of_mem _ hz)⟩
theorem picked_next {D : List (En × Int)} {kk : Int} {b : Bool} {last nx : Int} (h1 : ∃ x ∈ cls D kk, selE b last x = true ∧ x.a = nx) (h2 : ∀ x ∈ cls D kk, selE b last x = true → nx ≤ x.a) :
    picked D kk b last ++ ((cls D kk).filter fun x => decide (x.a = nx)) = picked D kk true nx := by
  obtain ⟨x0, hx0, hs0, rfl⟩ := h1
  have e := soS_parts swoE (fun x => !selE b last x) ((cls D kk).filter fun x => !selE true x0.a x) (by
    intro x hx y hy hpx hpy
    have hxc := (List.mem_filter.1 hx).1
    have hyc := (List.mem_filter.1 hy).1
    rw [ltE_same ((cls_k hxc).trans (cls_k hyc).symm)]
    have hsy : selE b last y = true := by simpa using hpy
    have hsx : selE b last x = false := by simpa using hpx
    unfold selE at hsx hsy
    simp only [Bool.or_eq_false_iff, Bool.or_eq_true, decide_eq_false_iff_not, decide_eq_true_eq] at hsx hsy
    rw [hsx.1] at hsy
    simp only [Bool.false_eq_true, false_or] at hsy
    exact decide_eq_true (by omega))
  unfold picked
  rw [e, List.filter_filter, List.filter_filter]
  congr 1
  · congr 1
    apply List.filter_congr
    intro x hx
    by_cases h : selE b last x = true
    · simp [h]
    · have h : selE b last x = false := by simpa using h
      unfold selE at h hs0
      simp only [Bool.or_eq_false_iff, Bool.or_eq_true, decide_eq_false_iff_not, decide_eq_true_eq] at h hs0
      have : selE b last x = false := by unfold selE; simp [h.1]; omega
      rw [this]
      rw [h.1] at hs0
      simp only [Bool.false_eq_true, false_or] at hs0
      simp [selE]
      omega
  · rw [soS_self]
    · apply List.filter_congr
      intro x hx
      by_cases h : selE b last x = true
      · have := h2 x hx h
        rw [h]
        unfold selE
        by_cases q : x.a = x0.a
        · simp [q]
        · have : x0.a < x.a := by omega
          simp [q, this]
      · have h' : selE b last x = false := by simpa using h
        have : ¬ x.a = x0.a := by
          intro q
          apply h
          rw [← hs0]
          unfold selE
          rw [q]
        simp [h', this]
    · refine srt_same _ fun x hx y hy => ?_
      obtain ⟨hx1, hx2⟩ := List.mem_filter.1 hx
      obtain ⟨hy1, hy2⟩ := List.mem_filter.1 hy
      rw [ltE_same ((cls_k hx1).trans (cls_k hy1).symm)]
      simp only [Bool.and_eq_true, Bool.not_eq_true', Bool.not_eq_false'] at hx2 hy2
      have a1 := h2 x hx1 (by simpa using hx2.1)
      have b1 := h2 y hy1 (by simpa using hy2.1)
      have a2 := hx2.2
      have b2 := hy2.2
      unfold selE at a2 b2
      simp at a2 b2
      exact decide_eq_false (by omega)
/-- How many are still to come. -/
def left (D : List (En × Int)) (kk : Int) (b : Bool) (last : Int) : Nat := ((cls D kk).filter fun x => selE b last x).length
theorem left_next {D : List (En × Int)} {kk : Int} {b : Bool} {last nx : Int} (h1 : ∃ x ∈ cls D kk, selE b last x = true ∧ x.a = nx) : left D kk true nx < left D kk b last := by
  obtain ⟨x0, hx0, hs0, rfl⟩ := h1
  unfold left
  generalize cls D kk = L at *
  have hm : ∀ x : En, selE true x0.a x = true → selE b last x = true := fun x hx => by
    unfold selE at *
    simp only [Bool.not_true, Bool.false_or, decide_eq_true_eq, Bool.or_eq_true, Bool.not_eq_true'] at *
    rcases hs0 with h | h
    · exact .inl h
    · right; omega
  have hne : selE true x0.a x0 = false := by simp [selE]
  have gen : ∀ L : List En, (L.filter fun x => selE true x0.a x).length ≤ (L.filter fun x => selE b last x).length := by
    intro L
    induction L with
    | nil => simp
    | cons y L ih =>
      rw [List.filter_cons, List.filter_cons]
      by_cases q : selE true x0.a y = true
      · rw [if_pos q, if_pos (hm y q)]; simp only [List.length_cons]; omega
      · rw [if_neg q]
        split
        · simp only [List.length_cons]; omega
        · exact ih
  induction L with
  | nil => simp at hx0
  | cons y L ih =>
    rw [List.filter_cons, List.filter_cons]
    rcases List.mem_cons.1 hx0 with rfl | hx
    · rw [hne, hs0]
      simp only [Bool.false_eq_true, if_false, if_true, List.length_cons]
      have := gen L
      omega
    · have := ih hx
      by_cases q : selE true x0.a y = true
      · rw [if_pos q, if_pos (hm y q)]; simp only [List.length_cons]; omega
      · rw [if_neg q]
        split
        · simp only [List.length_cons]; omega
        · exact this
/-- All that is given. -/
def givE (D : List (En × Int)) : List En := (okD D).filter fun x => decide (x.k = 4) || decide (x.k = 5)
theorem given_two (D : List (En × Int)) : soS ltE (cls D 5) ++ soS ltE (cls D 4) = soS ltE (givE D) := by
  rw [soS_parts swoE (fun x => decide (x.k = 5)) (givE D) (by
    intro x hx y hy hx5 hy5
    have hy4 := (List.mem_filter.1 hy).2
    simp only [Bool.or_eq_true, decide_eq_true_eq, decide_eq_false_iff_not] at hx5 hy5 hy4
    unfold ltE
    have : y.k < x.k := by omega
    simp [this])]
  unfold givE cls
  rw [List.filter_filter, List.filter_filter]
  congr 2
  · apply List.filter_congr
    intro x _
    by_cases h : x.k = 5 <;> simp [h]
  · apply List.filter_congr
    intro x _
    by_cases h : x.k = 5
    · simp [h]
    · by_cases h4 : x.k = 4 <;> simp [h, h4]
end Go.Proofs.YtkljdpjdlccidaaDoor
