/- Laying twigs in the order of a tree, plainly. -/
import Derived.Test.YthgpepkcjjimlaaParA
namespace Go.Proofs.Ythgpepkcjjimlaa

/-- A tree that is still to be laid: its root's number among twigs that each stand behind its kids, and whose kid it is. -/
structure Pd where
  d : Nd
  k : Fo
  i : Nat
  up : Int
def Fo.pds (up : Int) : Nat → Fo → List Pd
  | _, .nil => []
  | b, .cons d k r => ⟨d, k, b + k.size, up⟩ :: r.pds up (b + k.size + 1)
/-- Kids more for one of those that are laid. -/
def addK (l : List Tw) (u : Int) (xs : List Int) : List Tw := if 0 ≤ u then l.modify u.toNat (fun t => { t with kids := t.kids ++ xs }) else l
def layS : Nat → List Tw → List Pd → List Tw
  | 0, l, _ => l
  | _ + 1, l, [] => l
  | n + 1, l, p :: S => layS n (addK l p.up [(l.length : Int)] ++ [p.d.tw []]) (p.k.pds l.length (p.i - p.k.size) ++ S)

theorem addK_len (l : List Tw) (u : Int) (xs : List Int) : (addK l u xs).length = l.length := by
  unfold addK; split <;> simp
theorem modify_nil (l : List Tw) (i : Nat) : l.modify i (fun t => { t with kids := t.kids ++ [] }) = l := by
  apply List.ext_getElem?
  intro j
  rw [List.getElem?_modify]
  cases l[j]? <;> simp
theorem addK_nil (l : List Tw) (u : Int) : addK l u [] = l := by
  unfold addK; split
  · exact modify_nil _ _
  · rfl
theorem addK_app (l m : List Tw) (u : Int) (xs : List Int) (h : u < l.length) : addK (l ++ m) u xs = addK l u xs ++ m := by
  unfold addK; split
  · apply List.ext_getElem?
    intro j
    rw [List.getElem?_modify, List.getElem?_append, List.getElem?_append, List.length_modify]
    by_cases hj : j < l.length
    · simp only [hj, if_true]
      rw [List.getElem?_modify]
    · have : u.toNat ≠ j := by omega
      simp only [hj, if_false, this]
      simp
  · rfl
theorem addK_add (l : List Tw) (u : Int) (xs ys : List Int) : addK (addK l u xs) u ys = addK l u (xs ++ ys) := by
  unfold addK; split
  · apply List.ext_getElem?
    intro j
    rw [List.getElem?_modify, List.getElem?_modify, List.getElem?_modify]
    cases l[j]? <;> by_cases h : u.toNat = j <;> simp [h]
  · rfl
theorem addK_last (l : List Tw) (d : Nd) (xs : List Int) : addK (l ++ [d.tw []]) l.length xs = l ++ [d.tw xs] := by
  unfold addK
  rw [if_pos (by omega)]
  apply List.ext_getElem?
  intro j
  rw [List.getElem?_modify, List.getElem?_append, List.getElem?_append]
  by_cases hj : j < l.length
  · have : ((l.length : Int)).toNat ≠ j := by omega
    simp only [hj, if_true, this]
    simp
  · by_cases h0 : j = l.length
    · subst h0
      simp [Nd.tw]
    · have h1 : (j - l.length) ≠ 0 := by omega
      have : ((l.length : Int)).toNat ≠ j := by omega
      simp only [hj, if_false, this]
      obtain ⟨q, hq⟩ := Nat.exists_eq_succ_of_ne_zero h1
      simp [hq]

/-- What is on the stack is laid, tree by tree. -/
theorem layS_fo : ∀ (f : Fo) (u : Int) (b n : Nat) (l : List Tw) (S : List Pd), u < l.length →
    layS (f.size + n) l (f.pds u b ++ S) = layS n (addK l u (f.starts l.length) ++ f.flat l.length) S
  | .nil, u, b, n, l, S, _ => by simp [Fo.size, Fo.pds, Fo.starts, Fo.flat, addK_nil]
  | .cons d k r, u, b, n, l, S, h => by
    have e1 : (Fo.cons d k r).size + n = (k.size + (r.size + n)) + 1 := by simp [Fo.size]; omega
    rw [e1]
    simp only [Fo.pds, List.cons_append, layS]
    have e2 : b + k.size - k.size = b := by omega
    rw [e2]
    have hl : (addK l u [(l.length : Int)] ++ [d.tw []]).length = l.length + 1 := by simp [addK_len]
    rw [layS_fo k l.length b _ _ _ (by rw [hl]; omega)]
    rw [hl]
    have h3 := addK_last (addK l u [(l.length : Int)]) d (k.starts (l.length + 1))
    rw [addK_len] at h3
    rw [h3]
    have hl2 : (addK l u [(l.length : Int)] ++ [d.tw (k.starts (l.length + 1))] ++ k.flat (l.length + 1)).length = l.length + 1 + k.size := by simp [addK_len, Fo.flat_len]; omega
    rw [layS_fo r u _ n _ S (by rw [hl2]; omega), hl2]
    congr 1
    rw [List.append_assoc, addK_app _ _ _ _ (by rw [addK_len]; exact h), addK_add]
    simp [Fo.starts, Fo.flat]
theorem layS_all (d : Nd) (k : Fo) : layS (k.size + 1) [] [⟨d, k, k.size, -1⟩] = (Fo.cons d k .nil).flat 0 := by
  have h := layS_fo (.cons d k .nil) (-1) 0 0 [] [] (by simp)
  simp only [Fo.pds, Fo.size, List.append_nil, Nat.zero_add, Nat.add_zero] at h
  rw [Nat.add_comm]
  rw [h]
  simp [addK, layS]

/-- All that is still to be laid, counted. -/
def todo : List Pd → Nat
  | [] => 0
  | p :: S => p.k.size + 1 + todo S
theorem todo_app : ∀ (a b : List Pd), todo (a ++ b) = todo a + todo b
  | [], b => by simp [todo]
  | p :: a, b => by simp [todo, todo_app a b]; omega
theorem todo_pds : ∀ (f : Fo) (u : Int) (b : Nat), todo (f.pds u b) = f.size
  | .nil, _, _ => rfl
  | .cons d k r, u, b => by simp [Fo.pds, todo, Fo.size, todo_pds r]; omega
theorem pds_len : ∀ (f : Fo) (u : Int) (b : Nat), (f.pds u b).length = f.len
  | .nil, _, _ => rfl
  | .cons d k r, u, b => by simp [Fo.pds, Fo.len, Fo.nds]; exact pds_len r u _
theorem len_todo : ∀ (S : List Pd), S.length ≤ todo S
  | [] => Nat.zero_le _
  | p :: S => by have := len_todo S; simp [todo]; omega

/-- A tree that stands among twigs, at its number: its root, and its kids before it. -/
def InP (tw : List Tw) (p : Pd) : Prop := p.k.size ≤ p.i ∧ tw[p.i]? = some (p.d.tw (p.k.ids (p.i - p.k.size))) ∧ ∀ j t, (p.k.post (p.i - p.k.size))[j]? = some t → tw[p.i - p.k.size + j]? = some t
theorem inP_pds (tw : List Tw) (u : Int) : ∀ (f : Fo) (b : Nat), (∀ j t, (f.post b)[j]? = some t → tw[b + j]? = some t) → ∀ p ∈ f.pds u b, InP tw p
  | .nil, _, _, _, hp => by cases hp
  | .cons d k r, b, h, p, hp => by
    have hk : (k.post b).length = k.size := Fo.post_len k b
    simp only [Fo.pds, List.mem_cons] at hp
    rcases hp with rfl | hp
    · refine ⟨by simp, ?_, fun j t hj => ?_⟩
      · have h1 := h k.size (d.tw (k.ids b)) (by simp [Fo.post, hk])
        simpa using h1
      · have hlt : j < k.size := by rw [← hk]; exact (List.getElem?_eq_some_iff.1 (by simpa using hj)).1
        have h1 := h j t (by
          simp only [Fo.post]
          rw [List.getElem?_append, if_pos (by omega)]
          simpa using hj)
        simpa using h1
    · refine inP_pds tw u r (b + k.size + 1) (fun j t hj => ?_) p hp
      have h1 := h (k.size + 1 + j) t (by
        simp only [Fo.post]
        rw [List.getElem?_append, if_neg (by omega), hk]
        have e : k.size + 1 + j - k.size = j + 1 := by omega
        rw [e, List.getElem?_cons_succ]
        exact hj)
      have e : b + (k.size + 1 + j) = b + k.size + 1 + j := by omega
      rw [← e]; exact h1
/-- The numbers of kids are those of what is put on the stack. -/
theorem ids_pds : ∀ (f : Fo) (u : Int) (b : Nat), f.ids b = (f.pds u b).map fun p => (p.i : Int)
  | .nil, _, _ => rfl
  | .cons d k r, u, b => by simp [Fo.ids, Fo.pds]; exact ids_pds r u _
theorem ups_pds : ∀ (f : Fo) (u : Int) (b : Nat), ∀ p ∈ f.pds u b, p.up = u
  | .nil, _, _, _, h => by cases h
  | .cons d k r, u, b, p, h => by
    simp only [Fo.pds, List.mem_cons] at h
    rcases h with rfl | h
    · rfl
    · exact ups_pds r u _ p h
end Go.Proofs.Ythgpepkcjjimlaa
