/- Laying twigs in the order of a tree, plainly; slices.Backward over numbers. -/
import Derived.Test.YtpeoefbibjbinaaGreatB04
import Derived.RangeFuncBox
import Derived.RangeFuncNested
import Derived.RangeFuncLeaves
import Derived.Shelf.Abstract
import Derived.WalkKit
import Derived.OwnWalkIn
import Derived.TacticsInMore
import Derived.LoopNIn
import Derived.LoopIn
import Derived.Test.YtpeoefbibjbinaaGreatB06
namespace Go.Proofs.YtpeoefbibjbinaaGreat

/-- A tree that is still to be laid: its root's number among twigs that each stand behind its kids, and whose kid it is. -/
structure Pd where
  d : Nd
  k : Fo
  i : Nat
  up : Int
def Fo.pds (up : Int) : Nat → Fo → List Pd
  | _, .nil => []
  | b, .cons d k r => ⟨d, k, b + k.size, up⟩ :: r.pds up (b + k.size + 1)
/-- Kids more for one of those that are laid. -/
def addK (l : List Tw) (u : Int) (xs : List Int) : List Tw := if 0 ≤ u then l.modify u.toNat (fun t => { t with kids := t.kids ++ xs }) else l
def layS : Nat → List Tw → List Pd → List Tw
  | 0, l, _ => l
  | _ + 1, l, [] => l
  | n + 1, l, p :: S => layS n (addK l p.up [(l.length : Int)] ++ [p.d.tw []]) (p.k.pds l.length (p.i - p.k.size) ++ S)

theorem addK_len (l : List Tw) (u : Int) (xs : List Int) : (addK l u xs).length = l.length := by
  unfold addK; split <;> simp
theorem modify_nil (l : List Tw) (i : Nat) : l.modify i (fun t => { t with kids := t.kids ++ [] }) = l := by
  apply List.ext_getElem?
  intro j
  rw [List.getElem?_modify]
  cases l[j]? <;> simp
theorem addK_nil (l : List Tw) (u : Int) : addK l u [] = l := by
  unfold addK; split
  · exact modify_nil _ _
  · rfl
theorem addK_app (l m : List Tw) (u : Int) (xs : List Int) (h : u < l.length) : addK (l ++ m) u xs = addK l u xs ++ m := by
  unfold addK; split
  · apply List.ext_getElem?
    intro j
    rw [List.getElem?_modify, List.getElem?_append, List.getElem?_append, List.length_modify]
    by_cases hj : j < l.length
    · simp only [hj, if_true]
      rw [List.getElem?_modify]
    · have : u.toNat ≠ j := by omega
      simp only [hj, if_false, this]
      simp
  · rfl
theorem addK_add (l : List Tw) (u : Int) (xs ys : List Int) : addK (addK l u xs) u ys = addK l u (xs ++ ys) := by
  unfold addK; split
  · apply List.ext_getElem?
    intro j
    rw [List.getElem?_modify, List.getElem?_modify, List.getElem?_modify]
    cases l[j]? <;> by_cases h : u.toNat = j <;> simp [h]
  · rfl
theorem addK_last (l : List Tw) (d : Nd) (xs : List Int) : addK (l ++ [d.tw []]) l.length xs = l ++ [d.tw xs] := by
  unfold addK
  rw [if_pos (by omega)]
  apply List.ext_getElem?
  intro j
  rw [List.getElem?_modify, List.getElem?_append, List.getElem?_append]
  by_cases hj : j < l.length
  · have : ((l.length : Int)).toNat ≠ j := by omega
    simp only [hj, if_true, this]
    simp
  · by_cases h0 : j = l.length
    · subst h0
      simp [Nd.tw]
    · have h1 : (j - l.length) ≠ 0 := by omega
      have : ((l.length : Int)).toNat ≠ j := by omega
      simp only [hj, if_false, this]
      obtain ⟨q, hq⟩ := Nat.exists_eq_succ_of_ne_zero h1
      simp [hq]

/-- What is on the stack is laid, tree by tree. -/
theorem layS_fo : ∀ (f : Fo) (u : Int) (b n : Nat) (l : List Tw) (S : List Pd), u < l.length →
    layS (f.size + n) l (f.pds u b ++ S) = layS n (addK l u (f.starts l.length) ++ f.flat l.length) S
  | .nil, u, b, n, l, S, _ => by simp [Fo.size, Fo.pds, Fo.starts, Fo.flat, addK_nil]
  | .cons d k r, u, b, n, l, S, h => by
    have e1 : (Fo.cons d k r).size + n = (k.size + (r.size + n)) + 1 := by simp [Fo.size]; omega
    rw [e1]
    simp only [Fo.pds, List.cons_append, layS]
    have e2 : b + k.size - k.size = b := by omega
    rw [e2]
    have hl : (addK l u [(l.length : Int)] ++ [d.tw []]).length = l.length + 1 := by simp [addK_len]
    rw [layS_fo k l.length b _ _ _ (by rw [hl]; omega)]
    rw [hl]
    have h3 := addK_last (addK l u [(l.length : Int)]) d (k.starts (l.length + 1))
    rw [addK_len] at h3
    rw [h3]
    have hl2 : (addK l u [(l.length : Int)] ++ [d.tw (k.starts (l.length + 1))] ++ k.flat (l.length + 1)).length = l.length + 1 + k.size := by simp [addK_len, Fo.flat_len]; omega
    rw [layS_fo r u _ n _ S (by rw [hl2]; omega), hl2]
    congr 1
    rw [List.append_assoc, addK_app _ _ _ _ (by rw [addK_len]; exact h), addK_add]
    simp [Fo.starts, Fo.flat]
theorem layS_all (d : Nd) (k : Fo) : layS (k.size + 1) [] [⟨d, k, k.size, -1⟩] = (Fo.cons d k .nil).flat 0 := by
  have h := layS_fo (.cons d k .nil) (-1) 0 0 [] [] (by simp)
  simp only [Fo.pds, Fo.size, List.append_nil, Nat.zero_add, Nat.add_zero] at h
  rw [Nat.add_comm]
  rw [h]
  simp [addK, layS]

/-- All that is still to be laid, counted. -/
def todo : List Pd → Nat
  | [] => 0
  | p :: S => p.k.size + 1 + todo S
theorem todo_app : ∀ (a b : List Pd), todo (a ++ b) = todo a + todo b
  | [], b => by simp [todo]
  | p :: a, b => by simp [todo, todo_app a b]; omega
theorem todo_pds : ∀ (f : Fo) (u : Int) (b : Nat), todo (f.pds u b) = f.size
  | .nil, _, _ => rfl
  | .cons d k r, u, b => by simp [Fo.pds, todo, Fo.size, todo_pds r]; omega
theorem pds_len : ∀ (f : Fo) (u : Int) (b : Nat), (f.pds u b).length = f.len
  | .nil, _, _ => rfl
  | .cons d k r, u, b => by simp [Fo.pds, Fo.len, Fo.nds]; exact pds_len r u _
theorem len_todo : ∀ (S : List Pd), S.length ≤ todo S
  | [] => Nat.zero_le _
  | p :: S => by have := len_todo S; simp [todo]; omega

/-- A tree that stands among twigs, at its number: its root, and its kids before it. -/
def InP (tw : List Tw) (p : Pd) : Prop := p.k.size ≤ p.i ∧ tw[p.i]? = some (p.d.tw (p.k.ids (p.i - p.k.size))) ∧ ∀ j t, (p.k.post (p.i - p.k.size))[j]? = some t → tw[p.i - p.k.size + j]? = some t
theorem inP_pds (tw : List Tw) (u : Int) : ∀ (f : Fo) (b : Nat), (∀ j t, (f.post b)[j]? = some t → tw[b + j]? = some t) → ∀ p ∈ f.pds u b, InP tw p
  | .nil, _, _, _, hp => by cases hp
  | .cons d k r, b, h, p, hp => by
    have hk : (k.post b).length = k.size := Fo.post_len k b
    simp only [Fo.pds, List.mem_cons] at hp
    rcases hp with rfl | hp
    · refine ⟨by simp, ?_, fun j t hj => ?_⟩
      · have h1 := h k.size (d.tw (k.ids b)) (by simp [Fo.post, hk])
        simpa using h1
      · have hlt : j < k.size := by rw [← hk]; exact (List.getElem?_eq_some_iff.1 (by simpa using hj)).1
        have h1 := h j t (by
          simp only [Fo.post]
          rw [List.getElem?_append, if_pos (by omega)]
          simpa using hj)
        simpa using h1
    · refine inP_pds tw u r (b + k.size + 1) (fun j t hj => ?_) p hp
      have h1 := h (k.size + 1 + j) t (by
        simp only [Fo.post]
        rw [List.getElem?_append, if_neg (by omega), hk]
        have e : k.size + 1 + j - k.size = j + 1 := by omega
        rw [e, List.getElem?_cons_succ]
        exact hj)
      have e : b + (k.size + 1 + j) = b + k.size + 1 + j := by omega
      rw [← e]; exact h1
/-- The numbers of kids are those of what is put on the stack. -/
theorem ids_pds : ∀ (f : Fo) (u : Int) (b : Nat), f.ids b = (f.pds u b).map fun p => (p.i : Int)
  | .nil, _, _ => rfl
  | .cons d k r, u, b => by simp [Fo.ids, Fo.pds]; exact ids_pds r u _
theorem ups_pds : ∀ (f : Fo) (u : Int) (b : Nat), ∀ p ∈ f.pds u b, p.up = u
  | .nil, _, _, _, h => by cases h
  | .cons d k r, u, b, p, h => by
    simp only [Fo.pds, List.mem_cons] at h
    rcases h with rfl | h
    · rfl
    · exact ups_pds r u _ p h
end Go.Proofs.YtpeoefbibjbinaaGreat

namespace Go.Proofs.YtpeoefbibjbinaaGreat
open Go.RowKit Go.Shelf
attribute [local go_sem] Oper.semAt_some

/-- What has come when all from m on have come, the last one first. -/
def bwd (zs : List Int) (m : Nat) : List (Int × Int) := ((List.range zs.length).drop m).reverse.map fun (i : Nat) => ((i : Int), zs[i]?.getD 0)
theorem bwd_succ (zs : List Int) (m : Nat) (h : m < zs.length) : bwd zs m = bwd zs (m + 1) ++ [((m : Int), zs[m])] := by
  unfold bwd
  rw [List.drop_eq_getElem_cons (by simpa using h)]
  simp [h]
theorem bwd_full (zs : List Int) : bwd zs zs.length = [] := by
  unfold bwd
  rw [List.drop_eq_nil_of_le (by simp)]
  rfl
theorem bwd_len (zs : List Int) (m : Nat) : (bwd zs m).length = zs.length - m := by simp [bwd]
theorem bwd_all (zs : List Int) : (bwd zs 0).map (·.2) = zs.reverse := by
  unfold bwd
  rw [List.drop_zero, List.map_map, List.map_reverse]
  congr 1
  apply List.ext_getElem
  · simp
  · intro i h1 h2
    simp [h2]
/-- Two blocks are as they were. -/
def Kq (g Bs : Nat) (A B : World) : Prop := B.heap[g]? = A.heap[g]? ∧ B.heap[Bs]? = A.heap[Bs]?
theorem Kq.refl (g Bs : Nat) (A : World) : Kq g Bs A A := ⟨rfl, rfl⟩
theorem Kq.trans {g Bs : Nat} {A B C : World} (h : Kq g Bs A B) (k : Kq g Bs B C) : Kq g Bs A C := ⟨k.1.trans h.1, k.2.trans h.2⟩

set_option maxRecDepth 100000 in
set_option maxHeartbeats 1000000 in
theorem backward1_in (F : Fence) (n : Nat) (hF : F.fn 77) (hro : F.round = none) (hn : 1 ≤ n) (l Bs g cap : Nat) (zs : List Int) (hreach : zs.length ≤ 2000001) (J Jx : List (Int × Int) → World → Prop)
    (hY : ∀ pre x W, J pre W → pre.length < zs.length → YieldAt F (n - 1) Tryz.prog l #[.int .i64 x.1, .int .i64 x.2] W fun e W' =>
      (e = .returned (.bool true) ∧ J (pre ++ [x]) W' ∧ Kq g Bs W W') ∨ (e = .returned (.bool false) ∧ Jx (pre ++ [x]) W'))
    (W : World) (hBs : W.cell? ⟨Bs, 0, none⟩ = some (.slice (some ⟨g, 0, none⟩) zs.length cap)) (hc : ∀ j, j < zs.length → W.cell? ⟨g, j, none⟩ = some (.int .i64 (zs[j]?.getD 0))) (h0 : J [] W) :
    CallsIn F n Tryz.prog 77 #[.func (.yield l) #[] #[], .pointer (some ⟨Bs, 0, none⟩)] W fun e W' => (∃ v, e = .returned v) ∧ ((∃ ys, ys = bwd zs 0 ∧ J ys W') ∨ (∃ pre, True ∧ Jx pre W')) := by
  refine callsIn_of_wp Tryz.func77 rfl hF ?_ hro
  simp only [Tryz.ntmps77, List.size_toArray, List.length_cons, List.length_nil, Nat.reduceAdd, Nat.reduceSub, Array.replicate_succ, Array.replicate_zero, List.push_toArray, List.append_toArray, List.nil_append, List.cons_append]
  gi_wp2
  gi_loopw [3] (fun i wr => ∃ m : Nat, m ≤ zs.length ∧ i = .int .i64 ((m : Int) - 1) ∧ J (bwd zs m) wr ∧ Kq g Bs W wr) (fun i _ => (intOf i + 1).toNat)
  case atStart => exact ⟨zs.length, Nat.le_refl _, rfl, by rw [bwd_full]; exact h0, Kq.refl _ _ _⟩
  case round =>
    obtain ⟨m, hm, rfl, hJs, hk⟩ := hrel
    have hB1 : wr.cell? ⟨Bs, 0, none⟩ = some (.slice (some ⟨g, 0, none⟩) zs.length cap) := (World.cell?_of_block (a := ⟨Bs, 0, none⟩) hk.2).trans hBs
    cases m with
    | zero =>
      have e0 : (((0 : Nat) : Int) - 1) = -1 := by omega
      rw [e0]
      gi_wp2
      go_end0
      exact ⟨⟨_, rfl⟩, .inl ⟨_, rfl, hJs⟩⟩
    | succ m =>
      have e1 : (((m + 1 : Nat) : Int) - 1) = (m : Int) := by omega
      rw [e1]
      have hlt : m < zs.length := by omega
      have hcx : wr.cell? ⟨g, m, none⟩ = some (.int .i64 zs[m]) := ((World.cell?_of_block (a := ⟨g, m, none⟩) hk.1).trans (hc m hlt)).trans (by simp [hlt])
      obtain ⟨fn, tmps, assign, body, hy, hR⟩ := hY _ ((m : Int), zs[m]) wr hJs (by rw [bwd_len]; omega)
      dsimp only at hy
      clear e1
      gi_wp2
      refine hR.mono ?_
      rintro e W3 (⟨rfl, hJ3, hk3⟩ | ⟨rfl, hJx3⟩)
      · gi_wp2
        go_roundw
        case rel => exact ⟨m, by omega, by simp, by rw [bwd_succ _ _ hlt]; exact hJ3, hk.trans hk3⟩
        case measure => simp [intOf]
      · gi_wp2
        refine bodyPost_ret (results_none rfl _ _ _) rfl ?_
        exact ⟨⟨_, rfl⟩, .inr ⟨_, trivial, hJx3⟩⟩

set_option maxRecDepth 100000 in
set_option maxHeartbeats 1000000 in
theorem backward1_nil_in (F : Fence) (n : Nat) (hF : F.fn 77) (hro : F.round = none) (l Bs : Nat) (J : List (Int × Int) → World → Prop) (A : Option Addr) (cap : Nat) (W : World) (hBs : W.cell? ⟨Bs, 0, none⟩ = some (.slice A 0 cap)) (h0 : J [] W) :
    CallsIn F n Tryz.prog 77 #[.func (.yield l) #[] #[], .pointer (some ⟨Bs, 0, none⟩)] W fun e W' => (∃ v, e = .returned v) ∧ J [] W' := by
  refine callsIn_of_wp Tryz.func77 rfl hF ?_ hro
  simp only [Tryz.ntmps77, List.size_toArray, List.length_cons, List.length_nil, Nat.reduceAdd, Nat.reduceSub, Array.replicate_succ, Array.replicate_zero, List.push_toArray, List.append_toArray, List.nil_append, List.cons_append]
  gi_wp2
  gi_loopw [3] (fun i wr => i = .int .i64 (-1) ∧ J [] wr) (fun _ _ => 0)
  case atStart => exact ⟨rfl, h0⟩
  case round =>
    obtain ⟨rfl, hJs⟩ := hrel
    gi_wp2
    go_end0
    exact ⟨⟨_, rfl⟩, hJs⟩

/-- The block in which a row of numbers lies; where there are none, one that stays anyway. -/
theorem backward_stops (F : Fence) (n : Nat) (hF : F.fn 77) (hro : F.round = none) (hn : 1 ≤ n) (Bs : Nat) (sv : Value) (zs : List Int) (X : List Nat) (hreach : zs.length ≤ 2000001) (w : World)
    (hc : w.heap[Bs]? = some (.cells #[sv] 37 (0, 0))) (hI : IntRow w X sv zs) :
    ∃ g, (∃ cs t mm, w.heap[g]? = some (.cells cs t mm) ∧ (t = 3 ∨ t = 37)) ∧ (∀ W, Kq g Bs w W → IntRow W X sv zs) ∧ SeqStopsK F n Tryz.prog 77 #[.pointer (some ⟨Bs, 0, none⟩)] (fun x : Int × Int => #[Value.int .i64 x.1, .int .i64 x.2]) (Kq g Bs) (fun ys => ys = bwd zs 0) (fun _ => True) zs.length w := by
  have hcell : ∀ W : World, W.heap[Bs]? = w.heap[Bs]? → W.cell? ⟨Bs, 0, none⟩ = some sv := fun W h => by simp [World.cell?, h, hc]
  obtain ⟨A, cap, rfl, h⟩ := hI
  have hBs := lt_of_block hc
  by_cases h0 : 0 < zs.length
  · obtain ⟨g, cs, mm, rfl, hg, hX, hcs⟩ := h h0
    refine ⟨g, ⟨cs, _, mm, hg, .inl rfl⟩, fun W hk => ⟨_, cap, rfl, fun _ => ⟨g, cs, mm, rfl, hk.1.trans hg, hX, hcs⟩⟩, fun l J Jx W hW _ _ hY hJ0 => ?_⟩
    have hgW := hW.block g (lt_of_block hg)
    exact backward1_in F n hF hro hn l Bs g cap zs hreach J Jx hY W (hcell W (hW.block Bs hBs)) (fun j hj => by
      have h1 := hcs j (zs[j]?.getD 0) (by rw [List.getElem?_eq_getElem hj]; rfl)
      simp [World.cell?, hgW, hg, h1]) hJ0
  · have hz : zs = [] := List.eq_nil_of_length_eq_zero (by omega)
    subst hz
    refine ⟨Bs, ⟨_, _, _, hc, .inr rfl⟩, fun W _ => ⟨A, cap, rfl, fun h => absurd h h0⟩, fun l J Jx W hW _ _ hY hJ0 => ?_⟩
    exact (backward1_nil_in F n hF hro l Bs J A cap W (hcell W (hW.block Bs hBs)) hJ0).mono fun e W' ⟨he, hj⟩ => ⟨he, .inl ⟨_, rfl, hj⟩⟩

set_option maxRecDepth 100000 in
set_option maxHeartbeats 1000000 in
theorem backward_ok (a : Option Addr) (len cap : Nat) (w : World) :
    Calls Tryz.prog 55 #[.slice a len cap] w fun e w' => e = .returned (.func (.func 77) #[] #[.pointer (some ⟨w.heap.size, 0, none⟩)]) ∧ w' = w.alloc (.cells #[.slice a len cap] 37) := by
  have hmf : ∀ (fn : Fn) (first cap : Array Value) (w : World), (Instr.makeFunc fn first cap).run Tryz.prog w = .ok (.func fn first cap) w := fun _ _ _ _ => rfl
  go_enter Tryz.func55, Tryz.ntmps55
  go_wp2
  go_ret
  exact ⟨rfl, rfl⟩
end Go.Proofs.YtpeoefbibjbinaaGreat
