/- The program's lives in memory: its box, its map, its row, the table of what follows what; has, Comps, Events, On, State. -/
import Derived.Test.YtecehjcombkkaaaDoorLpA
import Derived.Test.YtecehjcombkkaaaDoorLsA
import Derived.Test.YtecehjcombkkaaaDoorLsB
import Derived.Maps.OwnOps
import Derived.MapKept
namespace Go.Proofs.YtecehjcombkkaaaDoor
open Go.RowKit Go.Shelf
attribute [local go_sem] Oper.semAt_some
theorem law3 : Go.Maps.Keyed Tryd.prog 3 := Go.Maps.int_keyed Tryd.underlying3
theorem key_wf {a : Int} (h : (Lit.int .i64 a).wf = true) : keyOf Tryd.prog 3 (.int .i64 a) = some (tk a) := Go.Maps.keyOf_int_mk Tryd.underlying3 h
theorem wf_of {a : Int} (h : 0 ≤ a ∧ a ≤ 9223372036854775807) : (Lit.int .i64 a).wf = true := by
  have h1 : IntKind.min .i64 = -9223372036854775808 := by decide
  have h2 : IntKind.max .i64 = 9223372036854775807 := by decide
  simp [Lit.wf, h1, h2]; omega
theorem zeroI (w : World) : (zeroValue 3).run Tryd.prog w = .ok (.int .i64 0) w := by kernel_rfl
theorem own_size {P : Program} {k : TypeId} {R : Value → Option (DM × List MemPlace)} {w : World} {b n : Nat} {D : DM} (h : w.ownsMap P k R b n D) : w.ownsMap P k R b (Maps.size D) D := by
  obtain ⟨es, clock, h1, h2, _, rfl⟩ := h
  exact ⟨es, clock, h1, h2, by rw [Maps.size_eq, length_sorted]; simp, rfl⟩
abbrev OM (W : World) (bm : Nat) (D : DM) : Prop := W.ownsMap Tryd.prog 3 (plainElem Tryd.prog 3) bm (Maps.size D) D
/-- The table's cells. -/
def tabL : List Bool := [true, false, false, false, false, true, false, true, false, false, true, false, false, true, false, true, false, false, false, false]
def Tab (W : World) : Prop := (∀ i : Nat, i < 20 → W.cell? ⟨0, i, none⟩ = some (.bool (tabL.getD i false))) ∧ 0 < W.heap.size
theorem Tab.keep {W W' : World} {p : Nat → Option TypeId → Bool} (h : Tab W) (k : Kept p W W') (hp : ∀ t, p 0 t = true) : Tab W' :=
  ⟨fun i hi => k.cell (h.1 i hi) fun _ _ => hp _, Nat.lt_of_lt_of_le h.2 k.size⟩
/-- The program's lives in memory; own: their blocks. -/
structure PL (own : Nat → Bool) (bw : Nat) (C : List Int) (E : List Bool) (W : World) : Prop where
  ex : ∃ bm D u, W.heap[bw]? = some (.cells #[.int .i64 C.length, .map (some bm), u] 46 (0, 0)) ∧ own bm = true ∧ OM W bm D ∧ MC C D ∧ W.ownsRow 0 4 1 u E.length (rowV bV E) ∧ ∀ g, u.ownBlock = some g → own g = true
  st : ∀ c : Int, -1 ≤ stO C c ∧ stO C c ≤ 3
  tb : Tab W
  ng : own 0 = false
  ob : own bw = true
  lt : ∀ b, own b = true → b < W.heap.size
  len : C.length ≤ 1000 ∧ E.length ≤ 1000
section
variable {own : Nat → Bool} {bw : Nat} {C : List Int} {E : List Bool} {W W' : World}
theorem PL.frame {p : Nat → Option TypeId → Bool} (h : PL own bw C E W) (k : Kept p W W') (hp : ∀ b t, own b = true → p b t = true) (hg : ∀ t, p 0 t = true) : PL own bw C E W' := by
  obtain ⟨⟨bm, D, u, h1, h2, h3, h4, h5, h6⟩, q1, q2, q3, q4, q5, q6⟩ := h
  exact ⟨⟨bm, D, u, k.same _ _ h1 (hp _ _ q4), h2, k.map h3 (hp _ _ h2), h4, k.row h5 fun g hg => hp _ _ (h6 g hg), h6⟩, q1, q2.keep k hg, q3, q4, fun b hb => Nat.lt_of_lt_of_le (q5 b hb) k.size, q6⟩
theorem PL.ext (h : PL own bw C E W) (x : Ext W W') : PL own bw C E W' := h.frame (x.kept (fun _ _ => true)) (fun _ _ _ => rfl) fun _ => rfl
theorem PL.fresh (h : PL own bw C E W) {g : Nat} (hg : W.heap.size ≤ g) : own g = false := by
  cases hc : own g with
  | false => rfl
  | true => have := h.lt g hc; omega
/-- What the walks load. -/
structure Pt (own : Nat → Bool) (bw bm : Nat) (D : DM) (B : Option Addr) (d : Nat) (C : List Int) (E : List Bool) (W : World) : Prop where
  hb : W.heap[bw]? = some (.cells #[.int .i64 C.length, .map (some bm), .slice B E.length d] 46 (0, 0))
  x0 : W.cell? ⟨bw, 0, none⟩ = some (.int .i64 C.length)
  x1 : W.cell? ⟨bw, 1, none⟩ = some (.map (some bm))
  x2 : W.cell? ⟨bw, 2, none⟩ = some (.slice B E.length d)
  hl : bw < W.heap.size
  om : own bm = true
  m : OM W bm D
  c : MC C D
  r : W.ownsRow 0 4 1 (.slice B E.length d) E.length (rowV bV E)
  or : ∀ g, (Value.slice B E.length d).ownBlock = some g → own g = true
theorem PL.parts (h : PL own bw C E W) : ∃ bm D B d, Pt own bw bm D B d C E W := by
  obtain ⟨⟨bm, D, u, h1, h2, h3, h4, h5, h6⟩, q1, q2, q3, q4, q5, q6⟩ := h
  obtain ⟨B, d, rfl⟩ := own_slice3 h5
  exact ⟨bm, D, B, d, ⟨h1, by simp [World.cell?, h1], by simp [World.cell?, h1], by simp [World.cell?, h1], (Array.getElem?_eq_some_iff.1 h1).1, h2, h3, h4, h5, h6⟩⟩
theorem no_map {D : DM} {bm b : Nat} {o : Obj} (hm : OM W bm D) (hb : W.heap[b]? = some o) (ht : tag o ≠ none) : b ≠ bm := fun e => by
  subst e
  obtain ⟨es, clock, k1, _⟩ := hm
  rw [k1] at hb; cases hb; exact ht rfl
/-- A component begins, or goes on. -/
theorem PL.put {bm : Nat} {D D' : DM} {B : Option Addr} {d : Nat} {C' : List Int} (h : PL own bw C E W) (q : Pt own bw bm D B d C E W) (k : Kept (fun b _ => b != bm) W W') (hm : OM W' bm D') (hc : MC C' D') (hl : C'.length = C.length) (hs : ∀ c : Int, -1 ≤ stO C' c ∧ stO C' c ≤ 3) :
    PL own bw C' E W' ∧ Kept (pQ own) W W' := by
  have n1 := no_map q.m q.hb (by simp [tag])
  refine ⟨⟨⟨bm, D', _, ?_, q.om, hm, hc, k.row q.r fun g hg => ?_, q.or⟩, hs, h.tb.keep k fun _ => ?_, h.ng, h.ob, fun b hb => Nat.lt_of_lt_of_le (h.lt b hb) k.size, by rw [hl]; exact h.len⟩, k.mono fun b t _ hp => ?_⟩
  · rw [hl]; exact k.same _ _ q.hb (by simpa using n1)
  · obtain ⟨o, h1, h2⟩ := own_is q.r g hg
    have := no_map q.m h1 (by rw [h2]; simp)
    simpa using this
  · have : 0 ≠ bm := fun e => by have h1 := q.om; rw [← e, h.ng] at h1; cases h1
    simpa using this
  · simp only [bne_iff_ne, ne_eq]
    rintro rfl
    simp [pQ, q.om] at hp
theorem PL.set_e (h : PL own bw C E W) {k : Nat} (hk : k < E.length) (z : Bool) : ∃ g c, W.cell? ⟨bw, 2, none⟩ = some (.slice (some ⟨g, 0, none⟩) E.length c) ∧ W.cell? ⟨g, k, none⟩ = some (.bool E[k]) ∧ (∀ n, W.frozen? ⟨g, n, none⟩ = false) ∧ g < W.heap.size ∧ PL own bw C (E.set k z) (W.setCell ⟨g, k, none⟩ (.bool z)) ∧ Kept (pQ own) W (W.setCell ⟨g, k, none⟩ (.bool z)) := by
  obtain ⟨bm, D, B, d, q⟩ := h.parts
  obtain ⟨g, c', e, h1, h2, h3, h4, ⟨o, ht, hta⟩, h5⟩ := own1_set q.r hk z
  cases e
  have hog : own g = true := q.or g rfl
  have kk : Kept (fun b _ => b != g) W (W.setCell ⟨g, k, none⟩ (.bool z)) := h5
  have hne : bw ≠ g := fun e => by rw [← e, q.hb] at ht; cases ht; simp [tag] at hta
  have hnm : bm ≠ g := fun e => no_map q.m ht (by rw [hta]; simp) e.symm
  have hng : 0 ≠ g := fun e => by rw [← e, h.ng] at hog; cases hog
  refine ⟨g, d, q.x2, h3, h2, h4, ⟨⟨bm, D, _, kk.same _ _ (by simpa using q.hb) (by simpa using hne), q.om, kk.map q.m (by simpa using hnm), q.c, by simpa [bV] using h1, by simpa using q.or⟩, h.st, h.tb.keep kk fun _ => by simpa using hng, h.ng, h.ob, fun b hb => by simpa using h.lt b hb, by simpa using h.len⟩, kk.mono fun b t _ hp => ?_⟩
  simp only [bne_iff_ne, ne_eq]
  rintro rfl
  simp [pQ, hog] at hp
theorem PL.at_e (h : PL own bw C E W) {i : Nat} (hi : i < E.length) : ∃ g c, W.cell? ⟨bw, 2, none⟩ = some (.slice (some ⟨g, 0, none⟩) E.length c) ∧ W.cell? ⟨g, i, none⟩ = some (.bool E[i]) ∧ bw < W.heap.size ∧ g < W.heap.size := by
  obtain ⟨bm, D, B, d, q⟩ := h.parts
  obtain ⟨g, c2, e, y0, hg⟩ := own1_cell q.r hi
  cases e
  exact ⟨g, d, q.x2, y0, q.hl, hg⟩
end
section
variable {own : Nat → Bool} {bw : Nat} {C : List Int} {E : List Bool} {W W' : World}
set_option maxRecDepth 100000 in
theorem Comps_ok (h : PL own bw C E W) : Calls Tryd.prog 21 #[.pointer (some ⟨bw, 0, none⟩)] W fun e W' => e = .returned (.int .i64 C.length) ∧ W' = W := by
  obtain ⟨bm, D, B, d, ⟨_, x0, _, _, hl, _, _, _, _, _⟩⟩ := h.parts
  clear h
  go_enter Tryd.func21, Tryd.ntmps21
  go_wp2_with fail
  go_ret
  exact ⟨rfl, rfl⟩
set_option maxRecDepth 100000 in
theorem Events_ok (h : PL own bw C E W) : Calls Tryd.prog 22 #[.pointer (some ⟨bw, 0, none⟩)] W fun e W' => e = .returned (.int .i64 E.length) ∧ W' = W := by
  obtain ⟨bm, D, B, d, ⟨_, _, _, x2, hl, _, _, _, _, _⟩⟩ := h.parts
  clear h
  go_enter Tryd.func22, Tryd.ntmps22
  go_wp2_with fail
  go_ret
  exact ⟨rfl, rfl⟩
set_option maxHeartbeats 1000000 in
set_option maxRecDepth 100000 in
theorem has_ok (h : PL own bw C E W) (c : Int) : Calls Tryd.prog 33 #[.pointer (some ⟨bw, 0, none⟩), .int .i64 c] W fun e W' => e = .returned (.bool (inL C.length c)) ∧ W' = W := by
  have HC := Lib.hid (Comps_ok h)
  by_cases h0 : c ≥ 0
  · by_cases h1 : c < (C.length : Int)
    · have hb : inL C.length c = true := by simp [inL]; omega
      rw [hb]
      clear hb h
      go_enter Tryd.func33, Tryd.ntmps33
      go_wp2_with (go_at_call 21; refine HC.out.mono ?_; rintro e w2 ⟨rfl, hw⟩; rw [hw]; clear hw)
      go_ret
      exact ⟨rfl, rfl⟩
    · have hb : inL C.length c = false := by simp [inL]; omega
      rw [hb]
      have z9 : decide (c < (C.length : Int)) = false := decide_eq_false h1
      clear hb h
      go_enter Tryd.func33, Tryd.ntmps33
      go_wp2_with (go_at_call 21; refine HC.out.mono ?_; rintro e w2 ⟨rfl, hw⟩; rw [hw]; clear hw)
      go_ret
      exact ⟨by rw [← z9]; rfl, rfl⟩
  · have hb : inL C.length c = false := by simp [inL]; omega
    rw [hb]
    clear hb h
    go_enter Tryd.func33, Tryd.ntmps33
    go_wp2_with fail
    go_ret
    exact ⟨rfl, rfl⟩
set_option maxHeartbeats 1000000 in
set_option maxRecDepth 100000 in
theorem hasEvent_ok (h : PL own bw C E W) (c : Int) : Calls Tryd.prog 34 #[.pointer (some ⟨bw, 0, none⟩), .int .i64 c] W fun e W' => e = .returned (.bool (inL E.length c)) ∧ W' = W := by
  have HC := Lib.hid (Events_ok h)
  by_cases h0 : c ≥ 0
  · by_cases h1 : c < (E.length : Int)
    · have hb : inL E.length c = true := by simp [inL]; omega
      rw [hb]
      clear hb h
      go_enter Tryd.func34, Tryd.ntmps34
      go_wp2_with (go_at_call 22; refine HC.out.mono ?_; rintro e w2 ⟨rfl, hw⟩; rw [hw]; clear hw)
      go_ret
      exact ⟨rfl, rfl⟩
    · have hb : inL E.length c = false := by simp [inL]; omega
      rw [hb]
      have z9 : decide (c < (E.length : Int)) = false := decide_eq_false h1
      clear hb h
      go_enter Tryd.func34, Tryd.ntmps34
      go_wp2_with (go_at_call 22; refine HC.out.mono ?_; rintro e w2 ⟨rfl, hw⟩; rw [hw]; clear hw)
      go_ret
      exact ⟨by rw [← z9]; rfl, rfl⟩
  · have hb : inL E.length c = false := by simp [inL]; omega
    rw [hb]
    clear hb h
    go_enter Tryd.func34, Tryd.ntmps34
    go_wp2_with fail
    go_ret
    exact ⟨rfl, rfl⟩
set_option maxHeartbeats 1000000 in
set_option maxRecDepth 100000 in
theorem On_ok (h : PL own bw C E W) (e : Int) : Calls Tryd.prog 19 #[.pointer (some ⟨bw, 0, none⟩), .int .i64 e] W fun r W' => r = .returned (.bool (onO E e)) ∧ Ext W W' := by
  have hn := h.len.2
  have HX := Lib.hid (Ext.refl W)
  have hh := hasEvent_ok h e
  cases hb : inL E.length e with
  | true =>
    rw [hb] at hh
    have HH := Lib.hid hh
    obtain ⟨k, rfl, hk⟩ := inL_true hb
    obtain ⟨g, c2, x1, y0, hl, _⟩ := h.at_e hk
    have hm : onO E k = E[k] := by simp [onO, hb, hk]
    rw [hm]
    have z1 : (k : Int) < (E.length : Int) := by omega
    clear hm hb h hh
    go_enter Tryd.func19, Tryd.ntmps19
    go_wp2_with (go_at_call 34; refine HH.out.mono ?_; rintro e w2 ⟨rfl, hw⟩; rw [hw]; clear hw)
    go_ret
    exact ⟨rfl, HX.out⟩
  | false =>
    rw [hb] at hh
    have HH := Lib.hid hh
    have hm : onO E e = false := by simp [onO, hb]
    rw [hm]
    clear hm hb h hh
    go_enter Tryd.func19, Tryd.ntmps19
    go_wp2_with (go_at_call 34; refine HH.out.mono ?_; rintro e w2 ⟨rfl, hw⟩; rw [hw]; clear hw)
    go_ret
    exact ⟨rfl, HX.out⟩
set_option maxHeartbeats 2000000 in
set_option maxRecDepth 100000 in
theorem Set_ok (h : PL own bw C E W) (e : Int) (on : Bool) : Calls Tryd.prog 20 #[.pointer (some ⟨bw, 0, none⟩), .int .i64 e, .bool on] W fun r W' => r = .returned (.bool (setR E e on)) ∧ PL own bw C (setL E e on) W' ∧ Kept (pQ own) W W' := by
  have hh := hasEvent_ok h e
  cases hb : inL E.length e with
  | true =>
    rw [hb] at hh
    have HH := Lib.hid hh
    obtain ⟨k, rfl, hk⟩ := inL_true hb
    have hr : setR E k on = (on && !E[k]) := by simp [setR, hb, hk]
    have hs : setL E k on = E.set k on := by simp [setL, hb]
    rw [hr, hs]
    have hlen := h.len.2
    obtain ⟨g, c, x0, y0, yf, yl, hR, hK⟩ := h.set_e hk on
    have HFIN := Lib.hid (And.intro hR hK)
    have hl : bw < W.heap.size := h.lt _ h.ob
    have z2 : (k : Int) < (E.length : Int) := by omega
    clear hb h hr hs hR hK hh
    cases on with
    | true =>
      rw [Bool.true_and]
      go_enter Tryd.func20, Tryd.ntmps20
      go_wp2_with (go_at_call 34; refine HH.out.mono ?_; rintro e w2 ⟨rfl, hw⟩; rw [hw]; clear hw)
      go_ret
      exact ⟨rfl, HFIN.out⟩
    | false =>
      rw [Bool.false_and]
      go_enter Tryd.func20, Tryd.ntmps20
      go_wp2_with (go_at_call 34; refine HH.out.mono ?_; rintro e w2 ⟨rfl, hw⟩; rw [hw]; clear hw)
      go_ret
      exact ⟨rfl, HFIN.out⟩
  | false =>
    rw [hb] at hh
    have HH := Lib.hid hh
    have hr : setR E e on = false := by simp [setR, hb]
    have hs : setL E e on = E := by simp [setL, hb]
    rw [hr, hs]
    have HFIN := Lib.hid (show PL own bw C E W ∧ Kept (pQ own) W W from ⟨h, Kept.refl _ _⟩)
    clear hb h hr hs hh
    go_enter Tryd.func20, Tryd.ntmps20
    go_wp2_with (go_at_call 34; refine HH.out.mono ?_; rintro e w2 ⟨rfl, hw⟩; rw [hw]; clear hw)
    go_ret
    exact ⟨rfl, HFIN.out⟩
end
end Go.Proofs.YtecehjcombkkaaaDoor
