/- The program's lives: Go, New. -/
import Derived.Test.YtecehjcombkkaaaDoorLpC
namespace Go.Proofs.YtecehjcombkkaaaDoor
open Go.RowKit Go.Shelf
attribute [local go_sem] Oper.semAt_some
section
variable {own : Nat → Bool} {bw : Nat} {C : List Int} {E : List Bool} {W W' : World}
theorem goE_zero {c w : Int} (h : goE C c w = 0) : (∃ k : Nat, c = k ∧ k < C.length) ∧ 0 ≤ w ∧ w < 4 := by
  by_cases q1 : inL C.length c = true
  · refine ⟨inL_true q1, ?_⟩
    by_cases q : 0 ≤ w ∧ w < 4
    · exact q
    · rw [goE_wild q] at h; cases h
  · rw [goE_out (by simpa using q1)] at h; cases h
theorem stO_bound (h : ∀ c : Int, -1 ≤ stO C c ∧ stO C c ≤ 3) {k : Nat} (hk : k < C.length) {z : Int} (h1 : -1 ≤ z) (h2 : z ≤ 3) : ∀ c : Int, -1 ≤ stO (C.set k z) c ∧ stO (C.set k z) c ≤ 3 := fun c => by
  rw [stO_set hk]
  split
  · exact ⟨h1, h2⟩
  · exact h c
set_option maxHeartbeats 4000000 in
set_option maxRecDepth 100000 in
theorem Go_ok (h : PL own bw C E W) (c w : Int) : Calls Tryd.prog 17 #[.pointer (some ⟨bw, 0, none⟩), .int .i64 c, .int .i64 w] W fun e W' => e = .returned (.int .i64 (goE C c w)) ∧ ∃ own', PL own' bw (goL C c w) E W' ∧ Kept (pQ own) W W' ∧ ∀ g, own' g = true → own g = true ∨ W.heap.size ≤ g := by
  have hw := wrong_ok h c w
  by_cases hz : goE C c w = 0
  · obtain ⟨⟨k, rfl, hk⟩, w0, w4⟩ := goE_zero hz
    have hl : goL C k w = C.set k w := by simp [goL, hz]
    rw [hl]
    rw [hz] at hw ⊢
    obtain ⟨bm, D, B, d, q⟩ := h.parts
    obtain ⟨_, x0, x1, _, hlb, _, hm, hc, _, _⟩ := id q
    have hn := h.len.1
    have HW := Lib.hid hw
    have HM := Lib.hid hm
    have HKEY := Lib.hid (key_wf (a := (k : Int)) (wf_of ⟨by omega, by omega⟩))
    have hsz : Maps.size D < maxLen := by rw [hc.size]; have := begun_le C; unfold maxLen; omega
    have HSZ := Lib.hid hsz
    have hfin : ∀ w5 : World, w5.ownsMap Tryd.prog 3 (plainElem Tryd.prog 3) bm (Maps.size (putD D k (w + 1))) (putD D k (w + 1)) → Kept (fun b _ => b != bm) W w5 → ∃ own', PL own' bw (C.set k w) E w5 ∧ Kept (pQ own) W w5 ∧ ∀ g, own' g = true → own g = true ∨ W.heap.size ≤ g := fun w5 hm5 hk5 => by
      obtain ⟨r1, r2⟩ := h.put q hk5 hm5 (hc.set hk (z := w) (by omega)) (by simp) (stO_bound h.st hk (by omega) (by omega))
      exact ⟨own, r1, r2, fun g hg => .inl hg⟩
    have HFIN := Lib.hid hfin
    clear hw hm hsz hfin hz hl h q hc hn hk
    rcases four w0 w4 with rfl | rfl | rfl | rfl
    all_goals
      clear w0 w4
      go_enter Tryd.func17, Tryd.ntmps17
      go_wp2_with (first
        | (go_at_call 32; refine HW.out.mono ?_; rintro e w2 ⟨rfl, hw⟩; rw [hw]; clear hw)
        | (at_mapUpdate; refine wpList_mapUpdate_own _ rfl _ _ _ 44 rfl 3 3 law3 Tryd.underlying44 (plainElem Tryd.prog 3) bm _ D rfl HM.out HSZ.out (.int .i64 (k : Int)) _ (tk k) rfl rfl HKEY.out _ [] (Go.plainElem_int Tryd.underlying3 (wf_of ⟨by decide, by decide⟩)) ?_; intro w5 hown5 hgrow5; have HR5 := Lib.hid (HFIN.out w5 (own_size hown5) (Kept.grown hgrow5 fun j o e ho => by injection e with e; subst e; simp)); clear hown5 hgrow5))
      go_ret
      exact ⟨rfl, HR5.out⟩
  · have hl : goL C c w = C := by simp [goL, hz]
    rw [hl]
    have HFIN := Lib.hid (show ∃ own', PL own' bw C E W ∧ Kept (pQ own) W W ∧ ∀ g, own' g = true → own g = true ∨ W.heap.size ≤ g from ⟨own, h, Kept.refl _ _, fun g hg => .inl hg⟩)
    have hb : (goE C c w == 0) = false := by simpa using hz
    generalize goE C c w = z at hw hb ⊢
    have HW := Lib.hid hw
    clear hw hz hl h
    go_enter Tryd.func17, Tryd.ntmps17
    go_wp2_with (go_at_call 32; refine HW.out.mono ?_; rintro e w2 ⟨rfl, hw⟩; rw [hw]; clear hw)
    go_ret
    exact ⟨rfl, HFIN.out⟩
end
/-- Lives of new memory. -/
theorem PL.made {B bm : Nat} {D : DM} {A : Option Addr} {c : Nat} {C : List Int} {E : List Bool} {w : World} {m : Int} (hT : Tab w) (hg : 0 < B) (hB : B ≤ bm) (hm : OM w bm D) (hc : MC C D) (hr : w.ownsRow B 4 1 (.slice A E.length c) E.length (rowV bV E)) (hs : ∀ c : Int, -1 ≤ stO C c ∧ stO C c ≤ 3) (hl : C.length ≤ 1000 ∧ E.length ≤ 1000) (he : m = (C.length : Int)) (hz : B ≤ w.heap.size) :
    ∃ own, PL own w.heap.size C E (w.alloc (.cells #[.int .i64 m, .map (some bm), .slice A E.length c] 46 (0, 0))) ∧ ∀ b, own b = true → B ≤ b := by
  subst he
  have k := (Ext.one w (.cells #[.int .i64 (C.length : Int), .map (some bm), .slice A E.length c] 46 (0, 0))).kept (fun _ _ => true)
  have h0 := World.alloc_heap_new w (.cells #[.int .i64 (C.length : Int), .map (some bm), .slice A E.length c] 46 (0, 0))
  generalize w.alloc (.cells #[.int .i64 (C.length : Int), .map (some bm), .slice A E.length c] 46 (0, 0)) = w' at k h0 ⊢
  have hlm : bm < w.heap.size := by
    obtain ⟨es, clock, k1, _⟩ := hm
    exact (Array.getElem?_eq_some_iff.1 k1).1
  have hlt := (Array.getElem?_eq_some_iff.1 h0).1
  refine ⟨fun b => b == bm || (Value.slice A E.length c).ownBlock == some b || b == w.heap.size, ⟨⟨bm, D, _, h0, by simp, k.map hm rfl, hc, own_low (Nat.zero_le _) (k.row hr fun _ _ => rfl), fun g hg => by simp [hg]⟩, hs, hT.keep k fun _ => rfl, ?_, by simp, fun b hb => ?_, hl⟩, fun b hb => ?_⟩
  · have h1 : 0 ≠ bm := by omega
    have h2 : 0 ≠ w.heap.size := by omega
    have h3 : (Value.slice A E.length c).ownBlock ≠ some 0 := fun e => by have := own_base hr _ e; omega
    cases hq : ((Value.slice A E.length c).ownBlock == some 0) with
    | true => exact absurd (by simpa using hq) h3
    | false => simp; omega
  · simp only [Bool.or_eq_true, beq_iff_eq] at hb
    rcases hb with (rfl | hb) | rfl
    · omega
    · have := own_lt hr b hb; omega
    · omega
  · simp only [Bool.or_eq_true, beq_iff_eq] at hb
    rcases hb with (rfl | hb) | rfl
    · exact hB
    · exact own_base hr b hb
    · exact hz
set_option maxHeartbeats 4000000 in
set_option maxRecDepth 100000 in
theorem New_ok (n : Int) (E : List Bool) (A : Option Addr) (c : Nat) (W : World) (hs : Src W (.slice A E.length c) E.length (rowV bV E)) (ht : Tab W) (h1 : n ≤ 100) (h2 : E.length ≤ 100) :
    Calls Tryd.prog 8 #[.int .i64 n, .slice A E.length c] W fun e W' => ∃ bh own, e = .returned (.pointer (some ⟨bh, 0, none⟩)) ∧ PL own bh (List.replicate n.toNat (-1)) E W' ∧ Ext W W' ∧ ∀ b, own b = true → W.heap.size ≤ b := by
  have hmm := @run_makeMap Tryd.prog
  have hx1 : Ext W (W.alloc (.map #[] 0)) := Ext.one W (.map #[] 0)
  have hom : OM (W.alloc (.map #[] 0)) W.heap.size D0 := World.ownsMap_made W Tryd.prog 3 (plainElem (H := Unit) Tryd.prog 3)
  have hcl := cloneB_ok E A c (hs.ext hx1) (by omega)
  have hz1 := hx1.size
  have hfin : ∀ (m : Int) (w2 : World) (A' : Option Addr) (c' : Nat), m = (n.toNat : Int) → Ext (W.alloc (.map #[] 0)) w2 → w2.ownsRow (W.alloc (.map #[] 0)).heap.size 4 1 (.slice A' E.length c') E.length (rowV bV E) →
      ∃ own, PL own w2.heap.size (List.replicate n.toNat (-1)) E (w2.alloc (.cells #[.int .i64 m, .map (some W.heap.size), .slice A' E.length c'] 46 (0, 0))) ∧ Ext W (w2.alloc (.cells #[.int .i64 m, .map (some W.heap.size), .slice A' E.length c'] 46 (0, 0))) ∧ ∀ b, own b = true → W.heap.size ≤ b := fun m w2 A' c' hm hx hr => by
    have hk := (hx1.trans hx).kept (fun _ _ => true)
    obtain ⟨own, p1, p2⟩ := PL.made (C := List.replicate n.toNat (-1)) (m := m) (ht.keep hk fun _ => rfl) ht.2 (Nat.le_refl _) ((hx.kept (fun _ _ => true)).map hom rfl) (MC.new n.toNat) (own_low hz1 hr) (fun c => by rw [stO_none]; omega) (by simp; omega) (by simpa using hm) (hx1.trans hx).size
    exact ⟨own, p1, (hx1.trans hx).trans (Ext.one _ _), p2⟩
  have HCL := Lib.hid hcl
  have HFIN := Lib.hid hfin
  clear hx1 hom hcl hz1 hfin hs ht
  generalize List.replicate n.toNat (-1) = C0 at HFIN ⊢
  rcases Int.lt_trichotomy n 0 with hn | rfl | hn
  · have HN := Lib.hid (show (0 : Int) = (n.toNat : Int) by omega)
    have hn' : ¬ 0 ≤ n := by omega
    have hn2 : n ≤ 0 := by omega
    go_enter Tryd.func8, Tryd.ntmps8
    go_wp2_with (go_at_call 23; refine HCL.out.mono ?_; rintro e w2 ⟨A', c', rfl, hx2, hr2⟩; have HR2 := Lib.hid (HFIN.out _ w2 A' c' HN.out hx2 hr2); clear hx2 hr2)
    go_ret
    obtain ⟨own, p1, p2, p3⟩ := HR2.out
    first
      | exact ⟨_, own, rfl, p1, p2, p3⟩
      | exact ⟨_, rfl, own, p1, p2, p3⟩
  · have HN := Lib.hid (show (0 : Int) = ((0 : Int).toNat : Int) by omega)
    go_enter Tryd.func8, Tryd.ntmps8
    go_wp2_with (go_at_call 23; refine HCL.out.mono ?_; rintro e w2 ⟨A', c', rfl, hx2, hr2⟩; have HR2 := Lib.hid (HFIN.out _ w2 A' c' HN.out hx2 hr2); clear hx2 hr2)
    go_ret
    obtain ⟨own, p1, p2, p3⟩ := HR2.out
    first
      | exact ⟨_, own, rfl, p1, p2, p3⟩
      | exact ⟨_, rfl, own, p1, p2, p3⟩
  · have HN := Lib.hid (show n = (n.toNat : Int) by omega)
    go_enter Tryd.func8, Tryd.ntmps8
    go_wp2_with (go_at_call 23; refine HCL.out.mono ?_; rintro e w2 ⟨A', c', rfl, hx2, hr2⟩; have HR2 := Lib.hid (HFIN.out _ w2 A' c' HN.out hx2 hr2); clear hx2 hr2)
    go_ret
    obtain ⟨own, p1, p2, p3⟩ := HR2.out
    first
      | exact ⟨_, own, rfl, p1, p2, p3⟩
      | exact ⟨_, rfl, own, p1, p2, p3⟩
end Go.Proofs.YtecehjcombkkaaaDoor
