/- What is looked up in a machine of one task; a mark more; An access is marked; slices.Clone at the seat, of switches and of numbers; A thread's step that only asks (OpStore, OpLog); Done of it; Next; A thread's Done of an instruction that sets no register; its Next; Code with a communication in it, walked in a frame of an ordinary call; a select of one case with a default: of no law of its own. -/
import Derived.Test.YtfljmdpigckpkaaGreatDoorB25
import Derived.Test.YtfljmdpigckpkaaGreatDoorB01
import Derived.Test.YtfljmdpigckpkaaGreatDoorB12
import Derived.Conc.LoneSelect
namespace Go.Proofs.YtfljmdpigckpkaaGreatDoor
open Go.RowKit Go.Shelf
attribute [local go_sem] Oper.semAt_some
/-- What stands beside a machine while an instruction is done. -/
def pD : Nat → Option TypeId → Bool := fun _ t => t == some 338 || t == some 255
section
variable {W3 w w' : World} {L : Lay} {s : Sta}
theorem mv_cells {lv mv : Value} (h : w.heap[L.bm]? = some (MVof L s lv mv).o) : w.cell? ⟨L.bm, 0, none⟩ = some (.pointer (some ⟨L.bc, 0, none⟩)) ∧ w.cell? ⟨L.bm, 9, none⟩ = some (.map (some L.bd)) ∧ w.cell? ⟨L.bm, 10, none⟩ = some (.pointer (some ⟨L.bh, 0, none⟩)) ∧ w.cell? ⟨L.bm, 11, none⟩ = some (.slice (some ⟨L.gG, 0, none⟩) s.G.length L.cG) ∧ w.cell? ⟨L.bm, 12, none⟩ = some lv ∧ w.cell? ⟨L.bm, 15, none⟩ = some (.slice (some ⟨L.gT, 0, none⟩) 1 L.cT) ∧ w.cell? ⟨L.bm, 16, none⟩ = some (.slice (some ⟨L.gL, 0, none⟩) 2 L.cL) ∧ w.cell? ⟨L.bm, 17, none⟩ = some mv ∧ w.cell? ⟨L.bm, 18, none⟩ = some (.int .i64 0) ∧ w.cell? ⟨L.bm, 19, none⟩ = some (.int .i64 s.steps) ∧ w.cell? ⟨L.bm, 20, none⟩ = some (.bool s.full) ∧ L.bm < w.heap.size ∧ ∀ n, w.frozen? ⟨L.bm, n, none⟩ = false := by
  obtain ⟨c0, c1, c2, c3, c4, c5, c6, c7, c8, c9, c10, c11, c12, c13, c14, c15, c16, c17, c18, c19, c20, cl, cz⟩ := MV.cells h
  exact ⟨c0, c9, c10, c11, c12, c15, c16, c17, c18, c19, c20, cl, cz⟩
/-- The cells of a machine that are looked at. -/
theorem MA.cells (a : MA W3 L s w) : ∃ lv mv, w.heap[L.bm]? = some (MVof L s lv mv).o ∧ w.ownsRow W3.heap.size 130 8 mv s.M.length (s.M.flatMap Mk.cells) ∧ w.ownsRow W3.heap.size 2 1 lv s.lg.length (rowV iV s.lg) ∧ ∀ b, lv.ownBlock = some b → b ≠ L.gG ∧ b ≠ L.gr := a.m
theorem MA.task (a : MA W3 L s w) : w.cell? ⟨L.gT, 0, none⟩ = some (.pointer (some ⟨L.b1, 0, none⟩)) := a.T.cells (g := L.gT) rfl 0 _ rfl
theorem MA.loop0 (a : MA W3 L s w) : w.cell? ⟨L.gL, 0, none⟩ = some (.pointer (some ⟨L.l0, 0, none⟩)) := a.P.cells (g := L.gL) rfl 0 _ rfl
theorem MA.loop1 (a : MA W3 L s w) : w.cell? ⟨L.gL, 1, none⟩ = some (.pointer (some ⟨L.l1, 0, none⟩)) := a.P.cells (g := L.gL) rfl 1 _ rfl
theorem MA.lts (a : MA W3 L s w) : L.gT < w.heap.size ∧ L.gL < w.heap.size := ⟨own_lt a.T L.gT rfl, own_lt a.P L.gL rfl⟩
/-- The cells of the first task that are looked at. -/
theorem MA.tcells (a : MA W3 L s w) : w.cell? ⟨L.b1, 0, none⟩ = some (.int .i64 1) ∧ w.cell? ⟨L.b1, 4, none⟩ = some (.int .i64 0) ∧ w.cell? ⟨L.b1, 10, none⟩ = some (.int .i64 0) ∧ w.cell? ⟨L.b1, 11, none⟩ = some (.int .i64 s.state) ∧ w.cell? ⟨L.b1, 12, none⟩ = some (.int .i64 s.trap) ∧ w.cell? ⟨L.b1, 15, none⟩ = some s.th ∧ L.b1 < w.heap.size ∧ ∀ n, w.frozen? ⟨L.b1, n, none⟩ = false := by
  obtain ⟨c0, c1, c2, c3, c4, c5, c6, c7, c8, c9, c10, c11, c12, c13, c14, c15, cl, cz⟩ := TV.cells a.t
  exact ⟨c0, c4, c10, c11, c12, c15, cl, cz⟩
set_option maxHeartbeats 2000000
set_option maxRecDepth 100000
theorem isNone_m (a : MA W3 L s w) : Calls Tryz.prog 51 #[.pointer (some ⟨L.bm, 0, none⟩)] w fun e w' => e = .returned (.bool false) ∧ w' = w := by
  obtain ⟨lv, mv, m1, _⟩ := a.m
  obtain ⟨c0, c9, c10, c11, c12, c15, c16, c17, c18, c19, c20, cl, cz⟩ := mv_cells m1
  clear a m1
  go_enter Tryz.func51, Tryz.ntmps51
  go_wp2_with fail
  go_ret
  exact ⟨rfl, rfl⟩
theorem there_m (b : Nat) (w : World) : Calls Tryz.prog 48 #[.pointer (some ⟨b, 0, none⟩)] w fun e w' => e = .returned (.pointer (some ⟨b, 0, none⟩)) ∧ w' = w := by
  go_enter Tryz.func48, Tryz.ntmps48
  go_wp2_with fail
  go_ret
  exact ⟨rfl, rfl⟩
theorem find_m (a : MA W3 L s w) : Calls Tryz.prog 116 #[.pointer (some ⟨L.bm, 0, none⟩), .int .i64 1] w fun e w' => e = .returned (.pointer (some ⟨L.b1, 0, none⟩)) ∧ w' = w := by
  obtain ⟨lv, mv, m1, _⟩ := a.m
  obtain ⟨c0, c9, c10, c11, c12, c15, c16, c17, c18, c19, c20, cl, cz⟩ := mv_cells m1
  have ct := a.task
  have lt := a.lts
  obtain ⟨l1, l2⟩ := lt
  clear a m1
  go_enter Tryz.func116, Tryz.ntmps116
  go_wp2_with fail
  go_ret
  exact ⟨rfl, rfl⟩
theorem worker_m (a : MA W3 L s w) : Calls Tryz.prog 66 #[.pointer (some ⟨L.bm, 0, none⟩), .int .i64 1] w fun e w' => e = .returned (.pointer none) ∧ w' = w := by
  have H := Lib.hid (find_m a)
  obtain ⟨t0, t4, t10, t11, t12, t15, tl, tz⟩ := a.tcells
  clear a
  go_enter Tryz.func66, Tryz.ntmps66
  go_wp2_with (go_at_call 116; refine H.out.mono ?_; rintro e w2 ⟨rfl, hw⟩; rw [hw]; clear hw)
  go_ret
  exact ⟨rfl, rfl⟩
theorem ofWorker_m (a : MA W3 L s w) : Calls Tryz.prog 49 #[.pointer (some ⟨L.bm, 0, none⟩), .int .i64 1] w fun e w' => e = .returned (.int .i64 0) ∧ w' = w := by
  have H := Lib.hid (worker_m a)
  clear a
  go_enter Tryz.func49, Tryz.ntmps49
  go_wp2_with (go_at_call 66; refine H.out.mono ?_; rintro e w2 ⟨rfl, hw⟩; rw [hw]; clear hw)
  go_ret
  exact ⟨rfl, rfl⟩
theorem infoMk : (Tryz.prog.info? 130).map (fun i => (i.zero, i.size, i.bytes)) = some (some (.agg #[.int .i64 0, .int .i64 0, .int .i64 0, .int .i64 0, .int .i64 0, .int .i64 0, .int .i64 0, .bool false]), 8, 64) := by kernel_rfl
theorem mark_m (a : MA W3 L s w) (y : Mk) (hl : s.M.length ≤ 100000) : Calls Tryz.prog 251 #[.pointer (some ⟨L.bm, 0, none⟩), y.v] w fun e w' => e = .returned (.tuple #[]) ∧ MA W3 L { s with M := s.M ++ [y] } w' ∧ Kept pD w w' := by
  obtain ⟨W1, hW1⟩ : ∃ W1, W1 = w.alloc (.cells y.cells.toArray 130) := ⟨_, rfl⟩
  have hx1 : Ext w W1 := by rw [hW1]; exact Ext.one _ _
  have hb1 : W1.heap[w.heap.size]? = some (.cells y.cells.toArray 130 (0, 0)) := by rw [hW1]; exact World.alloc_heap_new _ _
  have a1 := a.ext hx1
  obtain ⟨lv, mv, m1, m2, m3, m4⟩ := a1.m
  obtain ⟨c0, c9, c10, c11, c12, c15, c16, c17, c18, c19, c20, cl, cz⟩ := mv_cells m1
  obtain ⟨A, c, e⟩ := own_slice3 m2
  obtain ⟨i0, hi0, hz0, hz1, hz2⟩ := infoParts infoMk
  have y0 : W1.cell? ⟨w.heap.size, 0, none⟩ = some (.int .i64 y.kind) := by simp [World.cell?, hb1, Mk.cells]
  have y1 : W1.cell? ⟨w.heap.size, 1, none⟩ = some (.int .i64 y.task) := by simp [World.cell?, hb1, Mk.cells]
  have y2 : W1.cell? ⟨w.heap.size, 2, none⟩ = some (.int .i64 y.other) := by simp [World.cell?, hb1, Mk.cells]
  have y3 : W1.cell? ⟨w.heap.size, 3, none⟩ = some (.int .i64 y.site) := by simp [World.cell?, hb1, Mk.cells]
  have y4 : W1.cell? ⟨w.heap.size, 4, none⟩ = some (.int .i64 y.lk) := by simp [World.cell?, hb1, Mk.cells]
  have y5 : W1.cell? ⟨w.heap.size, 5, none⟩ = some (.int .i64 y.la) := by simp [World.cell?, hb1, Mk.cells]
  have y6 : W1.cell? ⟨w.heap.size, 6, none⟩ = some (.int .i64 y.lb) := by simp [World.cell?, hb1, Mk.cells]
  have y7 : W1.cell? ⟨w.heap.size, 7, none⟩ = some (.bool y.wr) := by simp [World.cell?, hb1, Mk.cells]
  have yl := (Array.getElem?_eq_some_iff.1 hb1).1
  rw [e] at c17
  have HA := Lib.hid a1
  have HM := Lib.hid (fun (w : World) (k : Ext W1 w) => And.intro ((k.kept (fun _ _ => true)).same _ _ m1 rfl) (And.intro ((k.kept (fun _ _ => true)).row m2 fun _ _ => rfl) (And.intro ((k.kept (fun _ _ => true)).row m3 fun _ _ => rfl) m4)))
  have HROW := Lib.hid (fun w (k : Ext W1 w) => show w.ownsRow W3.heap.size 130 8 (.slice A s.M.length c) s.M.length (s.M.flatMap Mk.cells) from e ▸ (k.kept (fun _ _ => true)).row m2 fun _ _ => rfl)
  have HE := Lib.hid e
  have HW := Lib.hid hW1
  have HL := Lib.hid hl
  have HX1 := Lib.hid hx1
  have HS3 := Lib.hid (Nat.le_trans a1.x3.size (Nat.le_refl _))
  clear a a1 hx1 hb1 hW1 m1 m2 m3 m4 e hl
  unfold Mk.v
  go_enter Tryz.func251, Tryz.ntmps251
  go_upto_region 1 with (fail)
  change Code.wp _ _ _ _ (w.alloc (.cells y.cells.toArray 130))
  rw [← HW.out]
  generalize w.heap.size = by1 at *
  clear HW
  go_region_law (
    (refine step_append_any (by rfl) _ _ _ (by rfl) W3.heap.size 130 i0 (.agg #[.int .i64 0, .int .i64 0, .int .i64 0, .int .i64 0, .int .i64 0, .int .i64 0, .int .i64 0, .bool false]) 8 64 Tryz.underlying47 hi0 hz0 hz1 hz2 rfl (by omega) (.slice A s.M.length c) s.M.length (s.M.flatMap Mk.cells) (by rfl) (HROW.out _ ((Ext.drew _).trans (Ext.one _ _))) (.slice (some ⟨W1.heap.size, 0, none⟩) 1 1) 1 y.cells (by rfl) (by rfl) (Src.of (base := 0) (e := 130) (size := 8) ⟨rfl, .inr ⟨W1.heap.size, 1, y.cells.toArray, rfl, Nat.zero_le _, heap_alloc_new W1.drew _, by omega, by decide, rfl, rfl⟩⟩ rfl) (by intro u hu; simp [Mk.cells] at hu; rcases hu with rfl | rfl | rfl | rfl | rfl | rfl | rfl | rfl <;> rfl) (by have := HL.out; unfold maxLen; omega) (by have := HL.out; omega) (Nat.le_trans HS3.out (Kept.size ((Ext.drew _).trans (Ext.one _ _)))) (s.M.length + 1) rfl ((s.M ++ [y]).flatMap Mk.cells) (by simp) ?_; intro A2 c2 w4 hown4 hgrow4 hat4; have hk := (Ext.drew W1).trans (Ext.one W1.drew (.cells y.cells.toArray 130)); obtain ⟨n1, n2, n3, n4⟩ := HM.out _ hk; obtain ⟨n5, hma⟩ := (HA.out.ext hk).push n1 n2 n3 n4 (HE.out ▸ hgrow4) hown4 rfl; have hkd : Kept pD w (w4.setCell ⟨L.bm, 17, none⟩ (.slice A2 (s.M.length + 1) c2)) := (((HX1.out.trans hk).kept pD).trans (Kept.grown hgrow4 fun j o e ho => by rw [(own_tag (HROW.out _ hk) j o e ho).1]; rfl)).trans (Kept.setCell _ fun o ho => by rw [n5] at ho; cases ho; rfl); have HMA := Lib.hid (And.intro hma hkd); obtain ⟨d0, d9, d10, d11, d12, d15, d16, d17, d18, d19, d20, dl, dz⟩ := mv_cells n5; rw [HE.out] at d17; clear hown4 hgrow4 hat4 hk n1 n2 n3 n4 n5 hma hkd d0 d9 d10 d11 d12 d15 d16 d18 d19 d20))
  all_goals
    go_wp2_with fail
    go_end0
    exact ⟨rfl, HMA.out⟩
end
end Go.Proofs.YtfljmdpigckpkaaGreatDoor

namespace Go.Proofs.YtfljmdpigckpkaaGreatDoor
open Go.RowKit Go.Shelf
attribute [local go_sem] Oper.semAt_some
section
variable {W3 w w' : World} {L : Lay} {s : Sta}
set_option maxHeartbeats 2000000
set_option maxRecDepth 100000
theorem access_m (a : MA W3 L s w) (t st lk la lb : Int) (wr : Bool) (hl : s.M.length ≤ 100000) : Calls Tryz.prog 260 #[.pointer (some ⟨L.bm, 0, none⟩), .int .i64 t, .agg #[.int .i64 st, .int .i64 lk, .int .i64 la, .int .i64 lb, .bool wr]] w fun e w' => e = .returned (.tuple #[]) ∧ MA W3 L { s with M := s.M ++ [⟨3, t, 0, st, lk, la, lb, wr⟩] } w' ∧ Kept pD w w' := by
  have HX := Lib.hid (Ext.one w (.cells #[.int .i64 st, .int .i64 lk, .int .i64 la, .int .i64 lb, .bool wr] 128))
  have H := Lib.hid (mark_m (a.ext (Ext.one w (.cells #[.int .i64 st, .int .i64 lk, .int .i64 la, .int .i64 lb, .bool wr] 128))) ⟨3, t, 0, st, lk, la, lb, wr⟩ hl)
  unfold Mk.v at H
  clear a
  go_enter Tryz.func260, Tryz.ntmps260
  go_wp2_with (go_at_call 251; refine H.out.mono ?_; rintro e w2 ⟨rfl, h2, k2⟩; have H2 := Lib.hid (And.intro h2 ((HX.out.kept pD).trans k2)); clear h2 k2)
  go_end0
  exact ⟨rfl, H2.out⟩
theorem daccess_m (a : MA W3 L s w) {d : Nat} {v : DV} (hd : w.heap[d]? = some v.o) (hv : v.bm = L.bm) (lk la : Int) (wr : Bool) (hl : s.M.length ≤ 100000) : Calls Tryz.prog 246 #[.pointer (some ⟨d, 0, none⟩), .int .i64 lk, .int .i64 la, .bool wr] w fun e w' => e = .returned (.tuple #[]) ∧ MA W3 L { s with M := s.M ++ [⟨3, v.task, 0, v.site, lk, la, 0, wr⟩] } w' ∧ Kept pD w w' := by
  have H := Lib.hid (fun w' (k : Ext w w') => access_m (a.ext k) v.task v.site lk la 0 wr hl)
  obtain ⟨c0, c1, c2, c3, c4, c5, c6, c7, c8, c9, c10, cl, cz⟩ := DV.cells hd
  rw [hv] at c0
  clear a hd
  go_enter Tryz.func246, Tryz.ntmps246
  go_still_tail 18, (by kernel_rfl)
  go_wp2_with (go_at_call 260; refine (H.out _ (Ext.drew _)).mono ?_; rintro e w2 ⟨rfl, h2, k2⟩; have H2 := Lib.hid (And.intro h2 (((Ext.drew w).kept pD).trans k2)); clear h2 k2)
  go_end0
  exact ⟨rfl, H2.out⟩
end
end Go.Proofs.YtfljmdpigckpkaaGreatDoor

namespace Go.Proofs.YtfljmdpigckpkaaGreatDoor
open Go.RowKit Go.Shelf
attribute [local go_sem] Oper.semAt_some
@[go_sem] theorem eqnilB_none (n c : Nat) (w : World) : (binOp .eql 169 (.slice none n c) (.slice none 0 0)).run Tryz.prog w = .ok (.bool true) w := by kernel_rfl
@[go_sem] theorem eqnilB_some (ad : Addr) (n c : Nat) (w : World) : (binOp .eql 169 (.slice (some ad) n c) (.slice none 0 0)).run Tryz.prog w = .ok (.bool false) w := by kernel_rfl
@[go_sem] theorem eqnilI_none (n c : Nat) (w : World) : (binOp .eql 23 (.slice none n c) (.slice none 0 0)).run Tryz.prog w = .ok (.bool true) w := by kernel_rfl
@[go_sem] theorem eqnilI_some (ad : Addr) (n c : Nat) (w : World) : (binOp .eql 23 (.slice (some ad) n c) (.slice none 0 0)).run Tryz.prog w = .ok (.bool false) w := by kernel_rfl
set_option maxHeartbeats 1000000 in
set_option maxRecDepth 100000 in
theorem cloneB_ok {W : World} (l : List Bool) (A : Option Addr) (c : Nat) (hs : Src W (.slice A l.length c) l.length (rowV bV l)) (hl : l.length ≤ 100000) :
    Calls Tryz.prog 126 #[.slice A l.length c] W fun e W' => ∃ A' c', e = .returned (.slice A' l.length c') ∧ Ext W W' ∧ W'.ownsRow W.heap.size 4 1 (.slice A' l.length c') l.length (rowV bV l) := by
  obtain ⟨i0, hi0, hz0, hz1, hz2⟩ := infoParts infoBool
  cases A with
  | none =>
    have hnil : c = 0 ∧ l = [] := by
      rcases hs with ⟨e, h2, h3⟩ | ⟨ad, c', e, _⟩
      · injection e with _ _ e
        exact ⟨e, List.eq_nil_of_length_eq_zero h2⟩
      · injection e with e
        cases e
    obtain ⟨rfl, rfl⟩ := hnil
    go_enter Tryz.func126, Tryz.ntmps126
    go_wp2_with fail
    exact bodyPost_ret (v := .slice none 0 0) (by simp [results, Tryz.results126, go_sem]) rfl ⟨none, 0, rfl, Ext.refl _, World.ownsRow_nil _ _ _ _⟩
  | some ad =>
    have hn : (W.alloc (.cells #[] 4 (0, 0))).ownsRow W.heap.size 4 1 (.slice (some ⟨W.heap.size, 0, none⟩) 0 0) 0 [] := ⟨rfl, .inr ⟨W.heap.size, 0, #[], rfl, Nat.le_refl _, World.alloc_heap_new _ _, Nat.le_refl _, by unfold maxLen; omega, rfl, rfl⟩⟩
    have HN := Lib.hid hn
    have HS := Lib.hid (hs.ext (Ext.one W (.cells #[] 4 (0, 0))))
    have HONE := Lib.hid (rowV_one (f := bV) (l := l) fun _ => rfl)
    have HLEN := Lib.hid (rowV_len (f := bV) (l := l))
    clear hs hn
    go_enter Tryz.func126, Tryz.ntmps126
    go_wp2_with (at_builtin; refine wpList_append_any rfl _ _ 169 rfl W.heap.size 4 i0 (.bool false) 1 1 Tryz.underlying169 hi0 hz0 hz1 hz2 rfl (by decide) (.slice (some ⟨W.heap.size, 0, none⟩) 0 0) 0 [] rfl HN.out (.slice (some ad) l.length c) l.length (rowV bV l) rfl HLEN.out HS.out HONE.out (by unfold maxLen; omega) (by omega) (by simp) l.length (by omega) (rowV bV l) (by simp) ?_; intro A1 c1 w1 hown1 hgrow1 hat1; have HX1 := Lib.hid (grown_ext (Ext.one W (.cells #[] 4 (0, 0))) hgrow1 (by intro b hb; simp [Value.ownBlock] at hb; omega)); have HO1 := Lib.hid hown1; clear hown1 hgrow1 hat1)
    go_ret
    exact ⟨A1, c1, rfl, HX1.out, HO1.out⟩
set_option maxHeartbeats 1000000 in
set_option maxRecDepth 100000 in
theorem cloneI_ok {W : World} (l : List Int) (A : Option Addr) (c : Nat) (hs : Src W (.slice A l.length c) l.length (rowV iV l)) (hl : l.length ≤ 100000) :
    Calls Tryz.prog 69 #[.slice A l.length c] W fun e W' => ∃ A' c', e = .returned (.slice A' l.length c') ∧ Ext W W' ∧ W'.ownsRow W.heap.size 3 1 (.slice A' l.length c') l.length (rowV iV l) := by
  obtain ⟨i0, hi0, hz0, hz1, hz2⟩ := infoParts infoInt
  cases A with
  | none =>
    have hnil : c = 0 ∧ l = [] := by
      rcases hs with ⟨e, h2, h3⟩ | ⟨ad, c', e, _⟩
      · injection e with _ _ e
        exact ⟨e, List.eq_nil_of_length_eq_zero h2⟩
      · injection e with e
        cases e
    obtain ⟨rfl, rfl⟩ := hnil
    go_enter Tryz.func69, Tryz.ntmps69
    go_wp2_with fail
    exact bodyPost_ret (v := .slice none 0 0) (by simp [results, Tryz.results69, go_sem]) rfl ⟨none, 0, rfl, Ext.refl _, World.ownsRow_nil _ _ _ _⟩
  | some ad =>
    have hn : (W.alloc (.cells #[] 3 (0, 0))).ownsRow W.heap.size 3 1 (.slice (some ⟨W.heap.size, 0, none⟩) 0 0) 0 [] := ⟨rfl, .inr ⟨W.heap.size, 0, #[], rfl, Nat.le_refl _, World.alloc_heap_new _ _, Nat.le_refl _, by unfold maxLen; omega, rfl, rfl⟩⟩
    have HN := Lib.hid hn
    have HS := Lib.hid (hs.ext (Ext.one W (.cells #[] 3 (0, 0))))
    have HONE := Lib.hid (rowV_one (f := iV) (l := l) fun _ => rfl)
    have HLEN := Lib.hid (rowV_len (f := iV) (l := l))
    clear hs hn
    go_enter Tryz.func69, Tryz.ntmps69
    go_wp2_with (at_builtin; refine wpList_append_any rfl _ _ 23 rfl W.heap.size 3 i0 (.int .i64 0) 1 8 Tryz.underlying23 hi0 hz0 hz1 hz2 rfl (by decide) (.slice (some ⟨W.heap.size, 0, none⟩) 0 0) 0 [] rfl HN.out (.slice (some ad) l.length c) l.length (rowV iV l) rfl HLEN.out HS.out HONE.out (by unfold maxLen; omega) (by omega) (by simp) l.length (by omega) (rowV iV l) (by simp) ?_; intro A1 c1 w1 hown1 hgrow1 hat1; have HX1 := Lib.hid (grown_ext (Ext.one W (.cells #[] 3 (0, 0))) hgrow1 (by intro b hb; simp [Value.ownBlock] at hb; omega)); have HO1 := Lib.hid hown1; clear hown1 hgrow1 hat1)
    go_ret
    exact ⟨A1, c1, rfl, HX1.out, HO1.out⟩
end Go.Proofs.YtfljmdpigckpkaaGreatDoor

namespace Go.Proofs.YtfljmdpigckpkaaGreatDoor
open Go.RowKit Go.Shelf
attribute [local go_sem] Oper.semAt_some
def ask6 (w : World) (b : Nat) (v0 v1 v2 v3 v4 v5 : Value) : World := (((((w.setCell ⟨b, 0, none⟩ v0).setCell ⟨b, 1, none⟩ v1).setCell ⟨b, 2, none⟩ v2).setCell ⟨b, 3, none⟩ v3).setCell ⟨b, 4, none⟩ v4).setCell ⟨b, 5, none⟩ v5
theorem ask6_ok {w : World} {b : Nat} {u0 u1 u2 u3 u4 u5 : Value} (h : w.heap[b]? = some (asko u0 u1 u2 u3 u4 u5)) (v0 v1 v2 v3 v4 v5 : Value) : (ask6 w b v0 v1 v2 v3 v4 v5).heap[b]? = some (asko v0 v1 v2 v3 v4 v5) ∧ Kept (ne' b) w (ask6 w b v0 v1 v2 v3 v4 v5) :=
  set_range (b := b) (t := 143) [v0, v1, v2, v3, v4, v5] [] [u0, u1, u2, u3, u4, u5] w h rfl
def askV (o s n v l : Int) : Value := .agg #[.int .i64 o, .int .i64 s, .int .i64 n, .int .i64 v, .int .i64 l, .slice none 0 0]
def ins8 (w : World) (b : Nat) (y : Ins) : World := (((((((w.setCell ⟨b, 0, none⟩ (.int .i64 y.op)).setCell ⟨b, 1, none⟩ (.int .i64 y.a)).setCell ⟨b, 2, none⟩ (.int .i64 y.b)).setCell ⟨b, 3, none⟩ (.int .i64 y.c)).setCell ⟨b, 4, none⟩ (.int .i64 y.n)).setCell ⟨b, 5, none⟩ (.slice y.lA y.l.length y.lC)).setCell ⟨b, 6, none⟩ (.int .i64 y.site)).setCell ⟨b, 7, none⟩ (.int .i64 y.line)
section
variable {bt g bf gr bc bh : Nat} {k : Nat} {R : List Int} {W : World} {Q : Prg}
set_option maxHeartbeats 4000000
set_option maxRecDepth 100000
theorem asked_A {y : Ins} (hop : y.op = 10 ∨ y.op = 30) {a : Nat} (ha : y.a = a) (hl : a < R.length) (hr : W.ownsRow 0 2 1 (.slice (some ⟨gr, 0, none⟩) R.length R.length) R.length (rowV iV R)) :
    Calls Tryz.prog 121 #[y.v, .slice (some ⟨gr, 0, none⟩) R.length R.length] W fun e W' => e = .returned (askV y.op y.site y.n (R.getD a 0) 0) ∧ Ext W W' := by
  obtain ⟨W1, hW1⟩ : ∃ W1, W1 = (W.alloc y.o).alloc zask := ⟨_, rfl⟩
  have hx1 : Ext W W1 := by rw [hW1]; exact Ext.two _ _ _
  have hb1 : W1.heap[W.heap.size]? = some y.o := by rw [hW1]; exact (Below.heap_alloc _ _ _ (by simp)).trans (World.alloc_heap_new _ _)
  have hb2 : W1.heap[W.heap.size + 1]? = some zask := by
    rw [hW1]
    have := World.alloc_heap_new (W.alloc y.o) zask
    rwa [World.size_alloc] at this
  obtain ⟨W2, hW2⟩ : ∃ W2, W2 = W1.alloc (asko (.int .i64 y.op) (.int .i64 y.site) (.int .i64 y.n) (.int .i64 0) (.int .i64 0) (.slice none 0 0)) := ⟨_, rfl⟩
  have hx2 : Ext W1 W2 := by rw [hW2]; exact Ext.one _ _
  have hb3 : W2.heap[W1.heap.size]? = some (asko (.int .i64 y.op) (.int .i64 y.site) (.int .i64 y.n) (.int .i64 0) (.int .i64 0) (.slice none 0 0)) := by rw [hW2]; exact World.alloc_heap_new _ _
  have hl1 := (Array.getElem?_eq_some_iff.1 hb2).1
  obtain ⟨g', c', e1, r1, rl⟩ := own1_cell (((hx1.trans hx2).kept (fun _ _ => true)).row hr fun _ _ => rfl) hl
  obtain rfl : gr = g' := by injection e1 with e; injection e with e; injection e
  have r2 : W2.cell? ⟨gr, a, none⟩ = some (.int .i64 (R.getD a 0)) := by rw [r1]; simp [iV, List.getD_eq_getElem?_getD, hl]
  obtain ⟨i0, i1, i2, i3, i4, i5, i6, i7, il⟩ := Ins.o_cells hb1
  obtain ⟨j0, j1, j2, j3, j4, j5, j6, j7, jl⟩ := Ins.o_cells ((hx2.kept (fun _ _ => true)).same _ _ hb1 rfl)
  rw [ha] at j1
  have HB2 := Lib.hid ((hx2.kept (fun _ _ => true)).same _ _ hb2 rfl)
  have HB3 := Lib.hid hb3
  have HW1 := Lib.hid hW1
  have HW2 := Lib.hid hW2
  have HX := Lib.hid (hx1.trans hx2)
  have HX1 := Lib.hid hx1
  have HL1 := Lib.hid hl1
  have z0 : (a : Int) < (R.length : Int) := by omega
  have HP := Lib.hid hop
  generalize hv : R.getD a 0 = v at r2 ⊢
  clear hr hx1 hx2 hb1 hb2 hb3 e1 r1 hW1 hW2 ha hl hop hl1 hv
  unfold Ins.v askV
  go_enter Tryz.func121, Tryz.ntmps121
  go_upto_region 1 with (fail)
  change Code.wp _ _ _ _ ((W.alloc y.o).alloc zask)
  rw [← HW1.out]
  generalize hz : W.heap.size = bx at *
  go_upto_region 2 with (fail)
  change Code.wp _ _ _ _ (W1.alloc (asko (.int .i64 y.op) (.int .i64 y.site) (.int .i64 y.n) (.int .i64 0) (.int .i64 0) (.slice none 0 0)))
  rw [← HW2.out]
  generalize W1.heap.size = b3 at *
  obtain ⟨d0, d1, d2, d3, d4, d5, dl, dz⟩ := asko_cells HB3.out
  clear i0 i1 i2 i3 i4 i5 i6 i7 il
  have hfin : (W2.setCell ⟨b3, 3, none⟩ (.int .i64 v)).heap[b3]? = some (asko (.int .i64 y.op) (.int .i64 y.site) (.int .i64 y.n) (.int .i64 v) (.int .i64 0) (.slice none 0 0)) := by
    rw [heap_setCell_same W2 b3 3 _ _ _ HB3.out]; rfl
  have hk3 : Kept (ne' b3) W2 (W2.setCell ⟨b3, 3, none⟩ (.int .i64 v)) := Kept.setCell _ fun o ho => by simp [ne']
  have hb2' := hk3.same _ _ HB2.out (by have := HL1.out; simp only [ne', bne_iff_ne]; omega)
  have HXF := Lib.hid (ext_ne HX.out hk3 (by have := HL1.out; omega))
  have HFIN := Lib.hid hfin
  have HB2' := Lib.hid hb2'
  clear hfin hk3 hb2'
  clear HW1 HW2
  rcases HP.out with e | e
  all_goals
    go_upto_region 13 with (fail)
    clear d0 d1 d2 d3 d4 d5 dl dz j0 j1 j2 j3 j4 j5 j6 j7 jl r2
    generalize W2.setCell _ _ = W3 at *
    obtain ⟨d0, d1, d2, d3, d4, d5, dl, dz⟩ := asko_cells HFIN.out
    obtain ⟨f0, f1, f2, f3, f4, f5, fl, fz⟩ := asko_cells (show W3.heap[bx + 1]? = some (asko _ _ _ _ _ _) from HB2'.out)
    go_wp2_with fail
    have hq := ask6_ok (show W3.heap[bx + 1]? = some (asko _ _ _ _ _ _) from HB2'.out) (.int .i64 y.op) (.int .i64 y.site) (.int .i64 y.n) (.int .i64 v) (.int .i64 0) (.slice none 0 0)
    rw [e] at hq
    change bodyPost _ _ _ _ _ (ask6 W3 (bx + 1) _ _ _ _ _ _)
    obtain ⟨q1, q2⟩ := hq
    have hx5 := ext_ne HXF.out q2 (by omega)
    clear d0 d1 d2 d3 d4 d5 dl dz f0 f1 f2 f3 f4 f5 fl fz
    generalize ask6 W3 _ _ _ _ _ _ _ = W5 at *
    obtain ⟨d0, d1, d2, d3, d4, d5, dl, dz⟩ := asko_cells q1
    exact bodyPost_ret (v := .agg #[.int .i64 y.op, .int .i64 y.site, .int .i64 y.n, .int .i64 v, .int .i64 0, .slice none 0 0]) (by simp [results, Tryz.results121, go_sem, e, d0, d1, d2, d3, d4, d5]) rfl ⟨rfl, hx5⟩
end
end Go.Proofs.YtfljmdpigckpkaaGreatDoor

namespace Go.Proofs.YtfljmdpigckpkaaGreatDoor
open Go.RowKit Go.Shelf
attribute [local go_sem] Oper.semAt_some
section
variable {bt g bf gr bc bh : Nat} {k : Nat} {R : List Int} {W : World} {Q : Prg}
set_option maxHeartbeats 4000000
set_option maxRecDepth 100000
theorem Done_th {i : Nat} {y : Ins} {n : Int} (h : Th bt g bf gr bc i k R 0 W) (ha : Apart bt g bf gr W) (hc : Cod bc Q W) (hi : i < Q.fns.length) (hk : k < Q.fns[i].code.length) (hy : Q.fns[i].code[k] = y) (hop : y.op = 10 ∨ y.op = 30) (hks : k ≤ 1000) :
    Calls Tryz.prog 306 #[.pointer (some ⟨bt, 0, none⟩), .int .i64 n] W fun e W' => e = .returned (.int .i64 0) ∧ Th bt g bf gr bc i ((k : Int) + 1) R 0 W' ∧ Kept (ne' bf) W W' := by
  have HN := Lib.hid (isNone_th h)
  have HR := Lib.hid (running_th h hc hi hk hy)
  have hsh : sharedO y.op = true := by rcases hop with e | e <;> rw [e] <;> rfl
  have HSH := Lib.hid (fun w => hsh ▸ pShared_ok y.op (by omega) (by omega) w)
  have HT := Lib.hid h
  have HA := Lib.hid ha
  have HP := Lib.hid hop
  have zk : (k : Int) + 1 ≤ 9223372036854775807 := by omega
  have hwk : IntKind.i64.wrap ((k : Int) + 1) = (k : Int) + 1 := by rw [IntKind.wrap_i64]; omega
  clear h hc hi hk hsh hy hop ha hks
  unfold Ins.v at HR
  go_enter Tryz.func306, Tryz.ntmps306
  go_upto_region 4 with (first
    | (go_at_call 119; refine HR.out.mono ?_; rintro e w2 ⟨rfl, hx2⟩; have HX2 := Lib.hid hx2; clear hx2)
    | (go_at_call 118; refine HN.out.mono ?_; rintro e w2 ⟨rfl, hw⟩; rw [hw]; clear hw))
  obtain ⟨W3, hW3⟩ : ∃ W3, W3 = w2.alloc y.o := ⟨_, rfl⟩
  change Code.wp _ _ _ _ (w2.alloc y.o)
  rw [← hW3]
  have hx3 : Ext w2 W3 := by rw [hW3]; exact Ext.one _ _
  have hb3 : W3.heap[w2.heap.size]? = some y.o := by rw [hW3]; exact World.alloc_heap_new _ _
  obtain ⟨i0, i1, i2, i3, i4, i5, i6, i7, il⟩ := Ins.o_cells hb3
  have HX3 := Lib.hid (HX2.out.trans hx3)
  clear hx3 hb3 hW3
  generalize w2.heap.size = bi at *
  have ht3 := HT.out.ext HX3.out
  obtain ⟨t0, t1, t2, tl, s0, sl, f0, f1, f2, fl⟩ := ht3.cells
  have fz := frozen_of_row W3 bf 1 _ _ ht3.f
  have HT3 := Lib.hid ht3
  clear ht3
  clear HSH
  rcases HP.out with e | e
  · have HSX := Lib.hid (fun w : World => show Calls Tryz.prog 120 #[.int .i64 10] w (fun e W' => e = .returned (.bool true) ∧ W' = w) from pShared_ok 10 (by decide) (by decide) w)
    go_wp2_with (go_at_call 120; refine (HSX.out _).mono ?_; rintro e w4 ⟨rfl, hw⟩; rw [hw]; clear hw)
    have k2 : Kept (ne' bf) W3 (W3.setCell ⟨bf, 1, none⟩ (.int .i64 ((k : Int) + 1))) := Kept.setCell _ fun o ho => by simp [ne']
    refine bodyPost_ret (v := .int .i64 0) (by simp [results, Tryz.results306, go_sem]) rfl ⟨rfl, ⟨k2.same _ _ HT3.out.t (by simp [ne', HA.out.ft.symm]), k2.same _ _ HT3.out.s (by simp [ne', HA.out.fg.symm]), ?_, k2.row HT3.out.r fun b hb => ?_⟩, (HX3.out.kept _).trans k2⟩
    · rw [heap_setCell_same W3 bf 1 _ _ _ HT3.out.f]; rfl
    · obtain rfl : gr = b := by simpa [Value.ownBlock] using hb
      simp [ne', HA.out.rf]
  · have HSX := Lib.hid (fun w : World => show Calls Tryz.prog 120 #[.int .i64 30] w (fun e W' => e = .returned (.bool true) ∧ W' = w) from pShared_ok 30 (by decide) (by decide) w)
    go_wp2_with (go_at_call 120; refine (HSX.out _).mono ?_; rintro e w4 ⟨rfl, hw⟩; rw [hw]; clear hw)
    have k2 : Kept (ne' bf) W3 (W3.setCell ⟨bf, 1, none⟩ (.int .i64 ((k : Int) + 1))) := Kept.setCell _ fun o ho => by simp [ne']
    refine bodyPost_ret (v := .int .i64 0) (by simp [results, Tryz.results306, go_sem]) rfl ⟨rfl, ⟨k2.same _ _ HT3.out.t (by simp [ne', HA.out.ft.symm]), k2.same _ _ HT3.out.s (by simp [ne', HA.out.fg.symm]), ?_, k2.row HT3.out.r fun b hb => ?_⟩, (HX3.out.kept _).trans k2⟩
    · rw [heap_setCell_same W3 bf 1 _ _ _ HT3.out.f]; rfl
    · obtain rfl : gr = b := by simpa [Value.ownBlock] using hb
      simp [ne', HA.out.rf]
theorem Next_th {i : Nat} {y : Ins} (h : Th bt g bf gr bc i k R 0 W) (hc : Cod bc Q W) (hi : i < Q.fns.length) (hk : k < Q.fns[i].code.length) (hy : Q.fns[i].code[k] = y) (hl : y.l = []) :
    Calls Tryz.prog 117 #[.pointer (some ⟨bt, 0, none⟩)] W fun e W' => ∃ A c, e = .returned (.tuple #[({ y with lA := A, l := [], lC := c } : Ins).v, .bool true]) ∧ Ext W W' := by
  obtain ⟨W1, hW1⟩ : ∃ W1, W1 = W.alloc zins := ⟨_, rfl⟩
  have hx1 : Ext W W1 := by rw [hW1]; exact Ext.one _ _
  have hb1 : W1.heap[W.heap.size]? = some zins := by rw [hW1]; exact World.alloc_heap_new _ _
  have HR := Lib.hid (running_th (h.ext hx1) (hc.ext hx1) hi hk hy)
  have hsrc : Src W (.slice y.lA ([] : List Int).length y.lC) ([] : List Int).length (rowV iV []) := by
    obtain ⟨_, _, _, _, hfi, _⟩ := Prg.fn_at hc.pin hi
    obtain ⟨_, _, _, _, hin, _⟩ := Fn.ins_at hfi hk
    rw [hy] at hin
    have := hin.l.src
    rw [hl] at this
    exact this
  have HC := Lib.hid (fun w (x : Ext W w) => cloneInts_ok [] y.lA y.lC (hsrc.ext x) (by simp))
  have HX1 := Lib.hid hx1
  have HB1 := Lib.hid hb1
  have HW := Lib.hid hW1
  obtain ⟨o, a, b, c, n, lA, lC, l, si, li⟩ := y
  dsimp only at hl
  subst hl
  clear hx1 hb1 hW1 h hc hi hk hy hsrc
  unfold Ins.v at HR ⊢
  dsimp only [List.length_nil] at HR HC ⊢
  go_enter Tryz.func117, Tryz.ntmps117
  go_upto_region 1 with (fail)
  change Code.wp _ _ _ _ (W.alloc zins)
  rw [← HW.out]
  go_upto_region 2 with (go_at_call 119; refine HR.out.mono ?_; rintro e w2 ⟨rfl, hx2⟩; have HX2 := Lib.hid hx2; clear hx2)
  obtain ⟨W3, hW3⟩ : ∃ W3, W3 = w2.alloc (Ins.mk o a b c n lA lC [] si li).o := ⟨_, rfl⟩
  change Code.wp _ _ _ _ (w2.alloc (Ins.mk o a b c n lA lC [] si li).o)
  rw [← hW3]
  have hx3 : Ext w2 W3 := by rw [hW3]; exact Ext.one _ _
  have hb3 : W3.heap[w2.heap.size]? = some (inso (.int .i64 o) (.int .i64 a) (.int .i64 b) (.int .i64 c) (.int .i64 n) (.slice lA 0 lC) (.int .i64 si) (.int .i64 li)) := by rw [hW3]; exact World.alloc_heap_new _ _
  have hlt : W.heap.size < w2.heap.size := Nat.lt_of_lt_of_le (Array.getElem?_eq_some_iff.1 HB1.out).1 HX2.out.size
  have HB3 := Lib.hid hb3
  have HX := Lib.hid (HX1.out.trans (HX2.out.trans hx3))
  have HA := Lib.hid ((hx3.kept (fun _ _ => true)).same _ _ ((HX2.out.kept (fun _ _ => true)).same _ _ HB1.out rfl) rfl)
  have HLT := Lib.hid hlt
  clear hx3 hb3 hW3 hlt
  generalize w2.heap.size = b3 at *
  obtain ⟨c0, c1, c2, c3, c4, c5, c6, c7, cl, cz⟩ := inso_cells HB3.out
  go_upto_region 3 with (go_at_call 69; refine (HC.out _ HX.out).mono ?_; rintro e w4 ⟨A4, cc4, rfl, hx4, -⟩; have hb4 := (hx4.kept (fun _ _ => true)).same _ _ HB3.out rfl; obtain ⟨e0, e1, e2, e3, e4, e5, e6, e7, el, ez⟩ := inso_cells hb4; have HB4 := Lib.hid hb4; have HX4 := Lib.hid (HX.out.trans hx4); have HA4 := Lib.hid ((hx4.kept (fun _ _ => true)).same _ _ HA.out rfl); clear hx4 hb4)
  have hne : W.heap.size ≠ b3 := by have := HLT.out; omega
  have hb5 := inso_set5 HB4.out (.slice A4 0 cc4)
  have hk5 : Kept (ne' b3) w4 (w4.setCell ⟨b3, 5, none⟩ (.slice A4 0 cc4)) := Kept.setCell _ fun o ho => by simp [ne']
  have ha5 := hk5.same _ _ HA4.out (by simp [ne', hne])
  have HX5 := Lib.hid (ext_ne HX4.out hk5 (Nat.le_of_lt HLT.out))
  clear e0 e1 e2 e3 e4 e5 e6 e7 el ez hk5 c0 c1 c2 c3 c4 c5 c6 c7 cl cz
  have HB5 := Lib.hid hb5
  have HA5 := Lib.hid ha5
  clear hb5 ha5
  change Code.wp _ _ _ _ (w4.setCell ⟨b3, 5, none⟩ (.slice A4 0 cc4))
  generalize w4.setCell _ _ = W5 at *
  obtain ⟨c0, c1, c2, c3, c4, c5, c6, c7, cl, cz⟩ := inso_cells HB5.out
  obtain ⟨d0, d1, d2, d3, d4, d5, d6, d7, dl, dz⟩ := inso_cells (show W5.heap[W.heap.size]? = some (inso _ _ _ _ _ _ _ _) from HA5.out)
  clear hne
  go_wp2_with fail
  obtain ⟨q1, q2⟩ := inso_all (show W5.heap[W.heap.size]? = some (inso _ _ _ _ _ _ _ _) from HA5.out) (.int .i64 o) (.int .i64 a) (.int .i64 b) (.int .i64 c) (.int .i64 n) (.slice A4 0 cc4) (.int .i64 si) (.int .i64 li)
  change bodyPost _ _ _ _ _ (ins8 W5 W.heap.size (Ins.mk o a b c n A4 cc4 [] si li))
  replace q1 : (ins8 W5 W.heap.size (Ins.mk o a b c n A4 cc4 [] si li)).heap[W.heap.size]? = some (inso (.int .i64 o) (.int .i64 a) (.int .i64 b) (.int .i64 c) (.int .i64 n) (.slice A4 0 cc4) (.int .i64 si) (.int .i64 li)) := q1
  replace q2 : Kept (ne' W.heap.size) W5 (ins8 W5 W.heap.size (Ins.mk o a b c n A4 cc4 [] si li)) := q2
  have hx6 := ext_ne HX5.out q2 (Nat.le_refl _)
  clear c0 c1 c2 c3 c4 c5 c6 c7 cl cz d0 d1 d2 d3 d4 d5 d6 d7 dl dz
  generalize ins8 W5 W.heap.size (Ins.mk o a b c n A4 cc4 [] si li) = W6 at *
  obtain ⟨d0, d1, d2, d3, d4, d5, d6, d7, dl, dz⟩ := inso_cells q1
  exact bodyPost_ret (v := .tuple #[.agg #[.int .i64 o, .int .i64 a, .int .i64 b, .int .i64 c, .int .i64 n, .slice A4 0 cc4, .int .i64 si, .int .i64 li], .bool true]) (by simp [results, Tryz.results117, go_sem, d0, d1, d2, d3, d4, d5, d6, d7]) rfl ⟨A4, cc4, rfl, hx6⟩
end
end Go.Proofs.YtfljmdpigckpkaaGreatDoor

namespace Go.Proofs.YtfljmdpigckpkaaGreatDoor
open Go.RowKit Go.Shelf Go.Conc
/-- What a code comes to in a frame of an ordinary call: communications may be in it. -/
def wpN (P : Program) (c : Code) (Q : Exit → Act → World → Prop) (a : Act) (w : World) : Prop :=
  ∀ (b : Frame) (k : List Item) (cs : List Frame), b.kind ≠ .early → ∃ e a' w', Q e a' w' ∧ Arrives P (lone (b.at a (.code c :: k)) cs w) b k cs e a' w'
section
variable {P : Program} {Q : Exit → Act → World → Prop} {a : Act} {w : World}
theorem wpN_of {c : Code} (h : c.wp P Q a w) : wpN P c Q a w := fun b k cs _ => h b k cs
theorem wpN_mono {c : Code} {Q' : Exit → Act → World → Prop} (h : wpN P c Q a w) (hq : ∀ e a w, Q e a w → Q' e a w) : wpN P c Q' a w :=
  fun b k cs hb => let ⟨e, a', w', q, r⟩ := h b k cs hb; ⟨e, a', w', hq _ _ _ q, r⟩
/-- Left otherwise than by going on, a thing that stands behind is passed. -/
theorem leaves {m : Machine} {b : Frame} {x : Item} {k : List Item} {cs : List Frame} {e : Exit} {a' : Act} {w' : World} (hx : x.plain = true) (hn : e ≠ .normal) (h : Arrives P m b (x :: k) cs e a' w') : Arrives P m b k cs e a' w' :=
  .pass hx (fun _ _ => .inl hn) h
theorem wpN_seq {x y : Code} (h : wpN P x (Exit.then (wpN P y Q) Q) a w) : wpN P (.seq x y) Q a w := by
  intro b k cs hb
  obtain ⟨e, a1, w1, hq, hr⟩ := h b (.code y :: k) cs hb
  by_cases hn : e = .normal
  · subst hn
    obtain ⟨e2, a2, w2, hq2, hr2⟩ := hq b k cs hb
    exact ⟨e2, a2, w2, hq2, .of_steps (.head step_seq hr) hr2⟩
  · refine ⟨e, a1, w1, ?_, .of_steps (.one step_seq) (leaves rfl hn hr)⟩
    cases e with
    | normal => exact absurd rfl hn
    | exit id => exact hq
    | goto l => exact hq
    | ret => exact hq
    | panic c => exact hq
    | outgrown => exact hq
theorem wpN_first {x y : Code} (h : x.wp P (Exit.then (wpN P y Q) Q) a w) : wpN P (.seq x y) Q a w := wpN_seq (wpN_of h)
theorem wpN_first_k {x y : Code} (h : ∀ K : Act → World → Prop, (∀ a w, wpN P y Q a w → K a w) → x.wp P (Exit.then K Q) a w) : wpN P (.seq x y) Q a w := wpN_first (h _ fun _ _ h => h)
theorem wpN_cond {c : Operand} {x y : Code} {t : Bool} (hc : a.eval c = .bool t) (h : wpN P (if t then x else y) Q a w) : wpN P (.cond c x y) Q a w :=
  fun b k cs hb => let ⟨e, a', w', q, r⟩ := h b k cs hb; ⟨e, a', w', q, .of_steps (.one (step_cond hc)) r⟩
theorem wpN_block {id : Nat} {c : Code} (h : wpN P c (Exit.inBlock id Q) a w) : wpN P (.block id c) Q a w := by
  intro b k cs hb
  obtain ⟨e, a1, w1, hq, hr⟩ := h b (.inBlock id :: k) cs hb
  cases e with
  | normal => exact ⟨.normal, a1, w1, hq, .head step_block (Steps.trans hr (.one step_inBlock))⟩
  | exit i =>
    by_cases hi : i = id
    · simp only [Exit.inBlock, hi, if_true] at hq
      exact ⟨.normal, a1, w1, hq, .head step_block (hr k (by simp [exitTo, hi]))⟩
    · simp only [Exit.inBlock, hi, if_false] at hq
      refine ⟨.exit i, a1, w1, hq, fun k' hk => .head step_block (hr k' ?_)⟩
      have : (id == i) = false := by simpa using fun h : id = i => hi h.symm
      simp [exitTo, this, hk]
  | goto l => exact ⟨_, a1, w1, hq, fun k' hk => .head step_block (hr k' (by simp [gotoIn, hk]))⟩
  | ret => exact ⟨_, a1, w1, hq, .of_steps (.one step_block) hr⟩
  | panic ch => exact ⟨_, a1, w1, hq, .of_steps (.one step_block) hr⟩
  | outgrown => exact ⟨_, a1, w1, hq, .of_steps (b := b) (k := k) (cs := cs) (e := .outgrown) (.one step_block) hr⟩
/-- A loop, round by round: what is asked behind a round is asked of the loop's rest. -/
def roundsN (P : Program) (c : Code) (Q : Exit → Act → World → Prop) : Nat → Act → World → Prop
  | 0 => fun _ _ => False
  | n + 1 => wpN P c (Exit.then (roundsN P c Q n) Q)
theorem wpN_loop {c : Code} (n : Nat) (h : roundsN P c Q n a w) : wpN P (.loop c) Q a w := by
  intro b k cs hb
  have key : ∀ n a w, roundsN P c Q n a w → ∃ e a' w', Q e a' w' ∧ Arrives P (lone (b.at a (.code c :: .inLoop c :: k)) cs w) b k cs e a' w' := by
    intro n
    induction n with
    | zero => exact fun _ _ h => h.elim
    | succ n ih =>
      intro a w h
      obtain ⟨e, a1, w1, hq, hr⟩ := h b (.inLoop c :: k) cs hb
      by_cases hn : e = .normal
      · subst hn
        obtain ⟨e2, a2, w2, hq2, hr2⟩ := ih a1 w1 hq
        exact ⟨e2, a2, w2, hq2, .of_steps (Steps.trans hr (.one step_inLoop)) hr2⟩
      · refine ⟨e, a1, w1, ?_, leaves rfl hn hr⟩
        cases e with
        | normal => exact absurd rfl hn
        | exit id => exact hq
        | goto l => exact hq
        | ret => exact hq
        | panic c => exact hq
        | outgrown => exact hq
  obtain ⟨e, a', w', hq, hr⟩ := key n a w h
  exact ⟨e, a', w', hq, .of_steps (.one step_loop) hr⟩
/-- A region's operations, from some on. -/
def opsN (P : Program) (ops : Array Oper) (Q : Exit → Act → World → Prop) (l : List Nat) (a : Act) (w : World) : Prop :=
  ∀ (b : Frame) (k : List Item) (cs : List Frame), b.kind ≠ .early → ∃ e a' w', Q e a' w' ∧ Arrives P (lone (b.at a (.inRegion ops l :: k)) cs w) b k cs e a' w'
theorem opsN_of {ops : Array Oper} {l : List Nat} (h : wpOps P ops Q l a w) : opsN P ops Q l a w := fun b k cs _ => wp_ops l a w h b k cs
theorem wpN_region {id : Nat} {ops : Array Oper} (h : opsN P ops Q (List.range ops.size) a w) : wpN P (.region id ops false) Q a w :=
  fun b k cs hb => let ⟨e, a', w', q, r⟩ := h b k cs hb; ⟨e, a', w', q, .of_steps (.one step_region) r⟩
theorem wpN_region_seq {id : Nat} {ops : Array Oper} {y : Code} (h : opsN P ops (Exit.then (wpN P y Q) Q) (List.range ops.size) a w) : wpN P (.seq (.region id ops false) y) Q a w := wpN_seq (wpN_region h)
/-- An operation that gives a value. -/
theorem opsN_value {ops : Array Oper} {i : Nat} {rest : List Nat} {o : Oper} {v : Value} {w' : World} (ho : ops[i]? = some o) (hw : Region.wanted o (yielded ops a.tmps) = true) (hr : (execOp a.eval o).run P w = .ok (.value v) w') (h : opsN P ops Q rest (a.put o.dst v) w') : opsN P ops Q (i :: rest) a w := by
  intro b k cs hb
  obtain ⟨e, a', w2, hq, hr2⟩ := h b k cs hb
  refine ⟨e, a', w2, hq, .of_steps (.one (step_lone_go ?_)) hr2⟩
  rw [stepG_op ho hw]
  have hf := Frame.finish_at b a ops i rest k v
  rw [ho] at hf
  simp [stepG.apply, hr, hf]
/-- A communication. -/
theorem opsN_comm {ops : Array Oper} {i : Nat} {rest : List Nat} {o : Oper} {v : Value} {w' : World} (ho : ops[i]? = some o)
    (hs : ∀ (b : Frame) (k : List Item) (cs : List Frame), b.kind ≠ .early → step P (solo (G (b.at a (.inRegion ops (i :: rest) :: k)) cs) w) = .next (solo (G ((b.at a (.inRegion ops (i :: rest) :: k)).finish v) cs) w')) (h : opsN P ops Q rest (a.put o.dst v) w') : opsN P ops Q (i :: rest) a w := by
  intro b k cs hb
  obtain ⟨e, a', w2, hq, hr2⟩ := h b k cs hb
  refine ⟨e, a', w2, hq, .of_steps (.one ?_) hr2⟩
  have := hs b k cs hb
  rw [Frame.finish_at, ho] at this
  exact this
section
variable {ops : Array Oper} {i : Nat} {rest : List Nat} {o : Oper} {c cap s r : Nat} {buf : Array Value} {z v : Value} {tm closed : Bool} {w1 : World}
/-- A select of one receive, with a default: something lies in the buffer. -/
theorem opsN_recv (ho : ops[i]? = some o) (hw : Region.wanted o (yielded ops a.tmps) = true) (hr : (execOp a.eval o).run P w = .ok (.comm #[rcase c z] false .select) w1) (hc : w1.heap[c]? = some (.chan cap buf closed s r tm)) (hsome : 0 < buf.size)
    (h : opsN P ops Q rest (a.put o.dst (.tuple #[goInt 0, .bool true, buf.getD 0 undef])) (w1.setChan c cap (buf.extract 1 buf.size) closed s (r + 1) tm)) : opsN P ops Q (i :: rest) a w :=
  opsN_comm ho (fun _ _ _ hb => step_lone_select_recv_buf (stepG_comm ho hw hb hr) hc hsome) h
/-- The buffer is empty. -/
theorem opsN_recv_none (ho : ops[i]? = some o) (hw : Region.wanted o (yielded ops a.tmps) = true) (hr : (execOp a.eval o).run P w = .ok (.comm #[rcase c z] false .select) w1) (hc : w1.heap[c]? = some (.chan cap #[] false s r tm))
    (h : opsN P ops Q rest (a.put o.dst (.tuple #[goInt (-1), .bool false, z])) w1) : opsN P ops Q (i :: rest) a w :=
  opsN_comm ho (fun _ _ _ hb => step_lone_select_default (stepG_comm ho hw hb hr) hc) h
/-- A select of one send, with a default: there is room. -/
theorem opsN_send (ho : ops[i]? = some o) (hw : Region.wanted o (yielded ops a.tmps) = true) (hr : (execOp a.eval o).run P w = .ok (.comm #[scase c v z] false .select) w1) (hc : w1.heap[c]? = some (.chan cap buf false s r tm)) (hroom : buf.size < cap)
    (h : opsN P ops Q rest (a.put o.dst (.tuple #[goInt 0, .bool false])) (w1.setChan c cap (buf.push v) false (s + 1) r tm)) : opsN P ops Q (i :: rest) a w :=
  opsN_comm ho (fun _ _ _ hb => step_lone_select_send_room (stepG_comm ho hw hb hr) hc hroom) h
end
theorem opsN_rest {ops : Array Oper} {l : List Oper} {k : Nat} (hl : ∀ j, l[j]? = ops[k + j]?) (h : wpList P ops Q l a w) : opsN P ops Q (List.range' k l.length) a w := opsN_of (by rw [wpOps_eq_wpList l k hl]; exact h)
section
variable {id : Nat} {o0 o1 o2 : Oper} {y : Code} {c s r : Nat} {z v : Value} {w1 : World}
theorem rest3 (j : Nat) : [o1, o2][j]? = #[o0, o1, o2][1 + j]? := by
  rcases j with _ | _ | j
  · rfl
  · rfl
  · simp; omega
theorem wpN_sel_none (hw : Region.wanted o0 (yielded #[o0, o1, o2] a.tmps) = true) (hr : (execOp a.eval o0).run P w = .ok (.comm #[rcase c z] false .select) w1) (hc : w1.heap[c]? = some (.chan 1 #[] false s r false))
    (h : ∀ K : Act → World → Prop, (∀ a w, wpN P y Q a w → K a w) → wpList P #[o0, o1, o2] (Exit.then K Q) [o1, o2] (a.put o0.dst (.tuple #[goInt (-1), .bool false, z])) w1) : wpN P (.seq (.region id #[o0, o1, o2] false) y) Q a w :=
  wpN_region_seq (opsN_recv_none (rest := List.range' 1 2) rfl hw hr hc (opsN_rest rest3 (h _ fun _ _ h => h)))
theorem wpN_sel_recv (hw : Region.wanted o0 (yielded #[o0, o1, o2] a.tmps) = true) (hr : (execOp a.eval o0).run P w = .ok (.comm #[rcase c z] false .select) w1) (hc : w1.heap[c]? = some (.chan 1 #[v] false s r false))
    (h : ∀ K : Act → World → Prop, (∀ a w, wpN P y Q a w → K a w) → wpList P #[o0, o1, o2] (Exit.then K Q) [o1, o2] (a.put o0.dst (.tuple #[goInt 0, .bool true, v])) (w1.setChan c 1 #[] false s (r + 1) false)) : wpN P (.seq (.region id #[o0, o1, o2] false) y) Q a w :=
  wpN_region_seq (opsN_recv (rest := List.range' 1 2) rfl hw hr hc (by simp) (opsN_rest rest3 (h _ fun _ _ h => h)))
theorem wpN_sel_send (hw : Region.wanted o0 (yielded #[o0, o1, o2] a.tmps) = true) (hr : (execOp a.eval o0).run P w = .ok (.comm #[scase c v z] false .select) w1) (hc : w1.heap[c]? = some (.chan 1 #[] false s r false))
    (h : ∀ K : Act → World → Prop, (∀ a w, wpN P y Q a w → K a w) → wpList P #[o0, o1, o2] (Exit.then K Q) [o1, o2] (a.put o0.dst (.tuple #[goInt 0, .bool false])) (w1.setChan c 1 #[v] false (s + 1) r false)) : wpN P (.seq (.region id #[o0, o1, o2] false) y) Q a w :=
  wpN_region_seq (opsN_send (rest := List.range' 1 2) rfl hw hr hc (by simp) (opsN_rest rest3 (h _ fun _ _ h => h)))
end
theorem calls_of_wpN {f : FuncId} {fn : Func} {c : Code} {args : Array Value} {R : Ending → World → Prop} (hf : P.funcs[f]? = some fn) (hb : fn.body = some c)
    (h : wpN P c (bodyPost P fn R) { tmps := args ++ Array.replicate (fn.ntmps - args.size) undef, defers := [] } w) : Calls P f args w R := by
  intro cs
  let b : Frame := { (default : Frame) with fn := f, kind := .normal }
  have he : Frame.enter P f args .normal = b.at { tmps := args ++ Array.replicate (fn.ntmps - args.size) undef, defers := [] } [.code c] := by
    simp [Frame.enter, Frame.at, hf, hb, b]
  obtain ⟨e, a', w', hq, hr⟩ := h b [] cs (by simp [b])
  rw [← he] at hr
  cases e with
  | normal => exact let ⟨hd, v, hv, hR⟩ := hq; ⟨.returned v, w', _, hR, Steps.trans hr (.one step_end), rfl, rfl, hd, rfl, fn, hf, hv⟩
  | ret => exact let ⟨hd, v, hv, hR⟩ := hq; let ⟨_, hs⟩ := hr; ⟨.returned v, w', _, hR, hs, rfl, rfl, hd, rfl, fn, hf, hv⟩
  | panic ch => exact let ⟨hd, hR⟩ := hq; let ⟨_, hs⟩ := hr; ⟨.panicked ch, w', _, hR, hs, rfl, rfl, hd, fn, hf⟩
  | exit id => exact hq.elim
  | goto l => exact hq.elim
  | outgrown => exact ⟨.outgrown, w', b, hq, hr.resolve_left (by simp [b]), rfl, trivial⟩
end
end Go.Proofs.YtfljmdpigckpkaaGreatDoor
