/- The document's lives: New. -/
import Derived.Test.YtecehjcombkkaaaDoorLrB
namespace Go.Proofs.YtecehjcombkkaaaDoor
open Go.RowKit Go.Shelf
attribute [local go_sem] Oper.semAt_some
/-- Lives that are being made. -/
structure NR (W : World) (bw : Nat) (v u : Value) (C : List Int) (E : List Bool) (w : World) : Prop where
  hb : w.heap[bw]? = some (.cells #[v, u] 53 (0, 0))
  row : w.ownsRow W.heap.size 3 1 v C.length (rowV iV C)
  rowE : w.ownsRow W.heap.size 4 1 u E.length (rowV bV E)
  x : Ext W w
  ge : W.heap.size ≤ bw
theorem NR.done {W : World} {bw : Nat} {v u : Value} {C : List Int} {E : List Bool} {w : World} (h : NR W bw v u C E w) (hl : C.length ≤ 1000 ∧ E.length ≤ 1000) : RL (rng W.heap.size w.heap.size) bw C E w := by
  obtain ⟨h1, h2, h3, h4, h5⟩ := h
  have hin : ∀ {g : Nat}, W.heap.size ≤ g → g < w.heap.size → rng W.heap.size w.heap.size g = true := fun a b => by simp [rng, a, b]
  exact ⟨⟨v, u, h1, own_zero h2, own_zero h3, fun g hg => hin (own_base h2 g hg) (own_lt h2 g hg), fun g hg => hin (own_base h3 g hg) (own_lt h3 g hg)⟩, hin h5 (Array.getElem?_eq_some_iff.1 h1).1, fun b hb => by simp [rng] at hb; exact hb.2, hl⟩
theorem NR.grown {W : World} {bw : Nat} {A2 : Option Addr} {c2 i : Nat} {u : Value} {E : List Bool} {w w1 w3 : World} (h : NR W bw (.slice A2 (List.replicate i (-1 : Int)).length c2) u (List.replicate i (-1)) E w) (hx : Ext w w1) {xs : List Value} (hr : w1.ownsRow W.heap.size 3 1 (.slice A2 i c2) i xs) (hg : w1.grownBy w3 (Value.slice A2 i c2).ownBlock) :
    w3.heap[bw]? = some (.cells #[.slice A2 i c2, u] 53 (0, 0)) ∧ ∀ v, w3.ownsRow W.heap.size 3 1 v (i + 1) (rowV iV (List.replicate (i + 1) (-1))) → NR W bw v u (List.replicate (i + 1) (-1)) E (w3.setCell ⟨bw, 0, none⟩ v) := by
  have k1 : Kept (fun _ t => t != some 3) w1 w3 := Kept.grown hg fun j o e ho => by rw [(own_tag hr j o e ho).1]; simp
  have k0 := hx.kept (fun _ _ => true)
  have hb := k1.same _ _ (k0.same _ _ h.hb rfl) (by simp [tag])
  rw [List.length_replicate] at hb
  refine ⟨hb, fun v hv => ?_⟩
  have k2 : Kept (fun _ t => t != some 53) w3 (w3.setCell ⟨bw, 0, none⟩ v) := Kept.setCell _ fun o ho => by rw [hb] at ho; cases ho; rfl
  refine ⟨by rw [heap_setCell_same w3 bw 0 _ _ v hb]; simp, ?_, k2.row (k1.row (k0.row h.rowE fun _ _ => rfl) fun _ _ => by simp) fun _ _ => by simp, ?_, h.ge⟩
  · rw [List.length_replicate]; exact k2.row hv fun _ _ => by simp
  · refine Kept.trans (grown_ext (h.x.trans hx) hg (own_base hr)) (Kept.setCell _ fun o _ => ?_)
    have := h.ge
    simp [pOld]; omega
theorem rep_snoc (i : Nat) : List.replicate i (-1 : Int) ++ [-1] = List.replicate (i + 1) (-1) := by rw [List.replicate_succ']
set_option maxHeartbeats 2000000 in
set_option maxRecDepth 100000 in
theorem refNew_ok (n : Int) (E : List Bool) (A : Option Addr) (c : Nat) (W : World) (hs : Src W (.slice A E.length c) E.length (rowV bV E)) (hn : n ≤ 100) (hE : E.length ≤ 100) :
    Calls Tryd.prog 9 #[.int .i64 n, .slice A E.length c] W fun e W' => ∃ bw own, e = .returned (.pointer (some ⟨bw, 0, none⟩)) ∧ RL own bw (List.replicate n.toNat (-1)) E W' ∧ Ext W W' ∧ ∀ b, own b = true → W.heap.size ≤ b := by
  obtain ⟨i0, hi0, hz0, hz1, hz2⟩ := infoParts infoBool
  obtain ⟨i1, hi1, hy0, hy1, hy2⟩ := infoParts infoInt
  have hone := rowV_one (f := bV) (l := E) (fun _ => rfl)
  have hlen := rowV_len (f := bV) (l := E)
  have HS := Lib.hid hs
  have HONE := Lib.hid hone
  have HLEN := Lib.hid hlen
  have HI1 := Lib.hid (And.intro hi1 (And.intro hy0 (And.intro hy1 hy2)))
  clear hs hone hlen hi1 hy0 hy1 hy2
  go_enter Tryd.func9, Tryd.ntmps9
  go_upto_region 2 with (at_builtin; refine wpList_append_any rfl _ _ 22 rfl W.heap.size 4 i0 (.bool false) 1 1 Tryd.underlying22 hi0 hz0 hz1 hz2 rfl (by decide) (.slice none 0 0) 0 [] rfl (World.ownsRow_nil _ _ _ _) (.slice A E.length c) E.length (rowV bV E) rfl HLEN.out HS.out HONE.out (by unfold maxLen; omega) (by omega) (Nat.le_refl _) E.length (by omega) (rowV bV E) (by simp) ?_; intro A1 c1 w1 hown1 hgrow1 hat1; have HX1 := Lib.hid (grown_ext (Ext.refl _) hgrow1 (by intro b hb; simp [Value.ownBlock] at hb)); have HO1 := Lib.hid hown1; clear hown1 hgrow1 hat1)
  obtain ⟨w2, hw2⟩ : ∃ w2, w2 = w1.alloc (.cells #[.slice none 0 0, .slice A1 E.length c1] 53) := ⟨_, rfl⟩
  change Code.wp _ _ _ _ (w1.alloc (.cells #[.slice none 0 0, .slice A1 E.length c1] 53))
  rw [← hw2]
  have hx2 : Ext w1 w2 := by rw [hw2]; exact Ext.one _ _
  have hnr : NR W w1.heap.size (.slice none 0 0) (.slice A1 E.length c1) [] E w2 := ⟨by rw [hw2]; exact World.alloc_heap_new _ _, World.ownsRow_nil _ _ _ _, (hx2.kept (fun _ _ => true)).row HO1.out fun _ _ => rfl, HX1.out.trans hx2, HX1.out.size⟩
  have HNR := Lib.hid hnr
  clear hw2 hx2 hnr HX1 HO1 HS HONE HLEN
  generalize w1.heap.size = bw at *
  go_wp2_with fail
  go_loopg [6] n.toNat (fun k v6 wr => ∃ (i : Nat) (v : Value), i + k = n.toNat ∧ v6 = .int .i64 i ∧ NR W bw v (.slice A1 E.length c1) (List.replicate i (-1)) E wr)
  case atStart => exact ⟨0, _, by omega, rfl, HNR.out⟩
  case round =>
    clear HNR
    obtain ⟨i, v, hik, rfl, hnr⟩ := hrel
    have HN := Lib.hid hnr
    obtain ⟨A2, c2, rfl⟩ := own_slice3 hnr.row
    have hbw := (Array.getElem?_eq_some_iff.1 hnr.hb).1
    have x0 : wr.cell? ⟨bw, 0, none⟩ = some (.slice A2 (List.replicate i (-1 : Int)).length c2) := by simp [World.cell?, hnr.hb]
    rw [List.length_replicate] at x0
    by_cases hi : (i : Int) < n
    · have hx := Ext.one wr (.cells #[.int .i64 (-1)] 3)
      have hrow := (hx.kept (fun _ _ => true)).row hnr.row fun _ _ => rfl
      rw [List.length_replicate] at hrow
      have hsr : Src (wr.alloc (.cells #[.int .i64 (-1)] 3)) (.slice (some ⟨wr.heap.size, 0, none⟩) 1 1) 1 [.int .i64 (-1)] := src_one (World.alloc_heap_new _ _)
      have hsz := hnr.x.size
      have HROW := Lib.hid hrow
      have HSR := Lib.hid hsr
      have HX := Lib.hid hx
      clear hnr hrow hsr hx
      obtain ⟨hi1, hy0, hy1, hy2⟩ := HI1.out
      go_wp2_with (at_builtin; refine wpList_append_any rfl _ _ 39 rfl W.heap.size 3 i1 (.int .i64 0) 1 8 Tryd.underlying39 hi1 hy0 hy1 hy2 rfl (by decide) (.slice A2 i c2) i (rowV iV (List.replicate i (-1))) rfl HROW.out (.slice (some ⟨wr.heap.size, 0, none⟩) 1 1) 1 [.int .i64 (-1)] rfl rfl HSR.out (by simp; rfl) (by unfold maxLen; omega) (by omega) (by simp; omega) (i + 1) rfl (rowV iV (List.replicate (i + 1) (-1))) (by rw [← rep_snoc]; simp [rowV, iV]) ?_; intro A3 c3 w3 hown3 hgrow3 hat3; have HO3 := Lib.hid hown3; have HG3 := Lib.hid hgrow3; have HB3 := Lib.hid (NR.grown HN.out HX.out HROW.out hgrow3); clear hown3 hgrow3 hat3; have x3 := (by have h := HB3.out.1; simp [World.cell?, h] : w3.cell? ⟨bw, 0, none⟩ = some (.slice A2 i c2)); have f3 := frozen_of_row w3 bw 0 _ _ HB3.out.1; have l3 := (Array.getElem?_eq_some_iff.1 HB3.out.1).1)
      go_roundg (gk - 1)
      case measure => omega
      case rel => exact ⟨i + 1, _, by omega, by go_num, HB3.out.2 _ HO3.out⟩
    · have hni : i = n.toNat := by omega
      clear hnr
      go_wp2_with fail
      subst hni
      refine bodyPost_ret (v := .pointer (some ⟨bw, 0, none⟩)) (by simp [results, Tryd.results9, go_sem]) rfl ?_
      have hge : ∀ b, rng W.heap.size wr.heap.size b = true → W.heap.size ≤ b := fun b hb => by simp [rng] at hb; exact hb.1
      exact ⟨bw, rfl, _, HN.out.done ⟨by simp; omega, by omega⟩, HN.out.x, hge⟩
end Go.Proofs.YtecehjcombkkaaaDoor
