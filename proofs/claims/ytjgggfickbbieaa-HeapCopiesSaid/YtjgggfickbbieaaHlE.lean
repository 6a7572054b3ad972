/- The law's do: Closure; every act. -/
import Derived.Test.YtjgggfickbbieaaHlD
namespace Go.Proofs.Ytjgggfickbbieaa
open Go.RowKit Go.Shelf
attribute [local go_sem] Oper.semAt_some
section
variable {oP oR : Nat → Bool} {bh bw : Nat} {ps : List Nat} {L M : List Ob} {W W1 W2 : World}
theorem Both.frame (h : Both oP oR bh bw ps L M W) {q : Nat → Option TypeId → Bool} (k : Kept q W W1) (hP : ∀ b t, oP b = true → q b t = true) (hR : ∀ b t, oR b = true → q b t = true) : Both oP oR bh bw ps L M W1 :=
  ⟨h.p.frame k fun b t hb => hP b t hb, h.r.frame k fun b t hb => hR b t hb, h.key, h.dis⟩
theorem Next2.aside {w2 w4 wr : World} {B : Nat} (h : Next2 oP oR bh bw w2 w4) (k : Kept (fun b _ => decide (b < B) || decide (w2.heap.size ≤ b)) w4 wr) (hP : ∀ b, oP b = true → b < B) (hR : ∀ b, oR b = true → b < B) (hx : Ext W w2) (hB : W.heap.size ≤ B) : Next2 oP oR bh bw W wr := by
  obtain ⟨oP', oR', ps', L', M', h1, h2, h3, h4⟩ := h
  have hz := hx.size
  refine ⟨oP', oR', ps', L', M', h1.frame k (fun b t hb => ?_) (fun b t hb => ?_), ?_, fun b hb => (h3 b hb).imp id fun q => by omega, fun b hb => (h4 b hb).imp id fun q => by omega⟩
  · rcases h3 b hb with q | q
    · have := hP b q; simp; omega
    · simp; omega
  · rcases h4 b hb with q | q
    · have := hR b q; simp; omega
    · simp; omega
  · have a1 : Kept (fun b t => pB oP oR b t && decide (b < W.heap.size)) W w4 := ((hx.kept _).trans h2).mono fun b t _ hp => by simp at hp; exact hp.1
    exact (a1.trans (k.mono fun b t _ hp => by simp at hp; simp; omega)).mono fun b t hb hp => by simp [hp, hb]
/-- What is read of an act's cells, whatever the heaps do. -/
def Cells (oP oR : Nat → Bool) (W : World) (a : ActD) (l : List Int) : Prop := a.m = l.length ∧ ∀ w, Kept (pB oP oR) W w → Src w (.slice a.A a.m a.c) a.m (rowI l)
set_option maxHeartbeats 4000000 in
set_option maxRecDepth 100000 in
theorem do_closure (h : Both oP oR bh bw ps L M W) (a : ActD) (l : List Int) (hk : a.k = 2) (hc : Cells oP oR W a l) (hl : l.length ≤ 300) (hwf : (Lit.int .i64 a.by').wf = true) :
    Calls Try.prog 10 (argsD bh bw a) W fun e W' => e = .returned (.bool true) ∧ Next2 oP oR bh bw W W' := by
  unfold argsD
  obtain ⟨hm, hsrc⟩ := hc
  obtain ⟨k, wh, oo, sz, si, bb, id, aa, n, A, m, c⟩ := a
  dsimp only at hk hm hsrc hwf ⊢
  subst hk
  subst hm
  obtain ⟨a, ha⟩ : ∃ a : ActD, a = ⟨2, wh, oo, sz, si, bb, id, aa, n, A, l.length, c⟩ := ⟨_, rfl⟩
  obtain ⟨W1, hW1⟩ : ∃ W1, W1 = W.alloc (acto a) := ⟨_, rfl⟩
  have hE1 : Ext W W1 := by rw [hW1]; exact Ext.one _ _
  have hs1 : W1.heap.size = W.heap.size + 1 := by rw [hW1]; simp
  have hr1 : W1.heap[W.heap.size]? = some (acto a) := by rw [hW1]; exact World.alloc_heap_new _ _
  obtain ⟨x0, _, x2, _, x4, x5, _, _, _, x9, xl⟩ := acto_cells hr1
  rw [ha] at x0 x2 x4 x5 x9
  have hfP : ∀ b, W.heap.size ≤ b → oP b = false := fun b hb => h.p.fresh hb
  have hfR : ∀ b, W.heap.size ≤ b → oR b = false := fun b hb => h.r.fresh hb
  obtain ⟨z, hz⟩ : ∃ z, z = (clR L.length l.length).1 := ⟨_, rfl⟩
  obtain ⟨r, hr⟩ : ∃ r, r = (clR L.length l.length).2 := ⟨_, rfl⟩
  have HCP := Lib.hid (fun (w : World) (hw : Ext W w) (A1 : Option Addr) (c1 : Nat) (h0 : Src w (.slice A1 l.length c1) l.length (rowI l)) => Closure_all (h.p.ext hw) oo si bb l A1 c1 h0 hwf)
  have HCR := Lib.hid (fun (w : World) (hw : RH oR bw M w) (h0 : Src w (.slice A l.length c) l.length (rowI l)) => refClosure_all hw oo si bb l A c h0)
  rw [← key_len h.key, ← clK_eq h.key] at HCR
  rw [← hz, ← hr] at HCP HCR
  obtain ⟨i0, hi0, hz0, hz1, hz2⟩ := infoParts infoI
  have HSRC := Lib.hid hsrc
  have HONE := Lib.hid (rowI_one l)
  have HLEN := Lib.hid (rowI_len l)
  have HFP := Lib.hid hfP
  have HFR := Lib.hid hfR
  have HS1 := Lib.hid hs1
  have HE1 := Lib.hid hE1
  have HR1 := Lib.hid hr1
  have HW := Lib.hid hW1
  have HH := Lib.hid h
  have HA := Lib.hid ha
  have HS0 := Lib.hid (HSRC.out W1 (hE1.kept _))
  clear h hE1 hr1 hW1 hz hr hwf ha hsrc hs1 hfP hfR
  dsimp only at x0 x2 x4 x5 x9
  go_enter Try.func10, Try.ntmps10
  go_upto_region 1 with (fail)
  change Code.wp _ _ _ _ (W.alloc (acto ⟨2, wh, oo, sz, si, bb, id, aa, n, A, l.length, c⟩))
  rw [← HA.out, ← HW.out]
  go_upto_region 8 with (at_builtin; refine wpList_append_any rfl _ _ 33 rfl W1.heap.size 2 i0 (.int .i64 0) 1 8 Try.underlying33 hi0 hz0 hz1 hz2 rfl (by decide) (.slice none 0 0) 0 [] rfl (World.ownsRow_nil _ _ _ _) (.slice A l.length c) l.length (rowI l) rfl HLEN.out HS0.out HONE.out (by unfold maxLen; omega) (by omega) (Nat.le_refl _) l.length (by omega) (rowI l) (by simp) ?_; intro A1 c1 w2 hown1 hgrow1 hat1; have HX2 := Lib.hid (grown_ext (Ext.refl _) hgrow1 (by intro b hb; simp [Value.ownBlock] at hb)); have HO2 := Lib.hid hown1; clear hown1 hgrow1 hat1 x0 x2 x4 x5 x9)
  have hE2 := HE1.out.trans HX2.out
  obtain ⟨_, _, x2, _, x4, x5, _, _, _, _, xl2⟩ := acto_cells ((HX2.out.kept (fun _ _ => true)).same _ _ HR1.out rfl)
  rw [HA.out] at x2 x4 x5
  dsimp only at x2 x4 x5
  have HC1 := Lib.hid (HCP.out w2 hE2 A1 c1 (Src.of HO2.out (rowI_len _)))
  have HE2 := Lib.hid hE2
  clear hE2
  go_upto_region 9 with (go_at_call 19; refine HC1.out.mono ?_; rintro e w3 ⟨rfl, hs3⟩; have hk3 : Kept (pQ oP) w2 w3 := (by obtain ⟨_, _, _, _, _, q, _⟩ := hs3; exact q); have HS3 := Lib.hid hs3; have HK3 := Lib.hid hk3; clear hs3 hk3 x2 x4 x5)
  have hb3 := HK3.out.same _ _ ((HX2.out.kept (fun _ _ => true)).same _ _ HR1.out rfl) (by simp [pQ, HFP.out _ (Nat.le_refl _)])
  obtain ⟨_, _, x2, _, x4, x5, _, _, _, x9, xl3⟩ := acto_cells hb3
  rw [HA.out] at x2 x4 x5 x9
  dsimp only at x2 x4 x5 x9
  have hPQ : Kept (pB oP oR) W w3 := (HE2.out.kept _).trans (HK3.out.mono fun b t _ hp => by simp [pB] at hp; simp [pQ, hp.1])
  have HC2 := Lib.hid (HCR.out w3 ((HH.out.ext HE2.out).ref HK3.out) (HSRC.out w3 hPQ))
  have HB3 := Lib.hid hb3
  clear hb3 hPQ
  go_upto_region 10 with (go_at_call 26; refine HC2.out.mono ?_; rintro e w4 ⟨rfl, hs4⟩; have hk4 : Kept (pQ oR) w3 w4 := (by obtain ⟨_, _, _, _, q, _⟩ := hs4; exact q); have HS4 := Lib.hid hs4; have HK4 := Lib.hid hk4; clear hs4 hk4 x2 x4 x5 x9)
  have HN := Lib.hid (both_step (HH.out.ext HE2.out) HS3.out HS4.out)
  have HO4 := Lib.hid (HK4.out.row (HK3.out.row HO2.out fun g hg => by have := own_base HO2.out g hg; have := HS1.out; simp [pQ, HFP.out g (by omega)]) fun g hg => by have := own_base HO2.out g hg; have := HS1.out; simp [pQ, HFR.out g (by omega)])
  have HLT := Lib.hid (fun g (hg : (Value.slice A1 l.length c1).ownBlock = some g) => by obtain ⟨o, q, _⟩ := own_is HO2.out g hg; exact (show g < w2.heap.size from (Array.getElem?_eq_some_iff.1 q).1))
  clear xl xl2 xl3
  go_wp2_with fail
  go_loopg [16] l.length (fun k v16 wr => ∃ (j : Nat) (l' : List Int), j + k = l.length ∧ v16 = .int .i64 j ∧ l'.length = l.length ∧ wr.ownsRow W1.heap.size 2 1 (.slice A1 l.length c1) l.length (rowI l') ∧ Kept (fun b _ => decide (b < W1.heap.size) || decide (w2.heap.size ≤ b)) w4 wr)
  case atStart => exact ⟨0, l, by omega, rfl, rfl, HO4.out, Kept.refl _ _⟩
  case round =>
    obtain ⟨j, l', hjk, rfl, hl', hrow, hkp⟩ := hrel
    have HJK := Lib.hid hjk
    have HKP := Lib.hid hkp
    clear hjk hkp
    by_cases hj : j < l.length
    · rw [← hl'] at hrow
      obtain ⟨g5, c5, e5, hset, hfz, hg5, ⟨o5, hto, hta⟩, hk5⟩ := ownI_set hrow (show j < l'.length by omega) (wrap64 (l'[j]?.getD 0 + 1))
      obtain ⟨g6, c6', e6, dj⟩ := ownI_cell hrow (show j < l'.length by omega)
      have hg2 : W1.heap.size ≤ g5 ∧ g5 < w2.heap.size := ⟨own_base hrow g5 (by rw [e5]; rfl), HLT.out g5 (by rw [hl'] at e5; rw [e5]; rfl)⟩
      rw [e5] at e6
      injection e6 with e6 _ e8
      injection e6 with e6
      injection e6 with e6
      subst e6 e8
      injection e5 with e5 _ e7
      subst e5 e7
      rw [hl'] at hset
      have hjl : (j : Int) < (l.length : Int) := by omega
      have HSET := Lib.hid hset
      have HK5 := Lib.hid hk5
      have HL := Lib.hid hl'
      have HG := Lib.hid hg2
      clear hrow hset hk5 hl' hto hta hg2
      go_wp2_with fail
      go_roundg (gk - 1)
      case measure => have := HJK.out; omega
      case rel => exact ⟨j + 1, _, by have := HJK.out; omega, by go_num, by simp [HL.out], HSET.out, HKP.out.trans (HK5.out.mono fun b t _ hp => by have := HG.out; simp at hp; simp; omega)⟩
    · have hjl : ¬ (j : Int) < (l.length : Int) := by omega
      clear hrow hl'
      go_wp2_with fail
      go_ret
      exact ⟨rfl, HN.out.aside HKP.out (fun b hb => by have := HH.out.p.lt b hb; have := HS1.out; omega) (fun b hb => by have := HH.out.r.lt b hb; have := HS1.out; omega) HE2.out (by have := HS1.out; omega)⟩
/-- An act: both answer alike. -/
theorem do_ok (h : Both oP oR bh bw ps L M W) (a : ActD) (l : List Int) (hc : Cells oP oR W a l) (hl : l.length ≤ 300) (hwf : (Lit.int .i64 a.by').wf = true) :
    Calls Try.prog 10 (argsD bh bw a) W fun e W' => e = .returned (.bool true) ∧ Next2 oP oR bh bw W W' := by
  by_cases k1 : a.k = 1
  · exact do_make h a k1 hwf
  by_cases k2 : a.k = 2
  · exact do_closure h a l k2 hc hl hwf
  by_cases k3 : a.k = 3
  · exact do_get h a k3
  by_cases k4 : a.k = 4
  · exact do_set h a k4
  by_cases k5 : a.k = 5
  · exact do_is h a k5
  by_cases k6 : a.k = 6
  · cases hn : hasO L a.id with
    | false => exact do_obj_no h a k6 hn
    | true => exact do_obj_yes h a k6 hn
  · exact do_other h a ⟨k1, k2, k3, k4, k5, k6⟩
end
end Go.Proofs.Ytjgggfickbbieaa
