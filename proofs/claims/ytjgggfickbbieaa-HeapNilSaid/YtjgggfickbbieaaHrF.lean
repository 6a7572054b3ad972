/- The document's heap: an object is laid, there is room. -/
import Derived.Test.YtjgggfickbbieaaHrG
namespace Go.Proofs.Ytjgggfickbbieaa
open Go.RowKit Go.Shelf
attribute [local go_sem] Oper.semAt_some
theorem infoObj : (Try.prog.info? 45).map (fun i => (i.zero, i.size, i.bytes)) = some (some (.agg #[.int .i64 0, .int .i64 0, .slice none 0 0, .int .i64 0, .int .i64 0, .int .i64 0]), 6, 64) := by kernel_rfl
theorem infoParts {o : Option TypeInfo} {z : Option Value} {s b : Nat} (h : o.map (fun i => (i.zero, i.size, i.bytes)) = some (z, s, b)) : ∃ i, o = some i ∧ i.zero = z ∧ i.size = s ∧ i.bytes = b := by
  cases o with
  | none => cases h
  | some i => simp at h; exact ⟨i, rfl, h.1, h.2.1, h.2.2⟩
theorem row6_snoc (L : List Ob) (x : Ob) : row6 (L ++ [x]) = row6 L ++ x.c6 := by simp [row6]
theorem SrcO {w : World} {b : Nat} {x : Ob} {n : Int} (h : w.heap[b]? = some (obo x n)) : Src w (.slice (some ⟨b, 0, none⟩) 1 1) 1 ({ x with nth := n } : Ob).c6 :=
  .inr ⟨_, _, rfl, World.news_of_block (cs := #[.int .i64 x.kind, .int .i64 x.of, x.v, .int .i64 x.site, .int .i64 x.by', .int .i64 n]) (t := 45) (fr := (0, 0)) h⟩
theorem SrcO' {w : World} {b : Nat} {x : Ob} {n : Int} {A0 : Option Addr} {m0 c0' : Nat} (hxv : x.v = .slice A0 m0 c0') (h : w.heap[b]? = some (.cells #[.int .i64 x.kind, .int .i64 x.of, .slice A0 m0 c0', .int .i64 x.site, .int .i64 x.by', .int .i64 n] 45 (0, 0))) : Src w (.slice (some ⟨b, 0, none⟩) 1 1) 1 ({ x with nth := n } : Ob).c6 :=
  SrcO (by unfold obo; rw [hxv]; exact h)
section
variable {own : Nat → Bool} {bw : Nat} {L : List Ob} {W : World}
set_option maxHeartbeats 2000000 in
set_option maxRecDepth 100000 in
theorem refAdd_ok (h : RH own bw L W) (hn : L.length < 1024) (x : Ob) (n : Int) (hxo : W.ownsRow 0 2 1 x.v x.vals.length (rowI x.vals)) (hno : ∀ g, x.v.ownBlock = some g → own g = false) (hwd : x.vals.length ≤ 256) :
    Calls Try.prog 44 #[.pointer (some ⟨bw, 0, none⟩), .agg #[.int .i64 x.kind, .int .i64 x.of, x.v, .int .i64 x.site, .int .i64 x.by', .int .i64 n]] W fun e W' => e = .returned (.tuple #[.int .i64 ((L.length : Int) + 1), .int .i64 0]) ∧ ∃ own', RH own' bw (L ++ [{ x with nth := (cntO L x.by' : Int) }]) W' ∧ Kept (pQ own) W W' ∧ ∀ b, own' b = true → own b = true ∨ x.v.ownBlock = some b ∨ W.heap.size ≤ b := by
  obtain ⟨A0, c0', hxv⟩ := own_slice3 hxo
  have HXO := Lib.hid hxo
  have HNO := Lib.hid hno
  clear hxo hno
  obtain ⟨W1, hW1⟩ : ∃ W1, W1 = W.alloc (obo x n) := ⟨_, rfl⟩
  have hE1 : Ext W W1 := by rw [hW1]; exact Ext.one _ _
  have hr0 : W1.heap[W.heap.size]? = some (obo x n) := by rw [hW1]; exact World.alloc_heap_new _ _
  have h' := h.ext hE1
  obtain ⟨v, h1, h2, h3⟩ := h'.ex
  obtain ⟨A, c, rfl⟩ := own_slice3 h2
  have c0 : W1.cell? ⟨bw, 0, none⟩ = some (.slice A L.length c) := by simp [World.cell?, h1]
  obtain ⟨⟨x0, x1, x2, x3, x4, x5⟩, xf, xl⟩ := obo_cells hr0
  have hl : ¬ (1024 : Int) ≤ (L.length : Int) := by omega
  obtain ⟨hr1, hk1⟩ := obo_set hr0 0
  have HE1 := Lib.hid hE1
  have HW := Lib.hid hW1
  have HR := Lib.hid h'
  have HR1 := Lib.hid hr1
  have HK1 := Lib.hid hk1
  have HXV := Lib.hid hxv
  have HRW := Lib.hid h
  have hbl := h.lt bw h.ob
  clear h h' h1 h2 h3 hE1 hW1 hr0 hr1 hk1 hxv
  go_enter Try.func44, Try.ntmps44
  go_upto_region 1 with (fail)
  change Code.wp _ _ _ _ (W.alloc (obo x n))
  rw [← HW.out]
  go_wp2_with fail
  obtain ⟨w2, hw2⟩ : ∃ w2, w2 = W1.setCell ⟨W.heap.size, 5, none⟩ (.int .i64 0) := ⟨_, rfl⟩
  rw [← hw2]
  rw [← hw2] at HR1 HK1
  have hx2 : Ext W w2 := Kept.trans HE1.out (HK1.out.mono fun b t _ hp => by simp [pOld] at hp; simp; omega)
  have HX2 := Lib.hid hx2
  clear hw2 hx2 x0 x1 x2 x3 x4 x5 c0
  go_loopg [6] L.length (fun k v6 wr => ∃ i : Nat, i + k = L.length ∧ v6 = .int .i64 i ∧ wr.heap[W.heap.size]? = some (obo x (cntO (L.take i) x.by')) ∧ Ext W wr)
  case atStart => exact ⟨0, by omega, rfl, by simpa [cntO] using HR1.out, HX2.out⟩
  case round =>
    clear HR1 HX2 HK1
    obtain ⟨i, hik, rfl, hbx, hx⟩ := hrel
    have hq := (HR.out.ext (Ext.refl _))
    have hrh : RH own bw L wr := HRW.out.ext hx
    obtain ⟨v, h1, h2, h3⟩ := hrh.ex
    obtain ⟨⟨x0, x1, x2, x3, x4, x5⟩, yf, yl⟩ := obo_cells hbx
    have HIK := Lib.hid hik
    have HX := Lib.hid hx
    have HBX := Lib.hid hbx
    have hcl : cntO (L.take i) x.by' ≤ 1024 := by have := cntO_le (L.take i) x.by'; rw [List.length_take] at this; omega
    rcases Nat.lt_or_ge i L.length with hi | hi
    · obtain ⟨g, c1, rfl, d0, d1, d2, d3, d4, d5⟩ := own6_cells h2 hi
      have b0 : wr.cell? ⟨bw, 0, none⟩ = some (.slice (some ⟨g, 0, none⟩) L.length c1) := by simp [World.cell?, h1]
      have hil : (i : Int) < (L.length : Int) := by omega
      have HST := Lib.hid (cntO_step hi x.by')
      obtain ⟨hs1, hs2⟩ := obo_set (W := wr.drew) (n := cntO (L.take i) x.by') hbx ((cntO (L.take i) x.by' : Int) + 1)
      have HS1 := Lib.hid hs1
      have HS2 := Lib.hid hs2
      clear hq hrh h1 h2 h3 hx hbx hik d0 d1 d2 d3 d5 x0 x1 x2 x3 hs1 hs2
      by_cases hb : (nt L i).by' = x.by'
      · rw [hb] at d4
        rw [if_pos hb] at HST
        clear hb
        go_upto_region 7 with (fail)
        go_region
        all_goals
          go_wp2_with fail
          go_roundg (gk - 1)
          case measure => have := HIK.out; omega
          case rel => exact ⟨i + 1, by have := HIK.out; omega, by go_num, by have := HS1.out; rw [HST.out]; exact this, Kept.trans (HX.out.trans (Ext.drew _)) (HS2.out.mono fun b t _ hp => by simp [pOld] at hp; simp; omega)⟩
      · have hb' : ((nt L i).by' == x.by') = false := by simpa using hb
        rw [if_neg hb] at HST
        clear hb
        go_upto_region 7 with (fail)
        go_region
        all_goals
          go_wp2_with fail
          go_roundg (gk - 1)
          case measure => have := HIK.out; omega
          case rel => exact ⟨i + 1, by have := HIK.out; omega, by go_num, by rw [HST.out]; exact HBX.out, HX.out.trans (Ext.drew _)⟩
    · have hil : ¬ (i : Int) < (L.length : Int) := by omega
      have ei : i = L.length := by omega
      rw [ei, List.take_length] at hbx
      obtain ⟨A1, c1, rfl⟩ := own_slice3 h2
      have b0 : wr.cell? ⟨bw, 0, none⟩ = some (.slice A1 L.length c1) := by simp [World.cell?, h1]
      obtain ⟨i0, hi0, hz0, hz1, hz2⟩ := infoParts infoObj
      have H1 := Lib.hid h1
      have H2 := Lib.hid h2
      have hrow : ∀ w, Ext wr w → w.ownsRow 0 45 6 (.slice A1 L.length c1) L.length (row6 L) := fun w hw => (hw.kept (fun _ _ => true)).row h2 fun _ _ => rfl
      have HROW := Lib.hid hrow
      obtain ⟨q, hq9⟩ : ∃ q : Int, q = (cntO L x.by' : Int) := ⟨_, rfl⟩
      have hx6 : ∀ u ∈ ({ x with nth := q } : Ob).c6, u.oneCell' = true := by simp [Ob.c6, Value.oneCell', HXV.out]
      rw [← hq9] at hbx
      obtain ⟨⟨y0, y1, y2, y3, y4, y5⟩, _, _⟩ := obo_cells hbx
      rw [HXV.out] at y2
      have HQ9 := Lib.hid hq9
      have hbw : bw < wr.heap.size := by have := hx.size; omega
      clear hq hrh h1 h2 h3 hx hbx hik x0 x1 x2 x3 x4 x5 hq9 hrow yf yl
      go_wp2_with fail
      go_region_law (
        (refine step_append_any (by rfl) _ _ _ (by rfl) 0 45 i0 (.agg #[.int .i64 0, .int .i64 0, .slice none 0 0, .int .i64 0, .int .i64 0, .int .i64 0]) 6 64 Try.underlying28 hi0 hz0 hz1 hz2 rfl (by omega) (.slice A1 L.length c1) L.length (row6 L) (by rfl) (HROW.out _ ((Ext.drew _).trans (Ext.one _ _))) (.slice (some ⟨wr.heap.size, 0, none⟩) 1 1) 1 ({ x with nth := q } : Ob).c6 (by rfl) (by rfl) (SrcO' HXV.out (heap_alloc_new wr.drew _)) hx6 (by unfold maxLen; omega) (by omega) (by simp) (L.length + 1) rfl (row6 (L ++ [{ x with nth := q }])) (row6_snoc L _).symm ?_; intro A2 c2 w4 hown4 hgrow4 hat4; have hk4 : Kept (fun _ t => t != some 45) wr w4 := (((Ext.drew wr).trans (Ext.one _ _)).kept _).trans (Kept.grown hgrow4 fun j o e ho => (by rw [(own_tag (HROW.out _ ((Ext.drew _).trans (Ext.one _ _))) j o e ho).1]; rfl)); have hv4 := hk4.same _ _ H1.out rfl; have d0 : w4.cell? ⟨bw, 0, none⟩ = some (.slice A1 L.length c1) := (by simp [World.cell?, hv4]); have f4 := frozen_of_row w4 bw 0 _ _ hv4; have hl4 := (Array.getElem?_eq_some_iff.1 hv4).1))
      all_goals
        have hadd := RH.add (HRW.out.ext HX.out) { x with nth := q } ((HX.out.kept (fun _ _ => true)).row HXO.out fun _ _ => rfl) HNO.out hwd hn H1.out ((Ext.drew wr).trans (Ext.one _ _)) hgrow4 hat4 hown4 rfl
        have HADD := Lib.hid hadd
        clear hadd hgrow4 hat4 hown4 hk4 hv4 y0 y1 y2 y3 y4 y5 b0
        go_wp2_with fail
        refine bodyPost_ret (v := .tuple #[.int .i64 ((L.length : Int) + 1), .int .i64 0]) (by simp [results, Try.results44, go_sem]) rfl ?_
        obtain ⟨own', r1, r2, r3⟩ := HADD.out
        rw [HQ9.out] at r1
        refine ⟨rfl, own', r1, (HX.out.kept _).trans r2, fun b hb => ?_⟩
        rcases r3 b hb with r4 | r4 | r4
        · exact .inl r4
        · exact .inr (.inl r4)
        · have := HX.out.size
          exact .inr (.inr (by simp at r4; omega))
end
end Go.Proofs.Ytjgggfickbbieaa
