/- The document's queue: all items, in the order in which they come first. -/
import Derived.Test.YtmbdglolpagjdaaQvF
import Derived.Deep.CutRange
namespace Go.Proofs.Ytmbdglolpagjdaa
open Go.RowKit Go.Shelf
attribute [local go_sem] Oper.semAt_some
section
variable {E : List Ent} {bw : Nat} {W : World}
theorem RQ.cellsAt {W W' : World} (h : RQ bw E W) {g n c : Nat} (c0 : W.cell? ⟨bw, 0, none⟩ = some (.slice (some ⟨g, 0, none⟩) n c)) (k : Ext W W') {i : Nat} (hi : i < E.length) :
    W'.cell? ⟨bw, 0, none⟩ = some (.slice (some ⟨g, 0, none⟩) n c) ∧ W'.cell? ⟨g, i * 3, none⟩ = some (.int .i64 (nth E i).task) ∧ W'.cell? ⟨g, i * 3 + 1, none⟩ = some (.bool (nth E i).front) ∧ W'.cell? ⟨g, i * 3 + 2, none⟩ = some (.int .i64 (nth E i).due) ∧ g < W'.heap.size := by
  have c1 := (k.kept (fun _ _ => true)).cell c0 fun _ _ => rfl
  obtain ⟨g', c', c2, a⟩ := (h.ext k).cells hi
  rw [c1] at c2
  injection c2 with c2
  injection c2 with c2
  injection c2 with c2
  injection c2 with c2
  subst c2
  exact ⟨c1, a.1, a.2.1, a.2.2, World.block_lt_of_cell? W' _ a.1⟩
theorem Rowb.backK {p : Nat → Option TypeId → Bool} {W W' : World} (h : RQ bw E W) (k : Kept p W W') (hp : p bw (some 29) = true) {g : Nat} (hg : Rowb bw W' g) : Rowb bw W g := by
  obtain ⟨v, h3, h4⟩ := h
  obtain ⟨v', h5, h6⟩ := hg
  have h7 := k.same _ _ h3 hp
  rw [h5] at h7
  simp only [Option.some.injEq, Obj.cells.injEq, and_true] at h7
  have e : v' = v := by simpa using h7
  exact ⟨v, h3, e ▸ h6⟩
/-- What a round of All begins with: what is left; what was gathered. -/
structure AllI (E : List Ent) (W : World) (bc : Nat) (k : Nat) (v4 : Value) (wr : World) : Prop where
  ex : ∃ F P A c, k = F.length ∧ v4 = .slice A P.length c ∧ wr.ownsRow W.heap.size 32 3 (.slice A P.length c) P.length (row3 P) ∧ RQ bc F wr ∧ Ord F ∧ Dst F ∧ P ++ srt F = srt E ∧ P.length + F.length = E.length ∧ Ext W wr ∧ ∀ g, Rowb bc wr g → (Value.slice A P.length c).ownBlock ≠ some g

set_option maxHeartbeats 4000000 in
set_option maxRecDepth 100000 in
theorem refAll_ok (h : RQ bw E W) (ho : Ord E) (hd : Dst E) (hn : E.length ≤ 100000) :
    Calls Try.prog 16 #[.pointer (some ⟨bw, 0, none⟩)] W fun e W' => ∃ A c, e = .returned (.slice A (srt E).length c) ∧ Ext W W' ∧ W'.ownsRow W.heap.size 32 3 (.slice A (srt E).length c) (srt E).length (row3 (srt E)) := by
  have HC := Lib.hid (refCopy_ok h (by omega))
  have HO := Lib.hid ho
  have HD := Lib.hid hd
  obtain ⟨i0, hi0, hz0, hz1, hz2⟩ := info_parts infoItem
  clear h ho hd
  go_enter Try.func16, Try.ntmps16
  go_wp2_with fail
  refine HC.out.mono ?_
  rintro e w1 ⟨bc, rfl, hbc, hrq, hx1, hrow⟩
  have HRQ := Lib.hid hrq
  have HX1 := Lib.hid hx1
  have HROW := Lib.hid hrow
  clear HC hrq hx1 hrow
  go_wp2_with fail
  go_loopg [4] E.length (fun k v4 wr => AllI E W bc k v4 wr)
  case atStart => exact ⟨E, [], none, 0, rfl, rfl, World.ownsRow_nil _ _ _ _, HRQ.out, HO.out, HD.out, rfl, by simp, HX1.out, fun g _ h => by simp [Value.ownBlock] at h⟩
  case round =>
    clear HRQ HX1 HROW
    obtain ⟨F, P, A, c, rfl, rfl, hown, hq, hoF, hdF, hsr, hlen, hx, hsep⟩ := hrel.ex
    clear hrel
    have hlt := hq.lt
    rcases Nat.eq_zero_or_pos F.length with h0 | h0
    · have hF : F = [] := List.eq_nil_of_length_eq_zero h0
      subst hF
      obtain ⟨A', c', ⟨c0, _⟩, _⟩ := hq.src
      have e : P = srt E := by rw [← hsr]; simp [srt]
      have HOW := Lib.hid hown
      have HX := Lib.hid hx
      clear hq hown hoF hdF hsep hsr hx
      simp only [List.length_nil] at c0
      go_wp2_with fail
      go_ret
      subst e
      exact ⟨A, c, rfl, HX.out, HOW.out⟩
    · obtain ⟨g, c', c0, _⟩ := hq.cells h0
      have h0' : (0 : Int) < (F.length : Int) := by omega
      have hfi : ∀ w', Ext wr w' → Calls Try.prog 34 #[.pointer (some ⟨bc, 0, none⟩)] w' fun e W' => (∃ i : Nat, i < F.length ∧ e = .returned (.int .i64 i) ∧ RowKit.Hid (∀ k, k < F.length → eLt (nth F k) (nth F i) = false)) ∧ Ext w' W' := fun w' hw => (first_ok (hq.ext hw) hoF (by omega)).mono fun e W' h => ⟨by
        rcases h.1 with ⟨h1, _⟩ | h1
        · rw [h1] at h0; simp at h0
        · obtain ⟨i, k1, k2, k3⟩ := h1
          exact ⟨i, k1, k2, Lib.hid k3⟩, h.2⟩
      have HFI := Lib.hid hfi
      have HQ := Lib.hid hq
      have HOW := Lib.hid hown
      have HX := Lib.hid hx
      have HOF := Lib.hid hoF
      have HDF := Lib.hid hdF
      have HSR := Lib.hid hsr
      have HSEP := Lib.hid hsep
      clear hq hown hoF hdF hsep hsr hx hfi
      go_upto_region 4 with (fail)
      go_cut [5] from 8 to 29 (fun v5 wx => ∃ i bx, i < F.length ∧ v5 = .pointer (some ⟨bx, 0, none⟩) ∧ wr.heap.size ≤ bx ∧ RowKit.Hid (∀ k, k < F.length → eLt (nth F k) (nth F i) = false) ∧ wx.heap[bx]? = some (ito (nth F i)) ∧ Ext wr wx)
      case first =>
        go_region_with (first | (go_at_call 34; refine (HFI.out _ ?_).mono ?_; exact Ext.drew _; rintro e w3 ⟨⟨i, hi, rfl, HIM⟩, hx3⟩; have HX3 := Lib.hid ((Ext.drew _ : Ext wr _).trans hx3); obtain ⟨d0, a0, a1, a2, hg3⟩ := HQ.out.cellsAt c0 HX3.out hi; have hlt3 := (HQ.out.ext HX3.out).lt; have hsz3 := HX3.out.size; have hil : (i : Int) < (F.length : Int) := (by omega)) | (go_at_call 34; refine (HFI.out _ ?_).mono ?_; exact (Ext.one _ (itmo 0 false 0)).trans (Ext.drew _); rintro e w3 ⟨⟨i, hi, rfl, HIM⟩, hx3⟩; have HX3 := Lib.hid (((Ext.one _ (itmo 0 false 0)).trans (Ext.drew _) : Ext wr _).trans hx3); obtain ⟨d0, a0, a1, a2, hg3⟩ := HQ.out.cellsAt c0 HX3.out hi; have hlt3 := (HQ.out.ext HX3.out).lt; have hsz3 := HX3.out.size; have hil : (i : Int) < (F.length : Int) := (by omega); have HB5 := Lib.hid ((hx3.kept (fun _ _ => true)).same _ _ (show (wr.alloc (itmo 0 false 0)).drew.heap[wr.heap.size]? = some (itmo 0 false 0) from World.alloc_heap_new wr _) rfl); obtain ⟨⟨q0, q1, q2⟩, qf, ql⟩ := itmo_cells HB5.out))
        all_goals
          go_wp2_with fail
          go_meet
          case rel =>
            first
              | exact ⟨i, _, hi, rfl, hsz3, HIM, World.alloc_heap_new _ _, HX3.out.trans (Ext.one _ _)⟩
              | (obtain ⟨r1, r2⟩ := itm_set (t' := (nth F i).task) (f' := (nth F i).front) (d' := (nth F i).due) HB5.out rfl
                 exact ⟨i, _, hi, rfl, Nat.le_refl _, HIM, r1, Kept.trans HX3.out (r2 (pOld wr.heap.size) (oldNot _ _ (Nat.le_refl _) _))⟩)
      case rest =>
        obtain ⟨i, bx, hi, hv5, hbx, HIM, hb, hx5⟩ := hcut
        subst hv5
        obtain ⟨x0, x1, x2⟩ := ito_cells hb
        have hsc := srt_cons HOF.out.tri HDF.out hi HIM.out
        have hdl := dr_len HDF.out hi
        have HSC := Lib.hid hsc
        have HB := Lib.hid hb
        have HX5 := Lib.hid hx5
        have hown5 := (hx5.kept (fun _ _ => true)).row HOW.out fun _ _ => rfl
        have HO5 := Lib.hid hown5
        have hbs := HX.out.size
        have hbs5 := hx5.size
        have hob : ∀ b, (Value.slice A P.length c).ownBlock = some b → b < wr.heap.size := fun b hb => by
          obtain ⟨o, h, _⟩ := own_is HOW.out b hb
          exact (Array.getElem?_eq_some_iff.1 h).1
        have hobx : ((Value.slice A P.length c).ownBlock == some bx) = false := by
          simp only [beq_eq_false_iff_ne, ne_eq]
          intro e; have := hob bx e; omega
        have HOB := Lib.hid hob
        have HOBX := Lib.hid hobx
        clear hsc hb hx5 hown5 c0 hob hobx
        generalize nth F i = x at *
        go_wp2_with (at_builtin; refine wpList_append_any rfl _ _ 27 rfl W.heap.size 32 i0 (.agg #[.int .i64 0, .bool false, .int .i64 0]) 3 24 Try.underlying27 hi0 hz0 hz1 hz2 rfl (by decide) (.slice A P.length c) P.length (row3 P) rfl (HO5.out.alloc _) (.slice (some ⟨wc.heap.size, 0, none⟩) 1 1) 1 x.it3 rfl rfl (Src.new (heap_alloc_new wc _)) (it3_one x) (by unfold maxLen; omega) (by omega) (by simp; omega) (P.length + 1) rfl (row3 (P ++ [x])) (row3_snoc P x).symm ?_; intro A4 c4 w4 hown4 hgrow4 hat4; have hk4 : Kept (fun b _ => !((Value.slice A P.length c).ownBlock == some b)) wc w4 := ((Ext.one _ _).kept _).trans (Kept.grown hgrow4 fun j o e _ => (by simp [e])); have hb4 := hk4.same _ _ HB.out (by rw [HOBX.out]; rfl); obtain ⟨y0, y1, y2⟩ := ito_cells hb4; have HK4 := Lib.hid hk4; have HG4 := Lib.hid hgrow4; have HA4 := Lib.hid hat4; have HO4 := Lib.hid hown4; clear hk4 hb4 hgrow4 hat4 hown4 x0 x1 x2)
        have hbc4 : ((Value.slice A P.length c).ownBlock == some bc) = false := by
          simp only [beq_eq_false_iff_ne, ne_eq]
          intro e
          obtain ⟨o, h1, h2⟩ := own_is HOW.out bc e
          obtain ⟨v, h3, _⟩ := HQ.out
          rw [h1] at h3; cases h3; cases h2
        have hk5 := (HX5.out.kept _).trans HK4.out
        have hq4 : RQ bc F w4 := HQ.out.of2 hk5 (by rw [hbc4]; rfl) (fun g hg => by
          have := HSEP.out g hg
          simpa using this)
        have hback : ∀ g, Rowb bc w4 g → Rowb bc wr g := fun g hg => Rowb.backK HQ.out hk5 (by rw [hbc4]; rfl) hg
        have hx4 : Ext W w4 := grown_ext ((HX.out.trans HX5.out).trans (Ext.one _ _)) HG4.out (own_base HOW.out)
        have hdr := refDrop_ok hq4 HDF.out (by omega) x.task
        have HDR := Lib.hid hdr
        have HBACK := Lib.hid hback
        have HQ4 := Lib.hid hq4
        have HX4 := Lib.hid hx4
        clear hbc4 hk5 hq4 hback hx4 hdr
        refine HDR.out.mono ?_
        rintro e w5 ⟨rfl, hq5, hk5, hr5⟩
        have HQ5 := Lib.hid hq5
        have HK5 := Lib.hid hk5
        have HR5 := Lib.hid hr5
        clear HDR hq5 hk5 hr5
        go_wp2_with fail
        go_roundg (drE F x.task).length
        case measure => omega
        case rel =>
          refine ⟨drE F x.task, P ++ [x], A4, c4, rfl, by simp, ?_, HQ5.out, HOF.out.dr _, HDF.out.dr _, ?_, by simp; omega, ?_, fun g hg => ?_⟩
          · have h1 := HK5.out.row HO4.out fun g hg => by
              simp only [pW, bne_iff_ne, ne_eq]
              intro e; subst e
              obtain ⟨o, h1, h2⟩ := own_is HO4.out _ hg
              obtain ⟨v, h3, _⟩ := HQ4.out
              rw [h1] at h3; cases h3; cases h2
            rw [List.length_append]; exact h1
          · rw [← HSR.out, HSC.out]; simp
          · exact Kept.trans HX4.out (HK5.out.mono fun b t _ hb => by simp [pOld, pW] at *; omega)
          · intro e0
            have e : (Value.slice A4 (P.length + 1) c4).ownBlock = some g := by rw [List.length_append] at e0; exact e0
            rcases HR5.out g hg with h | h
            · have hb := HBACK.out g h
              rcases HA4.out with ha | ha
              · rw [e] at ha; exact HSEP.out g hb ha.symm
              · rw [e] at ha
                injection ha with ha
                have := HQ.out.rowb hb
                rw [World.size_alloc] at ha
                omega
            · obtain ⟨o, h1, _⟩ := own_is HO4.out g e
              have := (Array.getElem?_eq_some_iff.1 h1).1
              omega
end
end Go.Proofs.Ytmbdglolpagjdaa
