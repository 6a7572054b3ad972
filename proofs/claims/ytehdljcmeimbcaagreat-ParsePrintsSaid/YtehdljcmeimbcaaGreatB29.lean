/- The document's trees in memory: goes. -/
import Derived.Test.YtehdljcmeimbcaaGreatB27
import Derived.Deep.DeepCutAuto
import Derived.Deep.CutRange
namespace Go.Proofs.YtehdljcmeimbcaaGreat
open Go.RowKit
set_option linter.unusedSimpArgs false

theorem goesR_at (nm : List UInt8 → Bool) (l : List Tw) (f at_ : Nat) (m : Int) (t : Tw) (h : l[at_]? = some t) : goesR nm l (f + 1) at_ m =
    if 64 < m then 0
    else if kindOk t.kind = false ∨ textOk nm t.kind t.text = false ∨ numOk t.kind t.n = false then 0
    else if goesK (goesR nm l f) l t.nd m 0 (at_ + 1) t.kids = 0 then 0
    else if kidsOk t.kind (kindsOf l t.kids) = true then goesK (goesR nm l f) l t.nd m 0 (at_ + 1) t.kids else 0 := by
  conv => lhs; unfold goesR
  rw [h]
theorem goesR_end (nm : List UInt8 → Bool) (l : List Tw) (f at_ : Nat) (m : Int) (h : l.length ≤ at_) : goesR nm l f at_ m = 0 := by
  cases f with
  | zero => rfl
  | succ f =>
    unfold goesR
    rw [List.getElem?_eq_none h]

theorem goesK_ne {g : Nat → Int → Nat} {l : List Tw} {w : Nd} {nest : Int} {i next : Nat} {k : Int} {ks : List Int} (h : k ≠ next) : goesK g l w nest i next (k :: ks) = 0 := by
  unfold goesK
  rw [if_pos h]
theorem goesK_none {g : Nat → Int → Nat} {l : List Tw} {w : Nd} {nest : Int} {i next : Nat} {ks : List Int} (h : l[next]? = none) : goesK g l w nest i next ((next : Int) :: ks) = 0 := by
  unfold goesK
  rw [if_neg (by simp), h]
theorem goesK_some {g : Nat → Int → Nat} {l : List Tw} {w : Nd} {nest : Int} {i next : Nat} {ks : List Int} {x : Tw} (h : l[next]? = some x) : goesK g l w nest i next ((next : Int) :: ks) = if g next (nest + dprR w i x.nd) = 0 then 0 else goesK g l w nest (i + 1) (g next (nest + dprR w i x.nd)) ks := by
  conv => lhs; unfold goesK
  rw [if_neg (by simp), h]
theorem infoKind3 : (Tryz.prog.info? 36).map (fun i => (i.zero, i.size, i.bytes)) = some (some (.int .i64 0), 1, 8) := by kernel_rfl

theorem kinds_grow {w1 w2 w3 : World} {lA : Option Addr} {n i lc size : Nat} {e : TypeId} {xs : List Value} {o : Obj} (hb : Below w1.heap.size w1 w2) (ho : w2.ownsRow w1.heap.size e size (.slice lA i lc) n xs) (hs : w1.heap.size ≤ w2.heap.size) (hg : (w2.alloc o).grownBy w3 (Value.slice lA i lc).ownBlock) : Below w1.heap.size w1 w3 :=
  ⟨hg.os.trans hb.os, hg.tape.trans hb.tape, hg.output.trans hb.output, by have := hg.size; simp at this; omega, fun b hlt => by
    refine ((hg.block b (by simp; omega) fun e => ?_).trans (Below.heap_alloc _ _ _ (by omega))).trans (hb.block b hlt)
    have := (ho.lt b e.symm).1
    omega⟩
/-- What the document's goes answers, of so many rounds. -/
def GoesC (R : List Tw) (f : Nat) : Prop := ∀ (at_ : Nat) (nest : Int) (va : Value) (w : World), RdO w va R → R.length ≤ f + at_ → 0 ≤ nest → nest ≤ 70 →
    Calls Tryz.prog 19 #[.agg #[va], .int .i64 at_, .int .i64 nest] w fun e w' => e = .returned (.int .i64 (goesR isNm R f at_ nest)) ∧ Below w.heap.size w w'
set_option maxRecDepth 100000 in
set_option maxHeartbeats 1000000 in
theorem goes_end (R : List Tw) (f at_ : Nat) (nest : Int) (va : Value) (w : World) (hR : RdO w va R) (hlt : R.length ≤ at_) :
    Calls Tryz.prog 19 #[.agg #[va], .int .i64 at_, .int .i64 nest] w fun e w' => e = .returned (.int .i64 (goesR isNm R f at_ nest)) ∧ Below w.heap.size w w' := by
  obtain ⟨A, ca, rfl, ha⟩ := hR
  rw [goesR_end isNm R f at_ nest hlt]
  clear ha
  go_enter Tryz.func19, Tryz.ntmps19
  go_wp2_with fail
  go_ret
  exact ⟨rfl, (Below.refl _ _).alloc (Nat.le_refl _) _⟩
set_option maxRecDepth 100000 in
set_option maxHeartbeats 4000000 in
theorem goes_step (R : List Tw) (hn : R.length ≤ 100000000) (hx : ∀ t ∈ R, t.text.length ≤ 1000000000 ∧ t.kids.length ≤ 9223372036854775807) (f : Nat) (ih : GoesC R f) : GoesC R (f + 1) := by
    intro at_ nest va w hR hf hm0 hm1
    obtain ⟨i0, hi0, hz0, hz1, hz2⟩ := info_parts infoKind3
    by_cases hlt : at_ < R.length
    rotate_left
    · exact goes_end R _ _ _ _ _ hR (by omega)
    · obtain ⟨A, ca, hva, ha⟩ := id hR
      subst hva
      have IH := Lib.hid ih
      clear ih
      have hat : R[at_]? = some R[at_] := List.getElem?_eq_getElem hlt
      generalize R[at_] = t at hat
      obtain ⟨res, hres⟩ : ∃ res, res = goesR isNm R (f + 1) at_ nest := ⟨_, rfl⟩
      rw [← hres]
      rw [goesR_at isNm R f at_ nest t hat] at hres
      by_cases hnest : 64 < nest
      · rw [if_pos hnest] at hres
        subst hres
        go_enter Tryz.func19, Tryz.ntmps19
        go_wp2_with fail
        go_ret
        exact ⟨rfl, (Below.refl _ _).alloc (Nat.le_refl _) _⟩
      · rw [if_neg hnest] at hres
        have hres2 : ∀ c, c = goesK (goesR isNm R f) R t.nd nest 0 (at_ + 1) t.kids → res = if kindOk t.kind = false ∨ textOk isNm t.kind t.text = false ∨ numOk t.kind t.n = false then 0 else if c = 0 then 0 else if kidsOk t.kind (kindsOf R t.kids) = true then c else 0 := fun c hc => by rw [hc]; exact hres
        clear hres
        obtain ⟨g, o6, kv, rfl, hg, hint, hc⟩ := ha at_ t hat
        obtain ⟨htx, htk⟩ := hx t (List.mem_of_getElem? hat)
        obtain ⟨KA, kc, rfl, hkk⟩ := id hint
        obtain ⟨W, hW⟩ : ∃ W : World, W = w.alloc (.cells #[.slice (some ⟨g, o6, none⟩) R.length ca] 26) := ⟨_, rfl⟩
        have hbe : Below w.heap.size w W := by rw [hW]; exact (Below.refl _ w).alloc (Nat.le_refl _) _
        have hbs : W.heap.size = w.heap.size + 1 := by rw [hW]; simp
        have k0 : W.heap[w.heap.size]? = some (.cells #[.slice (some ⟨g, o6, none⟩) R.length ca] 26 (0, 0)) := by
          rw [hW]
          exact heap_alloc_new w _
        have q0 := cell_of_one k0
        have hcx := fun o u (h : (twCells t (.slice KA t.kids.length kc))[o]? = some u) => (hbe.cell (p := ⟨g, o6 + at_ * 6 + o, none⟩) hg).trans (hc o u h)
        have f0 := hcx 0 _ rfl
        have f1 := hcx 1 _ rfl
        have f2 := hcx 2 _ rfl
        have f3 := hcx 3 _ rfl
        have f4 := hcx 4 _ rfl
        have f5 := hcx 5 _ rfl
        rw [Nat.add_zero] at f0
        have HR := Lib.hid hR
        have HRES := Lib.hid hres2
        have HA := Lib.hid ha
        have HI := Lib.hid hint
        have HKK := Lib.hid hkk
        have HBE := Lib.hid hbe
        have HK0 := Lib.hid k0
        have HAT := Lib.hid hat
        clear hres2 hR ha hint hkk hbe k0 hat hc hcx
        go_enter Tryz.func19, Tryz.ntmps19
        go_upto_region 3 with (fail)
        change Code.wp _ _ _ _ (w.alloc (.cells #[.slice (some ⟨g, o6, none⟩) R.length ca] 26))
        rw [← hW]
        clear hW
        go_upto_region 4 with (fail)
        change Code.wp _ _ _ _ (W.alloc (twO t (.slice KA t.kids.length kc)))
        have hb7 : Below w.heap.size w (W.alloc (twO t (.slice KA t.kids.length kc))) := HBE.out.alloc HBE.out.size _
        have k7 : (W.alloc (twO t (.slice KA t.kids.length kc))).heap[w.heap.size + 1]? = some (twO t (.slice KA t.kids.length kc)) := by rw [← hbs]; exact heap_alloc_new W _
        have k07 : (W.alloc (twO t (.slice KA t.kids.length kc))).heap[w.heap.size]? = some (.cells #[.slice (some ⟨g, o6, none⟩) R.length ca] 26 (0, 0)) := (Below.heap_alloc _ _ _ (by omega)).trans HK0.out
        have hs7 : (W.alloc (twO t (.slice KA t.kids.length kc))).heap.size = w.heap.size + 2 := by simp; omega
        clear q0 f0 f1 f2 f3 f4 f5 HBE HK0 hbs
        generalize W.alloc (twO t (.slice KA t.kids.length kc)) = V at *
        obtain ⟨p0, p1, p2, p3, p4, p5⟩ := tw_cells k7
        have q0 := cell_of_one k07
        have hl7 : w.heap.size + 1 < V.heap.size := by omega
        have hl0 : w.heap.size < V.heap.size := by omega
        have HB7 := Lib.hid hb7
        have HK7 := Lib.hid k7
        have HK07 := Lib.hid k07
        clear hb7 k7 k07
        have htext := text2_ok t.kind t.text V htx
        have hnum := number2_ok t.kind t.n
        by_cases hbad : kindOk t.kind = false ∨ textOk isNm t.kind t.text = false ∨ numOk t.kind t.n = false
        · have h0 : res = 0 := by rw [HRES.out _ rfl, if_pos hbad]
          clear HRES
          subst h0
          cases hk : kindOk t.kind with
          | false =>
            have hk2 : t.kind < 1 ∨ 36 < t.kind := by
              simp only [kindOk, Bool.and_eq_false_iff, decide_eq_false_iff_not] at hk
              omega
            clear hbad hk htext hnum
            rcases hk2 with hk2 | hk2
            · go_wp2_with fail
              go_ret
              exact ⟨rfl, HB7.out⟩
            · have hk1 : ¬ t.kind < 1 := by omega
              go_wp2_with fail
              go_ret
              exact ⟨rfl, HB7.out⟩
          | true =>
            simp only [kindOk, Bool.and_eq_true, decide_eq_true_eq] at hk
            obtain ⟨hk1, hk36⟩ := hk
            cases ht : textOk isNm t.kind t.text with
            | false =>
              rw [ht] at htext
              have HTT := Lib.hid htext
              clear hbad htext hnum ht
              go_wp2_with (go_at_call 36; refine HTT.out.mono ?_; rintro e w1 ⟨rfl, hb1⟩)
              go_ret
              exact ⟨rfl, HB7.out.trans (hb1.mono HB7.out.size)⟩
            | true =>
              cases hm : numOk t.kind t.n with
              | true =>
                exfalso
                rw [ht, hm] at hbad
                simp [kindOk, hk1, hk36] at hbad
              | false =>
                rw [ht] at htext
                rw [hm] at hnum
                have HTT := Lib.hid htext
                have HNN := Lib.hid hnum
                clear hbad htext hnum ht hm
                go_wp2_with (first
                  | (go_at_call 36; refine HTT.out.mono ?_; rintro e w1 ⟨rfl, hb1⟩; obtain ⟨r0, r1, r2, r3, r4, r5⟩ := tw_cells ((hb1.block _ hl7).trans HK7.out))
                  | (go_at_call 37; refine (HNN.out _).mono ?_; rintro e w2 ⟨rfl, rfl⟩))
                go_ret
                exact ⟨rfl, HB7.out.trans (hb1.mono HB7.out.size)⟩
        · have hres3 : ∀ c, c = goesK (goesR isNm R f) R t.nd nest 0 (at_ + 1) t.kids → res = if c = 0 then 0 else if kidsOk t.kind (kindsOf R t.kids) = true then c else 0 := fun c hc => by rw [HRES.out c hc, if_neg hbad]
          have HRES3 := Lib.hid hres3
          simp only [not_or, Bool.not_eq_false] at hbad
          obtain ⟨hkind, htt, hnn⟩ := hbad
          rw [htt] at htext
          rw [hnn] at hnum
          have HTT := Lib.hid htext
          have HNN := Lib.hid hnum
          simp only [kindOk, Bool.and_eq_true, decide_eq_true_eq] at hkind
          obtain ⟨hk1, hk36⟩ := hkind
          clear htext hnum htt hnn HRES hres3
          go_wp2_with (first
            | (go_at_call 36; refine HTT.out.mono ?_; rintro e w1 ⟨rfl, hb1⟩; obtain ⟨r0, r1, r2, r3, r4, r5⟩ := tw_cells ((hb1.block _ hl7).trans HK7.out); have rq := cell_of_one ((hb1.block _ hl0).trans HK07.out))
            | (go_at_call 37; refine (HNN.out _).mono ?_; rintro e w2 ⟨rfl, rfl⟩))
          have hB1 := HB7.out.trans (hb1.mono HB7.out.size)
          have hK7 := (hb1.block _ hl7).trans HK7.out
          have hK07 := (hb1.block _ hl0).trans HK07.out
          have hl71 := lt_of_block hK7
          have hl01 := lt_of_block hK07
          have HB1 := Lib.hid hB1
          have HK7' := Lib.hid hK7
          have HK07' := Lib.hid hK07
          clear hb1 hB1 hK7 hK07 HB7 HK7 HK07 p0 p1 p2 p3 p4 p5 q0 r0 r1 r2 r3 r4 r5 rq HTT HNN hl7 hl0 hs7
          go_loopg [8, 9, 10] t.kids.length (fun n v8 v9 v10 wr => ∃ (i next : Nat), i + n = t.kids.length ∧ v10 = .int .i64 i ∧ v9 = .int .i64 next ∧ at_ < next ∧ next ≤ R.length ∧ at_ + 1 + i ≤ next ∧ wr.ownsRow w1.heap.size 36 1 v8 i ((kindsOf R (t.kids.take i)).map (Value.int .i64)) ∧ Below w1.heap.size w1 wr ∧ goesK (goesR isNm R f) R t.nd nest i next (t.kids.drop i) = goesK (goesR isNm R f) R t.nd nest 0 (at_ + 1) t.kids)
          case atStart => exact ⟨0, at_ + 1, by omega, rfl, by go_num, by omega, by omega, by omega, by simpa [kindsOf] using World.ownsRow_nil _ _ _ _, Below.refl _ _, rfl⟩
          case round =>
            obtain ⟨i, next, hin, rfl, rfl, hn1, hn2, hn3, hown, hbr, hgk⟩ := hrel
            obtain ⟨s0, s1, s2, s3, s4, s5⟩ := tw_cells ((hbr.block _ hl71).trans HK7'.out)
            have sq := cell_of_one ((hbr.block _ hl01).trans HK07'.out)
            obtain ⟨lA, lc, rfl⟩ := own_form hown
            have hsr := hbr.size
            have hbw := HB1.out.trans (hbr.mono HB1.out.size)
            have HBW := Lib.hid hbw
            have HBR := Lib.hid hbr
            have HOWN := Lib.hid hown
            have HGK := Lib.hid hgk
            clear hbw hbr hown hgk
            by_cases hlk : i < t.kids.length
            · have hki : t.kids[i]? = some t.kids[i] := List.getElem?_eq_getElem hlk
              have hdr := List.drop_eq_getElem_cons hlk
              have htk1 : t.kids.take (i + 1) = t.kids.take i ++ [t.kids[i]] := List.take_succ_eq_append_getElem hlk
              generalize t.kids[i] = k at *
              obtain ⟨gk1, ok1, rfl, hgk1, hck⟩ := HKK.out i k hki
              have hck1 := (HBW.out.cell (p := ⟨gk1, ok1 + i, none⟩) hgk1).trans hck
              have HKI := Lib.hid hki
              have HDR := Lib.hid hdr
              have HTK1 := Lib.hid htk1
              clear hki hdr htk1 hck
              by_cases hkn : k = (next : Int)
              rotate_left
              · have hz : res = 0 := by
                  rw [HRES3.out _ rfl, ← HGK.out, HDR.out, goesK_ne hkn]
                  rfl
                have hkb : (k != (next : Int)) = true := by simpa using hkn
                clear hkn HRES3
                subst hz
                go_wp2_with fail
                go_ret
                exact ⟨rfl, HBW.out⟩
              · subst hkn
                have hkb : ((next : Int) != (next : Int)) = false := by simp
                by_cases hlx : next < R.length
                rotate_left
                · have hz : res = 0 := by
                    rw [HRES3.out _ rfl, ← HGK.out, HDR.out, goesK_none (List.getElem?_eq_none (by omega))]
                    rfl
                  clear HRES3
                  subst hz
                  go_wp2_with fail
                  go_ret
                  exact ⟨rfl, HBW.out⟩
                · have hxi : R[next]? = some R[next] := List.getElem?_eq_getElem hlx
                  generalize R[next] = x at hxi
                  obtain ⟨gx, ox, kvx, hgxe, hgx, hix, hcx⟩ := HA.out next x hxi
                  injection hgxe with hgxe
                  injection hgxe with hgxe hoxe
                  subst hgxe
                  subst hoxe
                  have hk0 := (HBW.out.cell (p := ⟨g, o6 + next * 6 + 0, none⟩) hgx).trans (hcx 0 _ rfl)
                  rw [Nat.add_zero] at hk0
                  have hpar := fun w' (hb : Below w.heap.size w w') => paren2O_ok R (.slice (some ⟨g, o6, none⟩) R.length ca) t (.slice (some ⟨gk1, ok1, none⟩) t.kids.length kc) i next x w' (HR.out.below hb) (HI.out.below hb) HKI.out hxi (by omega)
                  have HPAR := Lib.hid hpar
                  have HXI := Lib.hid hxi
                  clear hix hcx hpar hxi
                  obtain ⟨m1, hm1'⟩ : ∃ m1 : Int, m1 = if x.kind = 12 then 1 else 0 := ⟨_, rfl⟩
                  obtain ⟨m2, hm2'⟩ : ∃ m2 : Int, m2 = if prnR t.nd i x.nd = true then 1 else 0 := ⟨_, rfl⟩
                  obtain ⟨m3, hm3'⟩ : ∃ m3 : Int, m3 = if ins t.nd i = true then 1 else 0 := ⟨_, rfl⟩
                  have b1 : 0 ≤ m1 ∧ m1 ≤ 1 := by rw [hm1']; split <;> omega
                  have b2 : 0 ≤ m2 ∧ m2 ≤ 1 := by rw [hm2']; split <;> omega
                  have b3 : 0 ≤ m3 ∧ m3 ≤ 1 := by rw [hm3']; split <;> omega
                  have hdp : dprR t.nd i x.nd = m1 + m2 + m3 := by
                    unfold dprR
                    rw [hm1', hm2', hm3']
                    rfl
                  have HDP := Lib.hid hdp
                  clear hdp
                  have HM1 := Lib.hid hm1'
                  have HM2 := Lib.hid hm2'
                  have HM3 := Lib.hid hm3'
                  clear hm1' hm2' hm3'
                  obtain ⟨b10, b11⟩ := b1
                  obtain ⟨b20, b21⟩ := b2
                  obtain ⟨b30, b31⟩ := b3
                  go_upto_if 79 with (fail)
                  go_cut [11] from 52 to 123 (fun v11 wx => v11 = .int .i64 m1 ∧ wr = wx)
                  case first =>
                    by_cases h12 : x.kind = 12
                    · have b12 : (x.kind == 12) = true := by simpa using h12
                      have H12 := Lib.hid h12
                      clear h12
                      go_wp2_with fail
                      go_meet
                      exact ⟨by rw [HM1.out, if_pos H12.out], rfl⟩
                    · have b12 : (x.kind == 12) = false := by simpa using h12
                      have H12 := Lib.hid h12
                      clear h12
                      go_wp2_with fail
                      go_meet
                      exact ⟨by rw [HM1.out, if_neg H12.out], rfl⟩
                  case rest =>
                    obtain ⟨rfl, rfl⟩ := hcut
                    have hp := HPAR.out wr HBW.out
                    generalize hpb : prnR t.nd i x.nd = pb at hp HM2
                    unfold twA at hp
                    have HP := Lib.hid hp
                    clear hp HPAR hpb
                    go_upto_if 85 with (go_at_call 38; refine HP.out.mono ?_; rintro e w2 ⟨rfl, hb2⟩)
                    go_cut [11] from 52 to 123 (fun v11 wx => v11 = .int .i64 (m1 + m2) ∧ w2 = wx)
                    case first =>
                      cases pb with
                      | true =>
                        go_wp2_with fail
                        go_meet
                        exact ⟨by rw [HM2.out]; rfl, rfl⟩
                      | false =>
                        go_wp2_with fail
                        go_meet
                        exact ⟨by rw [HM2.out]; simp, rfl⟩
                    case rest =>
                      obtain ⟨rfl, rfl⟩ := hcut
                      have hs2 := hb2.size
                      have hbr2 := HBR.out.trans (hb2.mono hsr)
                      have hbw2 := HB1.out.trans (hbr2.mono HB1.out.size)
                      have hown2 := own_below HOWN.out hb2
                      obtain ⟨d0, d1, d2, d3, d4, d5⟩ := tw_cells ((hbr2.block _ hl71).trans HK7'.out)
                      have dq := cell_of_one ((hbr2.block _ hl01).trans HK07'.out)
                      have hk02 := (hb2.cell (p := ⟨g, o6 + next * 6, none⟩) (World.block_lt_of_cell? wr _ hk0)).trans hk0
                      have hsr2 := hbr2.size
                      have HBR2 := Lib.hid hbr2
                      have HBW2 := Lib.hid hbw2
                      have HOWN2 := Lib.hid hown2
                      clear hb2 hbr2 hbw2 hown2 s0 s1 s2 s3 s4 s5 sq hk0 hck1 HOWN HBW HBR HP
                      generalize hib : ins t.nd i = ib at HM3
                      have HIB := Lib.hid hib
                      clear hib
                      go_upto_region 18 with (fail)
                      go_cut [104] from 52 to 123 (fun v104 wx => v104 = .bool ib ∧ w2 = wx)
                      case first =>
                        by_cases h31 : t.kind = 31
                        · have b31 : (t.kind == 31) = true := by simpa using h31
                          have b34 : (t.kind == 34) = false := by simp [h31]
                          have b35 : (t.kind == 35) = false := by simp [h31]
                          have H31 := Lib.hid h31
                          clear h31
                          by_cases hi1 : i = 1
                          · have bi : ((i : Int) == 1) = true := by simp [hi1]
                            have bin : (i == 1) = true := by simpa using hi1
                            have HI1 := Lib.hid hi1
                            clear hi1
                            go_wp2_with fail
                            go_meet
                            refine ⟨congrArg Value.bool ?_, rfl⟩
                            rw [← HIB.out]
                            simp [ins, Tw.nd, H31.out, HI1.out]
                          · have bi : ((i : Int) == 1) = false := by rw [beq_eq_false_iff_ne]; omega
                            have bin : (i == 1) = false := by simpa using hi1
                            have HI1 := Lib.hid hi1
                            clear hi1
                            go_wp2_with fail
                            go_meet
                            refine ⟨congrArg Value.bool ?_, rfl⟩
                            rw [← HIB.out]
                            simp [ins, Tw.nd, H31.out, HI1.out]
                        · have b31 : (t.kind == 31) = false := by simpa using h31
                          have H31 := Lib.hid h31
                          clear h31
                          by_cases h34 : t.kind = 34
                          · have b34 : (t.kind == 34) = true := by simpa using h34
                            have H34 := Lib.hid h34
                            clear h34
                            go_wp2_with fail
                            go_meet
                            refine ⟨congrArg Value.bool ?_, rfl⟩
                            rw [← HIB.out]
                            simp [ins, Tw.nd, H31.out, H34.out]
                          · have b34 : (t.kind == 34) = false := by simpa using h34
                            have H34 := Lib.hid h34
                            clear h34
                            by_cases h35 : t.kind = 35
                            · have b35 : (t.kind == 35) = true := by simpa using h35
                              have H35 := Lib.hid h35
                              clear h35
                              go_wp2_with fail
                              go_meet
                              refine ⟨congrArg Value.bool ?_, rfl⟩
                              rw [← HIB.out]
                              simp [ins, Tw.nd, H31.out, H34.out, H35.out]
                            · have b35 : (t.kind == 35) = false := by simpa using h35
                              have H35 := Lib.hid h35
                              clear h35
                              go_wp2_with fail
                              go_meet
                              refine ⟨congrArg Value.bool ?_, rfl⟩
                              rw [← HIB.out]
                              simp [ins, Tw.nd, H31.out, H34.out, H35.out]
                      case rest =>
                        obtain ⟨rfl, rfl⟩ := hcut
                        go_upto_if 104 with (fail)
                        go_cut [11] from 52 to 123 (fun v11 wx => v11 = .int .i64 (m1 + m2 + m3) ∧ w2 = wx)
                        case first =>
                          cases ib with
                          | true =>
                            go_wp2_with fail
                            go_meet
                            exact ⟨by rw [HM3.out]; rfl, rfl⟩
                          | false =>
                            go_wp2_with fail
                            go_meet
                            exact ⟨by rw [HM3.out]; simp, rfl⟩
                        case rest =>
                          obtain ⟨rfl, rfl⟩ := hcut
                          go_upto_region 20 with (fail)
                          go_wp2_with (first
                            | (at_builtin; refine wpList_append_lies _ rfl _ _ 81 rfl w1.heap.size 36 i0 (.int .i64 0) 1 8 Tryz.underlying81 hi0 hz0 hz1 hz2 rfl (by decide) (.slice lA i lc) i _ rfl (HOWN2.out.alloc _) ⟨w2.heap.size, 0, none⟩ 1 1 [.int .i64 x.kind] rfl rfl (World.news_of_block (cs := #[.int .i64 x.kind]) (t := 36) (fr := (0, 0)) (heap_alloc_new w2 _)) (by simp [Value.oneCell']) (by decide) (by unfold maxLen; omega) (by omega) (by simp; omega) (w2.heap.size + 1) (by simp) ?_; intro gg cap w3 hown3 hgrow3 hat3 hltg3; have hb3 := kinds_grow HBR2.out HOWN2.out hsr2 hgrow3; have dq3 := cell_of_one ((hb3.block _ hl01).trans HK07'.out))
                            | (go_at_call 19; refine (IH.out next (nest + (m1 + m2 + m3)) _ w3 (HR.out.below (HB1.out.trans (hb3.mono HB1.out.size))) (by omega) (by omega) (by omega)).mono ?_; rintro e w4 ⟨rfl, hb4⟩))
                          · rename_i hzz
                            have hz0' : goesR isNm R f next (nest + (m1 + m2 + m3)) = 0 := by simpa using hzz
                            have hres : res = 0 := by rw [HRES3.out _ rfl, ← HGK.out, HDR.out, goesK_some HXI.out, HDP.out, if_pos hz0', if_pos rfl]
                            clear hzz
                            subst hres
                            go_ret
                            exact ⟨rfl, HB1.out.trans ((hb3.trans (hb4.mono hb3.size)).mono HB1.out.size)⟩
                          · rename_i hzz
                            have hz0' : ¬ goesR isNm R f next (nest + (m1 + m2 + m3)) = 0 := by simpa using hzz
                            obtain ⟨dd, kk, ⟨⟨rest, hst⟩, _⟩, hst5⟩ := goesR_some isNm R f next _ hz0'
                            have hstl := congrArg List.length hst
                            simp only [List.length_drop, List.length_append, Fo.flat_len, Fo.size] at hstl
                            have hgk2 : goesK (goesR isNm R f) R t.nd nest (i + 1) (goesR isNm R f next (nest + (m1 + m2 + m3))) (t.kids.drop (i + 1)) = goesK (goesR isNm R f) R t.nd nest 0 (at_ + 1) t.kids := by rw [← HGK.out, HDR.out, goesK_some HXI.out, HDP.out, if_neg hz0']
                            have hkk2 : kindsOf R (t.kids.take (i + 1)) = kindsOf R (t.kids.take i) ++ [x.kind] := by
                              rw [HTK1.out]
                              simp [kindsOf, HXI.out]
                            have hz1' : at_ < goesR isNm R f next (nest + (m1 + m2 + m3)) := by omega
                            have hz2' : goesR isNm R f next (nest + (m1 + m2 + m3)) ≤ R.length := by omega
                            have hz3' : at_ + 1 + (i + 1) ≤ goesR isNm R f next (nest + (m1 + m2 + m3)) := by omega
                            have hown4 := own_below hown3 hb4
                            clear hzz hz0' hst hst5 hstl
                            generalize goesR isNm R f next (nest + (m1 + m2 + m3)) = z at *
                            go_roundg (t.kids.length - (i + 1))
                            case measure => omega
                            case rel =>
                              refine ⟨i + 1, z, by omega, by go_num, rfl, hz1', hz2', hz3', ?_, hb3.trans (hb4.mono hb3.size), hgk2⟩
                              rw [hkk2, List.map_append]
                              exact hown4
            · obtain rfl : i = t.kids.length := by omega
              have hD : t.kids.drop t.kids.length = [] := List.drop_of_length_le (Nat.le_refl _)
              have hT : t.kids.take t.kids.length = t.kids := List.take_of_length_le (Nat.le_refl _)
              have hkl : (kindsOf R t.kids).length = t.kids.length := by simp [kindsOf]
              have hgk := HGK.out
              rw [hD] at hgk
              have hres := HRES3.out next hgk
              rw [if_neg (by omega)] at hres
              have hown := HOWN.out
              rw [hT] at hown
              have hkc : ∀ (j : Nat) (y : Int), (kindsOf R t.kids)[j]? = some y → ∃ g, lA = some ⟨g, 0, none⟩ ∧ wr.cell? ⟨g, j, none⟩ = some (.int .i64 y) := fun j y hj => by
                have hjl := (List.getElem?_eq_some_iff.1 hj).1
                obtain ⟨gl, cp, e, _, _, hc⟩ := own_some hown (by omega)
                injection e with e1 _ _
                subst e1
                exact ⟨gl, rfl, hc j _ (by rw [List.getElem?_map, hj]; rfl)⟩
              have hkids := kids2_ok t.kind (kindsOf R t.kids) lA lc wr hkc (by omega)
              rw [hkl] at hkids
              have HKIDS := Lib.hid hkids
              clear hD hT hkl hgk hown hkc hkids HRES3
              cases hko : kidsOk t.kind (kindsOf R t.kids) with
              | true =>
                rw [hko] at hres HKIDS
                clear hko
                rw [if_pos rfl] at hres
                subst hres
                go_wp2_with (go_at_call 39; refine HKIDS.out.mono ?_; rintro e w5 ⟨rfl, hb5⟩)
                go_ret
                exact ⟨rfl, HBW.out.trans (hb5.mono HBW.out.size)⟩
              | false =>
                rw [hko] at hres HKIDS
                clear hko
                rw [if_neg (by decide)] at hres
                subst hres
                go_wp2_with (go_at_call 39; refine HKIDS.out.mono ?_; rintro e w5 ⟨rfl, hb5⟩)
                go_ret
                exact ⟨rfl, HBW.out.trans (hb5.mono HBW.out.size)⟩
theorem goes2O_ok (R : List Tw) (hn : R.length ≤ 100000000) (hx : ∀ t ∈ R, t.text.length ≤ 1000000000 ∧ t.kids.length ≤ 9223372036854775807) : ∀ f, GoesC R f
  | 0 => fun at_ nest va w hR hf _ _ => goes_end R 0 at_ nest va w hR (by omega)
  | f + 1 => goes_step R hn hx f (goes2O_ok R hn hx f)
end Go.Proofs.YtehdljcmeimbcaaGreat
