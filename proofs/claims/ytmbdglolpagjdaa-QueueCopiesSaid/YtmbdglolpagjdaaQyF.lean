/- QueueCopies' walk. -/
import Derived.Test.YtmbdglolpagjdaaQyB
import Derived.Test.YtmbdglolpagjdaaQwH
namespace Go.Proofs.Ytmbdglolpagjdaa
open Go.RowKit Go.Shelf
attribute [local go_sem] Oper.semAt_some
/-- Two pairs of queues that have no block in common. -/
structure Four (W0 : World) (own own2 : Nat → Bool) (bq bw bo bx : Nat) (l E : List Ent) (pu : Int) (m F : List Ent) (pv : Int) (W : World) : Prop where
  a : Both own bq bw l E pu W
  b : Both own2 bo bx m F pv W
  dis : ∀ b, own b = true → own2 b = false
  ne : bw ≠ bx
  ga : ∀ b, own b = true → W0.heap.size ≤ b
  gb : ∀ b, own2 b = true → W0.heap.size ≤ b
  gw : W0.heap.size ≤ bw
  gx : W0.heap.size ≤ bx
  x : Ext W0 W
section
variable {W0 W W' : World} {own own2 : Nat → Bool} {bq bw bo bx : Nat} {l E m F : List Ent} {pu pv : Int}
theorem Four.swap (h : Four W0 own own2 bq bw bo bx l E pu m F pv W) : Four W0 own2 own bo bx bq bw m F pv l E pu W :=
  ⟨h.b, h.a, fun b hb => (by
    cases hc : own b with
    | false => rfl
    | true => rw [h.dis b hc] at hb; cases hb), h.ne.symm, h.gb, h.ga, h.gx, h.gw, h.x⟩
theorem Four.ext (h : Four W0 own own2 bq bw bo bx l E pu m F pv W) (k : Ext W W') : Four W0 own own2 bq bw bo bx l E pu m F pv W' :=
  ⟨h.a.ext k, h.b.ext k, h.dis, h.ne, h.ga, h.gb, h.gw, h.gx, h.x.trans k⟩
theorem QV.no_row {own : Nat → Bool} {bq bw : Nat} {l E : List Ent} {pu : Int} (h : QV own bq l pu W) (hr : RQ bw E W) {g : Nat} (hg : Rowb bw W g) : own g = false := by
  obtain ⟨o, h1, h2⟩ := hr.tagr hg
  exact h.notag h1 (by rw [h2]; simp) (by rw [h2]; simp) (by rw [h2]; simp)
theorem Four.next (h : Four W0 own own2 bq bw bo bx l E pu m F pv W) (hn : Next2 own bq bw pu W W') : ∃ own' l' E' pu', Four W0 own' own2 bq bw bo bx l' E' pu' m F pv W' ∧ pu' ≤ pu + 1 := by
  obtain ⟨own', l', E', pu', h1, h2, hk, h4⟩ := hn
  have hs := h.x.size
  refine ⟨own', l', E', pu', ⟨h1, ⟨?_, ?_, h.b.pl⟩, fun b hb => ?_, h.ne, fun b hb => ?_, h.gb, h.gw, h.gx, Kept.trans h.x (hk.mono fun b t _ hp => ?_)⟩, h2⟩
  · refine h.b.q.frame hk fun b _ hb => ?_
    simp only [pB, Bool.and_eq_true, Bool.not_eq_true', bne_iff_ne, ne_eq]
    refine ⟨?_, fun e => ?_⟩
    · cases hc : own b with
      | false => rfl
      | true => rw [h.dis b hc] at hb; cases hb
    · subst e
      rw [h.b.q.not_bw h.a.r] at hb; cases hb
  · refine h.b.r.of2 hk ?_ fun g hg => ?_
    · simp only [pB, Bool.and_eq_true, Bool.not_eq_true', bne_iff_ne, ne_eq]
      exact ⟨h.a.q.not_bw h.b.r, h.ne.symm⟩
    · simp only [pB, Bool.and_eq_true, Bool.not_eq_true', bne_iff_ne, ne_eq]
      refine ⟨h.a.q.no_row h.b.r hg, fun e => ?_⟩
      subst e
      obtain ⟨o, h5, h6⟩ := h.b.r.tagr hg
      obtain ⟨o', h7, h8⟩ := h.a.r.tagb
      rw [h5] at h7; cases h7
      rw [h6] at h8; simp at h8
  · cases hc : own2 b with
    | false => rfl
    | true =>
      rcases h4 b hb with h5 | h5
      · rw [h.dis b h5] at hc; cases hc
      · have := h.b.q.lt hc; omega
  · rcases h4 b hb with h5 | h5
    · exact h.ga b h5
    · omega
  · simp [pOld] at hp
    simp only [pB, Bool.and_eq_true, Bool.not_eq_true', bne_iff_ne, ne_eq]
    refine ⟨?_, by have := h.gw; omega⟩
    cases hc : own b with
    | false => rfl
    | true => have := h.ga b hc; omega
theorem Four.next2 (h : Four W0 own own2 bq bw bo bx l E pu m F pv W) (hn : Next2 own2 bo bx pv W W') : ∃ own2' m' F' pv', Four W0 own own2' bq bw bo bx l E pu m' F' pv' W' ∧ pv' ≤ pv + 1 := by
  obtain ⟨o, m', F', pv', h1, h2⟩ := h.swap.next hn
  exact ⟨o, m', F', pv', h1.swap, h2⟩
theorem sameE_comm (L M : List Ent) : sameE L M = sameE M L := by unfold sameE; rw [decide_eq_decide]; exact eq_comm
theorem sameE_refl (L : List Ent) : sameE L L = true := by simp [sameE]
set_option maxHeartbeats 4000000 in
set_option maxRecDepth 100000 in
theorem copies_walk (T S R : List ActD) (A B C : Option Addr) (c d e : Nat) (W : World) (hT : Acts W A T) (hS : Acts W B S) (hR : Acts W C R) (hn : T.length ≤ 40) (hn2 : S.length ≤ 20) (hn3 : R.length ≤ 20) :
    Calls Try.prog 4 #[.slice A T.length c, .slice B S.length d, .slice C R.length e] W fun e W' => e = .returned (.bool true) ∧ Ext W W' := by
  have HT := Lib.hid hT
  have HS := Lib.hid hS
  have HR := Lib.hid hR
  have HNEW := Lib.hid (New_ok W)
  have hn' : ¬ (T.length : Int) > 40 := by omega
  have hn2' : ¬ (S.length : Int) > 20 := by omega
  have hn3' : ¬ (R.length : Int) > 20 := by omega
  clear hT hS hR
  go_enter Try.func4, Try.ntmps4
  go_upto_region 4 with (go_at_call 9; refine HNEW.out.mono ?_; rintro e w1 ⟨rfl, hx1, hq1⟩; have HX1 := Lib.hid hx1; have HQ1 := Lib.hid hq1; clear hx1 hq1)
  obtain ⟨w2, hw2⟩ : ∃ w2, w2 = w1.alloc (.cells #[.slice none 0 0] 29 (0, 0)) := ⟨_, rfl⟩
  have hE2 : Ext w1 w2 := by rw [hw2]; exact Ext.one _ _
  have hb2 : w2.heap[w1.heap.size]? = some (.cells #[.slice none 0 0] 29 (0, 0)) := by rw [hw2]; exact World.alloc_heap_new _ _
  have hboth := Both.new (HQ1.out.ext hE2) hb2
  have hx2 := HX1.out.trans hE2
  have hbw := HX1.out.size
  change Code.wp _ _ _ _ (w1.alloc (.cells #[.slice none 0 0] 29 (0, 0)))
  rw [← hw2]
  have HB2 := Lib.hid hboth
  have HX2 := Lib.hid hx2
  clear hw2 hE2 hb2 hboth hx2 HX1 HQ1 HNEW
  generalize w1.heap.size = bw at *
  go_wp2_with fail
  go_loopg [9] T.length (fun k v9 wr => ∃ (i : Nat) (own : Nat → Bool) (l E : List Ent) (pu : Int), i + k = T.length ∧ v9 = .int .i64 i ∧ Both own W.heap.size bw l E pu wr ∧ pu ≤ i ∧ (∀ b, own b = true → W.heap.size ≤ b) ∧ Ext W wr)
  case atStart => exact ⟨0, _, [], [], 0, by omega, rfl, HB2.out, by omega, fun b hb => by simp [newQ] at hb; omega, HX2.out⟩
  case round =>
    clear HB2 HX2
    obtain ⟨i, own, l, E, pu, hik, rfl, hbo, hpu, hge, hx⟩ := hrel
    have hpu0 : 0 ≤ pu := by have := hbo.pl.len; omega
    have HBO := Lib.hid hbo
    have HGE := Lib.hid hge
    have HX := Lib.hid hx
    have hTr := HT.out.kept hx
    rcases Nat.lt_or_ge i T.length with hi | hi
    · obtain ⟨g, off, x, rfl, hwf, a0, a1, a2, a3, a4⟩ := Acts.at hTr hi
      have hdo := do_ok hbo x.k x.t x.d x.n x.f hwf ⟨hpu0, by omega⟩
      have hil : (i : Int) < (T.length : Int) := by omega
      have HDO := Lib.hid hdo
      clear hbo hge hx hTr hdo hwf
      go_wp2_with (go_at_call 10; refine HDO.out.mono ?_; rintro e w3 ⟨rfl, hn3⟩; obtain ⟨own', l', E', pu', hb3, hp3, hg3, hx3⟩ := hn3.since HX.out HGE.out hbw; have HB3 := Lib.hid hb3; have HG3 := Lib.hid hg3; have HX3 := Lib.hid hx3; clear hn3 hb3 hg3 hx3)
      go_roundg (gk - 1)
      case measure => omega
      case rel => exact ⟨i + 1, own', l', E', pu', by omega, by go_num, HB3.out, by omega, HG3.out, HX3.out⟩
    · have hil : ¬ (i : Int) < (T.length : Int) := by omega
      have hll : E.length ≤ 1000000 := by have := hbo.pl.len; omega
      have hc1 := Copy_ok hbo.q
      have HC1 := Lib.hid hc1
      clear hbo hge hx hTr hc1
      go_upto_region 9 with (first
        | (go_at_call 12; refine HC1.out.mono ?_; rintro e w3 ⟨bo, rfl, hbo3, hx3, own2, hq3, hg3⟩; have HX3 := Lib.hid hx3; have HQ3 := Lib.hid hq3; have HG3 := Lib.hid hg3; clear hx3 hq3 hg3)
        | (go_at_call 13; refine (refCopy_ok (HBO.out.r.ext HX3.out) hll).mono ?_; rintro e w4 ⟨bx, rfl, hbx4, hr4, hx4, _⟩; have HX4 := Lib.hid hx4; have HR4 := Lib.hid hr4; clear hx4 hr4))
      have hF : Four W own own2 W.heap.size bw bo bx l E pu l E pu w4 := by
        have s1 := HX.out.size
        have s2 := HX3.out.size
        have s3 := HBO.out.r.lt
        refine ⟨HBO.out.ext (HX3.out.trans HX4.out), ⟨HQ3.out.ext HX4.out, HR4.out, HBO.out.pl⟩, fun b hb => ?_, by omega, HGE.out, fun b hb => ?_, hbw, by omega, (HX.out.trans HX3.out).trans HX4.out⟩
        · cases hc : own2 b with
          | false => rfl
          | true =>
            have h1 := HBO.out.q.lt hb
            have h2 := HG3.out b hc
            omega
        · have h2 := HG3.out b hb
          omega
      have htri := hF.a.pl.tri
      have hsq : ∀ w, Ext w4 w → Calls Try.prog 14 #[.pointer (some ⟨W.heap.size, 0, none⟩), .pointer (some ⟨bo, 0, none⟩)] w fun e w' => e = .returned (.bool true) ∧ Ext w w' := fun w hw => by
        have := Same_ok (hF.ext hw).a.q (hF.ext hw).b.q htri htri
        rwa [sameE_refl] at this
      have hso : ∀ w, Ext w4 w → Calls Try.prog 14 #[.pointer (some ⟨bo, 0, none⟩), .pointer (some ⟨W.heap.size, 0, none⟩)] w fun e w' => e = .returned (.bool true) ∧ Ext w w' := fun w hw => by
        have := Same_ok (hF.ext hw).b.q (hF.ext hw).a.q htri htri
        rwa [sameE_refl] at this
      have HSQ := Lib.hid hsq
      have HSO := Lib.hid hso
      have HF := Lib.hid hF
      clear hsq hso hF htri HX3 HQ3 HG3 HX4 HR4 HBO HGE HC1 HX HT
      go_wp2_with (first
        | (go_at_call 14; refine (HSO.out _ HX5.out).mono ?_; rintro e w6 ⟨rfl, hx6⟩; have HX6 := Lib.hid (HX5.out.trans hx6); clear hx6)
        | (go_at_call 14; refine (HSQ.out _ (Ext.refl _)).mono ?_; rintro e w5 ⟨rfl, hx5⟩; have HX5 := Lib.hid hx5; clear hx5))
      clear HSQ HSO
      have hpu4 : pu ≤ 40 := by omega
      have hF6 := HF.out.ext HX6.out
      have HF6 := Lib.hid hF6
      clear hF6 HF HX5 HX6 hll hpu hik hi hn' hbw
      generalize W.heap.size = bq at *
      go_loopg [12] S.length (fun k v12 wr => ∃ (i : Nat) (own3 : Nat → Bool) (l2 E2 : List Ent) (pu2 : Int), i + k = S.length ∧ v12 = .int .i64 i ∧ Four W own3 own2 bq bw bo bx l2 E2 pu2 l E pu wr ∧ pu2 ≤ pu + i)
      case atStart => exact ⟨0, own, l, E, pu, by omega, rfl, HF6.out, by omega⟩
      case round =>
        clear HF6
        rename_i gk0 wr0 gk1 wr1
        obtain ⟨i, own3, l2, E2, pu2, hik, rfl, hF, hpu2⟩ := hrel
        have hpu0 : 0 ≤ pu2 := by have := hF.a.pl.len; omega
        have HF := Lib.hid hF
        have hTr := HS.out.kept hF.x
        rcases Nat.lt_or_ge i S.length with hi | hi
        · obtain ⟨g, off, x, rfl, hwf, a0, a1, a2, a3, a4⟩ := Acts.at hTr hi
          have hdo := do_ok hF.a x.k x.t x.d x.n x.f hwf ⟨hpu0, by omega⟩
          have hil : (i : Int) < (S.length : Int) := by omega
          have HDO := Lib.hid hdo
          clear hF hTr hdo hwf
          go_wp2_with (go_at_call 10; refine HDO.out.mono ?_; rintro e w3 ⟨rfl, hn3⟩; have HN3 := Lib.hid (HF.out.next hn3); clear hn3)
          obtain ⟨own4, l4, E4, pu4, hF4, hp4⟩ := HN3.out
          go_roundg (gk - 1)
          case measure => omega
          case rel => exact ⟨i + 1, own4, l4, E4, pu4, by omega, by go_num, hF4, by omega⟩
        · have hil : ¬ (i : Int) < (S.length : Int) := by omega
          have hpu5 : pu2 ≤ 60 := by omega
          clear hF hTr hik hpu2 hi hpu0
          go_wp2_with fail
          go_loopg [13] R.length (fun k v13 wr => ∃ (i : Nat) (own5 : Nat → Bool) (m F : List Ent) (pv : Int), i + k = R.length ∧ v13 = .int .i64 i ∧ Four W own3 own5 bq bw bo bx l2 E2 pu2 m F pv wr ∧ pv ≤ pu + i)
          case atStart => exact ⟨0, own2, l, E, pu, by omega, rfl, HF.out, by omega⟩
          case round =>
            clear HF HS
            obtain ⟨i, own5, m, F, pv, hik, rfl, hF, hpv⟩ := hrel
            have hpv0 : 0 ≤ pv := by have := hF.b.pl.len; omega
            have HF := Lib.hid hF
            have hTr := HR.out.kept hF.x
            rcases Nat.lt_or_ge i R.length with hi | hi
            · obtain ⟨g, off, x, rfl, hwf, a0, a1, a2, a3, a4⟩ := Acts.at hTr hi
              have hdo := do_ok hF.b x.k x.t x.d x.n x.f hwf ⟨hpv0, by omega⟩
              have hil : (i : Int) < (R.length : Int) := by omega
              have HDO := Lib.hid hdo
              clear hF hTr hdo hwf
              go_wp2_with (go_at_call 10; refine HDO.out.mono ?_; rintro e w3 ⟨rfl, hn3⟩; have HN3 := Lib.hid (HF.out.next2 hn3); clear hn3)
              obtain ⟨own4, m4, F4, pv4, hF4, hp4⟩ := HN3.out
              go_roundg (gk - 1)
              case measure => omega
              case rel => exact ⟨i + 1, own4, m4, F4, pv4, by omega, by go_num, hF4, by omega⟩
            · have hil : ¬ (i : Int) < (R.length : Int) := by omega
              have hlE : E2.length ≤ 100000 := by have := hF.a.pl.len; omega
              have hlF : F.length ≤ 100000 := by have := hF.b.pl.len; omega
              have hlS : (srt E2).length ≤ 1000000 := by rw [(srt_perm E2).length_eq]; omega
              have hbP : 0 ≤ pu2 ∧ pu2 ≤ 10000 := by have := hF.a.pl.len; omega
              have hbQ : 0 ≤ pv ∧ pv ≤ 10000 := by omega
              obtain ⟨b, hb⟩ : ∃ b, b = sameE (srt E2) (srt F) := ⟨_, rfl⟩
              have hsq : ∀ w, Ext wr w → Calls Try.prog 14 #[.pointer (some ⟨bq, 0, none⟩), .pointer (some ⟨bo, 0, none⟩)] w fun e w' => e = .returned (.bool b) ∧ Ext w w' := fun w hw => by
                have := Same_ok (hF.ext hw).a.q (hF.ext hw).b.q hF.a.pl.tri hF.b.pl.tri
                rwa [← hF.a.pl.srt, ← hF.b.pl.srt, ← hb] at this
              have hso : ∀ w, Ext wr w → Calls Try.prog 14 #[.pointer (some ⟨bo, 0, none⟩), .pointer (some ⟨bq, 0, none⟩)] w fun e w' => e = .returned (.bool b) ∧ Ext w w' := fun w hw => by
                have := Same_ok (hF.ext hw).b.q (hF.ext hw).a.q hF.b.pl.tri hF.a.pl.tri
                rwa [← hF.a.pl.srt, ← hF.b.pl.srt, sameE_comm, ← hb] at this
              have HSQ := Lib.hid hsq
              have HSO := Lib.hid hso
              have HB := Lib.hid hb
              have HLS := Lib.hid (And.intro hlE (And.intro hlF (And.intro hlS (And.intro hbP hbQ))))
              clear hsq hso hb hlE hlF hlS hbP hbQ hF hTr hik hpv hi hpv0 HR hn hn2 hn3 hn2' hn3' hpu4 hpu5
              go_upto_region 22 with (first
                | (go_at_call 15; refine (refSame_ok ((HX6.out.2.kept (fun _ _ => true)).row HO5.out fun _ _ => rfl) HO6.out HLS.out.2.2.1).mono ?_; rintro e w7 ⟨rfl, hx7⟩; rw [← HB.out]; have HX7 := Lib.hid (HX6.out.1.trans hx7); clear hx7)
                | (go_at_call 16; refine (refAll_ok (HF.out.b.r.ext HX5.out) HF.out.b.pl.ord HF.out.b.pl.dst HLS.out.2.1).mono ?_; rintro e w6 ⟨A6, c6, rfl, hx6, ho6⟩; have HX6 := Lib.hid (And.intro (HX5.out.trans hx6) hx6); have HO6 := Lib.hid ho6; clear hx6 ho6)
                | (go_at_call 16; refine (refAll_ok HF.out.a.r HF.out.a.pl.ord HF.out.a.pl.dst HLS.out.1).mono ?_; rintro e w5 ⟨A5, c5, rfl, hx5, ho5⟩; have HX5 := Lib.hid hx5; have HO5 := Lib.hid ho5; clear hx5 ho5))
              clear HO5 HO6 HX5 HX6
              have HBB : (b == b) = true := by simp
              go_wp2_with (first
                | (go_at_call 8; refine (known_ok _).mono ?_; rintro e w12 ⟨rfl, hx12⟩; have HX12 := Lib.hid (HX11.out.trans hx12); clear hx12)
                | (go_at_call 14; refine (HSO.out _ HX10.out).mono ?_; rintro e w11 ⟨rfl, hx11⟩; have HX11 := Lib.hid (HX10.out.trans hx11); clear hx11)
                | (go_at_call 14; refine (HSQ.out _ HX9.out).mono ?_; rintro e w10 ⟨rfl, hx10⟩; have HX10 := Lib.hid (HX9.out.trans hx10); clear hx10)
                | (go_at_call 11; refine (same_ok (HF.out.b.ext HX8.out) HLS.out.2.2.2.2).mono ?_; rintro e w9 ⟨rfl, hx9⟩; have HX9 := Lib.hid (HX8.out.trans hx9); clear hx9)
                | (go_at_call 11; refine (same_ok (HF.out.a.ext HX7.out) HLS.out.2.2.2.1).mono ?_; rintro e w8 ⟨rfl, hx8⟩; have HX8 := Lib.hid (HX7.out.trans hx8); clear hx8))
              go_ret
              exact ⟨rfl, HF.out.x.trans HX12.out⟩
end
end Go.Proofs.Ytmbdglolpagjdaa
