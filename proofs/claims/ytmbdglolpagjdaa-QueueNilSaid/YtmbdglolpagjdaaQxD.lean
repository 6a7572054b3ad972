/- The law's do: Drop, All, and nothing. -/
import Derived.Test.YtmbdglolpagjdaaQxB
namespace Go.Proofs.Ytmbdglolpagjdaa
open Go.RowKit Go.Shelf
attribute [local go_sem] Oper.semAt_some
section
variable {own : Nat → Bool} {bq bw : Nat} {l E : List Ent} {pu : Int} {W : World}
set_option maxHeartbeats 4000000 in
set_option maxRecDepth 100000 in
theorem do_drop (h : Both own bq bw l E pu W) (x : Ent) (n : Int) (ht : (Lit.int .i64 x.task).wf = true) (hpu : 0 ≤ pu ∧ pu ≤ 10000) :
    Calls Try.prog 10 #[.pointer (some ⟨bq, 0, none⟩), .pointer (some ⟨bw, 0, none⟩), .agg #[.int .i64 3, .int .i64 x.task, .bool x.front, .int .i64 x.due, .int .i64 n]] W fun e W' => e = .returned (.bool true) ∧ Next2 own bq bw pu W W' := by
  obtain ⟨W1, hW1⟩ : ∃ W1, W1 = W.alloc (acto 3 x n) := ⟨_, rfl⟩
  have hE1 : Ext W W1 := by rw [hW1]; exact Ext.one _ _
  have hr0 : W1.heap[W.heap.size]? = some (acto 3 x n) := by rw [hW1]; exact World.alloc_heap_new _ _
  obtain ⟨x0, x1, x2, x3, x4⟩ := acto_cells hr0
  have h1 := h.ext (hE1.trans (Ext.drew W1))
  have hlen : E.length ≤ 10000 := by have := h.pl.len; omega
  have hdr := Drop_ok h1.q x.task ht
  have hrf : ∀ w, RQ bw E w → Calls Try.prog 26 #[.pointer (some ⟨bw, 0, none⟩), .int .i64 x.task] w fun e W' => e = .returned (.bool (hasE l x.task)) ∧ RQ bw (drE E x.task) W' ∧ Kept (pW bw) w W' := fun w hw => by
    have := refDrop_ok hw h1.pl.dst (by omega) x.task
    rw [hasE_perm h1.pl.perm] at this
    exact this.mono fun e W' k => ⟨k.1, k.2.1, k.2.2.1⟩
  have hlt := (Array.getElem?_eq_some_iff.1 hr0).1
  have hno : own W.heap.size = false := by
    cases hc : own W.heap.size with
    | false => rfl
    | true => have := h.q.lt hc; omega
  have hbw := h.r.lt
  have HE1 := Lib.hid hE1
  have HR0 := Lib.hid hr0
  have HW := Lib.hid hW1
  have HH1 := Lib.hid h1
  have HDR := Lib.hid hdr
  have HRF := Lib.hid hrf
  have HNO := Lib.hid hno
  clear h h1 hE1 hr0 hW1 hdr hrf hno ht
  generalize hasE l x.task = bb at *
  go_enter Try.func10, Try.ntmps10
  go_upto_region 1 with (fail)
  change Code.wp _ _ _ _ (W.alloc (acto 3 x n))
  rw [← HW.out]
  go_upto_region 9 with (fail)
  go_region_with (first
    | (go_at_call 18; refine HDR.out.mono ?_; rintro e w3 ⟨rfl, own', l', hq3, hp3, hk3, ho3⟩; have hb3 := hk3.same _ _ (show W1.drew.heap[W.heap.size]? = _ from HR0.out) (by rw [pQ, HNO.out]; rfl); obtain ⟨y0, y1, y2, y3, y4⟩ := acto_cells hb3; have hr3 := HH1.out.r.prog HH1.out.q hk3; have hl3 := (Array.getElem?_eq_some_iff.1 hb3).1; have HQ3 := Lib.hid hq3; have HP3 := Lib.hid hp3; have HK3 := Lib.hid hk3; have HO3 := Lib.hid ho3; have HR3 := Lib.hid hr3; have HB3 := Lib.hid hb3; clear hq3 hp3 hk3 ho3 hr3 hb3)
    | (go_at_call 26; refine (HRF.out _ HR3.out).mono ?_; rintro e w4 ⟨rfl, hr4, hk4⟩; have HR4 := Lib.hid hr4; have HK4 := Lib.hid hk4; clear hr4 hk4))
  all_goals
    have hq4 := HQ3.out.ref HR3.out HK4.out
    have hpl := HH1.out.pl.drop HP3.out
    have hk : Kept (pB own bw) W w4 := ((HE1.out.kept _).trans (Kept.trans ((Ext.drew W1).kept _) (HK3.out.qB bw))).trans (HK4.out.wB own)
    have hz := HE1.out.size
    have HN := Lib.hid (show Next2 own bq bw pu W w4 from ⟨own', l', drE E x.task, pu, ⟨hq4, HR4.out, hpl⟩, by omega, hk, fun b hb => (HO3.out b hb).imp id fun h => by
      have : W1.drew.heap.size = W1.heap.size := rfl
      omega⟩)
    clear hq4 hpl hk x0 x1 x2 x3 x4 y0 y1 y2 y3 y4
    go_wp2_with fail
    go_ret
    exact ⟨rfl, HN.out⟩
set_option maxHeartbeats 4000000 in
set_option maxRecDepth 100000 in
theorem do_other (h : Both own bq bw l E pu W) (k : Int) (x : Ent) (n : Int) (hk : k ≠ 1 ∧ k ≠ 2 ∧ k ≠ 3 ∧ k ≠ 4 ∧ k ≠ 5 ∧ k ≠ 6) :
    Calls Try.prog 10 #[.pointer (some ⟨bq, 0, none⟩), .pointer (some ⟨bw, 0, none⟩), .agg #[.int .i64 k, .int .i64 x.task, .bool x.front, .int .i64 x.due, .int .i64 n]] W fun e W' => e = .returned (.bool true) ∧ Next2 own bq bw pu W W' := by
  obtain ⟨k1, k2, k3, k4, k5, k6⟩ := hk
  have HH := Lib.hid h
  clear h
  have e1 : (k == 1) = false := by simpa using k1
  have e2 : (k == 2) = false := by simpa using k2
  have e3 : (k == 3) = false := by simpa using k3
  have e4 : (k == 4) = false := by simpa using k4
  have e5 : (k == 5) = false := by simpa using k5
  have e6 : (k == 6) = false := by simpa using k6
  go_enter Try.func10, Try.ntmps10
  go_wp2_with fail
  go_ret
  exact ⟨rfl, HH.out.same (Ext.one _ _)⟩
/-- The beginning of a row. -/
theorem own_take {B n k c : Nat} {A : Option Addr} {L : List Ent} (h : W.ownsRow B 32 3 (.slice A n c) n (row3 L)) (hn : n = L.length) (hk : k ≤ n) (h0 : 0 < n) : W.ownsRow B 32 3 (.slice A k c) k (row3 (L.take k)) := by
  subst hn
  rcases h.2 with ⟨_, h1⟩ | ⟨g, cap, cur, e, h2, h3, h4, h5, h6, h7⟩
  · omega
  · injection e with e1 e2 e3
    subst e1 e3
    refine ⟨by rw [row3_len, List.length_take, Nat.min_eq_left hk], .inr ⟨g, c, cur, rfl, h2, h3, by omega, h5, h6, ?_⟩⟩
    rw [row3_take, ← h7, List.take_take, Nat.min_eq_left (by omega)]
set_option maxHeartbeats 4000000 in
set_option maxRecDepth 100000 in
theorem do_all (h : Both own bq bw l E pu W) (x : Ent) (n : Int) (hpu : 0 ≤ pu ∧ pu ≤ 10000) :
    Calls Try.prog 10 #[.pointer (some ⟨bq, 0, none⟩), .pointer (some ⟨bw, 0, none⟩), .agg #[.int .i64 6, .int .i64 x.task, .bool x.front, .int .i64 x.due, .int .i64 n]] W fun e W' => e = .returned (.bool true) ∧ Next2 own bq bw pu W W' := by
  obtain ⟨W1, hW1⟩ : ∃ W1, W1 = W.alloc (acto 6 x n) := ⟨_, rfl⟩
  have hE1 : Ext W W1 := by rw [hW1]; exact Ext.one _ _
  have hr0 : W1.heap[W.heap.size]? = some (acto 6 x n) := by rw [hW1]; exact World.alloc_heap_new _ _
  obtain ⟨x0, x1, x2, x3, x4⟩ := acto_cells hr0
  have h1 := h.ext hE1
  have hlen : E.length ≤ 10000 := by have := h.pl.len; omega
  obtain ⟨S, hS⟩ : ∃ S, S = srt l := ⟨_, rfl⟩
  have hls := list_ok (most := n.tmod 100) h1.pl.tri h1.q.hp h1.q.len W1 h1.q.ev
  rw [← hS] at hls
  have hal : ∀ w, RQ bw E w → Calls Try.prog 16 #[.pointer (some ⟨bw, 0, none⟩)] w fun e W' => ∃ A c, e = .returned (.slice A S.length c) ∧ Ext w W' ∧ W'.ownsRow w.heap.size 32 3 (.slice A S.length c) S.length (row3 S) := fun w hw => by
    have := refAll_ok hw h1.pl.ord h1.pl.dst (by omega)
    rwa [h1.pl.srt, ← hS] at this
  have hSl : S.length ≤ 10000 := by rw [hS, (srt_perm l).length_eq, ← h1.pl.perm.length_eq]; exact hlen
  have HE1 := Lib.hid hE1
  have HR0 := Lib.hid hr0
  have HW := Lib.hid hW1
  have HH := Lib.hid h
  have HLS := Lib.hid hls
  have HAL := Lib.hid hal
  have hlt := (Array.getElem?_eq_some_iff.1 hr0).1
  clear h h1 hE1 hr0 hW1 hls hal hS
  go_enter Try.func10, Try.ntmps10
  go_upto_region 1 with (fail)
  change Code.wp _ _ _ _ (W.alloc (acto 6 x n))
  rw [← HW.out]
  go_upto_region 20 with (go_at_call 19; refine HLS.out.mono ?_; rintro e w3 ⟨P, A, c, hP, rfl, hx3, ho3⟩; have HX3 := Lib.hid hx3; have HO3 := Lib.hid ho3; have HP := Lib.hid hP; clear hx3 ho3 hP x0 x1 x2 x3 x4)
  have hal3 := HAL.out _ (HH.out.r.ext (HE1.out.trans HX3.out))
  have HAL3 := Lib.hid hal3
  clear hal3 HAL HLS
  go_upto_region 21 with (go_at_call 16; refine HAL3.out.mono ?_; rintro e w4 ⟨B, d, rfl, hx4, ho4⟩; have HX4 := Lib.hid hx4; have HO4 := Lib.hid ho4; clear hx4 ho4)
  have hr4 := ((HX3.out.trans HX4.out).kept (fun _ _ => true)).same _ _ HR0.out rfl
  obtain ⟨x0, x1, x2, x3, x4⟩ := acto_cells hr4
  have hl4 := (Array.getElem?_eq_some_iff.1 hr4).1
  have HALLX := Lib.hid ((HE1.out.trans HX3.out).trans HX4.out)
  have HO3' := Lib.hid ((HX4.out.kept (fun _ _ => true)).row HO3.out fun _ _ => rfl)
  clear hr4
  by_cases hp : 0 < n.tmod 100 ∧ n.tmod 100 < (S.length : Int)
  · obtain ⟨hp1, hp2⟩ := hp
    have hcap : ∃ g, B = some ⟨g, 0, none⟩ ∧ S.length ≤ d := by
      rcases HO4.out.2 with ⟨_, h0⟩ | ⟨g, cap, cur, e, _, _, h4, _⟩
      · omega
      · injection e with e1 e2 e3; subst e3; exact ⟨g, e1, h4⟩
    obtain ⟨g, rfl, hd⟩ := hcap
    have hd1 : (n.tmod 100) ≤ (d : Int) := by omega
    have hp0 : 0 ≤ n.tmod 100 := by omega
    have hPe : P = S.take (n.tmod 100).toNat := by rw [HP.out, if_pos hp1]
    subst hPe
    have hkl : (n.tmod 100).toNat ≤ S.length := by omega
    have hlenP : (S.take (n.tmod 100).toNat).length = (n.tmod 100).toNat := by rw [List.length_take, Nat.min_eq_left hkl]
    have hsm := refSame_ok (L := S.take (n.tmod 100).toNat) (M := S.take (n.tmod 100).toNat) (A := A) (c := c) (B := some ⟨g, 0, none⟩) (d := d) HO3'.out (by rw [hlenP]; exact own_take HO4.out rfl hkl (by omega)) (by omega)
    rw [hlenP] at hsm
    have hse : sameE (S.take (n.tmod 100).toNat) (S.take (n.tmod 100).toNat) = true := same_all rfl fun _ _ => rfl
    rw [hse] at hsm
    have HSM := Lib.hid hsm
    clear hsm hse HP HAL3
    rw [hlenP]
    go_wp2_with (go_at_call 15; refine HSM.out.mono ?_; rintro e w5 ⟨rfl, hx5⟩; have HX5 := Lib.hid hx5; clear hx5)
    go_ret
    exact ⟨rfl, HH.out.same (HALLX.out.trans HX5.out)⟩
  · have hPe : P = S := by
      rw [HP.out]
      split
      · exact List.take_of_length_le (by omega)
      · rfl
    subst hPe
    have hsm := refSame_ok (L := P) (M := P) HO3'.out HO4.out (by omega)
    have hse : sameE P P = true := same_all rfl fun _ _ => rfl
    rw [hse] at hsm
    have HSM := Lib.hid hsm
    clear hsm hse HP HAL3
    by_cases hp1 : 0 < n.tmod 100
    · have hp2 : ¬ n.tmod 100 < (P.length : Int) := by omega
      clear hp
      go_wp2_with (go_at_call 15; refine HSM.out.mono ?_; rintro e w5 ⟨rfl, hx5⟩; have HX5 := Lib.hid hx5; clear hx5)
      go_ret
      exact ⟨rfl, HH.out.same (HALLX.out.trans HX5.out)⟩
    · clear hp
      go_wp2_with (go_at_call 15; refine HSM.out.mono ?_; rintro e w5 ⟨rfl, hx5⟩; have HX5 := Lib.hid hx5; clear hx5)
      go_ret
      exact ⟨rfl, HH.out.same (HALLX.out.trans HX5.out)⟩
end
end Go.Proofs.Ytmbdglolpagjdaa
