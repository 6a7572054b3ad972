/- termIf, unaryIf, blockIf, variable, unary of the document's parser (written by gen_r2.py); first of the document's parser (written by gen_r3.py); tight of the document's parser (written by gen_r4.py). -/
import Derived.Test.YtpeoefbibjbinaaGreatB10
namespace Go.Proofs.YtpeoefbibjbinaaGreat
open Go.RowKit

theorem zero_row (w : World) : R3 (w.alloc (.cells #[.int .i64 0, .string ⟨#[]⟩, .int .i64 0, .int .i64 0, .int .i64 0, .slice none 0 0] 39)) (.slice (some ⟨w.heap.size, 0, none⟩) 1 1) [zeroT] :=
  ⟨⟨by decide, by decide, fun t ht => by simp at ht; subst ht; simp [zeroT]⟩, w.heap.size, 1, _, _, twCells zeroT (.slice none 0 0), rfl, heap_alloc_new w _, ⟨_, [], by simp, ints_nil _, rfl⟩, fun i u hu => by simpa [twCells, zeroT] using hu⟩

set_option maxRecDepth 100000 in
set_option maxHeartbeats 2000000 in
theorem termIf3_ok (n : Nat) (HPART : Hid (Ct3 98 n .term)) : Ct3 135 (n + 1) .termIf := by
  intro C w m σ x h hQ
  rw [Q] at hQ
  have HS0 := Lib.hid (S3.start h)
  obtain ⟨_, _, _, c3, _⟩ := h.cells
  have hp := h.lt
  by_cases he : σ.er = 0
  · rw [if_pos he] at hQ
    rw [he] at c3
    have HC := Lib.hid (HPART.out C w m σ _ h hQ)
    clear h hQ he
    unfold Rx.ptr at *
    go_enter Tryz.func135, Tryz.ntmps135
    go_wp2_with fail
    refine HC.out.mono ?_
    rintro e w1 ⟨g1, n1, rfl, hr, hs, hk⟩
    have HR := Lib.hid ((HS0.out.call hs hk).ret hr)
    clear hr hs hk HC HS0
    go_wp2_with fail
    go_ret
    exact HR.out
  · rw [if_neg he] at hQ
    have hx := Option.some.inj hQ
    subst hx
    have hb : (σ.er != 0) = true := by simpa using he
    clear h hQ he
    unfold Rx.ptr at *
    go_enter Tryz.func135, Tryz.ntmps135
    go_wp2_with fail
    have HR := Lib.hid ((HS0.out.al _).ret (zero_row w))
    go_ret
    exact HR.out

set_option maxRecDepth 100000 in
set_option maxHeartbeats 2000000 in
theorem unaryIf3_ok (n : Nat) (HPART : Hid (Ct3 136 n .unary)) : Ct3 141 (n + 1) .unaryIf := by
  intro C w m σ x h hQ
  rw [Q] at hQ
  have HS0 := Lib.hid (S3.start h)
  obtain ⟨_, _, _, c3, _⟩ := h.cells
  have hp := h.lt
  by_cases he : σ.er = 0
  · rw [if_pos he] at hQ
    rw [he] at c3
    have HC := Lib.hid (HPART.out C w m σ _ h hQ)
    clear h hQ he
    unfold Rx.ptr at *
    go_enter Tryz.func141, Tryz.ntmps141
    go_wp2_with fail
    refine HC.out.mono ?_
    rintro e w1 ⟨g1, n1, rfl, hr, hs, hk⟩
    have HR := Lib.hid ((HS0.out.call hs hk).ret hr)
    clear hr hs hk HC HS0
    go_wp2_with fail
    go_ret
    exact HR.out
  · rw [if_neg he] at hQ
    have hx := Option.some.inj hQ
    subst hx
    have hb : (σ.er != 0) = true := by simpa using he
    clear h hQ he
    unfold Rx.ptr at *
    go_enter Tryz.func141, Tryz.ntmps141
    go_wp2_with fail
    have HR := Lib.hid ((HS0.out.al _).ret (zero_row w))
    go_ret
    exact HR.out

set_option maxRecDepth 100000 in
set_option maxHeartbeats 2000000 in
theorem blockIf3_ok (n : Nat) (HPART : Hid (Ct3 58 n .block)) : Ct3 140 (n + 1) .blockIf := by
  intro C w m σ x h hQ
  rw [Q] at hQ
  have HS0 := Lib.hid (S3.start h)
  obtain ⟨_, _, _, c3, _⟩ := h.cells
  have hp := h.lt
  by_cases he : σ.er = 0
  · rw [if_pos he] at hQ
    rw [he] at c3
    have HC := Lib.hid (HPART.out C w m σ _ h hQ)
    clear h hQ he
    unfold Rx.ptr at *
    go_enter Tryz.func140, Tryz.ntmps140
    go_wp2_with fail
    refine HC.out.mono ?_
    rintro e w1 ⟨g1, n1, rfl, hr, hs, hk⟩
    have HR := Lib.hid ((HS0.out.call hs hk).ret hr)
    clear hr hs hk HC HS0
    go_wp2_with fail
    go_ret
    exact HR.out
  · rw [if_neg he] at hQ
    have hx := Option.some.inj hQ
    subst hx
    have hb : (σ.er != 0) = true := by simpa using he
    clear h hQ he
    unfold Rx.ptr at *
    go_enter Tryz.func140, Tryz.ntmps140
    go_wp2_with fail
    have HR := Lib.hid ((HS0.out.al _).ret (zero_row w))
    go_ret
    exact HR.out

set_option maxRecDepth 100000 in
set_option maxHeartbeats 2000000 in
theorem variable3_ok (n : Nat) (HPART : Hid (Ct3 128 n .tight)) : Ct3 114 (n + 1) .var := by
  intro C w m σ x h0 hQ
  rw [Q] at hQ
  obtain ⟨⟨X1, σ1⟩, q1, hQ1⟩ := Option.bind_eq_some_iff.1 hQ
  have hx := Option.some.inj hQ1
  subst hx
  clear hQ hQ1
  have HS0 := Lib.hid (S3.start h0)
  have HC := Lib.hid (HPART.out C w m σ _ h0 q1)
  clear q1
  unfold varS
  dsimp only
  have hhd : ∀ (h : 0 < X1.length), X1.headD zeroT = X1[0] := fun h => by cases X1 with | nil => simp at h | cons a b => rfl
  generalize hy : (if σ1.er = 0 ∧ isVarK (X1.headD zeroT).kind = false then wrong 4 σ1 else σ1) = σ2
  have HY := Lib.hid hy
  have HHD := Lib.hid hhd
  clear hy hhd
  clear h0
  unfold Rx.ptr at *
  go_enter Tryz.func114, Tryz.ntmps114
  go_wp2_with fail
  refine HC.out.mono ?_
  rintro e w1 ⟨g1, n1, rfl, hr, hs, hk⟩
  have HS1 := Lib.hid ((HS0.out.call hs hk).add hr)
  obtain ⟨_, _, _, c3, _⟩ := hs.cells
  have hp := hs.lt
  obtain ⟨g1', n1', e1, hgl, hcs⟩ := hr.form
  injection e1 with e1 e2 e3
  injection e1 with e1
  injection e1 with e1 _ _
  subst e1
  have hne : 0 < X1.length := hr.1.ne
  obtain ⟨kv, _, hc0⟩ := hcs 0 (X1[0]) (List.getElem?_eq_getElem hne)
  have hk0 := hc0 0 _ rfl
  simp only [Nat.zero_mul, Nat.zero_add] at hk0
  dsimp only at c3 HS1 hne hgl ⊢
  have HW := Lib.hid (wrong_ok C w1 m σ1 4 hs)
  have hy := HY.out
  rw [HHD.out hne] at hy
  clear hr hs hk HS0 hcs hc0 e2 e3 HC HHD HY
  generalize (X1[0]).kind = kd at *
  unfold Rx.ptr at HW
  by_cases he : σ1.er = 0
  · rw [he] at c3
    by_cases hv : isVarK kd = true
    · rw [if_neg (by rw [hv]; simp)] at hy
      subst hy
      have HR := Lib.hid (HS1.out.ret (HS1.out.row _ (.head _)))
      clear he HW HS1
      simp only [isVarK, Bool.or_eq_true, beq_iff_eq] at hv
      rcases hv with (rfl | rfl) | rfl
      all_goals
        go_wp2_with fail
        go_ret
        exact HR.out
    · rw [if_pos ⟨he, by simpa using hv⟩] at hy
      subst hy
      simp only [isVarK, Bool.or_eq_true, beq_iff_eq, not_or] at hv
      obtain ⟨⟨h29, h30⟩, h31⟩ := hv
      have b29 : (kd != 29) = true := by simp [h29]
      have b30 : (kd != 30) = true := by simp [h30]
      have b31 : (kd != 31) = true := by simp [h31]
      clear he h29 h30 h31
      go_wp2_with fail
      refine HW.out.mono ?_
      rintro e w2 ⟨rfl, hs, hk⟩
      have HS2 := Lib.hid (HS1.out.call hs hk)
      have HR := Lib.hid (HS2.out.ret (HS2.out.row _ (.head _)))
      clear hs hk HW HS1 HS2
      go_wp2_with fail
      go_ret
      exact HR.out
  · rw [if_neg (by simp [he])] at hy
    subst hy
    have hb : (σ1.er == 0) = false := by simpa using he
    have HR := Lib.hid (HS1.out.ret (HS1.out.row _ (.head _)))
    clear he HW HS1
    go_wp2_with fail
    go_ret
    exact HR.out

set_option maxRecDepth 100000 in
set_option maxHeartbeats 2000000 in
theorem unary3_ok (n : Nat) (HUI : Hid (Ct3 141 n .unaryIf)) (HT : Hid (Ct3 128 n .tight)) : Ct3 136 (n + 1) .unary := by
  intro C w m σ x h hQ
  rw [Q] at hQ
  have HS0 := Lib.hid (S3.start h)
  have HI1 := Lib.hid (is3_ok C w m σ 108 [101, 110] h)
  have HI2 := Lib.hid fun (w2 : World) (h : RS w2 C m σ) => is3_ok C w2 m σ 97 [114, 114] h
  have HA := Lib.hid fun (w2 : World) (h : RS w2 C m σ) => ahead_ok C w2 m σ h
  clear h
  unfold Rx.ptr at *
  go_enter Tryz.func136, Tryz.ntmps136
  go_wp2_with fail
  refine HI1.out.mono ?_
  rintro e w2 ⟨rfl, hb⟩
  have HS3 := Lib.hid (HS0.out.below hb)
  clear hb HI1 HS0
  cases hl : isT C.T [108, 101, 110] σ
  · rw [hl, if_neg (by decide)] at hQ
    have HQ := Lib.hid hQ
    clear hl hQ
    go_wp2_with fail
    refine (HI2.out _ HS3.out.rs).mono ?_
    rintro e w3 ⟨rfl, hb⟩
    have HS2 := Lib.hid (HS3.out.below hb)
    clear hb HI2 HS3
    have HS3 := HS2
    clear HS2
    cases ha : isT C.T [97, 114, 114] σ
    · have hQ := HQ.out
      rw [ha, if_neg (by decide)] at hQ
      have HC := Lib.hid (HT.out C _ m σ _ HS3.out.rs hQ)
      clear ha hQ HQ
      unfold Rx.ptr at HC
      go_wp2_with fail
      refine HC.out.mono ?_
      rintro e w4 ⟨g1, n1, rfl, hr, hs, hk⟩
      have HR := Lib.hid ((HS3.out.call hs hk).ret hr)
      clear hr hs hk HC HS3
      go_wp2_with fail
      go_ret
      exact HR.out
    · have hQ := HQ.out
      rw [ha, if_pos rfl] at hQ
      have hm : m ≤ 1000 := by
        by_cases hm : m ≤ 1000
        · exact hm
        · rw [if_neg hm] at hQ
          cases hQ
      rw [if_pos hm] at hQ
      obtain ⟨⟨X1, σ1⟩, q2, hQ1⟩ := Option.bind_eq_some_iff.1 hQ
      obtain ⟨hsz, rfl⟩ := tq_some hQ1
      have HSZ := Lib.hid hsz
      have htx : (hd (rest C.T σ)).text = [97, 114, 114] := by
        unfold isT at ha
        simp only [Bool.and_eq_true, beq_iff_eq] at ha
        exact ha.2
      have HAH := Lib.hid (HA.out _ HS3.out.rs)
      clear ha hQ hQ1 hsz HQ
      generalize hd (rest C.T σ) = t at *
      go_wp2_with fail
      refine HAH.out.mono ?_
      rintro e w4 ⟨rfl, hb⟩
      have HS4 := Lib.hid (HS3.out.below hb)
      have HOP := Lib.hid (open3_ok C w4 m σ 97 [114, 114] HS4.out.rs (by omega))
      clear hb HAH HS3
      unfold Rx.ptr at HOP
      generalize openS C.T m [97, 114, 114] σ = y at *
      obtain ⟨t', σ'⟩ := y
      unfold tokV
      rw [htx]
      have hfd := field1
      go_wp2_with fail
      refine HOP.out.mono ?_
      rintro e w5 ⟨rfl, hs, hk⟩
      dsimp only at hs q2 HSZ ⊢
      have HS5 := Lib.hid ((HS4.out.call hs hk).var w5.heap.size rfl (tokO t'))
      have HQ2 := Lib.hid q2
      clear hs hk HS4 HOP hfd q2
      unfold tokV
      go_wp2_with fail
      generalize hW : w5.alloc (tokO t') = W at HS5
      unfold tokO at hW
      rw [hW]
      obtain ⟨a0, a1, a2, a3, a4⟩ := HS5.out.tok (.head _)
      have HSD := Lib.hid HS5.out.drew
      clear hW HS5
      generalize w5.heap.size = b at *
      go_region_held3 (fun w' => w'.cell? ⟨b, 0, none⟩ = some (.int .i64 t'.kind) ∧ w'.cell? ⟨b, 1, none⟩ = some (.string ⟨t'.text.toArray⟩) ∧ w'.cell? ⟨b, 2, none⟩ = some (.int .i64 t'.n) ∧ w'.cell? ⟨b, 3, none⟩ = some (.int .i64 t'.line) ∧ w'.cell? ⟨b, 4, none⟩ = some (.int .i64 t'.col)) (first | go_keep | exact HS6.out.tok (.head _) | exact HS7.out.tok (.head _)) (first | (go_at_call 141; refine (HUI.out C _ (m + 1) _ _ HSD.out.rs HQ2.out).mono ?_; rintro e w6 ⟨g2, n2, rfl, hr, hs, hk⟩; have HS6 := Lib.hid ((HSD.out.call hs hk).add hr); clear hr hs hk) | (go_at_call 35; refine (twig_new 34 [] 0 t' [.slice (some ⟨g2, 0, none⟩) X1.length n2] _ rfl _ _ [X1] _ rfl rfl rfl (row1 (HS6.out.row _ (.head _))) HSZ.out).mono ?_; rintro e w7 ⟨g3, n3, rfl, hr, hb⟩; have HS7 := Lib.hid ((HS6.out.below hb).add hr); clear hr hb))
      obtain ⟨_, _, d2, _, _⟩ := HS7.out.rs.cells
      have d2' : w7.cell? ⟨C.p, 2, none⟩ = some (.int .i64 ((m : Int) + 1)) := by rw [d2]; simp
      have f2 := HS7.out.rs.free 2
      have hp7 := HS7.out.rs.lt
      have HSE := Lib.hid HS7.out.down
      have HR := Lib.hid (HSE.out.ret (HSE.out.row _ (.head _)))
      clear HSD HS6 HS7 HSE d2
      go_wp2_with fail
      go_ret
      exact HR.out

  · rw [hl, if_pos rfl] at hQ
    have hm : m ≤ 1000 := by
      by_cases hm : m ≤ 1000
      · exact hm
      · rw [if_neg hm] at hQ
        cases hQ
    rw [if_pos hm] at hQ
    obtain ⟨⟨X1, σ1⟩, q2, hQ1⟩ := Option.bind_eq_some_iff.1 hQ
    obtain ⟨hsz, rfl⟩ := tq_some hQ1
    have HSZ := Lib.hid hsz
    have htx : (hd (rest C.T σ)).text = [108, 101, 110] := by
      unfold isT at hl
      simp only [Bool.and_eq_true, beq_iff_eq] at hl
      exact hl.2
    have HAH := Lib.hid (HA.out _ HS3.out.rs)
    clear hl hQ hQ1 hsz
    generalize hd (rest C.T σ) = t at *
    go_wp2_with fail
    refine HAH.out.mono ?_
    rintro e w4 ⟨rfl, hb⟩
    have HS4 := Lib.hid (HS3.out.below hb)
    have HOP := Lib.hid (open3_ok C w4 m σ 108 [101, 110] HS4.out.rs (by omega))
    clear hb HAH HS3
    unfold Rx.ptr at HOP
    generalize openS C.T m [108, 101, 110] σ = y at *
    obtain ⟨t', σ'⟩ := y
    unfold tokV
    rw [htx]
    have hfd := field1
    go_wp2_with fail
    refine HOP.out.mono ?_
    rintro e w5 ⟨rfl, hs, hk⟩
    dsimp only at hs q2 HSZ ⊢
    have HS5 := Lib.hid ((HS4.out.call hs hk).var w5.heap.size rfl (tokO t'))
    have HQ2 := Lib.hid q2
    clear hs hk HS4 HOP hfd q2
    unfold tokV
    go_wp2_with fail
    generalize hW : w5.alloc (tokO t') = W at HS5
    unfold tokO at hW
    rw [hW]
    obtain ⟨a0, a1, a2, a3, a4⟩ := HS5.out.tok (.head _)
    have HSD := Lib.hid HS5.out.drew
    clear hW HS5
    generalize w5.heap.size = b at *
    go_region_held3 (fun w' => w'.cell? ⟨b, 0, none⟩ = some (.int .i64 t'.kind) ∧ w'.cell? ⟨b, 1, none⟩ = some (.string ⟨t'.text.toArray⟩) ∧ w'.cell? ⟨b, 2, none⟩ = some (.int .i64 t'.n) ∧ w'.cell? ⟨b, 3, none⟩ = some (.int .i64 t'.line) ∧ w'.cell? ⟨b, 4, none⟩ = some (.int .i64 t'.col)) (first | go_keep | exact HS6.out.tok (.head _) | exact HS7.out.tok (.head _)) (first | (go_at_call 141; refine (HUI.out C _ (m + 1) _ _ HSD.out.rs HQ2.out).mono ?_; rintro e w6 ⟨g2, n2, rfl, hr, hs, hk⟩; have HS6 := Lib.hid ((HSD.out.call hs hk).add hr); clear hr hs hk) | (go_at_call 35; refine (twig_new 35 [] 0 t' [.slice (some ⟨g2, 0, none⟩) X1.length n2] _ rfl _ _ [X1] _ rfl rfl rfl (row1 (HS6.out.row _ (.head _))) HSZ.out).mono ?_; rintro e w7 ⟨g3, n3, rfl, hr, hb⟩; have HS7 := Lib.hid ((HS6.out.below hb).add hr); clear hr hb))
    obtain ⟨_, _, d2, _, _⟩ := HS7.out.rs.cells
    have d2' : w7.cell? ⟨C.p, 2, none⟩ = some (.int .i64 ((m : Int) + 1)) := by rw [d2]; simp
    have f2 := HS7.out.rs.free 2
    have hp7 := HS7.out.rs.lt
    have HSE := Lib.hid HS7.out.down
    have HR := Lib.hid (HSE.out.ret (HSE.out.row _ (.head _)))
    clear HSD HS6 HS7 HSE d2
    go_wp2_with fail
    go_ret
    exact HR.out

end Go.Proofs.YtpeoefbibjbinaaGreat

namespace Go.Proofs.YtpeoefbibjbinaaGreat
open Go.RowKit

set_option maxRecDepth 100000 in
set_option maxHeartbeats 2000000 in
theorem first3_ok (n : Nat) (HBI : Hid (Ct3 140 n .blockIf)) (HTI : Hid (Ct3 135 n .termIf)) : Ct3 134 (n + 1) .first := by
  intro C w m σ x h hQ
  rw [Q, isKd_hd] at hQ
  have HS0 := Lib.hid (S3.start h)
  have HA := Lib.hid (ahead_ok C w m σ h)
  have HI := Lib.hid fun (w2 : World) (c : UInt8) (s : List UInt8) (h : RS w2 C m σ) => is3_ok C w2 m σ c s h
  clear h
  have HLT := Lib.hid fun (s : List UInt8) (h : isT C.T s σ = true) => isT_lt h
  have HLT3 := Lib.hid fun (h : (hd (rest C.T σ)).kind = 3) => rest_lt (T := C.T) (σ := σ) (by decide) h
  unfold Rx.ptr at *
  have HQ := Lib.hid hQ
  clear hQ
  generalize hd (rest C.T σ) = t at *
  go_enter Tryz.func134, Tryz.ntmps134
  go_wp2_with fail
  refine HA.out.mono ?_
  rintro e w1 ⟨rfl, hb⟩
  have HS1 := Lib.hid ((HS0.out.below hb).var w1.heap.size rfl (tokO t))
  clear hb HA HS0
  unfold tokV
  go_upto_region 2 with (fail)
  change Code.wp _ _ _ _ (w1.alloc (tokO t))
  generalize w1.alloc (tokO t) = wA at HS1 ⊢
  generalize w1.heap.size = b at *
  obtain ⟨a0, a1, a2, a3, a4⟩ := HS1.out.tok (.head _)
  by_cases hk3 : t.kind = 3
  · have hQ := HQ.out
    rw [if_pos (by simp [hk3])] at hQ
    obtain ⟨hsz, rfl⟩ := tq_some hQ
    have hk : (t.kind == 3) = true := by simp [hk3]
    have hlt := HLT3.out hk3
    clear hQ hsz hk3 HLT3 HLT HQ
    obtain ⟨_, c1, _, _, _⟩ := HS1.out.rs.cells
    have f1 := HS1.out.rs.free 1
    have hp1 := HS1.out.rs.lt
    have hbig := HS1.out.rs.big
    have hlt' := hlt.2
    have HS2 := Lib.hid (HS1.out.skip hlt')
    clear HS1
    go_upto_region 4 with (fail)
    clear c1 f1 hp1 hbig hlt'
    generalize wA.setCell ⟨C.p, 1, none⟩ (.int .i64 ((σ.k : Int) + 1)) = W at HS2 ⊢
    clear a0 a1 a2 a3 a4
    obtain ⟨a0, a1, a2, a3, a4⟩ := HS2.out.tok (.head _)
    go_wp2_with fail
    refine (twig_nil 26 [] t.n t _).mono ?_
    rintro e w2 ⟨g2, c2, rfl, hr, hb⟩
    have HR := Lib.hid ((HS2.out.below hb).ret hr)
    clear hr hb HS2
    go_wp2_with fail
    go_ret
    exact HR.out
  have hk : (t.kind == 3) = false := by simp [hk3]
  have hQ := HQ.out
  rw [hk, if_neg (by decide)] at hQ
  clear HQ hk3 HLT3
  have HQ := Lib.hid hQ
  clear hQ
  go_wp2_with fail
  refine (HI.out wA 110 [117, 108, 108] HS1.out.rs).mono ?_
  rintro e wB1 ⟨rfl, hb⟩
  have HT1 := Lib.hid (HS1.out.below hb)
  clear hb HS1 a0 a1 a2 a3 a4
  obtain ⟨a0, a1, a2, a3, a4⟩ := HT1.out.tok (.head _)
  cases hx : isT C.T [110, 117, 108, 108] σ
  rotate_left
  · have hQ := HQ.out
    rw [hx, if_pos rfl] at hQ
    have hlt := HLT.out _ hx
    clear hx HLT HQ
    obtain ⟨hsz, rfl⟩ := tq_some hQ
    clear hQ hsz
    obtain ⟨_, c1, _, _, _⟩ := HT1.out.rs.cells
    have f1 := HT1.out.rs.free 1
    have hp1 := HT1.out.rs.lt
    have hbig := HT1.out.rs.big
    have hlt' := hlt.2
    have HS2 := Lib.hid (HT1.out.skip hlt')
    clear HT1
    go_upto_region 7 with (fail)
    clear c1 f1 hp1 hbig hlt'
    generalize wB1.setCell ⟨C.p, 1, none⟩ (.int .i64 ((σ.k : Int) + 1)) = W at HS2 ⊢
    clear a0 a1 a2 a3 a4
    obtain ⟨a0, a1, a2, a3, a4⟩ := HS2.out.tok (.head _)
    go_wp2_with fail
    refine (twig_nil 27 [] 0 t _).mono ?_
    rintro e w2 ⟨g2, c2, rfl, hr, hb⟩
    have HR := Lib.hid ((HS2.out.below hb).ret hr)
    clear hr hb HS2
    go_wp2_with fail
    go_ret
    exact HR.out
  have hQ := HQ.out
  rw [hx, if_neg (by decide)] at hQ
  clear HQ hx
  have HQ := Lib.hid hQ
  clear hQ
  go_wp2_with fail
  refine (HI.out wB1 105 [116] HT1.out.rs).mono ?_
  rintro e wB2 ⟨rfl, hb⟩
  have HT2 := Lib.hid (HT1.out.below hb)
  clear hb HT1 a0 a1 a2 a3 a4
  obtain ⟨a0, a1, a2, a3, a4⟩ := HT2.out.tok (.head _)
  cases hx : isT C.T [105, 116] σ
  rotate_left
  · have hQ := HQ.out
    rw [hx, if_pos rfl] at hQ
    have hlt := HLT.out _ hx
    clear hx HLT HQ
    obtain ⟨hsz, rfl⟩ := tq_some hQ
    clear hQ hsz
    obtain ⟨_, c1, _, _, _⟩ := HT2.out.rs.cells
    have f1 := HT2.out.rs.free 1
    have hp1 := HT2.out.rs.lt
    have hbig := HT2.out.rs.big
    have hlt' := hlt.2
    have HS2 := Lib.hid (HT2.out.skip hlt')
    clear HT2
    go_upto_region 10 with (fail)
    clear c1 f1 hp1 hbig hlt'
    generalize wB2.setCell ⟨C.p, 1, none⟩ (.int .i64 ((σ.k : Int) + 1)) = W at HS2 ⊢
    clear a0 a1 a2 a3 a4
    obtain ⟨a0, a1, a2, a3, a4⟩ := HS2.out.tok (.head _)
    go_wp2_with fail
    refine (twig_nil 28 [] 0 t _).mono ?_
    rintro e w2 ⟨g2, c2, rfl, hr, hb⟩
    have HR := Lib.hid ((HS2.out.below hb).ret hr)
    clear hr hb HS2
    go_wp2_with fail
    go_ret
    exact HR.out
  have hQ := HQ.out
  rw [hx, if_neg (by decide)] at hQ
  clear HQ hx
  have HQ := Lib.hid hQ
  clear hQ
  go_wp2_with fail
  refine (HI.out wB2 110 [101, 119] HT2.out.rs).mono ?_
  rintro e wB3 ⟨rfl, hb⟩
  have HT3 := Lib.hid (HT2.out.below hb)
  clear hb HT2 a0 a1 a2 a3 a4
  obtain ⟨a0, a1, a2, a3, a4⟩ := HT3.out.tok (.head _)
  cases hx : isT C.T [110, 101, 119] σ
  rotate_left
  · have hQ := HQ.out
    rw [hx, if_pos rfl] at hQ
    have hlt := HLT.out _ hx
    clear hx HLT HQ
    obtain ⟨hsz, rfl⟩ := tq_some hQ
    clear hQ hsz
    obtain ⟨_, c1, _, _, _⟩ := HT3.out.rs.cells
    have f1 := HT3.out.rs.free 1
    have hp1 := HT3.out.rs.lt
    have hbig := HT3.out.rs.big
    have hlt' := hlt.2
    have HS2 := Lib.hid (HT3.out.skip hlt')
    clear HT3
    go_upto_region 13 with (fail)
    clear c1 f1 hp1 hbig hlt'
    generalize wB3.setCell ⟨C.p, 1, none⟩ (.int .i64 ((σ.k : Int) + 1)) = W at HS2 ⊢
    clear a0 a1 a2 a3 a4
    obtain ⟨a0, a1, a2, a3, a4⟩ := HS2.out.tok (.head _)
    have HSD := Lib.hid HS2.out.drew
    have HKD : Hid (Calls _ _ _ _ (Took3 C _ m (knd C.T 1 (skp σ)))) := Lib.hid (kind3_ok C _ m _ 1 HSD.out.rs (by decide))
    clear HS2
    unfold Rx.ptr at HKD
    have hfd := field1
    go_region_held3 (fun w' => w'.cell? ⟨b, 0, none⟩ = some (.int .i64 t.kind) ∧ w'.cell? ⟨b, 1, none⟩ = some (.string ⟨t.text.toArray⟩) ∧ w'.cell? ⟨b, 2, none⟩ = some (.int .i64 t.n) ∧ w'.cell? ⟨b, 3, none⟩ = some (.int .i64 t.line) ∧ w'.cell? ⟨b, 4, none⟩ = some (.int .i64 t.col)) (first | go_keep | exact HS6.out.tok (.head _) | exact HS7.out.tok (.head _)) (first | (go_at_call 59; refine HKD.out.mono ?_; rintro e w6 ⟨rfl, hs, hk⟩; have HS6 := Lib.hid (HSD.out.call hs hk); clear hs hk; unfold tokV) | (go_at_call 35; refine (twig_nil 33 (knd C.T 1 (skp σ)).1.text 0 t _).mono ?_; rintro e w7 ⟨g3, n3, rfl, hr, hb⟩; have HS7 := Lib.hid ((HS6.out.below hb).add hr); clear hr hb))
    have HR := Lib.hid (HS7.out.ret (HS7.out.row _ (.head _)))
    clear HSD HS6 HS7 HKD
    go_wp2_with fail
    go_ret
    exact HR.out
  have hQ := HQ.out
  rw [hx, if_neg (by decide)] at hQ
  clear HQ hx
  have HQ := Lib.hid hQ
  clear hQ
  go_wp2_with fail
  refine (HI.out wB3 102 [110] HT3.out.rs).mono ?_
  rintro e wB4 ⟨rfl, hb⟩
  have HT4 := Lib.hid (HT3.out.below hb)
  clear hb HT3 a0 a1 a2 a3 a4
  obtain ⟨a0, a1, a2, a3, a4⟩ := HT4.out.tok (.head _)
  cases hx : isT C.T [102, 110] σ
  rotate_left
  · have hQ := HQ.out
    rw [hx, if_pos rfl] at hQ
    have hlt := HLT.out _ hx
    clear hx HLT HQ
    obtain ⟨⟨X1, σ1⟩, q2, hQ1⟩ := Option.bind_eq_some_iff.1 hQ
    obtain ⟨hsz, rfl⟩ := tq_some hQ1
    have HSZ := Lib.hid hsz
    have HQ2 := Lib.hid q2
    clear hQ hQ1 hsz q2
    obtain ⟨_, c1, _, _, _⟩ := HT4.out.rs.cells
    have f1 := HT4.out.rs.free 1
    have hp1 := HT4.out.rs.lt
    have hbig := HT4.out.rs.big
    have hlt' := hlt.2
    have HS2 := Lib.hid (HT4.out.skip hlt')
    clear HT4
    go_upto_region 16 with (fail)
    clear c1 f1 hp1 hbig hlt'
    generalize wB4.setCell ⟨C.p, 1, none⟩ (.int .i64 ((σ.k : Int) + 1)) = W at HS2 ⊢
    clear a0 a1 a2 a3 a4
    obtain ⟨a0, a1, a2, a3, a4⟩ := HS2.out.tok (.head _)
    have HSD := Lib.hid HS2.out.drew
    clear HS2
    go_region_held3 (fun w' => w'.cell? ⟨b, 0, none⟩ = some (.int .i64 t.kind) ∧ w'.cell? ⟨b, 1, none⟩ = some (.string ⟨t.text.toArray⟩) ∧ w'.cell? ⟨b, 2, none⟩ = some (.int .i64 t.n) ∧ w'.cell? ⟨b, 3, none⟩ = some (.int .i64 t.line) ∧ w'.cell? ⟨b, 4, none⟩ = some (.int .i64 t.col)) (first | go_keep | exact HS6.out.tok (.head _) | exact HS7.out.tok (.head _)) (first | (go_at_call 140; refine (HBI.out C _ m _ _ HSD.out.rs HQ2.out).mono ?_; rintro e w6 ⟨g2, n2, rfl, hr, hs, hk⟩; have HS6 := Lib.hid ((HSD.out.call hs hk).add hr); clear hr hs hk) | (go_at_call 35; refine (twig_new 36 [] 0 t [.slice (some ⟨g2, 0, none⟩) X1.length n2] _ rfl _ _ [X1] _ rfl rfl rfl (row1 (HS6.out.row _ (.head _))) HSZ.out).mono ?_; rintro e w7 ⟨g3, n3, rfl, hr, hb⟩; have HS7 := Lib.hid ((HS6.out.below hb).add hr); clear hr hb))
    have HR := Lib.hid (HS7.out.ret (HS7.out.row _ (.head _)))
    clear HSD HS6 HS7
    go_wp2_with fail
    go_ret
    exact HR.out
  have hQ := HQ.out
  rw [hx, if_neg (by decide)] at hQ
  clear HQ hx
  have HQ := Lib.hid hQ
  clear hQ
  go_wp2_with fail
  refine (HI.out wB4 40 [] HT4.out.rs).mono ?_
  rintro e wB5 ⟨rfl, hb⟩
  have HT5 := Lib.hid (HT4.out.below hb)
  clear hb HT4 a0 a1 a2 a3 a4
  obtain ⟨a0, a1, a2, a3, a4⟩ := HT5.out.tok (.head _)
  cases hx : isT C.T [40] σ
  rotate_left
  · have hQ := HQ.out
    rw [hx, if_pos rfl] at hQ
    have hlt := HLT.out _ hx
    clear hx HLT HQ
    have hm : m ≤ 1000 := by
      by_cases hm : m ≤ 1000
      · exact hm
      · rw [if_neg hm] at hQ
        cases hQ
    rw [if_pos hm] at hQ
    obtain ⟨⟨X1, σ1⟩, q2, hQ1⟩ := Option.bind_eq_some_iff.1 hQ
    have hx1 := Option.some.inj hQ1
    subst hx1
    have HOP := Lib.hid (open3_ok C wB5 m σ 40 [] HT5.out.rs (by omega))
    clear hQ hQ1 a0 a1 a2 a3 a4
    unfold Rx.ptr at HOP
    generalize openS C.T m [40] σ = y at *
    obtain ⟨t', σ'⟩ := y
    dsimp only at q2
    go_wp2_with fail
    refine HOP.out.mono ?_
    rintro e w5 ⟨rfl, hs, hk⟩
    dsimp only at hs
    have HS5 := Lib.hid (HT5.out.call hs hk)
    have HC := Lib.hid (HTI.out C w5 (m + 1) _ _ HS5.out.rs q2)
    clear hs hk HOP HT5 q2
    unfold Rx.ptr at HC
    unfold tokV
    go_wp2_with fail
    refine HC.out.mono ?_
    rintro e w6 ⟨g2, n2, rfl, hr, hs, hk⟩
    dsimp only at hs
    have HS6 := Lib.hid ((HS5.out.call hs hk).add hr)
    have HSG : Hid (Calls _ _ _ _ (Took3 C _ (m + 1) (sgn C.T [41] σ1))) := Lib.hid (sign3_ok C w6 (m + 1) σ1 41 [] HS6.out.rs)
    clear hr hs hk HS5 HC
    unfold Rx.ptr at HSG
    go_wp2_with fail
    refine HSG.out.mono ?_
    rintro e w7 ⟨rfl, hs, hk⟩
    have HS7 := Lib.hid (HS6.out.call hs hk)
    clear hs hk HS6 HSG
    obtain ⟨_, _, d2, _, _⟩ := HS7.out.rs.cells
    have d2' : w7.cell? ⟨C.p, 2, none⟩ = some (.int .i64 ((m : Int) + 1)) := by rw [d2]; simp
    have f2 := HS7.out.rs.free 2
    have hp7 := HS7.out.rs.lt
    have HSE := Lib.hid HS7.out.down
    have HR := Lib.hid (HSE.out.ret (HSE.out.row _ (.head _)))
    clear HS7 HSE d2
    unfold tokV
    go_wp2_with fail
    go_ret
    exact HR.out
  have hQ := HQ.out
  rw [hx, if_neg (by decide)] at hQ
  clear HQ hx
  have HQ := Lib.hid hQ
  clear hQ
  have hQ := HQ.out
  have hx := Option.some.inj hQ
  subst hx
  have HC := Lib.hid (use3_ok C wB5 m σ HT5.out.rs)
  clear hQ HQ HLT a0 a1 a2 a3 a4
  unfold Rx.ptr at HC
  go_wp2_with fail
  refine HC.out.mono ?_
  rintro e w4 ⟨g1, n1, rfl, hr, hs, hk⟩
  have HR := Lib.hid ((HT5.out.call hs hk).ret hr)
  clear hr hs hk HC HT5
  go_wp2_with fail
  go_ret
  exact HR.out

end Go.Proofs.YtpeoefbibjbinaaGreat

namespace Go.Proofs.YtpeoefbibjbinaaGreat
open Go.RowKit

/-- twig, of one kid in a block that was laid earlier. -/
theorem twig_kept (kd : Int) (s : List UInt8) (n : Int) (t : Tok) (v : Value) (g : Nat) (X : List Tw) (w : World) (hg : w.heap[g]? = some (.cells #[v] 76 (0, 0))) (hr : R3 w v X) (hsz : (twL (at_ t kd s n) [X]).length ≤ 100000000) :
    Calls Tryz.prog 35 #[.int .i64 kd, .string ⟨s.toArray⟩, .int .i64 n, tokV t, .slice (some ⟨g, 0, none⟩) 1 1] w (Ret3T w (twL (at_ t kd s n) [X])) := by
  refine (twig_ok kd s n t (some ⟨g, 0, none⟩) 1 [v] [X] w (fun i u hi => ⟨_, _, rfl, ?_⟩) rfl (row1 hr) hsz).mono ?_
  · match i, hi with
    | 0, hi => cases hi; simp [World.cell?, hg]
  · rintro e w' ⟨v, rfl, h2, h3⟩
    obtain ⟨g, c, rfl, _⟩ := h2.form
    exact ⟨g, c, rfl, h2, h3⟩

set_option maxRecDepth 100000 in
set_option maxHeartbeats 2000000 in
theorem tight3_ok (n : Nat) (HF : Hid (Ct3 134 n .first)) (HTI : Hid (∀ i, i ≤ n → Ct3 135 i .termIf)) : Ct3 128 (n + 1) .tight := by
  intro C w m σ x h hQ
  rw [Q] at hQ
  obtain ⟨⟨X1, σ1⟩, q1, hQ1⟩ := Option.bind_eq_some_iff.1 hQ
  have HS0 := Lib.hid (S3.start h)
  have HC := Lib.hid (HF.out C w m σ _ h q1)
  have HQ1 := Lib.hid hQ1
  clear h q1 hQ hQ1
  unfold Rx.ptr at *
  go_enter Tryz.func128, Tryz.ntmps128
  go_wp2_with fail
  refine HC.out.mono ?_
  rintro e w1 ⟨g1, n1, rfl, hr, hs, hk⟩
  have HS1 := Lib.hid ((HS0.out.call hs hk).add hr)
  clear hr hs hk HS0 HC
  go_wp2_with fail
  go_loopg [3] n (fun i v3 wr => ∃ (X : List Tw) (g c : Nat) (σ' : Sg), i ≤ n ∧ v3 = .slice (some ⟨g, 0, none⟩) X.length c ∧ S3 C w wr m σ' [] [(.slice (some ⟨g, 0, none⟩) X.length c, X)] ∧ Q C.T i (.tightL X) m σ' = some x)
  case atStart => exact ⟨X1, g1, n1, σ1, Nat.le_refl _, rfl, HS1.out, HQ1.out⟩
  case round =>
    clear HS1 HQ1
    obtain ⟨X1, g1, n1, σ1, hin, rfl, hS, hQ⟩ := hrel
    have HS1 := Lib.hid hS
    have HQ1 := Lib.hid hQ
    clear hS hQ
    cases gk with
    | zero => have := HQ1.out; rw [Q] at this; cases this
    | succ i =>
    have hQ := HQ1.out
    rw [Q] at hQ
    have HQ := Lib.hid hQ
    clear hQ HQ1
    have HI1 := Lib.hid fun (w2 : World) (h : RS w2 C m σ1) => is3_ok C w2 m σ1 46 [] h
    have HI2 := Lib.hid fun (w2 : World) (h : RS w2 C m σ1) => is3_ok C w2 m σ1 91 [] h
    unfold Rx.ptr at *
    go_upto_region 2 with (fail)
    go_cut [13] (fun v13 wx => v13 = .bool (isT C.T [46] σ1 || isT C.T [91] σ1) ∧ S3 C w wx m σ1 [] [(.slice (some ⟨g1, 0, none⟩) X1.length n1, X1)])
    case first =>
      generalize isT C.T [46] σ1 = b1 at *
      generalize isT C.T [91] σ1 = b2 at *
      go_wp2_with fail
      refine (HI1.out _ HS1.out.rs).mono ?_
      rintro e w2 ⟨rfl, hb⟩
      have HS2 := Lib.hid (HS1.out.below hb)
      clear hb HI1 HS1
      cases b1 with
      | true =>
        go_wp2_with fail
        go_meet
        exact ⟨rfl, HS2.out⟩
      | false =>
        go_wp2_with fail
        refine (HI2.out _ HS2.out.rs).mono ?_
        rintro e w3 ⟨rfl, hb⟩
        have HS3 := Lib.hid (HS2.out.below hb)
        clear hb HI2 HS2
        go_wp2_with fail
        go_meet
        exact ⟨by simp, HS3.out⟩
    case rest =>
      obtain ⟨rfl, hS2⟩ := hcut
      have HS2 := Lib.hid hS2
      clear hS2 HI2 HS1
      cases hdot : isT C.T [46] σ1
      · cases hbr : isT C.T [91] σ1
        · have hQ := HQ.out
          rw [hdot, hbr, if_neg (by decide), if_neg (by decide)] at hQ
          have hx := Option.some.inj hQ
          subst hx
          have HR := Lib.hid (HS2.out.ret (HS2.out.row _ (.head _)))
          clear hQ hdot hbr HS2 HI1 HQ
          go_wp2_with fail
          go_ret
          exact HR.out
        · have hQ := HQ.out
          rw [hdot, hbr, if_neg (by decide), if_pos rfl] at hQ
          have hm : m ≤ 1000 := by
            by_cases hm : m ≤ 1000
            · exact hm
            · rw [if_neg hm] at hQ
              cases hQ
          rw [if_pos hm] at hQ
          obtain ⟨⟨X2, σ2⟩, q2, hQ2⟩ := Option.bind_eq_some_iff.1 hQ
          obtain ⟨⟨X3, σ3⟩, q3, hQ3⟩ := Option.bind_eq_some_iff.1 hQ2
          obtain ⟨hsz, hx3⟩ := tq_some q3
          injection hx3 with hx3 hs3
          subst hx3 hs3
          dsimp only at hsz hQ3
          have HI := HI1.out wc HS2.out.rs
          rw [hdot] at HI
          have HI' := Lib.hid HI
          have HOP : Hid (∀ w2, RS w2 C m σ1 → Calls _ _ _ _ (Took3 C w2 (m + 1) (openS C.T m [91] σ1))) := Lib.hid fun w2 h => open3_ok C w2 m σ1 91 [] h (by omega)
          have HQ2 := Lib.hid q2
          have HQ3 := Lib.hid hQ3
          have HSZ := Lib.hid hsz
          clear hQ hQ2 hQ3 q2 q3 hsz hdot hbr HQ HI1 HI
          unfold Rx.ptr at *
          go_wp2_with fail
          refine HI'.out.mono ?_
          rintro e w3 ⟨rfl, hb⟩
          have HS3 := Lib.hid (HS2.out.below hb)
          clear hb HS2 HI'
          go_wp2_with fail
          refine (HOP.out _ HS3.out.rs).mono ?_
          rintro e w4 ⟨rfl, hs, hk⟩
          have HS4 := Lib.hid ((HS3.out.call hs hk).var w4.heap.size rfl (tokO (openS C.T m [91] σ1).1))
          clear hs hk HS3 HOP
          unfold tokV
          go_upto_region 8 with (fail)
          change Code.wp _ _ _ _ (w4.alloc (tokO (openS C.T m [91] σ1).1))
          generalize w4.alloc (tokO (openS C.T m [91] σ1).1) = W at HS4 ⊢
          obtain ⟨a0, a1, a2, a3, a4⟩ := HS4.out.tok (.head _)
          have HSD := Lib.hid HS4.out.drew
          clear HS4
          generalize w4.heap.size = b at *
          go_region_held3 (fun w' => w'.cell? ⟨b, 0, none⟩ = some (.int .i64 (openS C.T m [91] σ1).1.kind) ∧ w'.cell? ⟨b, 1, none⟩ = some (.string ⟨(openS C.T m [91] σ1).1.text.toArray⟩) ∧ w'.cell? ⟨b, 2, none⟩ = some (.int .i64 (openS C.T m [91] σ1).1.n) ∧ w'.cell? ⟨b, 3, none⟩ = some (.int .i64 (openS C.T m [91] σ1).1.line) ∧ w'.cell? ⟨b, 4, none⟩ = some (.int .i64 (openS C.T m [91] σ1).1.col)) (first | go_keep | exact HS5.out.tok (.head _) | exact HS6.out.tok (.head _)) (first | (go_at_call 135; refine (HTI.out i (by omega) C _ (m + 1) _ _ HSD.out.rs HQ2.out).mono ?_; rintro e w5 ⟨g2, n2, rfl, hr, hs, hk⟩; have HS5 := Lib.hid ((HSD.out.call hs hk).add hr); clear hr hs hk) | (go_at_call 35; refine (twig_new 31 [] 0 (openS C.T m [91] σ1).1 [.slice (some ⟨g1, 0, none⟩) X1.length n1, .slice (some ⟨g2, 0, none⟩) X2.length n2] _ rfl _ _ [X1, X2] _ rfl rfl rfl (row2 (HS5.out.row _ (.tail _ (.head _))) (HS5.out.row _ (.head _))) HSZ.out).mono ?_; rintro e w6 ⟨g3, n3, rfl, hr, hb⟩; have HS6 := Lib.hid ((HS5.out.below hb).add hr); clear hr hb))
          have HS7 := Lib.hid HS6.out.only
          have HSG : Hid (Calls _ _ _ _ (Took3 C w6 (m + 1) (sgn C.T [93] σ2))) := Lib.hid (sign3_ok C w6 (m + 1) σ2 93 [] HS7.out.rs)
          unfold Rx.ptr at HSG
          clear HS5 HS6 HSD
          go_wp2_with fail
          refine HSG.out.mono ?_
          rintro e w7 ⟨rfl, hs, hk⟩
          have HS8 := Lib.hid (HS7.out.call hs hk)
          clear hs hk HS7 HSG
          obtain ⟨_, _, d2, _, _⟩ := HS8.out.rs.cells
          have d2' : w7.cell? ⟨C.p, 2, none⟩ = some (.int .i64 ((m : Int) + 1)) := by rw [d2]; simp
          have f2 := HS8.out.rs.free 2
          have hp7 := HS8.out.rs.lt
          have HSE := Lib.hid HS8.out.down
          clear HS8 d2
          unfold tokV
          go_wp2_with fail
          go_roundg i
          case measure => omega
          case rel => exact ⟨_, g3, n3, _, by omega, rfl, HSE.out, HQ3.out⟩
      · have hQ := HQ.out
        rw [hdot, if_pos rfl] at hQ
        obtain ⟨⟨X3, σ3⟩, q3, hQ3⟩ := Option.bind_eq_some_iff.1 hQ
        obtain ⟨hsz, hx3⟩ := tq_some q3
        injection hx3 with hx3 hs3
        subst hx3 hs3
        dsimp only at hsz hQ3
        have hlt := isT_lt hdot
        have HI := HI1.out wc HS2.out.rs
        rw [hdot] at HI
        have HI' := Lib.hid HI
        have HQ3 := Lib.hid hQ3
        have HSZ := Lib.hid hsz
        have HLT := Lib.hid hlt
        have HA := Lib.hid fun (w2 : World) (h : RS w2 C m σ1) => ahead_ok C w2 m σ1 h
        clear hQ hQ3 q3 hsz hdot HQ HI1 HI hlt
        unfold Rx.ptr at *
        generalize hd (rest C.T σ1) = t at *
        rw [Bool.true_or]
        go_wp2_with fail
        refine HI'.out.mono ?_
        rintro e w3 ⟨rfl, hb⟩
        have HS3 := Lib.hid (HS2.out.below hb)
        clear hb HS2 HI'
        go_wp2_with fail
        refine (HA.out _ HS3.out.rs).mono ?_
        rintro e w4 ⟨rfl, hb⟩
        have HS4 := Lib.hid ((HS3.out.below hb).var w4.heap.size rfl (tokO t))
        clear hb HS3 HA
        unfold tokV
        go_upto_region 5 with (fail)
        change Code.wp _ _ _ _ (w4.alloc (tokO t))
        generalize w4.alloc (tokO t) = wA at HS4 ⊢
        generalize w4.heap.size = b at *
        obtain ⟨_, c1, _, _, _⟩ := HS4.out.rs.cells
        have f1 := HS4.out.rs.free 1
        have hp1 := HS4.out.rs.lt
        have hbig := HS4.out.rs.big
        have hlt' := HLT.out.2
        have HS5 := Lib.hid (HS4.out.skip hlt')
        clear HS4
        go_upto_region 6 with (fail)
        clear c1 f1 hp1 hbig hlt'
        generalize wA.setCell ⟨C.p, 1, none⟩ (.int .i64 ((σ1.k : Int) + 1)) = W at HS5 ⊢
        obtain ⟨a0, a1, a2, a3, a4⟩ := HS5.out.tok (.head _)
        have HSD := Lib.hid HS5.out.drew
        have HKD : Hid (Calls _ _ _ _ (Took3 C _ m (knd C.T 1 (skp σ1)))) := Lib.hid (kind3_ok C _ m _ 1 HSD.out.rs (by decide))
        have HSA := Lib.hid (HSD.out.var W.heap.size (by simp) (.cells #[.slice (some ⟨g1, 0, none⟩) X1.length n1] 76))
        have HKA : Hid (Calls _ _ _ _ (Took3 C _ m (knd C.T 1 (skp σ1)))) := Lib.hid (kind3_ok C _ m _ 1 HSA.out.rs (by decide))
        clear HS5
        unfold Rx.ptr at HKD HKA
        have hfd := field1
        go_region_held3 (fun w' => w'.cell? ⟨b, 0, none⟩ = some (.int .i64 t.kind) ∧ w'.cell? ⟨b, 1, none⟩ = some (.string ⟨t.text.toArray⟩) ∧ w'.cell? ⟨b, 2, none⟩ = some (.int .i64 t.n) ∧ w'.cell? ⟨b, 3, none⟩ = some (.int .i64 t.line) ∧ w'.cell? ⟨b, 4, none⟩ = some (.int .i64 t.col)) (first | go_keep | exact HS6.out.tok (.head _) | exact HS7.out.tok (.head _) | exact HS8.out.tok (.tail _ (.head _)) | exact HS9.out.tok (.tail _ (.head _)) | exact HSA.out.tok (.tail _ (.head _))) (first | (go_at_call 59; refine HKD.out.mono ?_; rintro e w6 ⟨rfl, hs, hk⟩; have HS6 := Lib.hid (HSD.out.call hs hk); clear hs hk; unfold tokV) | (go_at_call 59; refine HKA.out.mono ?_; rintro e w6 ⟨rfl, hs, hk⟩; have HS8 := Lib.hid (HSA.out.call hs hk); clear hs hk; unfold tokV) | (go_at_call 35; refine (twig_new 30 (knd C.T 1 (skp σ1)).1.text 0 t [.slice (some ⟨g1, 0, none⟩) X1.length n1] _ rfl _ _ [X1] _ rfl rfl rfl (row1 (HS6.out.row _ (.head _))) HSZ.out).mono ?_; rintro e w7 ⟨g3, n3, rfl, hr, hb⟩; have HS7 := Lib.hid ((HS6.out.below hb).add hr); have HS5 := Lib.hid HS7.out.only; clear hr hb) | (go_at_call 35; refine (twig_kept 30 (knd C.T 1 (skp σ1)).1.text 0 t (.slice (some ⟨g1, 0, none⟩) X1.length n1) W.heap.size X1 w6 HS8.out.head (HS8.out.row _ (.head _)) HSZ.out).mono ?_; rintro e w7 ⟨g3, n3, rfl, hr, hb⟩; have HS9 := Lib.hid ((HS8.out.below hb).add hr); have HS5 := Lib.hid HS9.out.only; clear hr hb))
        all_goals
          go_wp2_with fail
          go_roundg i
          case measure => omega
          case rel => exact ⟨_, g3, n3, _, by omega, rfl, HS5.out, HQ3.out⟩

end Go.Proofs.YtpeoefbibjbinaaGreat
