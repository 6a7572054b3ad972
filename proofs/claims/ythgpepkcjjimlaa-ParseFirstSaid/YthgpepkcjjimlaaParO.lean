/- parser.tight. -/
import Derived.Test.YthgpepkcjjimlaaParN
namespace Go.Proofs.Ythgpepkcjjimlaa
open Go.RowKit

theorem tok5S {w : World} {g : Nat} {a0 a1 a2 a3 a4 : Value} (h : w.cell? ⟨g, 0, none⟩ = some a0 ∧ w.cell? ⟨g, 1, none⟩ = some a1 ∧ w.cell? ⟨g, 2, none⟩ = some a2 ∧ w.cell? ⟨g, 3, none⟩ = some a3 ∧ w.cell? ⟨g, 4, none⟩ = some a4 ∧ ∀ i, w.frozen? ⟨g, i, none⟩ = false) :
    w.cell? ⟨g, 0, none⟩ = some a0 ∧ w.cell? ⟨g, 1, none⟩ = some a1 ∧ w.cell? ⟨g, 2, none⟩ = some a2 ∧ w.cell? ⟨g, 3, none⟩ = some a3 ∧ w.cell? ⟨g, 4, none⟩ = some a4 := ⟨h.1, h.2.1, h.2.2.1, h.2.2.2.1, h.2.2.2.2.1⟩
theorem introw_loc {C : Cx} {v : Value} {w : World} {b : Nat} {x : Int} {X : List Nat} (h : Loc C v w b (.cells #[.int .i64 x] 3)) (hX : ∀ y ∈ X, y < b) : IntRow w X (.slice (some ⟨b, 0, none⟩) 1 1) [x] :=
  ⟨_, _, rfl, fun _ => ⟨b, _, _, rfl, h.is, fun hm => absurd (hX b hm) (Nat.lt_irrefl _), fun i y hi => by cases i with | zero => (simp at hi; subst hi; rfl) | succ i => (simp at hi)⟩⟩

set_option maxRecDepth 100000 in
set_option maxHeartbeats 2000000 in
theorem tight_w (n : Nat) (HFI : Hid (Ct 87 n .first)) (HTM : Hid (∀ i, i ≤ n → Ct 78 i .term)) (C : Cx) (w : World) (k m : Nat) (v : Value) (tw : List Tw) (h : PS w C k m v tw) (hnd : P (n + 1) .tight (C.T.drop k) m ≠ .dry) :
    Calls Try.prog 84 #[C.ptr] w (Ret C w k m v tw (P (n + 1) .tight (C.T.drop k) m)) := by
  have HS0 := Lib.hid (St.start h)
  clear h
  generalize ho : P (n + 1) .tight (C.T.drop k) m = o at hnd ⊢
  have HND := Lib.hid hnd
  clear hnd
  rw [P] at ho
  have HO0 := Lib.hid ho
  clear ho
  have hfd := field1
  go_enter Try.func84, Try.ntmps84
  go_wp2_with fail
  have hnd : P n .first (C.T.drop k) m ≠ .dry := fun hdry => by have h1 := HO0.out; rw [hdry] at h1; exact HND.out h1.symm
  refine (HFI.out C _ _ _ _ _ HS0.out.ps hnd).mono ?_
  rintro e w1 hr
  rcases hP : P n .first (C.T.drop k) m with _ | ⟨er, r⟩ | ⟨d1, f1, r⟩
  · exact absurd hP hnd
  · rw [hP] at hr
    have ho' := HO0.out
    rw [hP] at ho'
    have HB := Lib.hid (HS0.out.bad' (m0 := m) ho' hr)
    obtain ⟨rfl, _⟩ := hr
    clear hnd hP ho'
    go_wp2_with fail
    exact ⟨rfl, HB.out⟩
  rw [hP] at hr
  obtain ⟨j1, v1, rfl, rfl, hs⟩ := HS0.out.sub hr
  have ho' := HO0.out
  rw [hP] at ho'
  dsimp only [Out.and] at ho'
  have HO1 := Lib.hid ho'
  have HS1 := Lib.hid hs
  generalize hN : ((tw.length + _ + f1.size : Nat) : Int) = N1
  have HN1 := Lib.hid hN
  clear hs hr hN hnd hP ho' HS0 
  go_wp2_with fail
  go_loopg [3] n (fun i v3 wr => ∃ (j : Nat) (vv : Value) (d : Nd) (f : Fo) (q : Nat), i ≤ n ∧ v3 = .int .i64 ((tw.length + f.size : Nat) : Int) ∧ St C w k v tw wr j m vv (one d f) q [] ∧ P i (.tightL d f) (C.T.drop j) m = o)
  case atStart => exact ⟨j1, v1, d1, f1, 0, Nat.le_refl _, by rw [← HN1.out]; rfl, HS1.out, HO1.out⟩
  case round =>
    obtain ⟨j, vv, d, f, q, hin, rfl, hS, hPo⟩ := hrel
    have HS2 := Lib.hid hS
    generalize hN2 : ((tw.length + f.size : Nat) : Int) = N2
    have HN2 := Lib.hid hN2
    have HPO := Lib.hid hPo
    clear hS hN2 hPo HN1 HS1 HO1
    cases gk with
    | zero => exact absurd HPO.out.symm HND.out
    | succ i =>
    cases hx : seesM (C.T.drop j) [[46]]
    · cases hy : seesM (C.T.drop j) [[91]]
      · have hp := HPO.out
        rw [P] at hp
        simp only [hx, hy, Bool.false_eq_true, if_false] at hp
        have HX := Lib.hid hx
        have HY := Lib.hid hy
        have HP1 := Lib.hid hp
        clear hp hx hy HPO
        go_wp2_with fail
        refine (seesMark_is C _ _ _ _ _ [[46]] _ _ _ false HS2.out.ps (by simp) rfl rfl (by decide) HX.out).mono ?_
        rintro e w3 ⟨rfl, hb⟩
        have HS3 := Lib.hid (HS2.out.below hb)
        clear hb HS2
        go_wp2_with fail
        refine (seesMark_is C _ _ _ _ _ [[91]] _ _ _ false HS3.out.ps (by simp) rfl rfl (by decide) HY.out).mono ?_
        rintro e w4 ⟨rfl, hb⟩
        have HS4 := Lib.hid (HS3.out.below hb)
        clear hb HS3
        have HR := Lib.hid (St.same (d := d) (kf := f) HS4.out HP1.out (x := N2) HN2.out.symm)
        go_wp2_with fail
        go_ret
        exact HR.out
      · have hp := HPO.out
        rw [P] at hp
        simp only [hx, hy, Bool.false_eq_true, if_false, if_true] at hp
        have HX := Lib.hid hx
        have HY := Lib.hid hy
        have HP1 := Lib.hid hp
        have hlt : j < C.T.length := sees_lt (x := 4) (by decide) (seesK_kind hy)
        clear hp hx hy HPO
        go_wp2_with fail
        refine (seesMark_is C _ _ _ _ _ [[46]] _ _ _ false HS2.out.ps (by simp) rfl rfl (by decide) HX.out).mono ?_
        rintro e w3 ⟨rfl, hb⟩
        have HS3 := Lib.hid (HS2.out.below hb)
        clear hb HS2
        go_wp2_with fail
        refine (seesMark_is C _ _ _ _ _ [[91]] _ _ _ true HS3.out.ps (by simp) rfl rfl (by decide) HY.out).mono ?_
        rintro e w4 ⟨rfl, hb⟩
        have HS4 := Lib.hid (HS3.out.below hb)
        clear hb HS3
        go_wp2_with fail
        by_cases hm : m = 64
        · have ho' := HP1.out
          rw [ent_no hm] at ho'
          subst hm
          refine (enter_bad C _ _ _ _ HS4.out.ps).mono ?_
          rintro e w' ⟨rfl, hb⟩
          have HB := Lib.hid (HS4.out.bad (m0 := 64) ho' hb)
          clear hb ho'
          go_wp2_with fail
          exact ⟨rfl, HB.out⟩
        have ho' := HP1.out
        rw [ent_yes hm, tail_drop'] at ho'
        have HO6 := Lib.hid ho'
        have hm' : m < 64 := by have := HS4.out.ps.nest; omega
        refine (enter_ok C _ _ _ _ _ HS4.out.ps hlt hm').mono ?_
        rintro e w5 ⟨rfl, hs, hk⟩
        have HS5 := Lib.hid (HS4.out.took hs hk)
        clear hs hk HS4 ho'
        unfold tokV
        go_wp2_with fail
        have HTMI := Lib.hid (HTM.out i (by omega))
        have hnd : P i .term (C.T.drop (j + 1)) (m + 1) ≠ .dry := fun hdry => by have h1 := HO6.out; rw [hdry] at h1; exact HND.out h1.symm
        refine (HTMI.out C _ _ _ _ _ (HS5.out.var (w5.heap.size) (by simp) (.cells #[.int .i64 (hd (C.T.drop j)).kind, .string ⟨(hd (C.T.drop j)).text.toArray⟩, .int .i64 (hd (C.T.drop j)).n, .int .i64 (hd (C.T.drop j)).line, .int .i64 (hd (C.T.drop j)).col] 38)).ps hnd).mono ?_
        rintro e w6 hr
        rcases hP : P i .term (C.T.drop (j + 1)) (m + 1) with _ | ⟨er, r⟩ | ⟨d3, f3, r⟩
        · exact absurd hP hnd
        · rw [hP] at hr
          have ho' := HO6.out
          rw [hP] at ho'
          have HB := Lib.hid ((HS5.out.var (w5.heap.size) (by simp) (.cells #[.int .i64 (hd (C.T.drop j)).kind, .string ⟨(hd (C.T.drop j)).text.toArray⟩, .int .i64 (hd (C.T.drop j)).n, .int .i64 (hd (C.T.drop j)).line, .int .i64 (hd (C.T.drop j)).col] 38)).bad' (m0 := m) ho' hr)
          obtain ⟨rfl, _⟩ := hr
          clear hnd hP ho'
          go_wp2_with fail
          exact ⟨rfl, HB.out⟩
        rw [hP] at hr
        obtain ⟨j3, v3, rfl, rfl, hs⟩ := (HS5.out.var (w5.heap.size) (by simp) (.cells #[.int .i64 (hd (C.T.drop j)).kind, .string ⟨(hd (C.T.drop j)).text.toArray⟩, .int .i64 (hd (C.T.drop j)).n, .int .i64 (hd (C.T.drop j)).line, .int .i64 (hd (C.T.drop j)).col] 38)).sub hr
        have ho' := HO6.out
        rw [hP] at ho'
        dsimp only [Out.and] at ho'
        have HO7 := Lib.hid ho'
        have HS6 := Lib.hid hs
        generalize hN : ((tw.length + _ + f3.size : Nat) : Int) = N3
        have HN3 := Lib.hid hN
        clear hs hr hN hnd hP ho' HS5 
        go_wp2_with fail
        cases hx : seesM (C.T.drop j3) [[93]]
        · have ho' := HO7.out
          rw [tkM_no hx] at ho'
          refine (takeMark_new_no C _ _ _ _ _ [[93]] _ _ _ HS6.out.ps (by simp) rfl rfl (by decide) hx).mono ?_
          rintro e w' ⟨rfl, hb⟩
          have HB := Lib.hid (HS6.out.bad (m0 := m) ho' hb)
          clear hb ho' hx
          go_wp2_with fail
          exact ⟨rfl, HB.out⟩
        have ho' := HO7.out
        rw [tkM_yes hx, tail_drop'] at ho'
        have HO8 := Lib.hid ho'
        refine (takeMark_new_yes C _ _ _ _ _ [[93]] _ _ _ HS6.out.ps (by simp) rfl rfl (by decide) hx).mono ?_
        rintro e w7 ⟨rfl, hs, hk⟩
        have HS7 := Lib.hid (HS6.out.took hs hk)
        clear hs hk HS6 ho' hx
        unfold tokV
        go_wp2_with fail
        refine (leave_ok C _ _ _ _ _ HS7.out.ps).mono ?_
        rintro e w8 ⟨rfl, hs, hk⟩
        have HS8 := Lib.hid (HS7.out.left hs hk)
        clear hs hk HS7
        obtain ⟨a8_0, a8_1, a8_2, a8_3, a8_4, a8_5⟩ := tok5 (HS8.out.loc _ (.head _)).is
        have a8_lt := lt_of_block (HS8.out.loc _ (.head _)).is
        go_wp2_with fail
        refine (add_ok C _ _ _ _ _ (hd (C.T.drop j)) 31 [] 0 _ _ (HS8.out.al _).ps (ints_new _ (fun b hb => HS8.out.ps.xlt b hb) [N2, N3] #[.int .i64 N2, .int .i64 N3] rfl _ _ (by simp) rfl) HS8.out.room).mono ?_
        rintro e w20 ⟨rfl, v'', hs, hk⟩
        have hids : [N2, N3] = ((one d f).app (one d3 f3)).ids tw.length := by rw [ids_snoc, one_ids, ← HN3.out, ← HN2.out]; rfl
        rw [hids] at hs
        have HR := Lib.hid (((HS8.out.al _).addOp (at_ (hd (C.T.drop j)) 31 [] 0) hs hk).forget)
        generalize hNN : (((tw ++ _ : List Tw).length : Nat) : Int) = NN
        have HNN := Lib.hid hNN
        clear hs hk hids hNN HS8
        go_wp2_with fail
        go_roundg i
        case measure => omega
        case rel => exact ⟨_, _, _, _, _, by omega, by rw [← HNN.out, len_post], HR.out, HO8.out⟩
    · have hp := HPO.out
      rw [P] at hp
      simp only [hx, if_true, tail_drop'] at hp
      have HX := Lib.hid hx
      have HP1 := Lib.hid hp
      have hlt : j < C.T.length := sees_lt (x := 4) (by decide) (seesK_kind hx)
      clear hp hx HPO
      go_wp2_with fail
      refine (seesMark_is C _ _ _ _ _ [[46]] _ _ _ true HS2.out.ps (by simp) rfl rfl (by decide) HX.out).mono ?_
      rintro e w3 ⟨rfl, hb⟩
      have HS3 := Lib.hid (HS2.out.below hb)
      clear hb HS2
      go_wp2_with fail
      refine (take_ok C _ _ _ _ _ HS3.out.ps (hlt)).mono ?_
      rintro e w4 ⟨rfl, hs, hk⟩
      have HS4 := Lib.hid (HS3.out.took hs hk)
      clear hs hk HS3 
      unfold tokV
      go_wp2_with fail
      have HSD := Lib.hid ((HS4.out.var (w4.heap.size) (by simp) (.cells #[.int .i64 (hd (C.T.drop j)).kind, .string ⟨(hd (C.T.drop j)).text.toArray⟩, .int .i64 (hd (C.T.drop j)).n, .int .i64 (hd (C.T.drop j)).line, .int .i64 (hd (C.T.drop j)).col] 38)).drew)
      have HSE := Lib.hid (((HS4.out.var (w4.heap.size) (by simp) (.cells #[.int .i64 (hd (C.T.drop j)).kind, .string ⟨(hd (C.T.drop j)).text.toArray⟩, .int .i64 (hd (C.T.drop j)).n, .int .i64 (hd (C.T.drop j)).line, .int .i64 (hd (C.T.drop j)).col] 38)).var (w4.heap.size + 1) (by simp) (.cells #[.int .i64 N2] 3)).drew)
      have HXL := Lib.hid (HS4.out.ps.xlt)
      cases hz : ((hd (C.T.drop (j + 1))).kind == 1)
      · have ho' := HP1.out
        rw [tkK_no hz] at ho'
        have HO' := Lib.hid ho'
        have HZ := Lib.hid hz
        clear ho' hz
        go_region_with (first | (go_at_call 53; ((with_reducible refine (takeName_no C _ _ _ _ _ HSD.out.ps HZ.out).mono ?_); rintro e w9 ⟨rfl, hb⟩; have HB := Lib.hid (HSD.out.bad (m0 := m) HO'.out hb); go_simp; suffices _hz : wpAny Try.prog .any #[] (fun _ _ _ => True) 0 #[] ⟨#[], []⟩ w9 from ⟨rfl, HB.out⟩)) | (go_at_call 53; ((with_reducible refine (takeName_no C _ _ _ _ _ HSE.out.ps HZ.out).mono ?_); rintro e w9 ⟨rfl, hb⟩; have HB := Lib.hid (HSE.out.bad (m0 := m) HO'.out hb); go_simp; suffices _hz : wpAny Try.prog .any #[] (fun _ _ _ => True) 0 #[] ⟨#[], []⟩ w9 from ⟨rfl, HB.out⟩)))
        all_goals trivial
      have ho' := HP1.out
      rw [tkK_yes hz, tail_drop'] at ho'
      have HO' := Lib.hid ho'
      have HZ := Lib.hid hz
      clear ho' hz
      go_region_held3 (fun w' => w'.cell? ⟨w4.heap.size, 0, none⟩ = some (.int .i64 (hd (C.T.drop j)).kind) ∧ w'.cell? ⟨w4.heap.size, 1, none⟩ = some (.string ⟨(hd (C.T.drop j)).text.toArray⟩) ∧ w'.cell? ⟨w4.heap.size, 2, none⟩ = some (.int .i64 (hd (C.T.drop j)).n) ∧ w'.cell? ⟨w4.heap.size, 3, none⟩ = some (.int .i64 (hd (C.T.drop j)).line) ∧ w'.cell? ⟨w4.heap.size, 4, none⟩ = some (.int .i64 (hd (C.T.drop j)).col)) (first | go_keep | (exact tok5S (tok5 (HS9.out.loc _ (.head _)).is)) | (exact tok5S (tok5 (HL.out _ (.head _)).is)) | (exact tok5S (tok5 (HS8.out.loc _ (.tail _ (.head _))).is)) | (exact tok5S (tok5 (HM.out _ (.tail _ (.head _))).is))) (first | (go_at_call 53; ((with_reducible refine (takeName_yes C _ _ _ _ _ HSD.out.ps HZ.out).mono ?_); rintro e w9 ⟨rfl, hs, hk⟩; have HS9 := Lib.hid (HSD.out.took hs hk); clear hs hk; unfold tokV)) | (go_at_call 53; ((with_reducible refine (takeName_yes C _ _ _ _ _ HSE.out.ps HZ.out).mono ?_); rintro e w9 ⟨rfl, hs, hk⟩; have HS8 := Lib.hid (HSE.out.took hs hk); clear hs hk; unfold tokV)) | (go_at_call 30; refine (add_ok C _ _ _ _ _ (hd (C.T.drop j)) 30 (hd (C.T.drop (j + 1))).text 0 _ _ (HS9.out.al _).ps (ints_new w9 HS9.out.ps.xlt [N2] #[.int .i64 N2] rfl w9.heap.size 1 rfl rfl) HS9.out.room).mono ?_; rintro e w10 ⟨rfl, v', hs, hk⟩; have HL := Lib.hid (fun x hx => ((HS9.out.al _).loc x hx).keep hk); have hids : [N2] = (one d f).ids tw.length := (by rw [one_ids, ← HN2.out]); rw [hids] at hs; have HR := Lib.hid (((HS9.out.al _).addOp (at_ (hd (C.T.drop j)) 30 (hd (C.T.drop (j + 1))).text 0) hs hk).forget); generalize hNN : (((tw ++ _ : List Tw).length : Nat) : Int) = NN; have HNN := Lib.hid hNN; clear hs hk hids hNN) | (go_at_call 30; refine (add_ok C _ _ _ _ _ (hd (C.T.drop j)) 30 (hd (C.T.drop (j + 1))).text 0 _ _ HS8.out.ps (introw_loc (HS8.out.loc _ (.head _)) (fun y hy => Nat.lt_succ_of_lt (HXL.out y hy))) HS8.out.room).mono ?_; rintro e w10 ⟨rfl, v', hs, hk⟩; have HM := Lib.hid (fun x hx => (HS8.out.loc x hx).keep hk); have hids : [N2] = (one d f).ids tw.length := (by rw [one_ids, ← HN2.out]); rw [hids] at hs; have HR := Lib.hid (((HS8.out.addOp (at_ (hd (C.T.drop j)) 30 (hd (C.T.drop (j + 1))).text 0) hs hk).forget).forget); generalize hNN : (((tw ++ _ : List Tw).length : Nat) : Int) = NN; have HNN := Lib.hid hNN; clear hs hk hids hNN))
      all_goals
        go_wp2_with fail
        go_roundg i
        case measure => omega
        case rel => exact ⟨_, _, _, _, _, by omega, by rw [← HNN.out, len_post], HR.out, HO'.out⟩

theorem tight_ok (n : Nat) (HFI : Hid (Ct 87 n .first)) (HTM : Hid (∀ i, i ≤ n → Ct 78 i .term)) : Ct 84 (n + 1) .tight := fun C w k m v tw h hnd => tight_w n HFI HTM C w k m v tw h hnd

end Go.Proofs.Ythgpepkcjjimlaa
