/- parser.local, act, turn, set, repeat, the words of return; Rows of kids that grow: no twig's kids lie in their blocks; parser.perhapsTo. -/
import Derived.Test.YtehdljcmeimbcaaGreatB06
namespace Go.Proofs.YtehdljcmeimbcaaGreat
open Go.RowKit

theorem act_case (s : List UInt8) : ((s == [99, 97, 110, 99, 101, 108]) = true ∧ actKind s = 16) ∨ ((s == [99, 97, 110, 99, 101, 108]) = false ∧ (s == [106, 111, 105, 110]) = true ∧ actKind s = 17) ∨ ((s == [99, 97, 110, 99, 101, 108]) = false ∧ (s == [106, 111, 105, 110]) = false ∧ (s == [108, 111, 103]) = true ∧ actKind s = 18) ∨ ((s == [99, 97, 110, 99, 101, 108]) = false ∧ (s == [106, 111, 105, 110]) = false ∧ (s == [108, 111, 103]) = false ∧ actKind s = 15) := by
  unfold actKind
  by_cases h1 : s = [99, 97, 110, 99, 101, 108]
  · simp [h1]
  · by_cases h2 : s = [106, 111, 105, 110]
    · subst h2; decide
    · by_cases h3 : s = [108, 111, 103]
      · subst h3; decide
      · simp [h1, h2, h3]

set_option maxRecDepth 100000 in
set_option maxHeartbeats 2000000 in
theorem local_ok (n : Nat) (HTERM : Hid (Ct 130 n .term)) (C : Cx) (w : World) (k m : Nat) (v : Value) (tw : List Tw) (h : PS w C k m v tw) (h1 : seesW (C.T.drop k) [[118, 97, 114]] = true) (hnd : P (n + 1) .stmt (C.T.drop k) m ≠ .dry) :
    Calls Tryz.prog 120 #[C.ptr] w (Ret C w k m v tw (P (n + 1) .stmt (C.T.drop k) m)) := by
  have HS0 := Lib.hid (St.start h)
  clear h
  generalize ho : P (n + 1) .stmt (C.T.drop k) m = o at hnd ⊢
  have HND := Lib.hid hnd
  clear hnd
  rw [P] at ho
  simp only [h1, if_true, tail_drop'] at ho
  have hlt : k < C.T.length := sees_lt (x := 2) (by decide) (seesK_kind h1)
  clear h1
  have HO0 := Lib.hid ho
  clear ho
  go_enter Tryz.func120, Tryz.ntmps120
  go_wp2_with fail
  refine (take_ok C _ _ _ _ _ HS0.out.ps (hlt)).mono ?_
  rintro e w1 ⟨rfl, hs, hk⟩
  have HS1 := Lib.hid (HS0.out.took hs hk)
  clear hs hk HS0 
  unfold tokV
  go_wp2_with fail
  cases hx : ((hd (C.T.drop (k + 1))).kind == 1)
  · have ho' := HO0.out
    rw [tkK_no hx] at ho'
    refine (takeName_no C _ _ _ _ _ HS1.out.ps hx).mono ?_
    rintro e w' ⟨rfl, hb⟩
    have HB := Lib.hid (HS1.out.bad (m0 := m) ho' hb)
    clear hb ho' hx
    go_wp2_with fail
    exact ⟨rfl, HB.out⟩
  have ho' := HO0.out
  rw [tkK_yes hx, tail_drop'] at ho'
  have HO1 := Lib.hid ho'
  refine (takeName_yes C _ _ _ _ _ HS1.out.ps hx).mono ?_
  rintro e w2 ⟨rfl, hs, hk⟩
  have HS2 := Lib.hid (HS1.out.took hs hk)
  clear hs hk HS1 ho' hx
  unfold tokV
  go_wp2_with fail
  have hnd : tyO (C.T.drop ((k + 1) + 1)) ≠ .dry := fun hdry => by have h1 := HO1.out; rw [hdry] at h1; exact HND.out h1.symm
  refine (tyC.out C _ _ _ _ _ ((HS2.out.var (w2.heap.size) (by simp) (.cells #[.int .i64 (hd (C.T.drop k)).kind, .string ⟨(hd (C.T.drop k)).text.toArray⟩, .int .i64 (hd (C.T.drop k)).n, .int .i64 (hd (C.T.drop k)).line, .int .i64 (hd (C.T.drop k)).col] 61)).var (w2.heap.size + 1) (by simp) (.cells #[.int .i64 (hd (C.T.drop (k + 1))).kind, .string ⟨(hd (C.T.drop (k + 1))).text.toArray⟩, .int .i64 (hd (C.T.drop (k + 1))).n, .int .i64 (hd (C.T.drop (k + 1))).line, .int .i64 (hd (C.T.drop (k + 1))).col] 61)).ps hnd).mono ?_
  rintro e w3 hr
  rcases hP : tyO (C.T.drop ((k + 1) + 1)) with _ | ⟨er, r⟩ | ⟨d1, f1, r⟩
  · exact absurd hP hnd
  · rw [hP] at hr
    have ho' := HO1.out
    rw [hP] at ho'
    have HB := Lib.hid (((HS2.out.var (w2.heap.size) (by simp) (.cells #[.int .i64 (hd (C.T.drop k)).kind, .string ⟨(hd (C.T.drop k)).text.toArray⟩, .int .i64 (hd (C.T.drop k)).n, .int .i64 (hd (C.T.drop k)).line, .int .i64 (hd (C.T.drop k)).col] 61)).var (w2.heap.size + 1) (by simp) (.cells #[.int .i64 (hd (C.T.drop (k + 1))).kind, .string ⟨(hd (C.T.drop (k + 1))).text.toArray⟩, .int .i64 (hd (C.T.drop (k + 1))).n, .int .i64 (hd (C.T.drop (k + 1))).line, .int .i64 (hd (C.T.drop (k + 1))).col] 61)).bad' (m0 := m) ho' hr)
    obtain ⟨rfl, _⟩ := hr
    clear hnd hP ho'
    go_wp2_with fail
    exact ⟨rfl, HB.out⟩
  rw [hP] at hr
  obtain ⟨j1, v1, rfl, rfl, hs⟩ := ((HS2.out.var (w2.heap.size) (by simp) (.cells #[.int .i64 (hd (C.T.drop k)).kind, .string ⟨(hd (C.T.drop k)).text.toArray⟩, .int .i64 (hd (C.T.drop k)).n, .int .i64 (hd (C.T.drop k)).line, .int .i64 (hd (C.T.drop k)).col] 61)).var (w2.heap.size + 1) (by simp) (.cells #[.int .i64 (hd (C.T.drop (k + 1))).kind, .string ⟨(hd (C.T.drop (k + 1))).text.toArray⟩, .int .i64 (hd (C.T.drop (k + 1))).n, .int .i64 (hd (C.T.drop (k + 1))).line, .int .i64 (hd (C.T.drop (k + 1))).col] 61)).sub hr
  have ho' := HO1.out
  rw [hP] at ho'
  dsimp only [Out.and] at ho'
  have HO2 := Lib.hid ho'
  have HS3 := Lib.hid hs
  generalize hN : ((tw.length + _ + f1.size : Nat) : Int) = N1
  have HN1 := Lib.hid hN
  clear hs hr hN hnd hP ho' HS2 
  go_wp2_with fail
  cases hx : seesM (C.T.drop j1) [[61]]
  · have ho' := HO2.out
    rw [tkM_no hx] at ho'
    refine (takeMark_new_no C _ _ _ _ _ [[61]] _ _ _ HS3.out.ps (by simp) rfl rfl (by decide) hx).mono ?_
    rintro e w' ⟨rfl, hb⟩
    have HB := Lib.hid (HS3.out.bad (m0 := m) ho' hb)
    clear hb ho' hx
    go_wp2_with fail
    exact ⟨rfl, HB.out⟩
  have ho' := HO2.out
  rw [tkM_yes hx, tail_drop'] at ho'
  have HO3 := Lib.hid ho'
  refine (takeMark_new_yes C _ _ _ _ _ [[61]] _ _ _ HS3.out.ps (by simp) rfl rfl (by decide) hx).mono ?_
  rintro e w4 ⟨rfl, hs, hk⟩
  have HS4 := Lib.hid (HS3.out.took hs hk)
  clear hs hk HS3 ho' hx
  unfold tokV
  go_wp2_with fail
  have hnd : P n .term (C.T.drop (j1 + 1)) m ≠ .dry := fun hdry => by have h1 := HO3.out; rw [hdry] at h1; exact HND.out h1.symm
  refine (HTERM.out C _ _ _ _ _ HS4.out.ps hnd).mono ?_
  rintro e w5 hr
  rcases hP : P n .term (C.T.drop (j1 + 1)) m with _ | ⟨er, r⟩ | ⟨d2, f2, r⟩
  · exact absurd hP hnd
  · rw [hP] at hr
    have ho' := HO3.out
    rw [hP] at ho'
    have HB := Lib.hid (HS4.out.bad' (m0 := m) ho' hr)
    obtain ⟨rfl, _⟩ := hr
    clear hnd hP ho'
    go_wp2_with fail
    exact ⟨rfl, HB.out⟩
  rw [hP] at hr
  obtain ⟨j2, v2, rfl, rfl, hs⟩ := HS4.out.sub hr
  have ho' := HO3.out
  rw [hP] at ho'
  dsimp only [Out.and] at ho'
  have HO4 := Lib.hid ho'
  have HS5 := Lib.hid hs
  generalize hN : ((tw.length + _ + f2.size : Nat) : Int) = N2
  have HN2 := Lib.hid hN
  clear hs hr hN hnd hP ho' HS4 
  go_wp2_with fail
  cases hx : seesM (C.T.drop j2) [[59]]
  · have ho' := HO4.out
    rw [tkM_no hx] at ho'
    refine (takeMark_new_no C _ _ _ _ _ [[59]] _ _ _ HS5.out.ps (by simp) rfl rfl (by decide) hx).mono ?_
    rintro e w' ⟨rfl, hb⟩
    have HB := Lib.hid (HS5.out.bad (m0 := m) ho' hb)
    clear hb ho' hx
    go_wp2_with fail
    exact ⟨rfl, HB.out⟩
  have ho' := HO4.out
  rw [tkM_yes hx, tail_drop'] at ho'
  have HO5 := Lib.hid ho'
  refine (takeMark_new_yes C _ _ _ _ _ [[59]] _ _ _ HS5.out.ps (by simp) rfl rfl (by decide) hx).mono ?_
  rintro e w6 ⟨rfl, hs, hk⟩
  have HS6 := Lib.hid (HS5.out.took hs hk)
  clear hs hk HS5 ho' hx
  unfold tokV
  obtain ⟨a6_0, a6_1, a6_2, a6_3, a6_4, a6_5⟩ := tok5 (HS6.out.loc _ (.tail _ (.head _))).is
  have a6_lt := lt_of_block (HS6.out.loc _ (.tail _ (.head _))).is
  obtain ⟨b6_0, b6_1, b6_2, b6_3, b6_4, b6_5⟩ := tok5 (HS6.out.loc _ (.head _)).is
  have b6_lt := lt_of_block (HS6.out.loc _ (.head _)).is
  go_wp2_with fail
  refine (add_ok C _ _ _ _ _ (hd (C.T.drop k)) 13 (hd (C.T.drop (k + 1))).text 0 _ _ (HS6.out.al _).ps (ints_new _ (fun b hb => by have := HS6.out.ps.xlt b hb; simp; try omega) [N1, N2] #[.int .i64 N1, .int .i64 N2] rfl _ _ (by simp) rfl) HS6.out.room).mono ?_
  rintro e w7 ⟨rfl, v', hs, hk⟩
  have hids : [N1, N2] = ((Fo.nil.app (one d1 f1)).app (one d2 f2)).ids tw.length := (by rw [ids_snoc, ids_snoc, ← HN1.out, ← HN2.out]; rfl)
  rw [hids] at hs
  generalize hN : (((tw ++ _ : List Tw).length : Nat) : Int) = N
  have HR := Lib.hid ((HS6.out.al _).fin HO5.out hs hk hN.symm)
  clear hs hk hN HS6
  go_wp2_with fail
  go_ret
  exact HR.out

set_option maxRecDepth 100000 in
set_option maxHeartbeats 2000000 in
theorem act_ok (n : Nat) (HTERM : Hid (Ct 130 n .term)) (C : Cx) (w : World) (k m : Nat) (v : Value) (tw : List Tw) (h : PS w C k m v tw) (h2 : seesW (C.T.drop k) [[118, 97, 114]] = false) (h1 : seesW (C.T.drop k) actWords = true) (hnd : P (n + 1) .stmt (C.T.drop k) m ≠ .dry) :
    Calls Tryz.prog 121 #[C.ptr] w (Ret C w k m v tw (P (n + 1) .stmt (C.T.drop k) m)) := by
  have HS0 := Lib.hid (St.start h)
  clear h
  generalize ho : P (n + 1) .stmt (C.T.drop k) m = o at hnd ⊢
  have HND := Lib.hid hnd
  clear hnd
  rw [P] at ho
  simp only [h2, h1, Bool.false_eq_true, if_false, if_true, tail_drop'] at ho
  have hlt : k < C.T.length := sees_lt (x := 2) (by decide) (seesK_kind h1)
  clear h2 h1
  have HO0 := Lib.hid ho
  clear ho
  go_enter Tryz.func121, Tryz.ntmps121
  go_wp2_with fail
  refine (take_ok C _ _ _ _ _ HS0.out.ps (hlt)).mono ?_
  rintro e w1 ⟨rfl, hs, hk⟩
  have HS1 := Lib.hid (HS0.out.took hs hk)
  clear hs hk HS0 
  unfold tokV
  go_wp2_with fail
  have hnd : P n .term (C.T.drop (k + 1)) m ≠ .dry := fun hdry => by have h1 := HO0.out; rw [hdry] at h1; exact HND.out h1.symm
  refine (HTERM.out C _ _ _ _ _ (HS1.out.var (w1.heap.size) (by simp) (.cells #[.int .i64 (hd (C.T.drop k)).kind, .string ⟨(hd (C.T.drop k)).text.toArray⟩, .int .i64 (hd (C.T.drop k)).n, .int .i64 (hd (C.T.drop k)).line, .int .i64 (hd (C.T.drop k)).col] 61)).ps hnd).mono ?_
  rintro e w2 hr
  rcases hP : P n .term (C.T.drop (k + 1)) m with _ | ⟨er, r⟩ | ⟨d1, f1, r⟩
  · exact absurd hP hnd
  · rw [hP] at hr
    have ho' := HO0.out
    rw [hP] at ho'
    have HB := Lib.hid ((HS1.out.var (w1.heap.size) (by simp) (.cells #[.int .i64 (hd (C.T.drop k)).kind, .string ⟨(hd (C.T.drop k)).text.toArray⟩, .int .i64 (hd (C.T.drop k)).n, .int .i64 (hd (C.T.drop k)).line, .int .i64 (hd (C.T.drop k)).col] 61)).bad' (m0 := m) ho' hr)
    obtain ⟨rfl, _⟩ := hr
    clear hnd hP ho'
    go_wp2_with fail
    exact ⟨rfl, HB.out⟩
  rw [hP] at hr
  obtain ⟨j1, v1, rfl, rfl, hs⟩ := (HS1.out.var (w1.heap.size) (by simp) (.cells #[.int .i64 (hd (C.T.drop k)).kind, .string ⟨(hd (C.T.drop k)).text.toArray⟩, .int .i64 (hd (C.T.drop k)).n, .int .i64 (hd (C.T.drop k)).line, .int .i64 (hd (C.T.drop k)).col] 61)).sub hr
  have ho' := HO0.out
  rw [hP] at ho'
  dsimp only [Out.and] at ho'
  have HO1 := Lib.hid ho'
  have HS2 := Lib.hid hs
  generalize hN : ((tw.length + _ + f1.size : Nat) : Int) = N1
  have HN1 := Lib.hid hN
  clear hs hr hN hnd hP ho' HS1 
  go_wp2_with fail
  cases hx : seesM (C.T.drop j1) [[59]]
  · have ho' := HO1.out
    rw [tkM_no hx] at ho'
    refine (takeMark_new_no C _ _ _ _ _ [[59]] _ _ _ HS2.out.ps (by simp) rfl rfl (by decide) hx).mono ?_
    rintro e w' ⟨rfl, hb⟩
    have HB := Lib.hid (HS2.out.bad (m0 := m) ho' hb)
    clear hb ho' hx
    go_wp2_with fail
    exact ⟨rfl, HB.out⟩
  have ho' := HO1.out
  rw [tkM_yes hx, tail_drop'] at ho'
  have HO2 := Lib.hid ho'
  refine (takeMark_new_yes C _ _ _ _ _ [[59]] _ _ _ HS2.out.ps (by simp) rfl rfl (by decide) hx).mono ?_
  rintro e w3 ⟨rfl, hs, hk⟩
  have HS3 := Lib.hid (HS2.out.took hs hk)
  clear hs hk HS2 ho' hx
  unfold tokV
  obtain ⟨a3_0, a3_1, a3_2, a3_3, a3_4, a3_5⟩ := tok5 (HS3.out.loc _ (.head _)).is
  have a3_lt := lt_of_block (HS3.out.loc _ (.head _)).is
  have HAC := Lib.hid (act_case (hd (C.T.drop k)).text)
  rcases HAC.out with ⟨e1, e2⟩ | ⟨e1, e3, e2⟩ | ⟨e1, e3, e4, e2⟩ | ⟨e1, e3, e4, e2⟩
  all_goals
    have ho' := HO2.out
    simp only [e2] at ho'
    have HO8 := Lib.hid ho'
    clear ho' e2 HAC
    go_wp2_with fail
    refine (add_ok C _ _ _ _ _ (hd (C.T.drop k)) _ [] 0 _ _ ((HS3.out.al _).al _).ps (ints_new _ (fun b hb => by have := HS3.out.ps.xlt b hb; simp; try omega) [N1] #[.int .i64 N1] rfl _ _ (by simp) rfl) HS3.out.room).mono ?_
    rintro e w4 ⟨rfl, v', hs, hk⟩
    have hids : [N1] = (Fo.nil.app (one d1 f1)).ids tw.length := (by rw [ids_snoc, ← HN1.out]; rfl)
    rw [hids] at hs
    generalize hN : (((tw ++ _ : List Tw).length : Nat) : Int) = N
    have HR := Lib.hid (((HS3.out.al _).al _).fin HO8.out hs hk hN.symm)
    clear hs hk hN HS3
    go_wp2_with fail
    go_ret
    exact HR.out

set_option maxRecDepth 100000 in
set_option maxHeartbeats 2000000 in
theorem turn_ok (n : Nat) (C : Cx) (w : World) (k m : Nat) (v : Value) (tw : List Tw) (h : PS w C k m v tw) (h2 : seesW (C.T.drop k) [[118, 97, 114]] = false) (h3 : seesW (C.T.drop k) actWords = false) (h4 : seesW (C.T.drop k) [[112, 111, 115, 116]] = false) (h5 : seesW (C.T.drop k) [[115, 112, 97, 119, 110]] = false) (h1 : seesW (C.T.drop k) [[101, 110, 97, 98, 108, 101], [100, 105, 115, 97, 98, 108, 101]] = true) (hnd : P (n + 1) .stmt (C.T.drop k) m ≠ .dry) :
    Calls Tryz.prog 124 #[C.ptr] w (Ret C w k m v tw (P (n + 1) .stmt (C.T.drop k) m)) := by
  have HS0 := Lib.hid (St.start h)
  clear h
  generalize ho : P (n + 1) .stmt (C.T.drop k) m = o at hnd ⊢
  have HND := Lib.hid hnd
  clear hnd
  rw [P] at ho
  simp only [h2, h3, h4, h5, h1, Bool.false_eq_true, if_false, if_true, tail_drop'] at ho
  have hlt : k < C.T.length := sees_lt (x := 2) (by decide) (seesK_kind h1)
  clear h2 h3 h4 h5 h1
  have HO0 := Lib.hid ho
  clear ho
  go_enter Tryz.func124, Tryz.ntmps124
  go_wp2_with fail
  refine (take_ok C _ _ _ _ _ HS0.out.ps (hlt)).mono ?_
  rintro e w1 ⟨rfl, hs, hk⟩
  have HS1 := Lib.hid (HS0.out.took hs hk)
  clear hs hk HS0 
  unfold tokV
  go_wp2_with fail
  cases hx : ((hd (C.T.drop (k + 1))).kind == 1)
  · have ho' := HO0.out
    rw [tkK_no hx] at ho'
    refine (takeName_no C _ _ _ _ _ HS1.out.ps hx).mono ?_
    rintro e w' ⟨rfl, hb⟩
    have HB := Lib.hid (HS1.out.bad (m0 := m) ho' hb)
    clear hb ho' hx
    go_wp2_with fail
    exact ⟨rfl, HB.out⟩
  have ho' := HO0.out
  rw [tkK_yes hx, tail_drop'] at ho'
  have HO1 := Lib.hid ho'
  refine (takeName_yes C _ _ _ _ _ HS1.out.ps hx).mono ?_
  rintro e w2 ⟨rfl, hs, hk⟩
  have HS2 := Lib.hid (HS1.out.took hs hk)
  clear hs hk HS1 ho' hx
  unfold tokV
  go_wp2_with fail
  cases hx : seesM (C.T.drop ((k + 1) + 1)) [[59]]
  · have ho' := HO1.out
    rw [tkM_no hx] at ho'
    refine (takeMark_new_no C _ _ _ _ _ [[59]] _ _ _ ((HS2.out.var (w2.heap.size) (by simp) (.cells #[.int .i64 (hd (C.T.drop k)).kind, .string ⟨(hd (C.T.drop k)).text.toArray⟩, .int .i64 (hd (C.T.drop k)).n, .int .i64 (hd (C.T.drop k)).line, .int .i64 (hd (C.T.drop k)).col] 61)).var (w2.heap.size + 1) (by simp) (.cells #[.int .i64 (hd (C.T.drop (k + 1))).kind, .string ⟨(hd (C.T.drop (k + 1))).text.toArray⟩, .int .i64 (hd (C.T.drop (k + 1))).n, .int .i64 (hd (C.T.drop (k + 1))).line, .int .i64 (hd (C.T.drop (k + 1))).col] 61)).ps (by simp) rfl rfl (by decide) hx).mono ?_
    rintro e w' ⟨rfl, hb⟩
    have HB := Lib.hid (((HS2.out.var (w2.heap.size) (by simp) (.cells #[.int .i64 (hd (C.T.drop k)).kind, .string ⟨(hd (C.T.drop k)).text.toArray⟩, .int .i64 (hd (C.T.drop k)).n, .int .i64 (hd (C.T.drop k)).line, .int .i64 (hd (C.T.drop k)).col] 61)).var (w2.heap.size + 1) (by simp) (.cells #[.int .i64 (hd (C.T.drop (k + 1))).kind, .string ⟨(hd (C.T.drop (k + 1))).text.toArray⟩, .int .i64 (hd (C.T.drop (k + 1))).n, .int .i64 (hd (C.T.drop (k + 1))).line, .int .i64 (hd (C.T.drop (k + 1))).col] 61)).bad (m0 := m) ho' hb)
    clear hb ho' hx
    go_wp2_with fail
    exact ⟨rfl, HB.out⟩
  have ho' := HO1.out
  rw [tkM_yes hx, tail_drop'] at ho'
  have HO2 := Lib.hid ho'
  refine (takeMark_new_yes C _ _ _ _ _ [[59]] _ _ _ ((HS2.out.var (w2.heap.size) (by simp) (.cells #[.int .i64 (hd (C.T.drop k)).kind, .string ⟨(hd (C.T.drop k)).text.toArray⟩, .int .i64 (hd (C.T.drop k)).n, .int .i64 (hd (C.T.drop k)).line, .int .i64 (hd (C.T.drop k)).col] 61)).var (w2.heap.size + 1) (by simp) (.cells #[.int .i64 (hd (C.T.drop (k + 1))).kind, .string ⟨(hd (C.T.drop (k + 1))).text.toArray⟩, .int .i64 (hd (C.T.drop (k + 1))).n, .int .i64 (hd (C.T.drop (k + 1))).line, .int .i64 (hd (C.T.drop (k + 1))).col] 61)).ps (by simp) rfl rfl (by decide) hx).mono ?_
  rintro e w3 ⟨rfl, hs, hk⟩
  have HS3 := Lib.hid (((HS2.out.var (w2.heap.size) (by simp) (.cells #[.int .i64 (hd (C.T.drop k)).kind, .string ⟨(hd (C.T.drop k)).text.toArray⟩, .int .i64 (hd (C.T.drop k)).n, .int .i64 (hd (C.T.drop k)).line, .int .i64 (hd (C.T.drop k)).col] 61)).var (w2.heap.size + 1) (by simp) (.cells #[.int .i64 (hd (C.T.drop (k + 1))).kind, .string ⟨(hd (C.T.drop (k + 1))).text.toArray⟩, .int .i64 (hd (C.T.drop (k + 1))).n, .int .i64 (hd (C.T.drop (k + 1))).line, .int .i64 (hd (C.T.drop (k + 1))).col] 61)).took hs hk)
  clear hs hk HS2 ho' hx
  unfold tokV
  obtain ⟨a3_0, a3_1, a3_2, a3_3, a3_4, a3_5⟩ := tok5 (HS3.out.loc _ (.tail _ (.head _))).is
  have a3_lt := lt_of_block (HS3.out.loc _ (.tail _ (.head _))).is
  obtain ⟨b3_0, b3_1, b3_2, b3_3, b3_4, b3_5⟩ := tok5 (HS3.out.loc _ (.head _)).is
  have b3_lt := lt_of_block (HS3.out.loc _ (.head _)).is
  have HDD : Hid ((((hd (C.T.drop k)).text == [100, 105, 115, 97, 98, 108, 101]) = true ∧ (if (hd (C.T.drop k)).text = [100, 105, 115, 97, 98, 108, 101] then (22 : Int) else 21) = 22) ∨ (((hd (C.T.drop k)).text == [100, 105, 115, 97, 98, 108, 101]) = false ∧ (if (hd (C.T.drop k)).text = [100, 105, 115, 97, 98, 108, 101] then (22 : Int) else 21) = 21)) := Lib.hid (by by_cases h : (hd (C.T.drop k)).text = [100, 105, 115, 97, 98, 108, 101] <;> simp [h])
  rcases HDD.out with ⟨e1, e2⟩ | ⟨e1, e2⟩
  all_goals
    have ho' := HO2.out
    simp only [e2] at ho'
    have HO8 := Lib.hid ho'
    clear ho' e2 HDD
    go_wp2_with fail
    refine (add_ok C _ _ _ _ _ (hd (C.T.drop k)) _ (hd (C.T.drop (k + 1))).text 0 _ [] (HS3.out.al _).ps (ints_nil _) HS3.out.room).mono ?_
    rintro e w4 ⟨rfl, v', hs, hk⟩
    generalize hN : (((tw ++ _ : List Tw).length : Nat) : Int) = N
    have HR := Lib.hid ((HS3.out.al _).fin HO8.out hs hk hN.symm)
    clear hs hk hN HS3
    go_wp2_with fail
    go_ret
    exact HR.out

set_option maxRecDepth 100000 in
set_option maxHeartbeats 2000000 in
theorem set_ok (n : Nat) (HTERM : Hid (Ct 130 n .term)) (HVAR : Hid (Ct 133 n .var)) (C : Cx) (w : World) (k m : Nat) (v : Value) (tw : List Tw) (h : PS w C k m v tw) (h2 : seesW (C.T.drop k) [[118, 97, 114]] = false) (h3 : seesW (C.T.drop k) actWords = false) (h4 : seesW (C.T.drop k) [[112, 111, 115, 116]] = false) (h5 : seesW (C.T.drop k) [[115, 112, 97, 119, 110]] = false) (h6 : seesW (C.T.drop k) [[101, 110, 97, 98, 108, 101], [100, 105, 115, 97, 98, 108, 101]] = false) (h7 : seesW (C.T.drop k) [[105, 102]] = false) (h8 : seesW (C.T.drop k) [[119, 104, 105, 108, 101]] = false) (h9 : seesW (C.T.drop k) [[114, 101, 116, 117, 114, 110]] = false) (hnd : P (n + 1) .stmt (C.T.drop k) m ≠ .dry) :
    Calls Tryz.prog 127 #[C.ptr] w (Ret C w k m v tw (P (n + 1) .stmt (C.T.drop k) m)) := by
  have HS0 := Lib.hid (St.start h)
  clear h
  generalize ho : P (n + 1) .stmt (C.T.drop k) m = o at hnd ⊢
  have HND := Lib.hid hnd
  clear hnd
  rw [P] at ho
  simp only [h2, h3, h4, h5, h6, h7, h8, h9, Bool.false_eq_true, if_false] at ho
  clear h2 h3 h4 h5 h6 h7 h8 h9
  have HO0 := Lib.hid ho
  clear ho
  go_enter Tryz.func127, Tryz.ntmps127
  go_wp2_with fail
  refine (next_ok C _ _ _ _ _ HS0.out.ps).mono ?_
  rintro e w1 ⟨rfl, hb⟩
  have HS1 := Lib.hid (HS0.out.below hb)
  clear hb HS0
  unfold tokV
  go_wp2_with fail
  have hnd : P n .var (C.T.drop k) m ≠ .dry := fun hdry => by have h1 := HO0.out; rw [hdry] at h1; exact HND.out h1.symm
  refine (HVAR.out C _ _ _ _ _ (HS1.out.var (w1.heap.size) (by simp) (.cells #[.int .i64 (hd (C.T.drop k)).kind, .string ⟨(hd (C.T.drop k)).text.toArray⟩, .int .i64 (hd (C.T.drop k)).n, .int .i64 (hd (C.T.drop k)).line, .int .i64 (hd (C.T.drop k)).col] 61)).ps hnd).mono ?_
  rintro e w2 hr
  rcases hP : P n .var (C.T.drop k) m with _ | ⟨er, r⟩ | ⟨d1, f1, r⟩
  · exact absurd hP hnd
  · rw [hP] at hr
    have ho' := HO0.out
    rw [hP] at ho'
    have HB := Lib.hid ((HS1.out.var (w1.heap.size) (by simp) (.cells #[.int .i64 (hd (C.T.drop k)).kind, .string ⟨(hd (C.T.drop k)).text.toArray⟩, .int .i64 (hd (C.T.drop k)).n, .int .i64 (hd (C.T.drop k)).line, .int .i64 (hd (C.T.drop k)).col] 61)).bad' (m0 := m) ho' hr)
    obtain ⟨rfl, _⟩ := hr
    clear hnd hP ho'
    go_wp2_with fail
    exact ⟨rfl, HB.out⟩
  rw [hP] at hr
  obtain ⟨j1, v1, rfl, rfl, hs⟩ := (HS1.out.var (w1.heap.size) (by simp) (.cells #[.int .i64 (hd (C.T.drop k)).kind, .string ⟨(hd (C.T.drop k)).text.toArray⟩, .int .i64 (hd (C.T.drop k)).n, .int .i64 (hd (C.T.drop k)).line, .int .i64 (hd (C.T.drop k)).col] 61)).sub hr
  have ho' := HO0.out
  rw [hP] at ho'
  dsimp only [Out.and] at ho'
  have HO1 := Lib.hid ho'
  have HS2 := Lib.hid hs
  generalize hN : ((tw.length + _ + f1.size : Nat) : Int) = N1
  have HN1 := Lib.hid hN
  clear hs hr hN hnd hP ho' HS1 
  go_wp2_with fail
  cases hx : seesM (C.T.drop j1) [[61]]
  · have ho' := HO1.out
    rw [tkM_no hx] at ho'
    refine (takeMark_new_no C _ _ _ _ _ [[61]] _ _ _ HS2.out.ps (by simp) rfl rfl (by decide) hx).mono ?_
    rintro e w' ⟨rfl, hb⟩
    have HB := Lib.hid (HS2.out.bad (m0 := m) ho' hb)
    clear hb ho' hx
    go_wp2_with fail
    exact ⟨rfl, HB.out⟩
  have ho' := HO1.out
  rw [tkM_yes hx, tail_drop'] at ho'
  have HO2 := Lib.hid ho'
  refine (takeMark_new_yes C _ _ _ _ _ [[61]] _ _ _ HS2.out.ps (by simp) rfl rfl (by decide) hx).mono ?_
  rintro e w3 ⟨rfl, hs, hk⟩
  have HS3 := Lib.hid (HS2.out.took hs hk)
  clear hs hk HS2 ho' hx
  unfold tokV
  go_wp2_with fail
  have hnd : P n .term (C.T.drop (j1 + 1)) m ≠ .dry := fun hdry => by have h1 := HO2.out; rw [hdry] at h1; exact HND.out h1.symm
  refine (HTERM.out C _ _ _ _ _ HS3.out.ps hnd).mono ?_
  rintro e w4 hr
  rcases hP : P n .term (C.T.drop (j1 + 1)) m with _ | ⟨er, r⟩ | ⟨d2, f2, r⟩
  · exact absurd hP hnd
  · rw [hP] at hr
    have ho' := HO2.out
    rw [hP] at ho'
    have HB := Lib.hid (HS3.out.bad' (m0 := m) ho' hr)
    obtain ⟨rfl, _⟩ := hr
    clear hnd hP ho'
    go_wp2_with fail
    exact ⟨rfl, HB.out⟩
  rw [hP] at hr
  obtain ⟨j2, v2, rfl, rfl, hs⟩ := HS3.out.sub hr
  have ho' := HO2.out
  rw [hP] at ho'
  dsimp only [Out.and] at ho'
  have HO3 := Lib.hid ho'
  have HS4 := Lib.hid hs
  generalize hN : ((tw.length + _ + f2.size : Nat) : Int) = N2
  have HN2 := Lib.hid hN
  clear hs hr hN hnd hP ho' HS3 
  go_wp2_with fail
  cases hx : seesM (C.T.drop j2) [[59]]
  · have ho' := HO3.out
    rw [tkM_no hx] at ho'
    refine (takeMark_new_no C _ _ _ _ _ [[59]] _ _ _ HS4.out.ps (by simp) rfl rfl (by decide) hx).mono ?_
    rintro e w' ⟨rfl, hb⟩
    have HB := Lib.hid (HS4.out.bad (m0 := m) ho' hb)
    clear hb ho' hx
    go_wp2_with fail
    exact ⟨rfl, HB.out⟩
  have ho' := HO3.out
  rw [tkM_yes hx, tail_drop'] at ho'
  have HO4 := Lib.hid ho'
  refine (takeMark_new_yes C _ _ _ _ _ [[59]] _ _ _ HS4.out.ps (by simp) rfl rfl (by decide) hx).mono ?_
  rintro e w5 ⟨rfl, hs, hk⟩
  have HS5 := Lib.hid (HS4.out.took hs hk)
  clear hs hk HS4 ho' hx
  unfold tokV
  obtain ⟨a5_0, a5_1, a5_2, a5_3, a5_4, a5_5⟩ := tok5 (HS5.out.loc _ (.head _)).is
  have a5_lt := lt_of_block (HS5.out.loc _ (.head _)).is
  go_wp2_with fail
  refine (add_ok C _ _ _ _ _ (hd (C.T.drop k)) 14 [] 0 _ _ (HS5.out.al _).ps (ints_new _ (fun b hb => by have := HS5.out.ps.xlt b hb; simp; try omega) [N1, N2] #[.int .i64 N1, .int .i64 N2] rfl _ _ (by simp) rfl) HS5.out.room).mono ?_
  rintro e w6 ⟨rfl, v', hs, hk⟩
  have hids : [N1, N2] = ((Fo.nil.app (one d1 f1)).app (one d2 f2)).ids tw.length := (by rw [ids_snoc, ids_snoc, ← HN1.out, ← HN2.out]; rfl)
  rw [hids] at hs
  generalize hN : (((tw ++ _ : List Tw).length : Nat) : Int) = N
  have HR := Lib.hid ((HS5.out.al _).fin HO4.out hs hk hN.symm)
  clear hs hk hN HS5
  go_wp2_with fail
  go_ret
  exact HR.out

set_option maxRecDepth 100000 in
set_option maxHeartbeats 2000000 in
theorem repeat_ok (n : Nat) (HTERM : Hid (Ct 130 n .term)) (HBLK : Hid (Ct 94 n .block)) (C : Cx) (w : World) (k m : Nat) (v : Value) (tw : List Tw) (h : PS w C k m v tw) (h2 : seesW (C.T.drop k) [[118, 97, 114]] = false) (h3 : seesW (C.T.drop k) actWords = false) (h4 : seesW (C.T.drop k) [[112, 111, 115, 116]] = false) (h5 : seesW (C.T.drop k) [[115, 112, 97, 119, 110]] = false) (h6 : seesW (C.T.drop k) [[101, 110, 97, 98, 108, 101], [100, 105, 115, 97, 98, 108, 101]] = false) (h7 : seesW (C.T.drop k) [[105, 102]] = false) (h1 : seesW (C.T.drop k) [[119, 104, 105, 108, 101]] = true) (hnd : P (n + 1) .stmt (C.T.drop k) m ≠ .dry) :
    Calls Tryz.prog 126 #[C.ptr] w (Ret C w k m v tw (P (n + 1) .stmt (C.T.drop k) m)) := by
  have HS0 := Lib.hid (St.start h)
  clear h
  generalize ho : P (n + 1) .stmt (C.T.drop k) m = o at hnd ⊢
  have HND := Lib.hid hnd
  clear hnd
  rw [P] at ho
  simp only [h2, h3, h4, h5, h6, h7, h1, Bool.false_eq_true, if_false, if_true, tail_drop'] at ho
  have hlt : k < C.T.length := sees_lt (x := 2) (by decide) (seesK_kind h1)
  clear h2 h3 h4 h5 h6 h7 h1
  have HO0 := Lib.hid ho
  clear ho
  go_enter Tryz.func126, Tryz.ntmps126
  go_wp2_with fail
  refine (take_ok C _ _ _ _ _ HS0.out.ps (hlt)).mono ?_
  rintro e w1 ⟨rfl, hs, hk⟩
  have HS1 := Lib.hid (HS0.out.took hs hk)
  clear hs hk HS0 
  unfold tokV
  go_wp2_with fail
  have hnd : P n .term (C.T.drop (k + 1)) m ≠ .dry := fun hdry => by have h1 := HO0.out; rw [hdry] at h1; exact HND.out h1.symm
  refine (HTERM.out C _ _ _ _ _ (HS1.out.var (w1.heap.size) (by simp) (.cells #[.int .i64 (hd (C.T.drop k)).kind, .string ⟨(hd (C.T.drop k)).text.toArray⟩, .int .i64 (hd (C.T.drop k)).n, .int .i64 (hd (C.T.drop k)).line, .int .i64 (hd (C.T.drop k)).col] 61)).ps hnd).mono ?_
  rintro e w2 hr
  rcases hP : P n .term (C.T.drop (k + 1)) m with _ | ⟨er, r⟩ | ⟨d1, f1, r⟩
  · exact absurd hP hnd
  · rw [hP] at hr
    have ho' := HO0.out
    rw [hP] at ho'
    have HB := Lib.hid ((HS1.out.var (w1.heap.size) (by simp) (.cells #[.int .i64 (hd (C.T.drop k)).kind, .string ⟨(hd (C.T.drop k)).text.toArray⟩, .int .i64 (hd (C.T.drop k)).n, .int .i64 (hd (C.T.drop k)).line, .int .i64 (hd (C.T.drop k)).col] 61)).bad' (m0 := m) ho' hr)
    obtain ⟨rfl, _⟩ := hr
    clear hnd hP ho'
    go_wp2_with fail
    exact ⟨rfl, HB.out⟩
  rw [hP] at hr
  obtain ⟨j1, v1, rfl, rfl, hs⟩ := (HS1.out.var (w1.heap.size) (by simp) (.cells #[.int .i64 (hd (C.T.drop k)).kind, .string ⟨(hd (C.T.drop k)).text.toArray⟩, .int .i64 (hd (C.T.drop k)).n, .int .i64 (hd (C.T.drop k)).line, .int .i64 (hd (C.T.drop k)).col] 61)).sub hr
  have ho' := HO0.out
  rw [hP] at ho'
  dsimp only [Out.and] at ho'
  have HO1 := Lib.hid ho'
  have HS2 := Lib.hid hs
  generalize hN : ((tw.length + _ + f1.size : Nat) : Int) = N1
  have HN1 := Lib.hid hN
  clear hs hr hN hnd hP ho' HS1 
  obtain ⟨a2_0, a2_1, a2_2, a2_3, a2_4, a2_5⟩ := tok5 (HS2.out.loc _ (.head _)).is
  have a2_lt := lt_of_block (HS2.out.loc _ (.head _)).is
  go_wp2_with fail
  have HSD := Lib.hid (HS2.out.drew)
  have hnd : P n .block (C.T.drop j1) m ≠ .dry := fun hdry => by have h1 := HO1.out; rw [hdry] at h1; exact HND.out h1.symm
  rcases hP : P n .block (C.T.drop j1) m with _ | ⟨er, r⟩ | ⟨d2, f2, r⟩
  · exact absurd hP hnd
  · have ho' := HO1.out
    rw [hP] at ho'
    have HP := Lib.hid hP
    have HO' := Lib.hid ho'
    have HD := Lib.hid hnd
    clear hP ho' hnd
    go_region_with (first | (go_at_call 94; refine (HBLK.out C _ _ _ _ _ HSD.out.ps HD.out).mono ?_; rintro e w9 hr; rw [HP.out] at hr; have HB := Lib.hid (HSD.out.bad' (m0 := m) HO'.out hr); obtain ⟨rfl, _⟩ := hr; go_simp; suffices _hz : wpAny Tryz.prog .any #[] (fun _ _ _ => True) 0 #[] ⟨#[], []⟩ w9 from ⟨rfl, HB.out⟩))
    all_goals trivial
  have ho' := HO1.out
  rw [hP] at ho'
  dsimp only [Out.and] at ho'
  have HP := Lib.hid hP
  have HO' := Lib.hid ho'
  have HD := Lib.hid hnd
  clear hP ho' hnd
  go_region_held3 (fun w' => w'.cell? ⟨w1.heap.size, 0, none⟩ = some (.int .i64 (hd (C.T.drop k)).kind) ∧ w'.cell? ⟨w1.heap.size, 1, none⟩ = some (.string ⟨(hd (C.T.drop k)).text.toArray⟩) ∧ w'.cell? ⟨w1.heap.size, 2, none⟩ = some (.int .i64 (hd (C.T.drop k)).n) ∧ w'.cell? ⟨w1.heap.size, 3, none⟩ = some (.int .i64 (hd (C.T.drop k)).line) ∧ w'.cell? ⟨w1.heap.size, 4, none⟩ = some (.int .i64 (hd (C.T.drop k)).col)) (first | go_keep | (obtain ⟨qa0, qa1, qa2, qa3, qa4, _⟩ := tok5 (HS9.out.loc _ (.head _)).is; exact ⟨qa0, qa1, qa2, qa3, qa4⟩) | (obtain ⟨qa0, qa1, qa2, qa3, qa4, _⟩ := tok5 (HL.out _ (.head _)).is; exact ⟨qa0, qa1, qa2, qa3, qa4⟩)) (first | (go_at_call 94; refine (HBLK.out C _ _ _ _ _ HSD.out.ps HD.out).mono ?_; rintro e w9 hr; rw [HP.out] at hr; obtain ⟨j2, v2, rfl, rfl, hs⟩ := HSD.out.sub hr; have HS9 := Lib.hid hs; generalize hN : ((tw.length + _ + f2.size : Nat) : Int) = N2; have HN2 := Lib.hid hN; clear hs hr hN) | (go_at_call 76; refine (add_ok C _ _ _ _ _ (hd (C.T.drop k)) 24 [] 0 _ _ (HS9.out.al _).ps (ints_new w9 HS9.out.ps.xlt [N1, N2] #[.int .i64 N1, .int .i64 N2] rfl w9.heap.size 2 rfl rfl) HS9.out.room).mono ?_; rintro e w10 ⟨rfl, v', hs, hk⟩; have HL := Lib.hid (fun x hx => ((HS9.out.al _).loc x hx).keep hk); generalize hN2 : (((tw ++ _ : List Tw).length : Nat) : Int) = N; have hids : [N1, N2] = ((Fo.nil.app (one d1 f1)).app (one d2 f2)).ids tw.length := (by rw [ids_snoc, ids_snoc, ← HN1.out, ← HN2.out]; rfl); rw [hids] at hs; have HR := Lib.hid ((HS9.out.al _).fin HO'.out hs hk hN2.symm); clear hs hk hN2 hids))
  go_wp2_with fail
  go_ret
  exact HR.out

end Go.Proofs.YtehdljcmeimbcaaGreat

namespace Go.Proofs.YtehdljcmeimbcaaGreat
open Go.RowKit

def Cx.ex (C : Cx) (x : Value) : Cx := { C with X := x.ownBlock.toList ++ C.X }
theorem Cx.ex_nil (C : Cx) : C.ex (.slice none 0 0) = C := rfl
theorem IntRow.turn {w w' : World} {X X' : List Nat} {v : Value} {l : List Int} (h : IntRow w X v l) (hk : ∀ (g : Nat) (cs : Array Value) (m : Nat × Nat), w.heap[g]? = some (Obj.cells cs 3 m) → g ∉ X → w'.heap[g]? = w.heap[g]? ∧ g ∉ X') : IntRow w' X' v l := by
  obtain ⟨A, cap, rfl, h⟩ := h
  refine ⟨A, cap, rfl, fun h0 => ?_⟩
  obtain ⟨g, cs, m, h1, h2, h3, h4⟩ := h h0
  exact ⟨g, cs, m, h1, (hk g cs m h2 h3).1.trans h2, (hk g cs m h2 h3).2, h4⟩
theorem Tws.turn {w w' : World} {X X' : List Nat} (hk : ∀ (g : Nat) (cs : Array Value) (m : Nat × Nat), w.heap[g]? = some (Obj.cells cs 3 m) → g ∉ X → w'.heap[g]? = w.heap[g]? ∧ g ∉ X') : ∀ {tw : List Tw} {xs : List Value}, Tws w X tw xs → Tws w' X' tw xs
  | [], _, h => h
  | _ :: _, _, ⟨kv, ys, e, h1, h2⟩ => ⟨kv, ys, e, h1.turn hk, Tws.turn hk h2⟩
variable {C : Cx} {w w' : World} {k m : Nat} {v : Value} {tw : List Tw}
theorem mem_ex {C : Cx} {x : Value} {b : Nat} : b ∈ (C.ex x).X ↔ x.ownBlock = some b ∨ b ∈ C.X := by
  unfold Cx.ex
  cases hx : x.ownBlock <;> simp [eq_comm]
/-- The held row may be let go. -/
theorem PS.exDrop {x : Value} (h : PS w (C.ex x) k m v tw) : PS w C k m v tw := by
  obtain ⟨xs, ho, ht⟩ := h.own
  exact ⟨h.par, h.toks, ⟨xs, ho, ht.turn fun g cs mm _ hx => ⟨rfl, fun hc => hx (mem_ex.2 (.inr hc))⟩⟩, h.kle, h.big, h.few, h.nest, fun b hb => h.xlt b (mem_ex.2 (.inr hb))⟩
/-- A row in a block that is new is held. -/
theorem PS.exNew (h : PS w C k m v tw) (o : Obj) (a c : Nat) : PS (w.alloc o) (C.ex (.slice (some ⟨w.heap.size, 0, none⟩) a c)) k m v tw := by
  have ha := h.al o
  obtain ⟨xs, ho, ht⟩ := h.own
  obtain ⟨xs', ho', _⟩ := ha.own
  refine ⟨ha.par, ha.toks, ⟨xs, ho.alloc o, ht.turn fun g cs mm hg hx => ⟨Below.heap_alloc _ _ _ (lt_of_block hg), fun hc => ?_⟩⟩, h.kle, h.big, h.few, h.nest, fun b hb => ?_⟩
  · rcases mem_ex.1 hc with e | e
    · have := lt_of_block hg
      simp [Value.ownBlock] at e
      omega
    · exact hx e
  · rcases mem_ex.1 hb with e | e
    · simp [Value.ownBlock] at e
      simp; omega
    · have := h.xlt b e
      simp; omega
/-- A held row has grown. -/
theorem PS.growI {x x' : Value} {base n : Nat} {xs : List Value} (h : PS w (C.ex x) k m v tw) (hx : w.ownsRow base 3 1 x n xs) (hp : C.p < base) (hg : w.grownBy w' x.ownBlock) (hat : ∀ g, x'.ownBlock = some g → x.ownBlock = some g ∨ w.heap.size ≤ g) (hlt : ∀ g, x'.ownBlock = some g → g < w'.heap.size) : PS w' (C.ex x') k m v tw := by
  have hpl : C.p < w.heap.size := h.lt
  have hne : x.ownBlock ≠ some C.p := fun e => by have := (hx.lt _ e).1; omega
  have hvx : ∀ b, v.ownBlock = some b → x.ownBlock ≠ some b := fun b e1 e2 => by
    obtain ⟨ys, ho, _⟩ := h.own
    obtain ⟨c1, h1⟩ := own_type ho b e1
    obtain ⟨c2, h2⟩ := own_type hx b e2
    exact not_int h1 (by decide) h2 rfl
  have hlow : Below C.p w w' := ⟨hg.os, hg.tape, hg.output, hg.size, fun b hb => hg.block b (by omega) fun e => by have := (hx.lt _ e.symm).1; omega⟩
  obtain ⟨ys, ho, ht⟩ := h.own
  refine ⟨(hg.block _ hpl fun e => hne e.symm).trans h.par, h.toks.below hlow (Nat.le_refl _), ⟨ys, ho.kept hg (by cases hv : v.ownBlock with | none => exact .inl rfl | some b => exact .inr fun e => hvx b hv e.symm), ht.turn fun g cs mm hgi hgx => ⟨hg.block g (lt_of_block hgi) fun e => hgx (mem_ex.2 (.inl e.symm)), fun hc => ?_⟩⟩, h.kle, h.big, h.few, h.nest, fun b hb => ?_⟩
  · rcases mem_ex.1 hc with e | e
    · rcases hat g e with e' | e'
      · exact hgx (mem_ex.2 (.inl e'))
      · have := lt_of_block hgi; omega
    · exact hgx (mem_ex.2 (.inr e))
  · rcases mem_ex.1 hb with e | e
    · exact hlt b e
    · exact Nat.lt_of_lt_of_le (h.xlt b (mem_ex.2 (.inr e))) hg.size
theorem Kp.growI {p : Nat} {v0 v x : Value} {w0 w w' : World} (hk : Kp p v0 w0 v w) (hg : w.grownBy w' x.ownBlock) (hb : ∀ b, x.ownBlock = some b → w0.heap.size ≤ b) : Kp p v0 w0 v w' :=
  ⟨hg.os.trans hk.os, hg.tape.trans hk.tape, hg.output.trans hk.output, Nat.le_trans hk.size hg.size, fun b h1 h2 h3 => (hg.block b (Nat.lt_of_lt_of_le h1 hk.size) fun e => by have := hb b e.symm; omega).trans (hk.block b h1 h2 h3), hk.own⟩
variable {w0 : World} {k0 : Nat} {v0 : Value} {tw0 : List Tw} {F : Fo} {q : Nat} {L : List (Nat × Obj)}
theorem St.growI {x x' : Value} {base n : Nat} {xs : List Value} (h : St (C.ex x) w0 k0 v0 tw0 w k m v F q L) (hx : w.ownsRow base 3 1 x n xs) (h0 : w0.heap.size ≤ base) (hp : C.p < base) (hg : w.grownBy w' x.ownBlock) (hat : ∀ g, x'.ownBlock = some g → x.ownBlock = some g ∨ w.heap.size ≤ g) (hlt : ∀ g, x'.ownBlock = some g → g < w'.heap.size) (hL : ∀ y ∈ L, x.ownBlock ≠ some y.1) : St (C.ex x') w0 k0 v0 tw0 w' k m v F q L := by
  refine ⟨h.ps.growI hx hp hg hat hlt, Kp.growI h.kp hg fun b e => by have := (hx.lt b e).1; omega, h.sz, h.few0, fun y hy => ?_⟩
  have hl := h.loc y hy
  exact ⟨(hg.block _ (lt_of_block hl.is) fun e => hL y hy e.symm).trans hl.is, hl.ne, hl.own⟩
theorem St.exDrop {x : Value} (h : St (C.ex x) w0 k0 v0 tw0 w k m v F q L) : St C w0 k0 v0 tw0 w k m v F q L :=
  ⟨h.ps.exDrop, h.kp, h.sz, h.few0, fun y hy => ⟨(h.loc y hy).is, (h.loc y hy).ne, (h.loc y hy).own⟩⟩
theorem St.exNew (h : St C w0 k0 v0 tw0 w k m v F q L) (o : Obj) (a c : Nat) : St (C.ex (.slice (some ⟨w.heap.size, 0, none⟩) a c)) w0 k0 v0 tw0 (w.alloc o) k m v F q L :=
  have ha := h.al o
  ⟨h.ps.exNew o a c, ha.kp, ha.sz, ha.few0, fun y hy => ⟨(ha.loc y hy).is, (ha.loc y hy).ne, (ha.loc y hy).own⟩⟩
/-- A row of numbers of the call's own stays over a call. -/
theorem ownI_keep {x v' : Value} {base n : Nat} {xs : List Value} {C' : Cx} (hx : w.ownsRow base 3 1 x n xs) (hs : PS w C' k m v tw) (hp : C'.p < base) (hk : Kp C'.p v w v' w') : w'.ownsRow base 3 1 x n xs := by
  rcases hx.2 with ⟨rfl, hn⟩ | ⟨g, cap, cur, rfl, hb, hg, h1, h2, h3, h4⟩
  · exact ⟨hx.1, .inl ⟨rfl, hn⟩⟩
  · refine ⟨hx.1, .inr ⟨g, cap, cur, rfl, hb, (hk.block g (lt_of_block hg) (by omega) fun e => ?_).trans hg, h1, h2, h3, h4⟩⟩
    obtain ⟨ys, ho, _⟩ := hs.own
    obtain ⟨c1, h5⟩ := own_type ho g e
    exact not_int h5 (by decide) hg rfl
theorem own_introw {x : Value} {base : Nat} {ids : List Int} {X : List Nat} (hx : w.ownsRow base 3 1 x ids.length (ids.map (Value.int .i64))) (hX : ∀ b ∈ X, b < base) : IntRow w X x ids := by
  rcases hx.2 with ⟨rfl, hn⟩ | ⟨g, cap, cur, rfl, hb, hg, h1, h2, h3, h4⟩
  · exact ⟨none, 0, by rw [hn], fun h => absurd h (by omega)⟩
  · refine ⟨_, _, rfl, fun _ => ⟨g, cur, _, rfl, hg, fun hm => absurd (hX g hm) (by omega), fun i y hi => ?_⟩⟩
    have h5 : (cur.toList.take (ids.length * 1))[i]? = some (.int .i64 y) := by rw [h4, List.getElem?_map, hi]; rfl
    have hil := (List.getElem?_eq_some_iff.1 hi).1
    rw [List.getElem?_take, if_pos (by omega)] at h5
    simpa using h5
end Go.Proofs.YtehdljcmeimbcaaGreat

namespace Go.Proofs.YtehdljcmeimbcaaGreat
open Go.RowKit

def RetTo (C : Cx) (w : World) (k m : Nat) (v : Value) (tw : List Tw) (N : Int) (d : Nd) (acc : Fo) (o : Out) (e : Ending) (w' : World) : Prop :=
  match o with
  | .dry => False
  | .bad er r => e = .panicked [{ v := diagV (hd r) er, recovered := false }] ∧ KpB C.p v w w'
  | .ok d1 kf r => ∃ (j : Nat) (v' : Value) (H : Fo) (kv : Value), r = C.T.drop j ∧ d1 = d ∧ kf = acc.app H ∧ e = .returned kv ∧ IntRow w' C.X kv (N :: H.ids tw.length) ∧ PS w' C j m v' (tw ++ H.post tw.length) ∧ Kp C.p v w v' w' ∧ H.size + 2 * k + 2 ≤ 2 * j
theorem St.badTo {C : Cx} {w0 w : World} {k0 k m : Nat} {v0 v : Value} {tw0 : List Tw} {F : Fo} {q : Nat} {L : List (Nat × Obj)} (h : St C w0 k0 v0 tw0 w k m v F q L) {o : Out} {j : Nat} {er N : Int} {d : Nd} {acc : Fo} {w' : World} {m0 : Nat} (ho : Out.bad er (C.T.drop j) = o) (hb : KpB C.p v w w') : RetTo C w0 k0 m0 v0 tw0 N d acc o (.panicked [{ v := diagV (hd (C.T.drop j)) er, recovered := false }]) w' := by
  subst ho; exact ⟨rfl, h.lowB hb⟩
theorem infoInt : (Tryz.prog.info? 3).map (fun i => (i.zero, i.size, i.bytes)) = some (some (.int .i64 0), 1, 8) := by kernel_rfl

set_option maxRecDepth 100000 in
set_option maxHeartbeats 2000000 in
theorem perhapsTo_not (n : Nat) (C : Cx) (w : World) (k m : Nat) (v : Value) (tw : List Tw) (N : Int) (d : Nd) (acc : Fo) (h : PS w C k m v tw) (h1 : seesW (C.T.drop k) [[116, 111]] = false) :
    Calls Tryz.prog 132 #[C.ptr, .int .i64 N] w (RetTo C w k m v tw N d acc (P (n + 1) (.to d acc) (C.T.drop k) m)) := by
  have hX := h.xlt
  have HX := Lib.hid hX
  have HS0 := Lib.hid ((St.start h).var w.heap.size rfl (.cells #[.int .i64 N] 3))
  clear h hX
  generalize ho : P (n + 1) (.to d acc) (C.T.drop k) m = o
  rw [P] at ho
  simp only [h1, Bool.false_eq_true, if_false] at ho
  have HO0 := Lib.hid ho
  have H1 := Lib.hid h1
  clear ho h1
  go_enter Tryz.func132, Tryz.ntmps132
  go_wp2_with fail
  refine (seesWord_is C _ _ _ _ _ [[116, 111]] _ _ _ false HS0.out.ps (by simp) rfl rfl (by decide) H1.out).mono ?_
  rintro e w1 ⟨rfl, hb⟩
  have HS1 := Lib.hid (HS0.out.below hb)
  clear hb HS0
  go_wp2_with fail
  cases hx : seesM (C.T.drop k) [[59]]
  · have ho' := HO0.out
    simp only [tkM, tk, hx, Bool.false_eq_true, if_false] at ho'
    refine (takeMark_new_no C _ _ _ _ _ [[59]] _ _ _ HS1.out.ps (by simp) rfl rfl (by decide) hx).mono ?_
    rintro e w' ⟨rfl, hb⟩
    have HB := Lib.hid (HS1.out.badTo (m0 := m) (N := N) (d := d) (acc := acc) ho' hb)
    clear hb ho' hx
    go_wp2_with fail
    exact ⟨rfl, HB.out⟩
  have ho' := HO0.out
  simp only [tkM, tk, hx, if_true, tail_drop'] at ho'
  refine (takeMark_new_yes C _ _ _ _ _ [[59]] _ _ _ HS1.out.ps (by simp) rfl rfl (by decide) hx).mono ?_
  rintro e w2 ⟨rfl, hs, hk⟩
  have hS := HS1.out.took hs hk
  have hR : RetTo C w k m v tw N d acc o (.returned (.slice (some ⟨w.heap.size, 0, none⟩) 1 1)) w2 := by
    subst ho'
    refine ⟨k + 1, v, .nil, _, rfl, rfl, (Fo.app_nil acc).symm, rfl, ?_, hS.ps, hS.kp, by simp [Fo.size]; omega⟩
    exact ⟨_, _, rfl, fun _ => ⟨_, _, _, rfl, (hS.loc _ (.head _)).is, fun hm => absurd (HX.out _ hm) (Nat.lt_irrefl _), fun i x hi => by cases i with | zero => (simp at hi; subst hi; rfl) | succ i => (simp [Fo.ids] at hi)⟩⟩
  have HR := Lib.hid hR
  clear hs hk hS hR ho' hx HS1
  go_wp2_with fail
  go_ret
  exact HR.out

set_option maxRecDepth 100000 in
set_option maxHeartbeats 2000000 in
theorem perhapsTo_is (n : Nat) (HVAR : Hid (Ct 133 n .var)) (C : Cx) (w : World) (k m : Nat) (v : Value) (tw : List Tw) (N : Int) (d : Nd) (acc : Fo) (h : PS w C k m v tw) (h1 : seesW (C.T.drop k) [[116, 111]] = true) (hnd : P (n + 1) (.to d acc) (C.T.drop k) m ≠ .dry) :
    Calls Tryz.prog 132 #[C.ptr, .int .i64 N] w (RetTo C w k m v tw N d acc (P (n + 1) (.to d acc) (C.T.drop k) m)) := by
  obtain ⟨i0, hi0, hz0, hz1, hz2⟩ := info_parts infoInt
  have hX := h.xlt
  have HX := Lib.hid hX
  have hpw := h.lt
  have HS0 := Lib.hid ((St.start h).exNew (.cells #[.int .i64 N] 3) 1 1)
  have hown0 : (w.alloc (.cells #[.int .i64 N] 3)).ownsRow w.heap.size 3 1 (.slice (some ⟨w.heap.size, 0, none⟩) 1 1) 1 [.int .i64 N] := ⟨rfl, .inr ⟨_, 1, #[.int .i64 N], rfl, Nat.le_refl _, heap_alloc_new w _, Nat.le_refl _, by decide, rfl, rfl⟩⟩
  have HW0 := Lib.hid hown0
  clear h hX hown0
  generalize ho : P (n + 1) (.to d acc) (C.T.drop k) m = o at hnd ⊢
  have HND := Lib.hid hnd
  rw [P] at ho
  simp only [h1, if_true, tail_drop'] at ho
  have HO0 := Lib.hid ho
  have H1 := Lib.hid h1
  have hlt : k < C.T.length := sees_lt (x := 2) (by decide) (seesK_kind h1)
  clear ho h1 hnd
  go_enter Tryz.func132, Tryz.ntmps132
  go_wp2_with fail
  generalize hWG : w.alloc (.cells #[.int .i64 N] 3) = W0 at HS0 HW0 ⊢
  have hsz : W0.heap.size = w.heap.size + 1 := by rw [← hWG]; simp
  have HSZ := Lib.hid hsz
  clear hWG hsz
  refine (seesWord_is (C.ex _) W0 _ _ _ _ [[116, 111]] _ _ _ true HS0.out.ps HSZ.out.symm rfl rfl (by decide) H1.out).mono ?_
  rintro e w1 ⟨rfl, hb⟩
  have HW1 := Lib.hid (ownI_keep HW0.out HS0.out.ps hpw (.of hb))
  have HS1 := Lib.hid (HS0.out.below hb)
  clear hb HS0 HW0 HSZ
  go_wp2_with fail
  refine (take_ok (C.ex _) _ _ _ _ _ HS1.out.ps hlt).mono ?_
  rintro e w2 ⟨rfl, hs, hk⟩
  have HW2 := Lib.hid (ownI_keep HW1.out HS1.out.ps hpw hk)
  have HS2 := Lib.hid (HS1.out.took hs hk)
  clear hs hk HS1 HW1
  unfold tokV
  go_wp2_with fail
  have hnd : P n .var (C.T.drop (k + 1)) m ≠ .dry := fun hdry => by have h1 := HO0.out; rw [hdry] at h1; exact HND.out h1.symm
  refine (HVAR.out (C.ex _) _ _ _ _ _ HS2.out.ps hnd).mono ?_
  rintro e w3 hr0
  have hr : Ret (C.ex (.slice (some ⟨w.heap.size, 0, none⟩) 1 1)) w2 (k + 1) m v (tw ++ Fo.nil.post tw.length) (P n .var (C.T.drop (k + 1)) m) e w3 := hr0
  clear hr0
  rcases hP : P n .var (C.T.drop (k + 1)) m with _ | ⟨er, r⟩ | ⟨d1, f1, r⟩
  · exact absurd hP hnd
  · rw [hP] at hr
    have ho' := HO0.out
    rw [hP] at ho'
    have hR : RetTo C w k m v tw N d acc o e w3 := by subst ho'; exact ⟨hr.1, HS2.out.lowB hr.2⟩
    have HR := Lib.hid hR
    obtain ⟨rfl, _⟩ := hr
    clear hnd hP ho' hR
    go_wp2_with fail
    exact ⟨rfl, HR.out⟩
  rw [hP] at hr
  obtain ⟨_, _, _, _, _, hk3, _⟩ := id hr
  have HW3 := Lib.hid (ownI_keep HW2.out HS2.out.ps hpw hk3)
  obtain ⟨j1, v1, rfl, rfl, hs⟩ := HS2.out.sub hr
  have ho' := HO0.out
  rw [hP] at ho'
  dsimp only [Out.and, Cx.ex] at ho'
  have HO1 := Lib.hid ho'
  have HS3 := Lib.hid hs
  generalize hN : ((tw.length + _ + f1.size : Nat) : Int) = N1
  have HN1 := Lib.hid hN
  clear hs hr hN hnd hP ho' HS2 HW2 hk3
  have hz3 : w.heap.size ≤ w3.heap.size := HS3.out.kp.size
  go_wp2_with (at_builtin; refine wpList_append_lies _ rfl _ _ 37 rfl w.heap.size 3 i0 (.int .i64 0) 1 8 Tryz.underlying37 hi0 hz0 hz1 hz2 rfl (by decide) (.slice (some ⟨w.heap.size, 0, none⟩) 1 1) 1 [.int .i64 N] rfl (HW3.out.alloc _) ⟨w3.heap.size, 0, none⟩ 1 1 [.int .i64 N1] rfl rfl (World.news_of_block (cs := #[.int .i64 N1]) (t := 3) (fr := (0, 0)) (heap_alloc_new w3 _)) (by simp [Value.oneCell']) (by decide) (by unfold maxLen; omega) (by omega) (by simp; omega) (w3.heap.size + 1) (by simp) ?_; intro gg cap w4 hown hgrow hat hltg)
  have HS4 := Lib.hid ((HS3.out.al _).growI (x' := .slice (some ⟨gg, 0, none⟩) (1 + 1) cap) (HW3.out.alloc _) (Nat.le_refl _) hpw hgrow (fun g hg => by simp [Value.ownBlock] at hg; subst hg; exact hat.imp id fun e => by simp; omega) (fun g hg => by simp [Value.ownBlock] at hg; subst hg; exact hltg) (by simp)).exDrop
  have HW4 := Lib.hid hown
  clear hown hgrow hat HS3 HW3 hltg
  go_wp2_with fail
  cases hx : seesM (C.T.drop j1) [[59]]
  · have ho' := HO1.out
    simp only [tkM, tk, hx, Bool.false_eq_true, if_false] at ho'
    refine (takeMark_new_no C _ _ _ _ _ [[59]] _ _ _ HS4.out.ps (by simp) rfl rfl (by decide) hx).mono ?_
    rintro e w' ⟨rfl, hb⟩
    have HB := Lib.hid (HS4.out.badTo (m0 := m) (N := N) (d := d) (acc := acc) ho' hb)
    clear hb ho' hx
    go_wp2_with fail
    exact ⟨rfl, HB.out⟩
  have ho' := HO1.out
  simp only [tkM, tk, hx, if_true, tail_drop'] at ho'
  refine (takeMark_new_yes C _ _ _ _ _ [[59]] _ _ _ HS4.out.ps (by simp) rfl rfl (by decide) hx).mono ?_
  rintro e w5 ⟨rfl, hs, hk⟩
  have hS := HS4.out.took hs hk
  have hW := ownI_keep HW4.out HS4.out.ps hpw hk
  have hR : RetTo C w k m v tw N d acc o (.returned (.slice (some ⟨gg, 0, none⟩) 2 cap)) w5 := by
    subst ho'
    refine ⟨j1 + 1, v1, one d1 f1, _, rfl, rfl, rfl, rfl, ?_, hS.ps, hS.kp, by have h1 := hS.sz; simp only [Fo.app] at h1; omega⟩
    have h1 : (N :: (one d1 f1).ids tw.length) = [N, N1] := by rw [← HN1.out]; rfl
    rw [h1]
    exact own_introw (ids := [N, N1]) hW HX.out
  have HR := Lib.hid hR
  clear hs hk hS hW hR ho' hx HS4 HW4
  unfold tokV
  go_wp2_with fail
  go_ret
  exact HR.out
end Go.Proofs.YtehdljcmeimbcaaGreat
