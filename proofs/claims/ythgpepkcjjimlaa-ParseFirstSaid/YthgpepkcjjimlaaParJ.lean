/- parser.local, act, turn, set, repeat, the words of return. -/
import Derived.Test.YthgpepkcjjimlaaParG
namespace Go.Proofs.Ythgpepkcjjimlaa
open Go.RowKit

theorem act_case (s : List UInt8) : ((s == [99, 97, 110, 99, 101, 108]) = true ∧ actKind s = 16) ∨ ((s == [99, 97, 110, 99, 101, 108]) = false ∧ (s == [106, 111, 105, 110]) = true ∧ actKind s = 17) ∨ ((s == [99, 97, 110, 99, 101, 108]) = false ∧ (s == [106, 111, 105, 110]) = false ∧ (s == [108, 111, 103]) = true ∧ actKind s = 18) ∨ ((s == [99, 97, 110, 99, 101, 108]) = false ∧ (s == [106, 111, 105, 110]) = false ∧ (s == [108, 111, 103]) = false ∧ actKind s = 15) := by
  unfold actKind
  by_cases h1 : s = [99, 97, 110, 99, 101, 108]
  · simp [h1]
  · by_cases h2 : s = [106, 111, 105, 110]
    · subst h2; decide
    · by_cases h3 : s = [108, 111, 103]
      · subst h3; decide
      · simp [h1, h2, h3]

set_option maxRecDepth 100000 in
set_option maxHeartbeats 2000000 in
theorem local_ok (n : Nat) (HTERM : Hid (Ct 78 n .term)) (C : Cx) (w : World) (k m : Nat) (v : Value) (tw : List Tw) (h : PS w C k m v tw) (h1 : seesW (C.T.drop k) [[118, 97, 114]] = true) (hnd : P (n + 1) .stmt (C.T.drop k) m ≠ .dry) :
    Calls Try.prog 70 #[C.ptr] w (Ret C w k m v tw (P (n + 1) .stmt (C.T.drop k) m)) := by
  have HS0 := Lib.hid (St.start h)
  clear h
  generalize ho : P (n + 1) .stmt (C.T.drop k) m = o at hnd ⊢
  have HND := Lib.hid hnd
  clear hnd
  rw [P] at ho
  simp only [h1, if_true, tail_drop'] at ho
  have hlt : k < C.T.length := sees_lt (x := 2) (by decide) (seesK_kind h1)
  clear h1
  have HO0 := Lib.hid ho
  clear ho
  go_enter Try.func70, Try.ntmps70
  go_wp2_with fail
  refine (take_ok C _ _ _ _ _ HS0.out.ps (hlt)).mono ?_
  rintro e w1 ⟨rfl, hs, hk⟩
  have HS1 := Lib.hid (HS0.out.took hs hk)
  clear hs hk HS0 
  unfold tokV
  go_wp2_with fail
  cases hx : ((hd (C.T.drop (k + 1))).kind == 1)
  · have ho' := HO0.out
    rw [tkK_no hx] at ho'
    refine (takeName_no C _ _ _ _ _ HS1.out.ps hx).mono ?_
    rintro e w' ⟨rfl, hb⟩
    have HB := Lib.hid (HS1.out.bad (m0 := m) ho' hb)
    clear hb ho' hx
    go_wp2_with fail
    exact ⟨rfl, HB.out⟩
  have ho' := HO0.out
  rw [tkK_yes hx, tail_drop'] at ho'
  have HO1 := Lib.hid ho'
  refine (takeName_yes C _ _ _ _ _ HS1.out.ps hx).mono ?_
  rintro e w2 ⟨rfl, hs, hk⟩
  have HS2 := Lib.hid (HS1.out.took hs hk)
  clear hs hk HS1 ho' hx
  unfold tokV
  go_wp2_with fail
  have hnd : tyO (C.T.drop ((k + 1) + 1)) ≠ .dry := fun hdry => by have h1 := HO1.out; rw [hdry] at h1; exact HND.out h1.symm
  refine (tyC.out C _ _ _ _ _ ((HS2.out.var (w2.heap.size) (by simp) (.cells #[.int .i64 (hd (C.T.drop k)).kind, .string ⟨(hd (C.T.drop k)).text.toArray⟩, .int .i64 (hd (C.T.drop k)).n, .int .i64 (hd (C.T.drop k)).line, .int .i64 (hd (C.T.drop k)).col] 38)).var (w2.heap.size + 1) (by simp) (.cells #[.int .i64 (hd (C.T.drop (k + 1))).kind, .string ⟨(hd (C.T.drop (k + 1))).text.toArray⟩, .int .i64 (hd (C.T.drop (k + 1))).n, .int .i64 (hd (C.T.drop (k + 1))).line, .int .i64 (hd (C.T.drop (k + 1))).col] 38)).ps hnd).mono ?_
  rintro e w3 hr
  rcases hP : tyO (C.T.drop ((k + 1) + 1)) with _ | ⟨er, r⟩ | ⟨d1, f1, r⟩
  · exact absurd hP hnd
  · rw [hP] at hr
    have ho' := HO1.out
    rw [hP] at ho'
    have HB := Lib.hid (((HS2.out.var (w2.heap.size) (by simp) (.cells #[.int .i64 (hd (C.T.drop k)).kind, .string ⟨(hd (C.T.drop k)).text.toArray⟩, .int .i64 (hd (C.T.drop k)).n, .int .i64 (hd (C.T.drop k)).line, .int .i64 (hd (C.T.drop k)).col] 38)).var (w2.heap.size + 1) (by simp) (.cells #[.int .i64 (hd (C.T.drop (k + 1))).kind, .string ⟨(hd (C.T.drop (k + 1))).text.toArray⟩, .int .i64 (hd (C.T.drop (k + 1))).n, .int .i64 (hd (C.T.drop (k + 1))).line, .int .i64 (hd (C.T.drop (k + 1))).col] 38)).bad' (m0 := m) ho' hr)
    obtain ⟨rfl, _⟩ := hr
    clear hnd hP ho'
    go_wp2_with fail
    exact ⟨rfl, HB.out⟩
  rw [hP] at hr
  obtain ⟨j1, v1, rfl, rfl, hs⟩ := ((HS2.out.var (w2.heap.size) (by simp) (.cells #[.int .i64 (hd (C.T.drop k)).kind, .string ⟨(hd (C.T.drop k)).text.toArray⟩, .int .i64 (hd (C.T.drop k)).n, .int .i64 (hd (C.T.drop k)).line, .int .i64 (hd (C.T.drop k)).col] 38)).var (w2.heap.size + 1) (by simp) (.cells #[.int .i64 (hd (C.T.drop (k + 1))).kind, .string ⟨(hd (C.T.drop (k + 1))).text.toArray⟩, .int .i64 (hd (C.T.drop (k + 1))).n, .int .i64 (hd (C.T.drop (k + 1))).line, .int .i64 (hd (C.T.drop (k + 1))).col] 38)).sub hr
  have ho' := HO1.out
  rw [hP] at ho'
  dsimp only [Out.and] at ho'
  have HO2 := Lib.hid ho'
  have HS3 := Lib.hid hs
  generalize hN : ((tw.length + _ + f1.size : Nat) : Int) = N1
  have HN1 := Lib.hid hN
  clear hs hr hN hnd hP ho' HS2 
  go_wp2_with fail
  cases hx : seesM (C.T.drop j1) [[61]]
  · have ho' := HO2.out
    rw [tkM_no hx] at ho'
    refine (takeMark_new_no C _ _ _ _ _ [[61]] _ _ _ HS3.out.ps (by simp) rfl rfl (by decide) hx).mono ?_
    rintro e w' ⟨rfl, hb⟩
    have HB := Lib.hid (HS3.out.bad (m0 := m) ho' hb)
    clear hb ho' hx
    go_wp2_with fail
    exact ⟨rfl, HB.out⟩
  have ho' := HO2.out
  rw [tkM_yes hx, tail_drop'] at ho'
  have HO3 := Lib.hid ho'
  refine (takeMark_new_yes C _ _ _ _ _ [[61]] _ _ _ HS3.out.ps (by simp) rfl rfl (by decide) hx).mono ?_
  rintro e w4 ⟨rfl, hs, hk⟩
  have HS4 := Lib.hid (HS3.out.took hs hk)
  clear hs hk HS3 ho' hx
  unfold tokV
  go_wp2_with fail
  have hnd : P n .term (C.T.drop (j1 + 1)) m ≠ .dry := fun hdry => by have h1 := HO3.out; rw [hdry] at h1; exact HND.out h1.symm
  refine (HTERM.out C _ _ _ _ _ HS4.out.ps hnd).mono ?_
  rintro e w5 hr
  rcases hP : P n .term (C.T.drop (j1 + 1)) m with _ | ⟨er, r⟩ | ⟨d2, f2, r⟩
  · exact absurd hP hnd
  · rw [hP] at hr
    have ho' := HO3.out
    rw [hP] at ho'
    have HB := Lib.hid (HS4.out.bad' (m0 := m) ho' hr)
    obtain ⟨rfl, _⟩ := hr
    clear hnd hP ho'
    go_wp2_with fail
    exact ⟨rfl, HB.out⟩
  rw [hP] at hr
  obtain ⟨j2, v2, rfl, rfl, hs⟩ := HS4.out.sub hr
  have ho' := HO3.out
  rw [hP] at ho'
  dsimp only [Out.and] at ho'
  have HO4 := Lib.hid ho'
  have HS5 := Lib.hid hs
  generalize hN : ((tw.length + _ + f2.size : Nat) : Int) = N2
  have HN2 := Lib.hid hN
  clear hs hr hN hnd hP ho' HS4 
  go_wp2_with fail
  cases hx : seesM (C.T.drop j2) [[59]]
  · have ho' := HO4.out
    rw [tkM_no hx] at ho'
    refine (takeMark_new_no C _ _ _ _ _ [[59]] _ _ _ HS5.out.ps (by simp) rfl rfl (by decide) hx).mono ?_
    rintro e w' ⟨rfl, hb⟩
    have HB := Lib.hid (HS5.out.bad (m0 := m) ho' hb)
    clear hb ho' hx
    go_wp2_with fail
    exact ⟨rfl, HB.out⟩
  have ho' := HO4.out
  rw [tkM_yes hx, tail_drop'] at ho'
  have HO5 := Lib.hid ho'
  refine (takeMark_new_yes C _ _ _ _ _ [[59]] _ _ _ HS5.out.ps (by simp) rfl rfl (by decide) hx).mono ?_
  rintro e w6 ⟨rfl, hs, hk⟩
  have HS6 := Lib.hid (HS5.out.took hs hk)
  clear hs hk HS5 ho' hx
  unfold tokV
  obtain ⟨a6_0, a6_1, a6_2, a6_3, a6_4, a6_5⟩ := tok5 (HS6.out.loc _ (.tail _ (.head _))).is
  have a6_lt := lt_of_block (HS6.out.loc _ (.tail _ (.head _))).is
  obtain ⟨b6_0, b6_1, b6_2, b6_3, b6_4, b6_5⟩ := tok5 (HS6.out.loc _ (.head _)).is
  have b6_lt := lt_of_block (HS6.out.loc _ (.head _)).is
  go_wp2_with fail
  refine (add_ok C _ _ _ _ _ (hd (C.T.drop k)) 13 (hd (C.T.drop (k + 1))).text 0 _ _ (HS6.out.al _).ps (ints_new _ (fun b hb => by have := HS6.out.ps.xlt b hb; simp; try omega) [N1, N2] #[.int .i64 N1, .int .i64 N2] rfl _ _ (by simp) rfl) HS6.out.room).mono ?_
  rintro e w7 ⟨rfl, v', hs, hk⟩
  have hids : [N1, N2] = ((Fo.nil.app (one d1 f1)).app (one d2 f2)).ids tw.length := (by rw [ids_snoc, ids_snoc, ← HN1.out, ← HN2.out]; rfl)
  rw [hids] at hs
  generalize hN : (((tw ++ _ : List Tw).length : Nat) : Int) = N
  have HR := Lib.hid ((HS6.out.al _).fin HO5.out hs hk hN.symm)
  clear hs hk hN HS6
  go_wp2_with fail
  go_ret
  exact HR.out

set_option maxRecDepth 100000 in
set_option maxHeartbeats 2000000 in
theorem act_ok (n : Nat) (HTERM : Hid (Ct 78 n .term)) (C : Cx) (w : World) (k m : Nat) (v : Value) (tw : List Tw) (h : PS w C k m v tw) (h2 : seesW (C.T.drop k) [[118, 97, 114]] = false) (h1 : seesW (C.T.drop k) actWords = true) (hnd : P (n + 1) .stmt (C.T.drop k) m ≠ .dry) :
    Calls Try.prog 71 #[C.ptr] w (Ret C w k m v tw (P (n + 1) .stmt (C.T.drop k) m)) := by
  have HS0 := Lib.hid (St.start h)
  clear h
  generalize ho : P (n + 1) .stmt (C.T.drop k) m = o at hnd ⊢
  have HND := Lib.hid hnd
  clear hnd
  rw [P] at ho
  simp only [h2, h1, Bool.false_eq_true, if_false, if_true, tail_drop'] at ho
  have hlt : k < C.T.length := sees_lt (x := 2) (by decide) (seesK_kind h1)
  clear h2 h1
  have HO0 := Lib.hid ho
  clear ho
  go_enter Try.func71, Try.ntmps71
  go_wp2_with fail
  refine (take_ok C _ _ _ _ _ HS0.out.ps (hlt)).mono ?_
  rintro e w1 ⟨rfl, hs, hk⟩
  have HS1 := Lib.hid (HS0.out.took hs hk)
  clear hs hk HS0 
  unfold tokV
  go_wp2_with fail
  have hnd : P n .term (C.T.drop (k + 1)) m ≠ .dry := fun hdry => by have h1 := HO0.out; rw [hdry] at h1; exact HND.out h1.symm
  refine (HTERM.out C _ _ _ _ _ (HS1.out.var (w1.heap.size) (by simp) (.cells #[.int .i64 (hd (C.T.drop k)).kind, .string ⟨(hd (C.T.drop k)).text.toArray⟩, .int .i64 (hd (C.T.drop k)).n, .int .i64 (hd (C.T.drop k)).line, .int .i64 (hd (C.T.drop k)).col] 38)).ps hnd).mono ?_
  rintro e w2 hr
  rcases hP : P n .term (C.T.drop (k + 1)) m with _ | ⟨er, r⟩ | ⟨d1, f1, r⟩
  · exact absurd hP hnd
  · rw [hP] at hr
    have ho' := HO0.out
    rw [hP] at ho'
    have HB := Lib.hid ((HS1.out.var (w1.heap.size) (by simp) (.cells #[.int .i64 (hd (C.T.drop k)).kind, .string ⟨(hd (C.T.drop k)).text.toArray⟩, .int .i64 (hd (C.T.drop k)).n, .int .i64 (hd (C.T.drop k)).line, .int .i64 (hd (C.T.drop k)).col] 38)).bad' (m0 := m) ho' hr)
    obtain ⟨rfl, _⟩ := hr
    clear hnd hP ho'
    go_wp2_with fail
    exact ⟨rfl, HB.out⟩
  rw [hP] at hr
  obtain ⟨j1, v1, rfl, rfl, hs⟩ := (HS1.out.var (w1.heap.size) (by simp) (.cells #[.int .i64 (hd (C.T.drop k)).kind, .string ⟨(hd (C.T.drop k)).text.toArray⟩, .int .i64 (hd (C.T.drop k)).n, .int .i64 (hd (C.T.drop k)).line, .int .i64 (hd (C.T.drop k)).col] 38)).sub hr
  have ho' := HO0.out
  rw [hP] at ho'
  dsimp only [Out.and] at ho'
  have HO1 := Lib.hid ho'
  have HS2 := Lib.hid hs
  generalize hN : ((tw.length + _ + f1.size : Nat) : Int) = N1
  have HN1 := Lib.hid hN
  clear hs hr hN hnd hP ho' HS1 
  go_wp2_with fail
  cases hx : seesM (C.T.drop j1) [[59]]
  · have ho' := HO1.out
    rw [tkM_no hx] at ho'
    refine (takeMark_new_no C _ _ _ _ _ [[59]] _ _ _ HS2.out.ps (by simp) rfl rfl (by decide) hx).mono ?_
    rintro e w' ⟨rfl, hb⟩
    have HB := Lib.hid (HS2.out.bad (m0 := m) ho' hb)
    clear hb ho' hx
    go_wp2_with fail
    exact ⟨rfl, HB.out⟩
  have ho' := HO1.out
  rw [tkM_yes hx, tail_drop'] at ho'
  have HO2 := Lib.hid ho'
  refine (takeMark_new_yes C _ _ _ _ _ [[59]] _ _ _ HS2.out.ps (by simp) rfl rfl (by decide) hx).mono ?_
  rintro e w3 ⟨rfl, hs, hk⟩
  have HS3 := Lib.hid (HS2.out.took hs hk)
  clear hs hk HS2 ho' hx
  unfold tokV
  obtain ⟨a3_0, a3_1, a3_2, a3_3, a3_4, a3_5⟩ := tok5 (HS3.out.loc _ (.head _)).is
  have a3_lt := lt_of_block (HS3.out.loc _ (.head _)).is
  have HAC := Lib.hid (act_case (hd (C.T.drop k)).text)
  rcases HAC.out with ⟨e1, e2⟩ | ⟨e1, e3, e2⟩ | ⟨e1, e3, e4, e2⟩ | ⟨e1, e3, e4, e2⟩
  all_goals
    have ho' := HO2.out
    simp only [e2] at ho'
    have HO8 := Lib.hid ho'
    clear ho' e2 HAC
    go_wp2_with fail
    refine (add_ok C _ _ _ _ _ (hd (C.T.drop k)) _ [] 0 _ _ ((HS3.out.al _).al _).ps (ints_new _ (fun b hb => by have := HS3.out.ps.xlt b hb; simp; try omega) [N1] #[.int .i64 N1] rfl _ _ (by simp) rfl) HS3.out.room).mono ?_
    rintro e w4 ⟨rfl, v', hs, hk⟩
    have hids : [N1] = (Fo.nil.app (one d1 f1)).ids tw.length := (by rw [ids_snoc, ← HN1.out]; rfl)
    rw [hids] at hs
    generalize hN : (((tw ++ _ : List Tw).length : Nat) : Int) = N
    have HR := Lib.hid (((HS3.out.al _).al _).fin HO8.out hs hk hN.symm)
    clear hs hk hN HS3
    go_wp2_with fail
    go_ret
    exact HR.out

set_option maxRecDepth 100000 in
set_option maxHeartbeats 2000000 in
theorem turn_ok (n : Nat) (C : Cx) (w : World) (k m : Nat) (v : Value) (tw : List Tw) (h : PS w C k m v tw) (h2 : seesW (C.T.drop k) [[118, 97, 114]] = false) (h3 : seesW (C.T.drop k) actWords = false) (h4 : seesW (C.T.drop k) [[112, 111, 115, 116]] = false) (h5 : seesW (C.T.drop k) [[115, 112, 97, 119, 110]] = false) (h1 : seesW (C.T.drop k) [[101, 110, 97, 98, 108, 101], [100, 105, 115, 97, 98, 108, 101]] = true) (hnd : P (n + 1) .stmt (C.T.drop k) m ≠ .dry) :
    Calls Try.prog 74 #[C.ptr] w (Ret C w k m v tw (P (n + 1) .stmt (C.T.drop k) m)) := by
  have HS0 := Lib.hid (St.start h)
  clear h
  generalize ho : P (n + 1) .stmt (C.T.drop k) m = o at hnd ⊢
  have HND := Lib.hid hnd
  clear hnd
  rw [P] at ho
  simp only [h2, h3, h4, h5, h1, Bool.false_eq_true, if_false, if_true, tail_drop'] at ho
  have hlt : k < C.T.length := sees_lt (x := 2) (by decide) (seesK_kind h1)
  clear h2 h3 h4 h5 h1
  have HO0 := Lib.hid ho
  clear ho
  go_enter Try.func74, Try.ntmps74
  go_wp2_with fail
  refine (take_ok C _ _ _ _ _ HS0.out.ps (hlt)).mono ?_
  rintro e w1 ⟨rfl, hs, hk⟩
  have HS1 := Lib.hid (HS0.out.took hs hk)
  clear hs hk HS0 
  unfold tokV
  go_wp2_with fail
  cases hx : ((hd (C.T.drop (k + 1))).kind == 1)
  · have ho' := HO0.out
    rw [tkK_no hx] at ho'
    refine (takeName_no C _ _ _ _ _ HS1.out.ps hx).mono ?_
    rintro e w' ⟨rfl, hb⟩
    have HB := Lib.hid (HS1.out.bad (m0 := m) ho' hb)
    clear hb ho' hx
    go_wp2_with fail
    exact ⟨rfl, HB.out⟩
  have ho' := HO0.out
  rw [tkK_yes hx, tail_drop'] at ho'
  have HO1 := Lib.hid ho'
  refine (takeName_yes C _ _ _ _ _ HS1.out.ps hx).mono ?_
  rintro e w2 ⟨rfl, hs, hk⟩
  have HS2 := Lib.hid (HS1.out.took hs hk)
  clear hs hk HS1 ho' hx
  unfold tokV
  go_wp2_with fail
  cases hx : seesM (C.T.drop ((k + 1) + 1)) [[59]]
  · have ho' := HO1.out
    rw [tkM_no hx] at ho'
    refine (takeMark_new_no C _ _ _ _ _ [[59]] _ _ _ ((HS2.out.var (w2.heap.size) (by simp) (.cells #[.int .i64 (hd (C.T.drop k)).kind, .string ⟨(hd (C.T.drop k)).text.toArray⟩, .int .i64 (hd (C.T.drop k)).n, .int .i64 (hd (C.T.drop k)).line, .int .i64 (hd (C.T.drop k)).col] 38)).var (w2.heap.size + 1) (by simp) (.cells #[.int .i64 (hd (C.T.drop (k + 1))).kind, .string ⟨(hd (C.T.drop (k + 1))).text.toArray⟩, .int .i64 (hd (C.T.drop (k + 1))).n, .int .i64 (hd (C.T.drop (k + 1))).line, .int .i64 (hd (C.T.drop (k + 1))).col] 38)).ps (by simp) rfl rfl (by decide) hx).mono ?_
    rintro e w' ⟨rfl, hb⟩
    have HB := Lib.hid (((HS2.out.var (w2.heap.size) (by simp) (.cells #[.int .i64 (hd (C.T.drop k)).kind, .string ⟨(hd (C.T.drop k)).text.toArray⟩, .int .i64 (hd (C.T.drop k)).n, .int .i64 (hd (C.T.drop k)).line, .int .i64 (hd (C.T.drop k)).col] 38)).var (w2.heap.size + 1) (by simp) (.cells #[.int .i64 (hd (C.T.drop (k + 1))).kind, .string ⟨(hd (C.T.drop (k + 1))).text.toArray⟩, .int .i64 (hd (C.T.drop (k + 1))).n, .int .i64 (hd (C.T.drop (k + 1))).line, .int .i64 (hd (C.T.drop (k + 1))).col] 38)).bad (m0 := m) ho' hb)
    clear hb ho' hx
    go_wp2_with fail
    exact ⟨rfl, HB.out⟩
  have ho' := HO1.out
  rw [tkM_yes hx, tail_drop'] at ho'
  have HO2 := Lib.hid ho'
  refine (takeMark_new_yes C _ _ _ _ _ [[59]] _ _ _ ((HS2.out.var (w2.heap.size) (by simp) (.cells #[.int .i64 (hd (C.T.drop k)).kind, .string ⟨(hd (C.T.drop k)).text.toArray⟩, .int .i64 (hd (C.T.drop k)).n, .int .i64 (hd (C.T.drop k)).line, .int .i64 (hd (C.T.drop k)).col] 38)).var (w2.heap.size + 1) (by simp) (.cells #[.int .i64 (hd (C.T.drop (k + 1))).kind, .string ⟨(hd (C.T.drop (k + 1))).text.toArray⟩, .int .i64 (hd (C.T.drop (k + 1))).n, .int .i64 (hd (C.T.drop (k + 1))).line, .int .i64 (hd (C.T.drop (k + 1))).col] 38)).ps (by simp) rfl rfl (by decide) hx).mono ?_
  rintro e w3 ⟨rfl, hs, hk⟩
  have HS3 := Lib.hid (((HS2.out.var (w2.heap.size) (by simp) (.cells #[.int .i64 (hd (C.T.drop k)).kind, .string ⟨(hd (C.T.drop k)).text.toArray⟩, .int .i64 (hd (C.T.drop k)).n, .int .i64 (hd (C.T.drop k)).line, .int .i64 (hd (C.T.drop k)).col] 38)).var (w2.heap.size + 1) (by simp) (.cells #[.int .i64 (hd (C.T.drop (k + 1))).kind, .string ⟨(hd (C.T.drop (k + 1))).text.toArray⟩, .int .i64 (hd (C.T.drop (k + 1))).n, .int .i64 (hd (C.T.drop (k + 1))).line, .int .i64 (hd (C.T.drop (k + 1))).col] 38)).took hs hk)
  clear hs hk HS2 ho' hx
  unfold tokV
  obtain ⟨a3_0, a3_1, a3_2, a3_3, a3_4, a3_5⟩ := tok5 (HS3.out.loc _ (.tail _ (.head _))).is
  have a3_lt := lt_of_block (HS3.out.loc _ (.tail _ (.head _))).is
  obtain ⟨b3_0, b3_1, b3_2, b3_3, b3_4, b3_5⟩ := tok5 (HS3.out.loc _ (.head _)).is
  have b3_lt := lt_of_block (HS3.out.loc _ (.head _)).is
  have HDD : Hid ((((hd (C.T.drop k)).text == [100, 105, 115, 97, 98, 108, 101]) = true ∧ (if (hd (C.T.drop k)).text = [100, 105, 115, 97, 98, 108, 101] then (22 : Int) else 21) = 22) ∨ (((hd (C.T.drop k)).text == [100, 105, 115, 97, 98, 108, 101]) = false ∧ (if (hd (C.T.drop k)).text = [100, 105, 115, 97, 98, 108, 101] then (22 : Int) else 21) = 21)) := Lib.hid (by by_cases h : (hd (C.T.drop k)).text = [100, 105, 115, 97, 98, 108, 101] <;> simp [h])
  rcases HDD.out with ⟨e1, e2⟩ | ⟨e1, e2⟩
  all_goals
    have ho' := HO2.out
    simp only [e2] at ho'
    have HO8 := Lib.hid ho'
    clear ho' e2 HDD
    go_wp2_with fail
    refine (add_ok C _ _ _ _ _ (hd (C.T.drop k)) _ (hd (C.T.drop (k + 1))).text 0 _ [] (HS3.out.al _).ps (ints_nil _) HS3.out.room).mono ?_
    rintro e w4 ⟨rfl, v', hs, hk⟩
    generalize hN : (((tw ++ _ : List Tw).length : Nat) : Int) = N
    have HR := Lib.hid ((HS3.out.al _).fin HO8.out hs hk hN.symm)
    clear hs hk hN HS3
    go_wp2_with fail
    go_ret
    exact HR.out

set_option maxRecDepth 100000 in
set_option maxHeartbeats 2000000 in
theorem set_ok (n : Nat) (HTERM : Hid (Ct 78 n .term)) (HVAR : Hid (Ct 81 n .var)) (C : Cx) (w : World) (k m : Nat) (v : Value) (tw : List Tw) (h : PS w C k m v tw) (h2 : seesW (C.T.drop k) [[118, 97, 114]] = false) (h3 : seesW (C.T.drop k) actWords = false) (h4 : seesW (C.T.drop k) [[112, 111, 115, 116]] = false) (h5 : seesW (C.T.drop k) [[115, 112, 97, 119, 110]] = false) (h6 : seesW (C.T.drop k) [[101, 110, 97, 98, 108, 101], [100, 105, 115, 97, 98, 108, 101]] = false) (h7 : seesW (C.T.drop k) [[105, 102]] = false) (h8 : seesW (C.T.drop k) [[119, 104, 105, 108, 101]] = false) (h9 : seesW (C.T.drop k) [[114, 101, 116, 117, 114, 110]] = false) (hnd : P (n + 1) .stmt (C.T.drop k) m ≠ .dry) :
    Calls Try.prog 77 #[C.ptr] w (Ret C w k m v tw (P (n + 1) .stmt (C.T.drop k) m)) := by
  have HS0 := Lib.hid (St.start h)
  clear h
  generalize ho : P (n + 1) .stmt (C.T.drop k) m = o at hnd ⊢
  have HND := Lib.hid hnd
  clear hnd
  rw [P] at ho
  simp only [h2, h3, h4, h5, h6, h7, h8, h9, Bool.false_eq_true, if_false] at ho
  clear h2 h3 h4 h5 h6 h7 h8 h9
  have HO0 := Lib.hid ho
  clear ho
  go_enter Try.func77, Try.ntmps77
  go_wp2_with fail
  refine (next_ok C _ _ _ _ _ HS0.out.ps).mono ?_
  rintro e w1 ⟨rfl, hb⟩
  have HS1 := Lib.hid (HS0.out.below hb)
  clear hb HS0
  unfold tokV
  go_wp2_with fail
  have hnd : P n .var (C.T.drop k) m ≠ .dry := fun hdry => by have h1 := HO0.out; rw [hdry] at h1; exact HND.out h1.symm
  refine (HVAR.out C _ _ _ _ _ (HS1.out.var (w1.heap.size) (by simp) (.cells #[.int .i64 (hd (C.T.drop k)).kind, .string ⟨(hd (C.T.drop k)).text.toArray⟩, .int .i64 (hd (C.T.drop k)).n, .int .i64 (hd (C.T.drop k)).line, .int .i64 (hd (C.T.drop k)).col] 38)).ps hnd).mono ?_
  rintro e w2 hr
  rcases hP : P n .var (C.T.drop k) m with _ | ⟨er, r⟩ | ⟨d1, f1, r⟩
  · exact absurd hP hnd
  · rw [hP] at hr
    have ho' := HO0.out
    rw [hP] at ho'
    have HB := Lib.hid ((HS1.out.var (w1.heap.size) (by simp) (.cells #[.int .i64 (hd (C.T.drop k)).kind, .string ⟨(hd (C.T.drop k)).text.toArray⟩, .int .i64 (hd (C.T.drop k)).n, .int .i64 (hd (C.T.drop k)).line, .int .i64 (hd (C.T.drop k)).col] 38)).bad' (m0 := m) ho' hr)
    obtain ⟨rfl, _⟩ := hr
    clear hnd hP ho'
    go_wp2_with fail
    exact ⟨rfl, HB.out⟩
  rw [hP] at hr
  obtain ⟨j1, v1, rfl, rfl, hs⟩ := (HS1.out.var (w1.heap.size) (by simp) (.cells #[.int .i64 (hd (C.T.drop k)).kind, .string ⟨(hd (C.T.drop k)).text.toArray⟩, .int .i64 (hd (C.T.drop k)).n, .int .i64 (hd (C.T.drop k)).line, .int .i64 (hd (C.T.drop k)).col] 38)).sub hr
  have ho' := HO0.out
  rw [hP] at ho'
  dsimp only [Out.and] at ho'
  have HO1 := Lib.hid ho'
  have HS2 := Lib.hid hs
  generalize hN : ((tw.length + _ + f1.size : Nat) : Int) = N1
  have HN1 := Lib.hid hN
  clear hs hr hN hnd hP ho' HS1 
  go_wp2_with fail
  cases hx : seesM (C.T.drop j1) [[61]]
  · have ho' := HO1.out
    rw [tkM_no hx] at ho'
    refine (takeMark_new_no C _ _ _ _ _ [[61]] _ _ _ HS2.out.ps (by simp) rfl rfl (by decide) hx).mono ?_
    rintro e w' ⟨rfl, hb⟩
    have HB := Lib.hid (HS2.out.bad (m0 := m) ho' hb)
    clear hb ho' hx
    go_wp2_with fail
    exact ⟨rfl, HB.out⟩
  have ho' := HO1.out
  rw [tkM_yes hx, tail_drop'] at ho'
  have HO2 := Lib.hid ho'
  refine (takeMark_new_yes C _ _ _ _ _ [[61]] _ _ _ HS2.out.ps (by simp) rfl rfl (by decide) hx).mono ?_
  rintro e w3 ⟨rfl, hs, hk⟩
  have HS3 := Lib.hid (HS2.out.took hs hk)
  clear hs hk HS2 ho' hx
  unfold tokV
  go_wp2_with fail
  have hnd : P n .term (C.T.drop (j1 + 1)) m ≠ .dry := fun hdry => by have h1 := HO2.out; rw [hdry] at h1; exact HND.out h1.symm
  refine (HTERM.out C _ _ _ _ _ HS3.out.ps hnd).mono ?_
  rintro e w4 hr
  rcases hP : P n .term (C.T.drop (j1 + 1)) m with _ | ⟨er, r⟩ | ⟨d2, f2, r⟩
  · exact absurd hP hnd
  · rw [hP] at hr
    have ho' := HO2.out
    rw [hP] at ho'
    have HB := Lib.hid (HS3.out.bad' (m0 := m) ho' hr)
    obtain ⟨rfl, _⟩ := hr
    clear hnd hP ho'
    go_wp2_with fail
    exact ⟨rfl, HB.out⟩
  rw [hP] at hr
  obtain ⟨j2, v2, rfl, rfl, hs⟩ := HS3.out.sub hr
  have ho' := HO2.out
  rw [hP] at ho'
  dsimp only [Out.and] at ho'
  have HO3 := Lib.hid ho'
  have HS4 := Lib.hid hs
  generalize hN : ((tw.length + _ + f2.size : Nat) : Int) = N2
  have HN2 := Lib.hid hN
  clear hs hr hN hnd hP ho' HS3 
  go_wp2_with fail
  cases hx : seesM (C.T.drop j2) [[59]]
  · have ho' := HO3.out
    rw [tkM_no hx] at ho'
    refine (takeMark_new_no C _ _ _ _ _ [[59]] _ _ _ HS4.out.ps (by simp) rfl rfl (by decide) hx).mono ?_
    rintro e w' ⟨rfl, hb⟩
    have HB := Lib.hid (HS4.out.bad (m0 := m) ho' hb)
    clear hb ho' hx
    go_wp2_with fail
    exact ⟨rfl, HB.out⟩
  have ho' := HO3.out
  rw [tkM_yes hx, tail_drop'] at ho'
  have HO4 := Lib.hid ho'
  refine (takeMark_new_yes C _ _ _ _ _ [[59]] _ _ _ HS4.out.ps (by simp) rfl rfl (by decide) hx).mono ?_
  rintro e w5 ⟨rfl, hs, hk⟩
  have HS5 := Lib.hid (HS4.out.took hs hk)
  clear hs hk HS4 ho' hx
  unfold tokV
  obtain ⟨a5_0, a5_1, a5_2, a5_3, a5_4, a5_5⟩ := tok5 (HS5.out.loc _ (.head _)).is
  have a5_lt := lt_of_block (HS5.out.loc _ (.head _)).is
  go_wp2_with fail
  refine (add_ok C _ _ _ _ _ (hd (C.T.drop k)) 14 [] 0 _ _ (HS5.out.al _).ps (ints_new _ (fun b hb => by have := HS5.out.ps.xlt b hb; simp; try omega) [N1, N2] #[.int .i64 N1, .int .i64 N2] rfl _ _ (by simp) rfl) HS5.out.room).mono ?_
  rintro e w6 ⟨rfl, v', hs, hk⟩
  have hids : [N1, N2] = ((Fo.nil.app (one d1 f1)).app (one d2 f2)).ids tw.length := (by rw [ids_snoc, ids_snoc, ← HN1.out, ← HN2.out]; rfl)
  rw [hids] at hs
  generalize hN : (((tw ++ _ : List Tw).length : Nat) : Int) = N
  have HR := Lib.hid ((HS5.out.al _).fin HO4.out hs hk hN.symm)
  clear hs hk hN HS5
  go_wp2_with fail
  go_ret
  exact HR.out

set_option maxRecDepth 100000 in
set_option maxHeartbeats 2000000 in
theorem repeat_ok (n : Nat) (HTERM : Hid (Ct 78 n .term)) (HBLK : Hid (Ct 47 n .block)) (C : Cx) (w : World) (k m : Nat) (v : Value) (tw : List Tw) (h : PS w C k m v tw) (h2 : seesW (C.T.drop k) [[118, 97, 114]] = false) (h3 : seesW (C.T.drop k) actWords = false) (h4 : seesW (C.T.drop k) [[112, 111, 115, 116]] = false) (h5 : seesW (C.T.drop k) [[115, 112, 97, 119, 110]] = false) (h6 : seesW (C.T.drop k) [[101, 110, 97, 98, 108, 101], [100, 105, 115, 97, 98, 108, 101]] = false) (h7 : seesW (C.T.drop k) [[105, 102]] = false) (h1 : seesW (C.T.drop k) [[119, 104, 105, 108, 101]] = true) (hnd : P (n + 1) .stmt (C.T.drop k) m ≠ .dry) :
    Calls Try.prog 76 #[C.ptr] w (Ret C w k m v tw (P (n + 1) .stmt (C.T.drop k) m)) := by
  have HS0 := Lib.hid (St.start h)
  clear h
  generalize ho : P (n + 1) .stmt (C.T.drop k) m = o at hnd ⊢
  have HND := Lib.hid hnd
  clear hnd
  rw [P] at ho
  simp only [h2, h3, h4, h5, h6, h7, h1, Bool.false_eq_true, if_false, if_true, tail_drop'] at ho
  have hlt : k < C.T.length := sees_lt (x := 2) (by decide) (seesK_kind h1)
  clear h2 h3 h4 h5 h6 h7 h1
  have HO0 := Lib.hid ho
  clear ho
  go_enter Try.func76, Try.ntmps76
  go_wp2_with fail
  refine (take_ok C _ _ _ _ _ HS0.out.ps (hlt)).mono ?_
  rintro e w1 ⟨rfl, hs, hk⟩
  have HS1 := Lib.hid (HS0.out.took hs hk)
  clear hs hk HS0 
  unfold tokV
  go_wp2_with fail
  have hnd : P n .term (C.T.drop (k + 1)) m ≠ .dry := fun hdry => by have h1 := HO0.out; rw [hdry] at h1; exact HND.out h1.symm
  refine (HTERM.out C _ _ _ _ _ (HS1.out.var (w1.heap.size) (by simp) (.cells #[.int .i64 (hd (C.T.drop k)).kind, .string ⟨(hd (C.T.drop k)).text.toArray⟩, .int .i64 (hd (C.T.drop k)).n, .int .i64 (hd (C.T.drop k)).line, .int .i64 (hd (C.T.drop k)).col] 38)).ps hnd).mono ?_
  rintro e w2 hr
  rcases hP : P n .term (C.T.drop (k + 1)) m with _ | ⟨er, r⟩ | ⟨d1, f1, r⟩
  · exact absurd hP hnd
  · rw [hP] at hr
    have ho' := HO0.out
    rw [hP] at ho'
    have HB := Lib.hid ((HS1.out.var (w1.heap.size) (by simp) (.cells #[.int .i64 (hd (C.T.drop k)).kind, .string ⟨(hd (C.T.drop k)).text.toArray⟩, .int .i64 (hd (C.T.drop k)).n, .int .i64 (hd (C.T.drop k)).line, .int .i64 (hd (C.T.drop k)).col] 38)).bad' (m0 := m) ho' hr)
    obtain ⟨rfl, _⟩ := hr
    clear hnd hP ho'
    go_wp2_with fail
    exact ⟨rfl, HB.out⟩
  rw [hP] at hr
  obtain ⟨j1, v1, rfl, rfl, hs⟩ := (HS1.out.var (w1.heap.size) (by simp) (.cells #[.int .i64 (hd (C.T.drop k)).kind, .string ⟨(hd (C.T.drop k)).text.toArray⟩, .int .i64 (hd (C.T.drop k)).n, .int .i64 (hd (C.T.drop k)).line, .int .i64 (hd (C.T.drop k)).col] 38)).sub hr
  have ho' := HO0.out
  rw [hP] at ho'
  dsimp only [Out.and] at ho'
  have HO1 := Lib.hid ho'
  have HS2 := Lib.hid hs
  generalize hN : ((tw.length + _ + f1.size : Nat) : Int) = N1
  have HN1 := Lib.hid hN
  clear hs hr hN hnd hP ho' HS1 
  obtain ⟨a2_0, a2_1, a2_2, a2_3, a2_4, a2_5⟩ := tok5 (HS2.out.loc _ (.head _)).is
  have a2_lt := lt_of_block (HS2.out.loc _ (.head _)).is
  go_wp2_with fail
  have HSD := Lib.hid (HS2.out.drew)
  have hnd : P n .block (C.T.drop j1) m ≠ .dry := fun hdry => by have h1 := HO1.out; rw [hdry] at h1; exact HND.out h1.symm
  rcases hP : P n .block (C.T.drop j1) m with _ | ⟨er, r⟩ | ⟨d2, f2, r⟩
  · exact absurd hP hnd
  · have ho' := HO1.out
    rw [hP] at ho'
    have HP := Lib.hid hP
    have HO' := Lib.hid ho'
    have HD := Lib.hid hnd
    clear hP ho' hnd
    go_region_with (first | (go_at_call 47; refine (HBLK.out C _ _ _ _ _ HSD.out.ps HD.out).mono ?_; rintro e w9 hr; rw [HP.out] at hr; have HB := Lib.hid (HSD.out.bad' (m0 := m) HO'.out hr); obtain ⟨rfl, _⟩ := hr; go_simp; suffices _hz : wpAny Try.prog .any #[] (fun _ _ _ => True) 0 #[] ⟨#[], []⟩ w9 from ⟨rfl, HB.out⟩))
    all_goals trivial
  have ho' := HO1.out
  rw [hP] at ho'
  dsimp only [Out.and] at ho'
  have HP := Lib.hid hP
  have HO' := Lib.hid ho'
  have HD := Lib.hid hnd
  clear hP ho' hnd
  go_region_held3 (fun w' => w'.cell? ⟨w1.heap.size, 0, none⟩ = some (.int .i64 (hd (C.T.drop k)).kind) ∧ w'.cell? ⟨w1.heap.size, 1, none⟩ = some (.string ⟨(hd (C.T.drop k)).text.toArray⟩) ∧ w'.cell? ⟨w1.heap.size, 2, none⟩ = some (.int .i64 (hd (C.T.drop k)).n) ∧ w'.cell? ⟨w1.heap.size, 3, none⟩ = some (.int .i64 (hd (C.T.drop k)).line) ∧ w'.cell? ⟨w1.heap.size, 4, none⟩ = some (.int .i64 (hd (C.T.drop k)).col)) (first | go_keep | (obtain ⟨qa0, qa1, qa2, qa3, qa4, _⟩ := tok5 (HS9.out.loc _ (.head _)).is; exact ⟨qa0, qa1, qa2, qa3, qa4⟩) | (obtain ⟨qa0, qa1, qa2, qa3, qa4, _⟩ := tok5 (HL.out _ (.head _)).is; exact ⟨qa0, qa1, qa2, qa3, qa4⟩)) (first | (go_at_call 47; refine (HBLK.out C _ _ _ _ _ HSD.out.ps HD.out).mono ?_; rintro e w9 hr; rw [HP.out] at hr; obtain ⟨j2, v2, rfl, rfl, hs⟩ := HSD.out.sub hr; have HS9 := Lib.hid hs; generalize hN : ((tw.length + _ + f2.size : Nat) : Int) = N2; have HN2 := Lib.hid hN; clear hs hr hN) | (go_at_call 30; refine (add_ok C _ _ _ _ _ (hd (C.T.drop k)) 24 [] 0 _ _ (HS9.out.al _).ps (ints_new w9 HS9.out.ps.xlt [N1, N2] #[.int .i64 N1, .int .i64 N2] rfl w9.heap.size 2 rfl rfl) HS9.out.room).mono ?_; rintro e w10 ⟨rfl, v', hs, hk⟩; have HL := Lib.hid (fun x hx => ((HS9.out.al _).loc x hx).keep hk); generalize hN2 : (((tw ++ _ : List Tw).length : Nat) : Int) = N; have hids : [N1, N2] = ((Fo.nil.app (one d1 f1)).app (one d2 f2)).ids tw.length := (by rw [ids_snoc, ids_snoc, ← HN1.out, ← HN2.out]; rfl); rw [hids] at hs; have HR := Lib.hid ((HS9.out.al _).fin HO'.out hs hk hN2.symm); clear hs hk hN2 hids))
  go_wp2_with fail
  go_ret
  exact HR.out

end Go.Proofs.Ythgpepkcjjimlaa
