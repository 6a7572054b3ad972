/- parser.use, typeName, looper, global, member, onLooper. -/
import Derived.Test.YthgpepkcjjimlaaParF
namespace Go.Proofs.Ythgpepkcjjimlaa
open Go.RowKit

theorem twig6 {w : World} {g : Nat} {a0 a1 a2 a3 a4 a5 : Value} {t : TypeId} (h : w.heap[g]? = some (.cells #[a0, a1, a2, a3, a4, a5] t (0, 0))) :
    w.cell? ⟨g, 0, none⟩ = some a0 ∧ w.cell? ⟨g, 1, none⟩ = some a1 ∧ w.cell? ⟨g, 2, none⟩ = some a2 ∧ w.cell? ⟨g, 3, none⟩ = some a3 ∧ w.cell? ⟨g, 4, none⟩ = some a4 ∧ w.cell? ⟨g, 5, none⟩ = some a5 ∧ ∀ i, w.frozen? ⟨g, i, none⟩ = false := by
  refine ⟨?_, ?_, ?_, ?_, ?_, ?_, fun i => ?_⟩ <;> simp [World.cell?, World.frozen?, h]
/-- The contract of a part that is told by an expression of its own. -/
def CtE (f : Nat) (E : List Tok → Out) : Prop := ∀ (C : Cx) (w : World) (k m : Nat) (v : Value) (tw : List Tw), PS w C k m v tw → E (C.T.drop k) ≠ .dry → Calls Try.prog f #[C.ptr] w (Ret C w k m v tw (E (C.T.drop k)))

set_option maxRecDepth 100000 in
set_option maxHeartbeats 2000000 in
theorem use_ok (C : Cx) (w : World) (k m : Nat) (v : Value) (tw : List Tw) (h : PS w C k m v tw) (hnd : useO (C.T.drop k) ≠ .dry) :
    Calls Try.prog 68 #[C.ptr] w (Ret C w k m v tw (useO (C.T.drop k))) := by
  have HS0 := Lib.hid (St.start h)
  clear h
  generalize ho : useO (C.T.drop k) = o at hnd ⊢
  have HND := Lib.hid hnd
  clear hnd
  simp only [useO] at ho
  have HO0 := Lib.hid ho
  clear ho
  go_enter Try.func68, Try.ntmps68
  go_wp2_with fail
  cases hx : ((hd (C.T.drop k)).kind == 1)
  · have ho' := HO0.out
    rw [tkK_no hx] at ho'
    refine (takeName_no C _ _ _ _ _ HS0.out.ps hx).mono ?_
    rintro e w' ⟨rfl, hb⟩
    have HB := Lib.hid (HS0.out.bad (m0 := m) ho' hb)
    clear hb ho' hx
    go_wp2_with fail
    exact ⟨rfl, HB.out⟩
  have ho' := HO0.out
  rw [tkK_yes hx, tail_drop'] at ho'
  have HO1 := Lib.hid ho'
  refine (takeName_yes C _ _ _ _ _ HS0.out.ps hx).mono ?_
  rintro e w1 ⟨rfl, hs, hk⟩
  have HS1 := Lib.hid (HS0.out.took hs hk)
  clear hs hk HS0 ho' hx
  unfold tokV
  go_wp2_with fail
  refine (add_ok C _ _ _ _ _ (hd (C.T.drop k)) 29 (hd (C.T.drop k)).text 0 _ [] (HS1.out.var (w1.heap.size) (by simp) (.cells #[.int .i64 (hd (C.T.drop k)).kind, .string ⟨(hd (C.T.drop k)).text.toArray⟩, .int .i64 (hd (C.T.drop k)).n, .int .i64 (hd (C.T.drop k)).line, .int .i64 (hd (C.T.drop k)).col] 38)).ps (ints_nil _) HS1.out.room).mono ?_
  rintro e w2 ⟨rfl, v', hs, hk⟩
  generalize hN : (((tw ++ _ : List Tw).length : Nat) : Int) = N
  have HR := Lib.hid ((HS1.out.var (w1.heap.size) (by simp) (.cells #[.int .i64 (hd (C.T.drop k)).kind, .string ⟨(hd (C.T.drop k)).text.toArray⟩, .int .i64 (hd (C.T.drop k)).n, .int .i64 (hd (C.T.drop k)).line, .int .i64 (hd (C.T.drop k)).col] 38)).fin HO1.out hs hk hN.symm)
  clear hs hk hN HS1
  go_wp2_with fail
  go_ret
  exact HR.out

theorem useC : Hid (CtE 68 useO) := Lib.hid use_ok

set_option maxRecDepth 100000 in
set_option maxHeartbeats 2000000 in
theorem typeName_name (C : Cx) (w : World) (k m : Nat) (v : Value) (tw : List Tw) (h : PS w C k m v tw) (h1 : ((hd (C.T.drop k)).kind == 1) = true) (hnd : tyO (C.T.drop k) ≠ .dry) :
    Calls Try.prog 57 #[C.ptr] w (Ret C w k m v tw (tyO (C.T.drop k))) := by
  have HS0 := Lib.hid (St.start h)
  clear h
  generalize ho : tyO (C.T.drop k) = o at hnd ⊢
  have HND := Lib.hid hnd
  clear hnd
  simp only [tyO, tk, isTyT, h1, Bool.true_or, if_true, tail_drop'] at ho
  have hlt : k < C.T.length := sees_lt (x := 1) (by decide) h1
  have HO0 := Lib.hid ho
  clear ho
  have hfd := field0
  go_enter Try.func57, Try.ntmps57
  go_wp2_with fail
  refine (next_ok C _ _ _ _ _ HS0.out.ps).mono ?_
  rintro e w1 ⟨rfl, hb⟩
  have HS1 := Lib.hid (HS0.out.below hb)
  clear hb HS0
  unfold tokV
  go_wp2_with fail
  refine (takeIf_yes C _ _ _ _ _ HS1.out.ps hlt).mono ?_
  rintro e w2 ⟨rfl, hs, hk⟩
  have HS2 := Lib.hid (HS1.out.took hs hk)
  clear hs hk HS1 
  unfold tokV
  go_wp2_with fail
  refine (add_ok C _ _ _ _ _ (hd (C.T.drop k)) 5 (hd (C.T.drop k)).text 0 _ [] (HS2.out.var (w2.heap.size) (by simp) (.cells #[.int .i64 (hd (C.T.drop k)).kind, .string ⟨(hd (C.T.drop k)).text.toArray⟩, .int .i64 (hd (C.T.drop k)).n, .int .i64 (hd (C.T.drop k)).line, .int .i64 (hd (C.T.drop k)).col] 38)).ps (ints_nil _) HS2.out.room).mono ?_
  rintro e w3 ⟨rfl, v', hs, hk⟩
  generalize hN : (((tw ++ _ : List Tw).length : Nat) : Int) = N
  have HR := Lib.hid ((HS2.out.var (w2.heap.size) (by simp) (.cells #[.int .i64 (hd (C.T.drop k)).kind, .string ⟨(hd (C.T.drop k)).text.toArray⟩, .int .i64 (hd (C.T.drop k)).n, .int .i64 (hd (C.T.drop k)).line, .int .i64 (hd (C.T.drop k)).col] 38)).fin HO0.out hs hk hN.symm)
  clear hs hk hN HS2
  go_wp2_with fail
  go_ret
  exact HR.out

set_option maxRecDepth 100000 in
set_option maxHeartbeats 2000000 in
theorem typeName_yes (C : Cx) (w : World) (k m : Nat) (v : Value) (tw : List Tw) (h : PS w C k m v tw) (h1 : ((hd (C.T.drop k)).kind == 1) = false) (h2 : seesW (C.T.drop k) tyWords = true) (hnd : tyO (C.T.drop k) ≠ .dry) :
    Calls Try.prog 57 #[C.ptr] w (Ret C w k m v tw (tyO (C.T.drop k))) := by
  have HS0 := Lib.hid (St.start h)
  clear h
  generalize ho : tyO (C.T.drop k) = o at hnd ⊢
  have HND := Lib.hid hnd
  clear hnd
  simp only [tyO, tk, isTyT, h1, h2, Bool.false_or, if_true, tail_drop'] at ho
  have hlt : k < C.T.length := sees_lt (x := 2) (by decide) (seesK_kind h2)
  have H2 := Lib.hid h2
  clear h2
  have HO0 := Lib.hid ho
  clear ho
  have hfd := field0
  go_enter Try.func57, Try.ntmps57
  go_wp2_with fail
  refine (next_ok C _ _ _ _ _ HS0.out.ps).mono ?_
  rintro e w1 ⟨rfl, hb⟩
  have HS1 := Lib.hid (HS0.out.below hb)
  clear hb HS0
  unfold tokV
  go_wp2_with fail
  have hsee := seesWord_new C w1 _ _ _ _ tyWords w1.heap.size 5 _ HS1.out.ps rfl rfl rfl (by decide)
  rw [H2.out] at hsee
  refine hsee.mono ?_
  rintro e w2 ⟨rfl, hb⟩
  have HS2 := Lib.hid (HS1.out.below hb)
  clear hb HS1 hsee
  go_wp2_with fail
  refine (takeIf_yes C _ _ _ _ _ HS2.out.ps hlt).mono ?_
  rintro e w3 ⟨rfl, hs, hk⟩
  have HS3 := Lib.hid (HS2.out.took hs hk)
  clear hs hk HS2 
  unfold tokV
  go_wp2_with fail
  refine (add_ok C _ _ _ _ _ (hd (C.T.drop k)) 5 (hd (C.T.drop k)).text 0 _ [] (HS3.out.var (w3.heap.size) (by simp) (.cells #[.int .i64 (hd (C.T.drop k)).kind, .string ⟨(hd (C.T.drop k)).text.toArray⟩, .int .i64 (hd (C.T.drop k)).n, .int .i64 (hd (C.T.drop k)).line, .int .i64 (hd (C.T.drop k)).col] 38)).ps (ints_nil _) HS3.out.room).mono ?_
  rintro e w4 ⟨rfl, v', hs, hk⟩
  generalize hN : (((tw ++ _ : List Tw).length : Nat) : Int) = N
  have HR := Lib.hid ((HS3.out.var (w3.heap.size) (by simp) (.cells #[.int .i64 (hd (C.T.drop k)).kind, .string ⟨(hd (C.T.drop k)).text.toArray⟩, .int .i64 (hd (C.T.drop k)).n, .int .i64 (hd (C.T.drop k)).line, .int .i64 (hd (C.T.drop k)).col] 38)).fin HO0.out hs hk hN.symm)
  clear hs hk hN HS3
  go_wp2_with fail
  go_ret
  exact HR.out

set_option maxRecDepth 100000 in
set_option maxHeartbeats 2000000 in
theorem typeName_no (C : Cx) (w : World) (k m : Nat) (v : Value) (tw : List Tw) (h : PS w C k m v tw) (h1 : ((hd (C.T.drop k)).kind == 1) = false) (h2 : seesW (C.T.drop k) tyWords = false) (hnd : tyO (C.T.drop k) ≠ .dry) :
    Calls Try.prog 57 #[C.ptr] w (Ret C w k m v tw (tyO (C.T.drop k))) := by
  have HS0 := Lib.hid (St.start h)
  clear h
  generalize ho : tyO (C.T.drop k) = o at hnd ⊢
  have HND := Lib.hid hnd
  clear hnd
  simp only [tyO, tk, isTyT, h1, h2, Bool.false_or, Bool.false_eq_true, if_false] at ho
  have H2 := Lib.hid h2
  clear h2
  have HO0 := Lib.hid ho
  clear ho
  have hfd := field0
  go_enter Try.func57, Try.ntmps57
  go_wp2_with fail
  refine (next_ok C _ _ _ _ _ HS0.out.ps).mono ?_
  rintro e w1 ⟨rfl, hb⟩
  have HS1 := Lib.hid (HS0.out.below hb)
  clear hb HS0
  unfold tokV
  go_wp2_with fail
  have hsee := seesWord_new C w1 _ _ _ _ tyWords w1.heap.size 5 _ HS1.out.ps rfl rfl rfl (by decide)
  rw [H2.out] at hsee
  refine hsee.mono ?_
  rintro e w2 ⟨rfl, hb⟩
  have HS2 := Lib.hid (HS1.out.below hb)
  clear hb HS1 hsee
  go_wp2_with fail
  refine (takeIf_no C _ _ _ _ _ HS2.out.ps).mono ?_
  rintro e w' ⟨rfl, hb⟩
  have HB := Lib.hid (HS2.out.bad (m0 := m) HO0.out hb)
  clear hb
  go_wp2_with fail
  exact ⟨rfl, HB.out⟩

theorem tyC : Hid (CtE 57 tyO) := Lib.hid fun C w k m v tw h hnd => by
  cases h1 : ((hd (C.T.drop k)).kind == 1)
  · cases h2 : seesW (C.T.drop k) tyWords
    · exact typeName_no C w k m v tw h h1 h2 hnd
    · exact typeName_yes C w k m v tw h h1 h2 hnd
  · exact typeName_name C w k m v tw h h1 hnd

set_option maxRecDepth 100000 in
set_option maxHeartbeats 2000000 in
theorem onLooper_ok (C : Cx) (w : World) (k m : Nat) (v : Value) (tw : List Tw) (h : PS w C k m v tw) (hnd : onO (C.T.drop k) ≠ .dry) :
    Calls Try.prog 58 #[C.ptr] w (Ret C w k m v tw (onO (C.T.drop k))) := by
  have HS0 := Lib.hid (St.start h)
  clear h
  generalize ho : onO (C.T.drop k) = o at hnd ⊢
  have HND := Lib.hid hnd
  clear hnd
  simp only [onO] at ho
  have HO0 := Lib.hid ho
  clear ho
  go_enter Try.func58, Try.ntmps58
  go_wp2_with fail
  cases hx : seesW (C.T.drop k) [[111, 110]]
  · have ho' := HO0.out
    rw [tkW_no hx] at ho'
    refine (takeWord_new_no C _ _ _ _ _ [[111, 110]] _ _ _ HS0.out.ps (by simp) rfl rfl (by decide) hx).mono ?_
    rintro e w' ⟨rfl, hb⟩
    have HB := Lib.hid (HS0.out.bad (m0 := m) ho' hb)
    clear hb ho' hx
    go_wp2_with fail
    exact ⟨rfl, HB.out⟩
  have ho' := HO0.out
  rw [tkW_yes hx, tail_drop'] at ho'
  have HO1 := Lib.hid ho'
  refine (takeWord_new_yes C _ _ _ _ _ [[111, 110]] _ _ _ HS0.out.ps (by simp) rfl rfl (by decide) hx).mono ?_
  rintro e w1 ⟨rfl, hs, hk⟩
  have HS1 := Lib.hid (HS0.out.took hs hk)
  clear hs hk HS0 ho' hx
  unfold tokV
  go_wp2_with fail
  have h0 := HO1.out
  refine (useC.out C _ _ _ _ _ HS1.out.ps (fun h => HND.out (by rw [← h0, h]))).mono ?_
  rintro e w2 hr
  rcases hP : useO (C.T.drop (k + 1)) with _ | ⟨er, r⟩ | ⟨d, f, r⟩
  · exact absurd (h0.symm.trans hP) HND.out
  · rw [hP] at hr; have HB := Lib.hid (HS1.out.bad' (m0 := m) (hP.symm.trans h0) hr); obtain ⟨rfl, _⟩ := hr; clear hP h0; go_wp2_with fail; exact ⟨rfl, HB.out⟩
  · rw [hP] at hr h0; obtain ⟨j, v', rfl, rfl, hs⟩ := HS1.out.sub hr; generalize hN : ((tw.length + _ + f.size : Nat) : Int) = N; have HR := Lib.hid (St.same hs h0 (hN.symm.trans (by simp [Fo.size]))); clear hs hr hN hP h0; go_wp2_with fail; go_ret; exact HR.out

theorem onC : Hid (CtE 58 onO) := Lib.hid onLooper_ok

set_option maxRecDepth 100000 in
set_option maxHeartbeats 2000000 in
theorem looper_ok (n : Nat) (C : Cx) (w : World) (k m : Nat) (v : Value) (tw : List Tw) (h : PS w C k m v tw) (h1 : seesW (C.T.drop k) [[108, 111, 111, 112, 101, 114]] = true) (hnd : P (n + 1) .decl (C.T.drop k) m ≠ .dry) :
    Calls Try.prog 40 #[C.ptr] w (Ret C w k m v tw (P (n + 1) .decl (C.T.drop k) m)) := by
  have HS0 := Lib.hid (St.start h)
  clear h
  generalize ho : P (n + 1) .decl (C.T.drop k) m = o at hnd ⊢
  have HND := Lib.hid hnd
  clear hnd
  rw [P] at ho
  simp only [h1, if_true, tail_drop'] at ho
  have hlt : k < C.T.length := sees_lt (x := 2) (by decide) (seesK_kind h1)
  clear h1
  have HO0 := Lib.hid ho
  clear ho
  go_enter Try.func40, Try.ntmps40
  go_wp2_with fail
  refine (take_ok C _ _ _ _ _ HS0.out.ps (hlt)).mono ?_
  rintro e w1 ⟨rfl, hs, hk⟩
  have HS1 := Lib.hid (HS0.out.took hs hk)
  clear hs hk HS0 
  unfold tokV
  go_wp2_with fail
  cases hx : ((hd (C.T.drop (k + 1))).kind == 1)
  · have ho' := HO0.out
    rw [tkK_no hx] at ho'
    refine (takeName_no C _ _ _ _ _ HS1.out.ps hx).mono ?_
    rintro e w' ⟨rfl, hb⟩
    have HB := Lib.hid (HS1.out.bad (m0 := m) ho' hb)
    clear hb ho' hx
    go_wp2_with fail
    exact ⟨rfl, HB.out⟩
  have ho' := HO0.out
  rw [tkK_yes hx, tail_drop'] at ho'
  have HO1 := Lib.hid ho'
  refine (takeName_yes C _ _ _ _ _ HS1.out.ps hx).mono ?_
  rintro e w2 ⟨rfl, hs, hk⟩
  have HS2 := Lib.hid (HS1.out.took hs hk)
  clear hs hk HS1 ho' hx
  unfold tokV
  go_wp2_with fail
  cases hx : seesM (C.T.drop ((k + 1) + 1)) [[59]]
  · have ho' := HO1.out
    rw [tkM_no hx] at ho'
    refine (takeMark_new_no C _ _ _ _ _ [[59]] _ _ _ ((HS2.out.var (w2.heap.size) (by simp) (.cells #[.int .i64 (hd (C.T.drop k)).kind, .string ⟨(hd (C.T.drop k)).text.toArray⟩, .int .i64 (hd (C.T.drop k)).n, .int .i64 (hd (C.T.drop k)).line, .int .i64 (hd (C.T.drop k)).col] 38)).var (w2.heap.size + 1) (by simp) (.cells #[.int .i64 (hd (C.T.drop (k + 1))).kind, .string ⟨(hd (C.T.drop (k + 1))).text.toArray⟩, .int .i64 (hd (C.T.drop (k + 1))).n, .int .i64 (hd (C.T.drop (k + 1))).line, .int .i64 (hd (C.T.drop (k + 1))).col] 38)).ps (by simp) rfl rfl (by decide) hx).mono ?_
    rintro e w' ⟨rfl, hb⟩
    have HB := Lib.hid (((HS2.out.var (w2.heap.size) (by simp) (.cells #[.int .i64 (hd (C.T.drop k)).kind, .string ⟨(hd (C.T.drop k)).text.toArray⟩, .int .i64 (hd (C.T.drop k)).n, .int .i64 (hd (C.T.drop k)).line, .int .i64 (hd (C.T.drop k)).col] 38)).var (w2.heap.size + 1) (by simp) (.cells #[.int .i64 (hd (C.T.drop (k + 1))).kind, .string ⟨(hd (C.T.drop (k + 1))).text.toArray⟩, .int .i64 (hd (C.T.drop (k + 1))).n, .int .i64 (hd (C.T.drop (k + 1))).line, .int .i64 (hd (C.T.drop (k + 1))).col] 38)).bad (m0 := m) ho' hb)
    clear hb ho' hx
    go_wp2_with fail
    exact ⟨rfl, HB.out⟩
  have ho' := HO1.out
  rw [tkM_yes hx, tail_drop'] at ho'
  have HO2 := Lib.hid ho'
  refine (takeMark_new_yes C _ _ _ _ _ [[59]] _ _ _ ((HS2.out.var (w2.heap.size) (by simp) (.cells #[.int .i64 (hd (C.T.drop k)).kind, .string ⟨(hd (C.T.drop k)).text.toArray⟩, .int .i64 (hd (C.T.drop k)).n, .int .i64 (hd (C.T.drop k)).line, .int .i64 (hd (C.T.drop k)).col] 38)).var (w2.heap.size + 1) (by simp) (.cells #[.int .i64 (hd (C.T.drop (k + 1))).kind, .string ⟨(hd (C.T.drop (k + 1))).text.toArray⟩, .int .i64 (hd (C.T.drop (k + 1))).n, .int .i64 (hd (C.T.drop (k + 1))).line, .int .i64 (hd (C.T.drop (k + 1))).col] 38)).ps (by simp) rfl rfl (by decide) hx).mono ?_
  rintro e w3 ⟨rfl, hs, hk⟩
  have HS3 := Lib.hid (((HS2.out.var (w2.heap.size) (by simp) (.cells #[.int .i64 (hd (C.T.drop k)).kind, .string ⟨(hd (C.T.drop k)).text.toArray⟩, .int .i64 (hd (C.T.drop k)).n, .int .i64 (hd (C.T.drop k)).line, .int .i64 (hd (C.T.drop k)).col] 38)).var (w2.heap.size + 1) (by simp) (.cells #[.int .i64 (hd (C.T.drop (k + 1))).kind, .string ⟨(hd (C.T.drop (k + 1))).text.toArray⟩, .int .i64 (hd (C.T.drop (k + 1))).n, .int .i64 (hd (C.T.drop (k + 1))).line, .int .i64 (hd (C.T.drop (k + 1))).col] 38)).took hs hk)
  clear hs hk HS2 ho' hx
  unfold tokV
  obtain ⟨a3_0, a3_1, a3_2, a3_3, a3_4, a3_5⟩ := tok5 (HS3.out.loc _ (.tail _ (.head _))).is
  have a3_lt := lt_of_block (HS3.out.loc _ (.tail _ (.head _))).is
  obtain ⟨b3_0, b3_1, b3_2, b3_3, b3_4, b3_5⟩ := tok5 (HS3.out.loc _ (.head _)).is
  have b3_lt := lt_of_block (HS3.out.loc _ (.head _)).is
  go_wp2_with fail
  refine (add_ok C _ _ _ _ _ (hd (C.T.drop k)) 2 (hd (C.T.drop (k + 1))).text 0 _ [] HS3.out.ps (ints_nil _) HS3.out.room).mono ?_
  rintro e w4 ⟨rfl, v', hs, hk⟩
  generalize hN : (((tw ++ _ : List Tw).length : Nat) : Int) = N
  have HR := Lib.hid (HS3.out.fin HO2.out hs hk hN.symm)
  clear hs hk hN HS3
  go_wp2_with fail
  go_ret
  exact HR.out

set_option maxRecDepth 100000 in
set_option maxHeartbeats 2000000 in
theorem member_ok (C : Cx) (w : World) (k m : Nat) (v : Value) (tw : List Tw) (h : PS w C k m v tw) (hnd : memO (C.T.drop k) ≠ .dry) :
    Calls Try.prog 56 #[C.ptr] w (Ret C w k m v tw (memO (C.T.drop k))) := by
  have HS0 := Lib.hid (St.start h)
  clear h
  generalize ho : memO (C.T.drop k) = o at hnd ⊢
  have HND := Lib.hid hnd
  clear hnd
  simp only [memO] at ho
  have HO0 := Lib.hid ho
  clear ho
  go_enter Try.func56, Try.ntmps56
  go_wp2_with fail
  cases hx : ((hd (C.T.drop k)).kind == 1)
  · have ho' := HO0.out
    rw [tkK_no hx] at ho'
    refine (takeName_no C _ _ _ _ _ HS0.out.ps hx).mono ?_
    rintro e w' ⟨rfl, hb⟩
    have HB := Lib.hid (HS0.out.bad (m0 := m) ho' hb)
    clear hb ho' hx
    go_wp2_with fail
    exact ⟨rfl, HB.out⟩
  have ho' := HO0.out
  rw [tkK_yes hx, tail_drop'] at ho'
  have HO1 := Lib.hid ho'
  refine (takeName_yes C _ _ _ _ _ HS0.out.ps hx).mono ?_
  rintro e w1 ⟨rfl, hs, hk⟩
  have HS1 := Lib.hid (HS0.out.took hs hk)
  clear hs hk HS0 ho' hx
  unfold tokV
  go_wp2_with fail
  have hnd : tyO (C.T.drop (k + 1)) ≠ .dry := fun hdry => by have h1 := HO1.out; rw [hdry] at h1; exact HND.out h1.symm
  refine (tyC.out C _ _ _ _ _ (HS1.out.var (w1.heap.size) (by simp) (.cells #[.int .i64 (hd (C.T.drop k)).kind, .string ⟨(hd (C.T.drop k)).text.toArray⟩, .int .i64 (hd (C.T.drop k)).n, .int .i64 (hd (C.T.drop k)).line, .int .i64 (hd (C.T.drop k)).col] 38)).ps hnd).mono ?_
  rintro e w2 hr
  rcases hP : tyO (C.T.drop (k + 1)) with _ | ⟨er, r⟩ | ⟨d1, f1, r⟩
  · exact absurd hP hnd
  · rw [hP] at hr
    have ho' := HO1.out
    rw [hP] at ho'
    have HB := Lib.hid ((HS1.out.var (w1.heap.size) (by simp) (.cells #[.int .i64 (hd (C.T.drop k)).kind, .string ⟨(hd (C.T.drop k)).text.toArray⟩, .int .i64 (hd (C.T.drop k)).n, .int .i64 (hd (C.T.drop k)).line, .int .i64 (hd (C.T.drop k)).col] 38)).bad' (m0 := m) ho' hr)
    obtain ⟨rfl, _⟩ := hr
    clear hnd hP ho'
    go_wp2_with fail
    exact ⟨rfl, HB.out⟩
  rw [hP] at hr
  obtain ⟨j1, v1, rfl, rfl, hs⟩ := (HS1.out.var (w1.heap.size) (by simp) (.cells #[.int .i64 (hd (C.T.drop k)).kind, .string ⟨(hd (C.T.drop k)).text.toArray⟩, .int .i64 (hd (C.T.drop k)).n, .int .i64 (hd (C.T.drop k)).line, .int .i64 (hd (C.T.drop k)).col] 38)).sub hr
  have ho' := HO1.out
  rw [hP] at ho'
  dsimp only [Out.and] at ho'
  have HO2 := Lib.hid ho'
  have HS2 := Lib.hid hs
  generalize hN : ((tw.length + _ + f1.size : Nat) : Int) = N1
  have HN1 := Lib.hid hN
  clear hs hr hN hnd hP ho' HS1 
  go_wp2_with fail
  cases hx : seesM (C.T.drop j1) [[59]]
  · have ho' := HO2.out
    rw [tkM_no hx] at ho'
    refine (takeMark_new_no C _ _ _ _ _ [[59]] _ _ _ HS2.out.ps (by simp) rfl rfl (by decide) hx).mono ?_
    rintro e w' ⟨rfl, hb⟩
    have HB := Lib.hid (HS2.out.bad (m0 := m) ho' hb)
    clear hb ho' hx
    go_wp2_with fail
    exact ⟨rfl, HB.out⟩
  have ho' := HO2.out
  rw [tkM_yes hx, tail_drop'] at ho'
  have HO3 := Lib.hid ho'
  refine (takeMark_new_yes C _ _ _ _ _ [[59]] _ _ _ HS2.out.ps (by simp) rfl rfl (by decide) hx).mono ?_
  rintro e w3 ⟨rfl, hs, hk⟩
  have HS3 := Lib.hid (HS2.out.took hs hk)
  clear hs hk HS2 ho' hx
  unfold tokV
  obtain ⟨a3_0, a3_1, a3_2, a3_3, a3_4, a3_5⟩ := tok5 (HS3.out.loc _ (.head _)).is
  have a3_lt := lt_of_block (HS3.out.loc _ (.head _)).is
  go_wp2_with fail
  refine (add_ok C _ _ _ _ _ (hd (C.T.drop k)) 4 (hd (C.T.drop k)).text 0 _ _ (HS3.out.al _).ps (ints_new _ (fun b hb => by have := HS3.out.ps.xlt b hb; simp; try omega) [N1] #[.int .i64 N1] rfl _ _ (by simp) rfl) HS3.out.room).mono ?_
  rintro e w4 ⟨rfl, v', hs, hk⟩
  have hids : [N1] = (Fo.nil.app (one d1 f1)).ids tw.length := (by rw [ids_snoc, ← HN1.out]; rfl)
  rw [hids] at hs
  generalize hN : (((tw ++ _ : List Tw).length : Nat) : Int) = N
  have HR := Lib.hid ((HS3.out.al _).fin HO3.out hs hk hN.symm)
  clear hs hk hN HS3
  go_wp2_with fail
  go_ret
  exact HR.out

theorem memC : Hid (CtE 56 memO) := Lib.hid member_ok

set_option maxRecDepth 100000 in
set_option maxHeartbeats 2000000 in
theorem global_ok (n : Nat) (C : Cx) (w : World) (k m : Nat) (v : Value) (tw : List Tw) (h : PS w C k m v tw) (h2 : seesW (C.T.drop k) [[108, 111, 111, 112, 101, 114]] = false) (h3 : seesW (C.T.drop k) [[99, 108, 97, 115, 115]] = false) (h1 : seesW (C.T.drop k) [[118, 97, 114]] = true) (hnd : P (n + 1) .decl (C.T.drop k) m ≠ .dry) :
    Calls Try.prog 42 #[C.ptr] w (Ret C w k m v tw (P (n + 1) .decl (C.T.drop k) m)) := by
  have HS0 := Lib.hid (St.start h)
  clear h
  generalize ho : P (n + 1) .decl (C.T.drop k) m = o at hnd ⊢
  have HND := Lib.hid hnd
  clear hnd
  rw [P] at ho
  simp only [h1, h2, h3, Bool.false_eq_true, if_false, if_true, tail_drop'] at ho
  have hlt : k < C.T.length := sees_lt (x := 2) (by decide) (seesK_kind h1)
  clear h1
  have HO0 := Lib.hid ho
  clear ho
  go_enter Try.func42, Try.ntmps42
  go_wp2_with fail
  refine (take_ok C _ _ _ _ _ HS0.out.ps (hlt)).mono ?_
  rintro e w1 ⟨rfl, hs, hk⟩
  have HS1 := Lib.hid (HS0.out.took hs hk)
  clear hs hk HS0 
  unfold tokV
  go_wp2_with fail
  cases hx : ((hd (C.T.drop (k + 1))).kind == 1)
  · have ho' := HO0.out
    rw [tkK_no hx] at ho'
    refine (takeName_no C _ _ _ _ _ HS1.out.ps hx).mono ?_
    rintro e w' ⟨rfl, hb⟩
    have HB := Lib.hid (HS1.out.bad (m0 := m) ho' hb)
    clear hb ho' hx
    go_wp2_with fail
    exact ⟨rfl, HB.out⟩
  have ho' := HO0.out
  rw [tkK_yes hx, tail_drop'] at ho'
  have HO1 := Lib.hid ho'
  refine (takeName_yes C _ _ _ _ _ HS1.out.ps hx).mono ?_
  rintro e w2 ⟨rfl, hs, hk⟩
  have HS2 := Lib.hid (HS1.out.took hs hk)
  clear hs hk HS1 ho' hx
  unfold tokV
  go_wp2_with fail
  have hnd : tyO (C.T.drop ((k + 1) + 1)) ≠ .dry := fun hdry => by have h1 := HO1.out; rw [hdry] at h1; exact HND.out h1.symm
  refine (tyC.out C _ _ _ _ _ ((HS2.out.var (w2.heap.size) (by simp) (.cells #[.int .i64 (hd (C.T.drop k)).kind, .string ⟨(hd (C.T.drop k)).text.toArray⟩, .int .i64 (hd (C.T.drop k)).n, .int .i64 (hd (C.T.drop k)).line, .int .i64 (hd (C.T.drop k)).col] 38)).var (w2.heap.size + 1) (by simp) (.cells #[.int .i64 (hd (C.T.drop (k + 1))).kind, .string ⟨(hd (C.T.drop (k + 1))).text.toArray⟩, .int .i64 (hd (C.T.drop (k + 1))).n, .int .i64 (hd (C.T.drop (k + 1))).line, .int .i64 (hd (C.T.drop (k + 1))).col] 38)).ps hnd).mono ?_
  rintro e w3 hr
  rcases hP : tyO (C.T.drop ((k + 1) + 1)) with _ | ⟨er, r⟩ | ⟨d1, f1, r⟩
  · exact absurd hP hnd
  · rw [hP] at hr
    have ho' := HO1.out
    rw [hP] at ho'
    have HB := Lib.hid (((HS2.out.var (w2.heap.size) (by simp) (.cells #[.int .i64 (hd (C.T.drop k)).kind, .string ⟨(hd (C.T.drop k)).text.toArray⟩, .int .i64 (hd (C.T.drop k)).n, .int .i64 (hd (C.T.drop k)).line, .int .i64 (hd (C.T.drop k)).col] 38)).var (w2.heap.size + 1) (by simp) (.cells #[.int .i64 (hd (C.T.drop (k + 1))).kind, .string ⟨(hd (C.T.drop (k + 1))).text.toArray⟩, .int .i64 (hd (C.T.drop (k + 1))).n, .int .i64 (hd (C.T.drop (k + 1))).line, .int .i64 (hd (C.T.drop (k + 1))).col] 38)).bad' (m0 := m) ho' hr)
    obtain ⟨rfl, _⟩ := hr
    clear hnd hP ho'
    go_wp2_with fail
    exact ⟨rfl, HB.out⟩
  rw [hP] at hr
  obtain ⟨j1, v1, rfl, rfl, hs⟩ := ((HS2.out.var (w2.heap.size) (by simp) (.cells #[.int .i64 (hd (C.T.drop k)).kind, .string ⟨(hd (C.T.drop k)).text.toArray⟩, .int .i64 (hd (C.T.drop k)).n, .int .i64 (hd (C.T.drop k)).line, .int .i64 (hd (C.T.drop k)).col] 38)).var (w2.heap.size + 1) (by simp) (.cells #[.int .i64 (hd (C.T.drop (k + 1))).kind, .string ⟨(hd (C.T.drop (k + 1))).text.toArray⟩, .int .i64 (hd (C.T.drop (k + 1))).n, .int .i64 (hd (C.T.drop (k + 1))).line, .int .i64 (hd (C.T.drop (k + 1))).col] 38)).sub hr
  have ho' := HO1.out
  rw [hP] at ho'
  dsimp only [Out.and] at ho'
  have HO2 := Lib.hid ho'
  have HS3 := Lib.hid hs
  generalize hN : ((tw.length + _ + f1.size : Nat) : Int) = N1
  have HN1 := Lib.hid hN
  clear hs hr hN hnd hP ho' HS2 
  go_wp2_with fail
  cases hx : seesM (C.T.drop j1) [[59]]
  · have ho' := HO2.out
    rw [tkM_no hx] at ho'
    refine (takeMark_new_no C _ _ _ _ _ [[59]] _ _ _ HS3.out.ps (by simp) rfl rfl (by decide) hx).mono ?_
    rintro e w' ⟨rfl, hb⟩
    have HB := Lib.hid (HS3.out.bad (m0 := m) ho' hb)
    clear hb ho' hx
    go_wp2_with fail
    exact ⟨rfl, HB.out⟩
  have ho' := HO2.out
  rw [tkM_yes hx, tail_drop'] at ho'
  have HO3 := Lib.hid ho'
  refine (takeMark_new_yes C _ _ _ _ _ [[59]] _ _ _ HS3.out.ps (by simp) rfl rfl (by decide) hx).mono ?_
  rintro e w4 ⟨rfl, hs, hk⟩
  have HS4 := Lib.hid (HS3.out.took hs hk)
  clear hs hk HS3 ho' hx
  unfold tokV
  obtain ⟨a4_0, a4_1, a4_2, a4_3, a4_4, a4_5⟩ := tok5 (HS4.out.loc _ (.tail _ (.head _))).is
  have a4_lt := lt_of_block (HS4.out.loc _ (.tail _ (.head _))).is
  obtain ⟨b4_0, b4_1, b4_2, b4_3, b4_4, b4_5⟩ := tok5 (HS4.out.loc _ (.head _)).is
  have b4_lt := lt_of_block (HS4.out.loc _ (.head _)).is
  go_wp2_with fail
  refine (add_ok C _ _ _ _ _ (hd (C.T.drop k)) 6 (hd (C.T.drop (k + 1))).text 0 _ _ (HS4.out.al _).ps (ints_new _ (fun b hb => by have := HS4.out.ps.xlt b hb; simp; try omega) [N1] #[.int .i64 N1] rfl _ _ (by simp) rfl) HS4.out.room).mono ?_
  rintro e w5 ⟨rfl, v', hs, hk⟩
  have hids : [N1] = (Fo.nil.app (one d1 f1)).ids tw.length := (by rw [ids_snoc, ← HN1.out]; rfl)
  rw [hids] at hs
  generalize hN : (((tw ++ _ : List Tw).length : Nat) : Int) = N
  have HR := Lib.hid ((HS4.out.al _).fin HO3.out hs hk hN.symm)
  clear hs hk hN HS4
  go_wp2_with fail
  go_ret
  exact HR.out

end Go.Proofs.Ythgpepkcjjimlaa
