/- parser.variable, first; parser.tight. -/
import Derived.Test.YtehdljcmeimbcaaGreatB13
namespace Go.Proofs.YtehdljcmeimbcaaGreat
open Go.RowKit

theorem tws_last {w : World} {X : List Nat} {t : Tw} : ∀ {tw : List Tw} {xs : List Value}, Tws w X (tw ++ [t]) xs → ∃ kv ys, xs = ys ++ twCells t kv ∧ ys.length = tw.length * 6
  | [], xs, ⟨kv, ys, e, _, h2⟩ => by
    have h3 : ys = [] := h2
    subst h3
    exact ⟨kv, [], by simpa using e, rfl⟩
  | _ :: _, xs, ⟨kv, ys, e, _, h2⟩ => by
    obtain ⟨kv', zs, h3, h4⟩ := tws_last h2
    exact ⟨kv', twCells _ kv ++ zs, by rw [e, h3, List.append_assoc], by rw [List.length_append, h4]; simp [twCells]; omega⟩
/-- The kind of the twig that was added last. -/
theorem PS.last {w : World} {C : Cx} {k m : Nat} {v : Value} {tw : List Tw} {t : Tw} (h : PS w C k m v (tw ++ [t])) : ∃ g cap, v = .slice (some ⟨g, 0, none⟩) (tw.length + 1) cap ∧ w.cell? ⟨g, tw.length * 6, none⟩ = some (.int .i64 t.kind) := by
  obtain ⟨xs, ho, ht⟩ := h.own
  obtain ⟨g, cap, hv, _, _, hc⟩ := own_some ho (by simp)
  obtain ⟨kv, ys, e, hl⟩ := tws_last ht
  refine ⟨g, cap, by simpa using hv, hc _ _ ?_⟩
  rw [e, ← hl, List.getElem?_append_right (Nat.le_refl _)]
  simp [twCells]

set_option maxRecDepth 100000 in
set_option maxHeartbeats 2000000 in
theorem variable_w (n : Nat) (HTI : Hid (Ct 139 n .tight)) (C : Cx) (w : World) (k m : Nat) (v : Value) (tw : List Tw) (h : PS w C k m v tw) (hnd : P (n + 1) .var (C.T.drop k) m ≠ .dry) :
    Calls Tryz.prog 133 #[C.ptr] w (Ret C w k m v tw (P (n + 1) .var (C.T.drop k) m)) := by
  have HS0 := Lib.hid (St.start h)
  clear h
  generalize ho : P (n + 1) .var (C.T.drop k) m = o at hnd ⊢
  have HND := Lib.hid hnd
  clear hnd
  rw [P] at ho
  have HO0 := Lib.hid ho
  clear ho
  go_enter Tryz.func133, Tryz.ntmps133
  go_wp2_with fail
  have hnd : P n .tight (C.T.drop k) m ≠ .dry := fun hdry => by have h1 := HO0.out; rw [hdry] at h1; exact HND.out h1.symm
  refine (HTI.out C _ _ _ _ _ HS0.out.ps hnd).mono ?_
  rintro e w1 hr
  rcases hP : P n .tight (C.T.drop k) m with _ | ⟨er, r⟩ | ⟨d1, f1, r⟩
  · exact absurd hP hnd
  · rw [hP] at hr
    have ho' := HO0.out
    rw [hP] at ho'
    have HB := Lib.hid (HS0.out.bad' (m0 := m) ho' hr)
    obtain ⟨rfl, _⟩ := hr
    clear hnd hP ho'
    go_wp2_with fail
    exact ⟨rfl, HB.out⟩
  rw [hP] at hr
  obtain ⟨j1, v1, rfl, rfl, hs⟩ := HS0.out.sub hr
  have ho' := HO0.out
  rw [hP] at ho'
  dsimp only [Out.and] at ho'
  have HO1 := Lib.hid ho'
  have HS1 := Lib.hid hs
  generalize hN : ((tw.length + _ + f1.size : Nat) : Int) = N1
  have HN1 := Lib.hid hN
  clear hs hr hN hnd hP ho' HS0 
  have hps : PS w1 C j1 m v1 ((tw ++ f1.post tw.length) ++ [d1.tw (f1.ids tw.length)]) := by have h1 := HS1.out.ps; rw [show Fo.nil.app (one d1 f1) = one d1 f1 from rfl, one_post, ← List.append_assoc] at h1; exact h1
  obtain ⟨gg, cap, hv, hkd⟩ := hps.last
  obtain ⟨_, _, _, c3⟩ := hps.cells
  have hpl : C.p < w1.heap.size := hps.lt
  rw [hv] at c3
  have hln : (tw ++ f1.post tw.length).length = tw.length + f1.size := by rw [List.length_append, Fo.post_len]
  rw [hln] at c3 hkd
  have hbd : tw.length + f1.size + 1 ≤ 2000001 := by have h1 := hps.few; have h2 := hps.kle; have h3 := hps.big; simp only [List.length_append, Fo.post_len, List.length_singleton] at h1; omega
  have hNe : N1 = ((tw.length + f1.size : Nat) : Int) := by rw [← HN1.out]; rfl
  have HNE := Lib.hid hNe
  rw [hNe]
  generalize tw.length + f1.size = nn at c3 hkd hbd hln HNE ⊢
  have hkd' : w1.cell? ⟨gg, nn * 6, none⟩ = some (.int .i64 d1.kind) := hkd
  have hKC : (isVarK d1.kind = true ∧ ((d1.kind == 29) = true ∨ ((d1.kind == 29) = false ∧ (d1.kind == 30) = true) ∨ ((d1.kind == 29) = false ∧ (d1.kind == 30) = false ∧ (d1.kind == 31) = true))) ∨ (isVarK d1.kind = false ∧ (d1.kind == 29) = false ∧ (d1.kind == 30) = false ∧ (d1.kind == 31) = false) := by unfold isVarK; cases h1 : (d1.kind == 29) <;> cases h2 : (d1.kind == 30) <;> cases h3 : (d1.kind == 31) <;> simp
  have HKC := Lib.hid hKC
  clear hps hv hln hNe hkd hKC
  unfold Cx.ptr
  rcases HKC.out with ⟨e0, e1 | ⟨e1, e2⟩ | ⟨e1, e2, e3⟩⟩ | ⟨e0, e1, e2, e3⟩
  · have ho' := HO1.out
    simp only [e0, if_true] at ho'
    have HR := Lib.hid (St.same (d := d1) (kf := f1) HS1.out ho' (x := (nn : Int)) (by rw [← HNE.out, ← HN1.out]; rfl))
    clear ho' e0 HKC HNE
    go_wp2_with fail
    go_ret
    exact HR.out
  · have ho' := HO1.out
    simp only [e0, if_true] at ho'
    have HR := Lib.hid (St.same (d := d1) (kf := f1) HS1.out ho' (x := (nn : Int)) (by rw [← HNE.out, ← HN1.out]; rfl))
    clear ho' e0 HKC HNE
    go_wp2_with fail
    go_ret
    exact HR.out
  · have ho' := HO1.out
    simp only [e0, if_true] at ho'
    have HR := Lib.hid (St.same (d := d1) (kf := f1) HS1.out ho' (x := (nn : Int)) (by rw [← HNE.out, ← HN1.out]; rfl))
    clear ho' e0 HKC HNE
    go_wp2_with fail
    go_ret
    exact HR.out
  · have ho' := HO1.out
    simp only [e0, Bool.false_eq_true, if_false] at ho'
    have HO8 := Lib.hid ho'
    clear ho' e0 HKC HNE
    go_wp2_with fail
    refine (refuse_ok C _ _ _ _ _ 4 HS1.out.ps).mono ?_
    rintro e w' ⟨rfl, hb⟩
    have HB := Lib.hid (HS1.out.bad (m0 := m) HO8.out (KpB.of hb))
    clear hb
    go_wp2_with fail
    exact ⟨rfl, HB.out⟩

theorem variable_ok (n : Nat) (HTI : Hid (Ct 139 n .tight)) : Ct 133 (n + 1) .var := fun C w k m v tw h hnd => variable_w n HTI C w k m v tw h hnd

set_option maxRecDepth 100000 in
set_option maxHeartbeats 2000000 in
theorem first_num (n : Nat) (C : Cx) (w : World) (k m : Nat) (v : Value) (tw : List Tw) (h : PS w C k m v tw) (h1 : ((hd (C.T.drop k)).kind == 3) = true) (hnd : P (n + 1) .first (C.T.drop k) m ≠ .dry) :
    Calls Tryz.prog 144 #[C.ptr] w (Ret C w k m v tw (P (n + 1) .first (C.T.drop k) m)) := by
  have HS0 := Lib.hid (St.start h)
  clear h
  generalize ho : P (n + 1) .first (C.T.drop k) m = o at hnd ⊢
  have HND := Lib.hid hnd
  clear hnd
  rw [P] at ho
  simp only [h1, if_true, tail_drop'] at ho
  have hlt : k < C.T.length := sees_lt (x := 3) (by decide) h1
  have HO0 := Lib.hid ho
  clear ho
  have hfd := field0
  go_enter Tryz.func144, Tryz.ntmps144
  go_wp2_with fail
  refine (next_ok C _ _ _ _ _ HS0.out.ps).mono ?_
  rintro e w1 ⟨rfl, hb⟩
  have HS1 := Lib.hid (HS0.out.below hb)
  clear hb HS0
  unfold tokV
  go_wp2_with fail
  refine (take_ok C _ _ _ _ _ HS1.out.ps (hlt)).mono ?_
  rintro e w2 ⟨rfl, hs, hk⟩
  have HS2 := Lib.hid (HS1.out.took hs hk)
  clear hs hk HS1 
  unfold tokV
  go_wp2_with fail
  refine (add_ok C _ _ _ _ _ (hd (C.T.drop k)) 26 [] (hd (C.T.drop k)).n _ [] (HS2.out.var (w2.heap.size) (by simp) (.cells #[.int .i64 (hd (C.T.drop k)).kind, .string ⟨(hd (C.T.drop k)).text.toArray⟩, .int .i64 (hd (C.T.drop k)).n, .int .i64 (hd (C.T.drop k)).line, .int .i64 (hd (C.T.drop k)).col] 61)).ps (ints_nil _) HS2.out.room).mono ?_
  rintro e w3 ⟨rfl, v', hs, hk⟩
  generalize hN : (((tw ++ _ : List Tw).length : Nat) : Int) = N
  have HR := Lib.hid ((HS2.out.var (w2.heap.size) (by simp) (.cells #[.int .i64 (hd (C.T.drop k)).kind, .string ⟨(hd (C.T.drop k)).text.toArray⟩, .int .i64 (hd (C.T.drop k)).n, .int .i64 (hd (C.T.drop k)).line, .int .i64 (hd (C.T.drop k)).col] 61)).fin HO0.out hs hk hN.symm)
  clear hs hk hN HS2
  go_wp2_with fail
  go_ret
  exact HR.out

set_option maxRecDepth 100000 in
set_option maxHeartbeats 2000000 in
theorem first_null (n : Nat) (C : Cx) (w : World) (k m : Nat) (v : Value) (tw : List Tw) (h : PS w C k m v tw) (h1 : ((hd (C.T.drop k)).kind == 3) = false) (h2 : seesW (C.T.drop k) [[110, 117, 108, 108]] = true) (hnd : P (n + 1) .first (C.T.drop k) m ≠ .dry) :
    Calls Tryz.prog 144 #[C.ptr] w (Ret C w k m v tw (P (n + 1) .first (C.T.drop k) m)) := by
  have HS0 := Lib.hid (St.start h)
  clear h
  generalize ho : P (n + 1) .first (C.T.drop k) m = o at hnd ⊢
  have HND := Lib.hid hnd
  clear hnd
  rw [P] at ho
  simp only [h1, h2, Bool.false_eq_true, if_false, if_true, tail_drop'] at ho
  have hlt : k < C.T.length := sees_lt (x := 2) (by decide) (seesK_kind h2)
  have H2 := Lib.hid h2
  clear h2
  have HO0 := Lib.hid ho
  clear ho
  have hfd := field0
  go_enter Tryz.func144, Tryz.ntmps144
  go_wp2_with fail
  refine (next_ok C _ _ _ _ _ HS0.out.ps).mono ?_
  rintro e w1 ⟨rfl, hb⟩
  have HS1 := Lib.hid (HS0.out.below hb)
  clear hb HS0
  unfold tokV
  go_wp2_with fail
  refine (seesWord_is C _ _ _ _ _ [[110, 117, 108, 108]] _ _ _ true HS1.out.ps (by simp) rfl rfl (by decide) H2.out).mono ?_
  rintro e w2 ⟨rfl, hb⟩
  have HS2 := Lib.hid (HS1.out.below hb)
  clear hb HS1
  go_wp2_with fail
  refine (take_ok C _ _ _ _ _ HS2.out.ps (hlt)).mono ?_
  rintro e w3 ⟨rfl, hs, hk⟩
  have HS3 := Lib.hid (HS2.out.took hs hk)
  clear hs hk HS2 
  unfold tokV
  go_wp2_with fail
  refine (add_ok C _ _ _ _ _ (hd (C.T.drop k)) 27 [] 0 _ [] HS3.out.ps (ints_nil _) HS3.out.room).mono ?_
  rintro e w4 ⟨rfl, v', hs, hk⟩
  generalize hN : (((tw ++ _ : List Tw).length : Nat) : Int) = N
  have HR := Lib.hid (HS3.out.fin HO0.out hs hk hN.symm)
  clear hs hk hN HS3
  go_wp2_with fail
  go_ret
  exact HR.out

set_option maxRecDepth 100000 in
set_option maxHeartbeats 2000000 in
theorem first_it (n : Nat) (C : Cx) (w : World) (k m : Nat) (v : Value) (tw : List Tw) (h : PS w C k m v tw) (h1 : ((hd (C.T.drop k)).kind == 3) = false) (h2 : seesW (C.T.drop k) [[110, 117, 108, 108]] = false) (h3 : seesW (C.T.drop k) [[105, 116]] = true) (hnd : P (n + 1) .first (C.T.drop k) m ≠ .dry) :
    Calls Tryz.prog 144 #[C.ptr] w (Ret C w k m v tw (P (n + 1) .first (C.T.drop k) m)) := by
  have HS0 := Lib.hid (St.start h)
  clear h
  generalize ho : P (n + 1) .first (C.T.drop k) m = o at hnd ⊢
  have HND := Lib.hid hnd
  clear hnd
  rw [P] at ho
  simp only [h1, h2, h3, Bool.false_eq_true, if_false, if_true, tail_drop'] at ho
  have hlt : k < C.T.length := sees_lt (x := 2) (by decide) (seesK_kind h3)
  have H2 := Lib.hid h2
  clear h2
  have H3 := Lib.hid h3
  clear h3
  have HO0 := Lib.hid ho
  clear ho
  have hfd := field0
  go_enter Tryz.func144, Tryz.ntmps144
  go_wp2_with fail
  refine (next_ok C _ _ _ _ _ HS0.out.ps).mono ?_
  rintro e w1 ⟨rfl, hb⟩
  have HS1 := Lib.hid (HS0.out.below hb)
  clear hb HS0
  unfold tokV
  go_wp2_with fail
  refine (seesWord_is C _ _ _ _ _ [[110, 117, 108, 108]] _ _ _ false HS1.out.ps (by simp) rfl rfl (by decide) H2.out).mono ?_
  rintro e w2 ⟨rfl, hb⟩
  have HS2 := Lib.hid (HS1.out.below hb)
  clear hb HS1
  go_wp2_with fail
  refine (seesWord_is C _ _ _ _ _ [[105, 116]] _ _ _ true HS2.out.ps (by simp) rfl rfl (by decide) H3.out).mono ?_
  rintro e w3 ⟨rfl, hb⟩
  have HS3 := Lib.hid (HS2.out.below hb)
  clear hb HS2
  go_wp2_with fail
  refine (take_ok C _ _ _ _ _ HS3.out.ps (hlt)).mono ?_
  rintro e w4 ⟨rfl, hs, hk⟩
  have HS4 := Lib.hid (HS3.out.took hs hk)
  clear hs hk HS3 
  unfold tokV
  go_wp2_with fail
  refine (add_ok C _ _ _ _ _ (hd (C.T.drop k)) 28 [] 0 _ [] HS4.out.ps (ints_nil _) HS4.out.room).mono ?_
  rintro e w5 ⟨rfl, v', hs, hk⟩
  generalize hN : (((tw ++ _ : List Tw).length : Nat) : Int) = N
  have HR := Lib.hid (HS4.out.fin HO0.out hs hk hN.symm)
  clear hs hk hN HS4
  go_wp2_with fail
  go_ret
  exact HR.out

set_option maxRecDepth 100000 in
set_option maxHeartbeats 2000000 in
theorem first_new (n : Nat) (C : Cx) (w : World) (k m : Nat) (v : Value) (tw : List Tw) (h : PS w C k m v tw) (h1 : ((hd (C.T.drop k)).kind == 3) = false) (h2 : seesW (C.T.drop k) [[110, 117, 108, 108]] = false) (h3 : seesW (C.T.drop k) [[105, 116]] = false) (h4 : seesW (C.T.drop k) [[110, 101, 119]] = true) (hnd : P (n + 1) .first (C.T.drop k) m ≠ .dry) :
    Calls Tryz.prog 144 #[C.ptr] w (Ret C w k m v tw (P (n + 1) .first (C.T.drop k) m)) := by
  have HS0 := Lib.hid (St.start h)
  clear h
  generalize ho : P (n + 1) .first (C.T.drop k) m = o at hnd ⊢
  have HND := Lib.hid hnd
  clear hnd
  rw [P] at ho
  simp only [h1, h2, h3, h4, Bool.false_eq_true, if_false, if_true, tail_drop'] at ho
  have hlt : k < C.T.length := sees_lt (x := 2) (by decide) (seesK_kind h4)
  have H2 := Lib.hid h2
  clear h2
  have H3 := Lib.hid h3
  clear h3
  have H4 := Lib.hid h4
  clear h4
  have HO0 := Lib.hid ho
  clear ho
  have hfd := field0
  go_enter Tryz.func144, Tryz.ntmps144
  go_wp2_with fail
  refine (next_ok C _ _ _ _ _ HS0.out.ps).mono ?_
  rintro e w1 ⟨rfl, hb⟩
  have HS1 := Lib.hid (HS0.out.below hb)
  clear hb HS0
  unfold tokV
  go_wp2_with fail
  refine (seesWord_is C _ _ _ _ _ [[110, 117, 108, 108]] _ _ _ false HS1.out.ps (by simp) rfl rfl (by decide) H2.out).mono ?_
  rintro e w2 ⟨rfl, hb⟩
  have HS2 := Lib.hid (HS1.out.below hb)
  clear hb HS1
  go_wp2_with fail
  refine (seesWord_is C _ _ _ _ _ [[105, 116]] _ _ _ false HS2.out.ps (by simp) rfl rfl (by decide) H3.out).mono ?_
  rintro e w3 ⟨rfl, hb⟩
  have HS3 := Lib.hid (HS2.out.below hb)
  clear hb HS2
  go_wp2_with fail
  refine (seesWord_is C _ _ _ _ _ [[110, 101, 119]] _ _ _ true HS3.out.ps (by simp) rfl rfl (by decide) H4.out).mono ?_
  rintro e w4 ⟨rfl, hb⟩
  have HS4 := Lib.hid (HS3.out.below hb)
  clear hb HS3
  go_wp2_with fail
  refine (take_ok C _ _ _ _ _ HS4.out.ps (hlt)).mono ?_
  rintro e w5 ⟨rfl, hs, hk⟩
  have HS5 := Lib.hid (HS4.out.took hs hk)
  clear hs hk HS4 
  unfold tokV
  go_wp2_with fail
  cases hx : ((hd (C.T.drop (k + 1))).kind == 1)
  · have ho' := HO0.out
    rw [tkK_no hx] at ho'
    refine (takeName_no C _ _ _ _ _ HS5.out.ps hx).mono ?_
    rintro e w' ⟨rfl, hb⟩
    have HB := Lib.hid (HS5.out.bad (m0 := m) ho' hb)
    clear hb ho' hx
    go_wp2_with fail
    exact ⟨rfl, HB.out⟩
  have ho' := HO0.out
  rw [tkK_yes hx, tail_drop'] at ho'
  have HO1 := Lib.hid ho'
  refine (takeName_yes C _ _ _ _ _ HS5.out.ps hx).mono ?_
  rintro e w6 ⟨rfl, hs, hk⟩
  have HS6 := Lib.hid (HS5.out.took hs hk)
  clear hs hk HS5 ho' hx
  unfold tokV
  go_wp2_with fail
  refine (add_ok C _ _ _ _ _ (hd (C.T.drop k)) 33 (hd (C.T.drop (k + 1))).text 0 _ [] ((HS6.out.var (w6.heap.size) (by simp) (.cells #[.int .i64 (hd (C.T.drop k)).kind, .string ⟨(hd (C.T.drop k)).text.toArray⟩, .int .i64 (hd (C.T.drop k)).n, .int .i64 (hd (C.T.drop k)).line, .int .i64 (hd (C.T.drop k)).col] 61)).var (w6.heap.size + 1) (by simp) (.cells #[.int .i64 (hd (C.T.drop (k + 1))).kind, .string ⟨(hd (C.T.drop (k + 1))).text.toArray⟩, .int .i64 (hd (C.T.drop (k + 1))).n, .int .i64 (hd (C.T.drop (k + 1))).line, .int .i64 (hd (C.T.drop (k + 1))).col] 61)).ps (ints_nil _) HS6.out.room).mono ?_
  rintro e w7 ⟨rfl, v', hs, hk⟩
  generalize hN : (((tw ++ _ : List Tw).length : Nat) : Int) = N
  have HR := Lib.hid (((HS6.out.var (w6.heap.size) (by simp) (.cells #[.int .i64 (hd (C.T.drop k)).kind, .string ⟨(hd (C.T.drop k)).text.toArray⟩, .int .i64 (hd (C.T.drop k)).n, .int .i64 (hd (C.T.drop k)).line, .int .i64 (hd (C.T.drop k)).col] 61)).var (w6.heap.size + 1) (by simp) (.cells #[.int .i64 (hd (C.T.drop (k + 1))).kind, .string ⟨(hd (C.T.drop (k + 1))).text.toArray⟩, .int .i64 (hd (C.T.drop (k + 1))).n, .int .i64 (hd (C.T.drop (k + 1))).line, .int .i64 (hd (C.T.drop (k + 1))).col] 61)).fin HO1.out hs hk hN.symm)
  clear hs hk hN HS6
  go_wp2_with fail
  go_ret
  exact HR.out

set_option maxRecDepth 100000 in
set_option maxHeartbeats 2000000 in
theorem first_fn (n : Nat) (HBLK : Hid (Ct 94 n .block)) (C : Cx) (w : World) (k m : Nat) (v : Value) (tw : List Tw) (h : PS w C k m v tw) (h1 : ((hd (C.T.drop k)).kind == 3) = false) (h2 : seesW (C.T.drop k) [[110, 117, 108, 108]] = false) (h3 : seesW (C.T.drop k) [[105, 116]] = false) (h4 : seesW (C.T.drop k) [[110, 101, 119]] = false) (h5 : seesW (C.T.drop k) [[102, 110]] = true) (hnd : P (n + 1) .first (C.T.drop k) m ≠ .dry) :
    Calls Tryz.prog 144 #[C.ptr] w (Ret C w k m v tw (P (n + 1) .first (C.T.drop k) m)) := by
  have HS0 := Lib.hid (St.start h)
  clear h
  generalize ho : P (n + 1) .first (C.T.drop k) m = o at hnd ⊢
  have HND := Lib.hid hnd
  clear hnd
  rw [P] at ho
  simp only [h1, h2, h3, h4, h5, Bool.false_eq_true, if_false, if_true, tail_drop'] at ho
  have hlt : k < C.T.length := sees_lt (x := 2) (by decide) (seesK_kind h5)
  have H2 := Lib.hid h2
  clear h2
  have H3 := Lib.hid h3
  clear h3
  have H4 := Lib.hid h4
  clear h4
  have H5 := Lib.hid h5
  clear h5
  have HO0 := Lib.hid ho
  clear ho
  have hfd := field0
  go_enter Tryz.func144, Tryz.ntmps144
  go_wp2_with fail
  refine (next_ok C _ _ _ _ _ HS0.out.ps).mono ?_
  rintro e w1 ⟨rfl, hb⟩
  have HS1 := Lib.hid (HS0.out.below hb)
  clear hb HS0
  unfold tokV
  go_wp2_with fail
  refine (seesWord_is C _ _ _ _ _ [[110, 117, 108, 108]] _ _ _ false HS1.out.ps (by simp) rfl rfl (by decide) H2.out).mono ?_
  rintro e w2 ⟨rfl, hb⟩
  have HS2 := Lib.hid (HS1.out.below hb)
  clear hb HS1
  go_wp2_with fail
  refine (seesWord_is C _ _ _ _ _ [[105, 116]] _ _ _ false HS2.out.ps (by simp) rfl rfl (by decide) H3.out).mono ?_
  rintro e w3 ⟨rfl, hb⟩
  have HS3 := Lib.hid (HS2.out.below hb)
  clear hb HS2
  go_wp2_with fail
  refine (seesWord_is C _ _ _ _ _ [[110, 101, 119]] _ _ _ false HS3.out.ps (by simp) rfl rfl (by decide) H4.out).mono ?_
  rintro e w4 ⟨rfl, hb⟩
  have HS4 := Lib.hid (HS3.out.below hb)
  clear hb HS3
  go_wp2_with fail
  refine (seesWord_is C _ _ _ _ _ [[102, 110]] _ _ _ true HS4.out.ps (by simp) rfl rfl (by decide) H5.out).mono ?_
  rintro e w5 ⟨rfl, hb⟩
  have HS5 := Lib.hid (HS4.out.below hb)
  clear hb HS4
  go_wp2_with fail
  refine (take_ok C _ _ _ _ _ HS5.out.ps (hlt)).mono ?_
  rintro e w6 ⟨rfl, hs, hk⟩
  have HS6 := Lib.hid (HS5.out.took hs hk)
  clear hs hk HS5 
  unfold tokV
  go_wp2_with fail
  have HSD := Lib.hid ((HS6.out.var (w6.heap.size) (by simp) (.cells #[.int .i64 (hd (C.T.drop k)).kind, .string ⟨(hd (C.T.drop k)).text.toArray⟩, .int .i64 (hd (C.T.drop k)).n, .int .i64 (hd (C.T.drop k)).line, .int .i64 (hd (C.T.drop k)).col] 61)).drew)
  have hnd : P n .block (C.T.drop (k + 1)) m ≠ .dry := fun hdry => by have h1 := HO0.out; rw [hdry] at h1; exact HND.out h1.symm
  rcases hP : P n .block (C.T.drop (k + 1)) m with _ | ⟨er, r⟩ | ⟨d1, f1, r⟩
  · exact absurd hP hnd
  · have ho' := HO0.out
    rw [hP] at ho'
    have HP := Lib.hid hP
    have HO' := Lib.hid ho'
    have HD := Lib.hid hnd
    clear hP ho' hnd
    go_region_with (first | (go_at_call 94; refine (HBLK.out C _ _ _ _ _ HSD.out.ps HD.out).mono ?_; rintro e w9 hr; rw [HP.out] at hr; have HB := Lib.hid (HSD.out.bad' (m0 := m) HO'.out hr); obtain ⟨rfl, _⟩ := hr; go_simp; suffices _hz : wpAny Tryz.prog .any #[] (fun _ _ _ => True) 0 #[] ⟨#[], []⟩ w9 from ⟨rfl, HB.out⟩))
    all_goals trivial
  have ho' := HO0.out
  rw [hP] at ho'
  dsimp only [Out.and] at ho'
  have HP := Lib.hid hP
  have HO' := Lib.hid ho'
  have HD := Lib.hid hnd
  clear hP ho' hnd
  go_region_held3 (fun w' => w'.cell? ⟨w6.heap.size, 0, none⟩ = some (.int .i64 (hd (C.T.drop k)).kind) ∧ w'.cell? ⟨w6.heap.size, 1, none⟩ = some (.string ⟨(hd (C.T.drop k)).text.toArray⟩) ∧ w'.cell? ⟨w6.heap.size, 2, none⟩ = some (.int .i64 (hd (C.T.drop k)).n) ∧ w'.cell? ⟨w6.heap.size, 3, none⟩ = some (.int .i64 (hd (C.T.drop k)).line) ∧ w'.cell? ⟨w6.heap.size, 4, none⟩ = some (.int .i64 (hd (C.T.drop k)).col)) (first | go_keep | (obtain ⟨qa0, qa1, qa2, qa3, qa4, _⟩ := tok5 (HS9.out.loc _ (.head _)).is; exact ⟨qa0, qa1, qa2, qa3, qa4⟩) | (obtain ⟨qa0, qa1, qa2, qa3, qa4, _⟩ := tok5 (HL.out _ (.head _)).is; exact ⟨qa0, qa1, qa2, qa3, qa4⟩)) (first | (go_at_call 94; refine (HBLK.out C _ _ _ _ _ HSD.out.ps HD.out).mono ?_; rintro e w9 hr; rw [HP.out] at hr; obtain ⟨j1, v1, rfl, rfl, hs⟩ := HSD.out.sub hr; have HS9 := Lib.hid hs; generalize hN : ((tw.length + _ + f1.size : Nat) : Int) = N1; have HN1 := Lib.hid hN; clear hs hr hN) | (go_at_call 76; refine (add_ok C _ _ _ _ _ (hd (C.T.drop k)) 36 [] 0 _ _ (HS9.out.al _).ps (ints_new w9 HS9.out.ps.xlt [N1] #[.int .i64 N1] rfl w9.heap.size 1 rfl rfl) HS9.out.room).mono ?_; rintro e w10 ⟨rfl, v', hs, hk⟩; have HL := Lib.hid (fun x hx => ((HS9.out.al _).loc x hx).keep hk); generalize hN2 : (((tw ++ _ : List Tw).length : Nat) : Int) = N; have hids : [N1] = (Fo.nil.app (one d1 f1)).ids tw.length := (by rw [ids_snoc, ← HN1.out]; rfl); rw [hids] at hs; have HR := Lib.hid ((HS9.out.al _).fin HO'.out hs hk hN2.symm); clear hs hk hN2 hids))
  go_wp2_with fail
  go_ret
  exact HR.out

set_option maxRecDepth 100000 in
set_option maxHeartbeats 2000000 in
theorem first_par (n : Nat) (HTERM : Hid (Ct 130 n .term)) (C : Cx) (w : World) (k m : Nat) (v : Value) (tw : List Tw) (h : PS w C k m v tw) (h1 : ((hd (C.T.drop k)).kind == 3) = false) (h2 : seesW (C.T.drop k) [[110, 117, 108, 108]] = false) (h3 : seesW (C.T.drop k) [[105, 116]] = false) (h4 : seesW (C.T.drop k) [[110, 101, 119]] = false) (h5 : seesW (C.T.drop k) [[102, 110]] = false) (h6 : seesM (C.T.drop k) [[40]] = true) (hnd : P (n + 1) .first (C.T.drop k) m ≠ .dry) :
    Calls Tryz.prog 144 #[C.ptr] w (Ret C w k m v tw (P (n + 1) .first (C.T.drop k) m)) := by
  have HS0 := Lib.hid (St.start h)
  clear h
  generalize ho : P (n + 1) .first (C.T.drop k) m = o at hnd ⊢
  have HND := Lib.hid hnd
  clear hnd
  rw [P] at ho
  simp only [h1, h2, h3, h4, h5, h6, Bool.false_eq_true, if_false, if_true] at ho
  have hlt : k < C.T.length := sees_lt (x := 4) (by decide) (seesK_kind h6)
  have H2 := Lib.hid h2
  clear h2
  have H3 := Lib.hid h3
  clear h3
  have H4 := Lib.hid h4
  clear h4
  have H5 := Lib.hid h5
  clear h5
  have H6 := Lib.hid h6
  clear h6
  have HO0 := Lib.hid ho
  clear ho
  have hfd := field0
  go_enter Tryz.func144, Tryz.ntmps144
  go_wp2_with fail
  refine (next_ok C _ _ _ _ _ HS0.out.ps).mono ?_
  rintro e w1 ⟨rfl, hb⟩
  have HS1 := Lib.hid (HS0.out.below hb)
  clear hb HS0
  unfold tokV
  go_wp2_with fail
  refine (seesWord_is C _ _ _ _ _ [[110, 117, 108, 108]] _ _ _ false HS1.out.ps (by simp) rfl rfl (by decide) H2.out).mono ?_
  rintro e w2 ⟨rfl, hb⟩
  have HS2 := Lib.hid (HS1.out.below hb)
  clear hb HS1
  go_wp2_with fail
  refine (seesWord_is C _ _ _ _ _ [[105, 116]] _ _ _ false HS2.out.ps (by simp) rfl rfl (by decide) H3.out).mono ?_
  rintro e w3 ⟨rfl, hb⟩
  have HS3 := Lib.hid (HS2.out.below hb)
  clear hb HS2
  go_wp2_with fail
  refine (seesWord_is C _ _ _ _ _ [[110, 101, 119]] _ _ _ false HS3.out.ps (by simp) rfl rfl (by decide) H4.out).mono ?_
  rintro e w4 ⟨rfl, hb⟩
  have HS4 := Lib.hid (HS3.out.below hb)
  clear hb HS3
  go_wp2_with fail
  refine (seesWord_is C _ _ _ _ _ [[102, 110]] _ _ _ false HS4.out.ps (by simp) rfl rfl (by decide) H5.out).mono ?_
  rintro e w5 ⟨rfl, hb⟩
  have HS5 := Lib.hid (HS4.out.below hb)
  clear hb HS4
  go_wp2_with fail
  refine (seesMark_is C _ _ _ _ _ [[40]] _ _ _ true HS5.out.ps (by simp) rfl rfl (by decide) H6.out).mono ?_
  rintro e w6 ⟨rfl, hb⟩
  have HS6 := Lib.hid (HS5.out.below hb)
  clear hb HS5
  go_wp2_with fail
  by_cases hm : m = 64
  · have ho' := HO0.out
    rw [ent_no hm] at ho'
    subst hm
    refine (enter_bad C _ _ _ _ HS6.out.ps).mono ?_
    rintro e w' ⟨rfl, hb⟩
    have HB := Lib.hid (HS6.out.bad (m0 := 64) ho' hb)
    clear hb ho'
    go_wp2_with fail
    exact ⟨rfl, HB.out⟩
  have ho' := HO0.out
  rw [ent_yes hm, tail_drop'] at ho'
  have HO1 := Lib.hid ho'
  have hm' : m < 64 := by have := HS6.out.ps.nest; omega
  refine (enter_ok C _ _ _ _ _ HS6.out.ps hlt hm').mono ?_
  rintro e w7 ⟨rfl, hs, hk⟩
  have HS7 := Lib.hid (HS6.out.took hs hk)
  clear hs hk HS6 ho'
  unfold tokV
  go_wp2_with fail
  have hnd : P n .term (C.T.drop (k + 1)) (m + 1) ≠ .dry := fun hdry => by have h1 := HO1.out; rw [hdry] at h1; exact HND.out h1.symm
  refine (HTERM.out C _ _ _ _ _ HS7.out.ps hnd).mono ?_
  rintro e w8 hr
  rcases hP : P n .term (C.T.drop (k + 1)) (m + 1) with _ | ⟨er, r⟩ | ⟨d1, f1, r⟩
  · exact absurd hP hnd
  · rw [hP] at hr
    have ho' := HO1.out
    rw [hP] at ho'
    have HB := Lib.hid (HS7.out.bad' (m0 := m) ho' hr)
    obtain ⟨rfl, _⟩ := hr
    clear hnd hP ho'
    go_wp2_with fail
    exact ⟨rfl, HB.out⟩
  rw [hP] at hr
  obtain ⟨j1, v1, rfl, rfl, hs⟩ := HS7.out.sub hr
  have ho' := HO1.out
  rw [hP] at ho'
  dsimp only [Out.and] at ho'
  have HO2 := Lib.hid ho'
  have HS8 := Lib.hid hs
  generalize hN : ((tw.length + _ + f1.size : Nat) : Int) = N1
  have HN1 := Lib.hid hN
  clear hs hr hN hnd hP ho' HS7 
  go_wp2_with fail
  cases hx : seesM (C.T.drop j1) [[41]]
  · have ho' := HO2.out
    rw [tkM_no hx] at ho'
    refine (takeMark_new_no C _ _ _ _ _ [[41]] _ _ _ HS8.out.ps (by simp) rfl rfl (by decide) hx).mono ?_
    rintro e w' ⟨rfl, hb⟩
    have HB := Lib.hid (HS8.out.bad (m0 := m) ho' hb)
    clear hb ho' hx
    go_wp2_with fail
    exact ⟨rfl, HB.out⟩
  have ho' := HO2.out
  rw [tkM_yes hx, tail_drop'] at ho'
  have HO3 := Lib.hid ho'
  refine (takeMark_new_yes C _ _ _ _ _ [[41]] _ _ _ HS8.out.ps (by simp) rfl rfl (by decide) hx).mono ?_
  rintro e w9 ⟨rfl, hs, hk⟩
  have HS9 := Lib.hid (HS8.out.took hs hk)
  clear hs hk HS8 ho' hx
  unfold tokV
  go_wp2_with fail
  refine (leave_ok C _ _ _ _ _ HS9.out.ps).mono ?_
  rintro e w10 ⟨rfl, hs, hk⟩
  have HS10 := Lib.hid (HS9.out.left hs hk)
  clear hs hk HS9
  have HR := Lib.hid (St.same (d := d1) (kf := f1) HS10.out HO3.out (x := N1) (by rw [← HN1.out]; rfl))
  go_wp2_with fail
  go_ret
  exact HR.out

set_option maxRecDepth 100000 in
set_option maxHeartbeats 2000000 in
theorem first_use (n : Nat) (C : Cx) (w : World) (k m : Nat) (v : Value) (tw : List Tw) (h : PS w C k m v tw) (h1 : ((hd (C.T.drop k)).kind == 3) = false) (h2 : seesW (C.T.drop k) [[110, 117, 108, 108]] = false) (h3 : seesW (C.T.drop k) [[105, 116]] = false) (h4 : seesW (C.T.drop k) [[110, 101, 119]] = false) (h5 : seesW (C.T.drop k) [[102, 110]] = false) (h6 : seesM (C.T.drop k) [[40]] = false) (hnd : P (n + 1) .first (C.T.drop k) m ≠ .dry) :
    Calls Tryz.prog 144 #[C.ptr] w (Ret C w k m v tw (P (n + 1) .first (C.T.drop k) m)) := by
  have HS0 := Lib.hid (St.start h)
  clear h
  generalize ho : P (n + 1) .first (C.T.drop k) m = o at hnd ⊢
  have HND := Lib.hid hnd
  clear hnd
  rw [P] at ho
  simp only [h1, h2, h3, h4, h5, h6, Bool.false_eq_true, if_false] at ho
  have H2 := Lib.hid h2
  clear h2
  have H3 := Lib.hid h3
  clear h3
  have H4 := Lib.hid h4
  clear h4
  have H5 := Lib.hid h5
  clear h5
  have H6 := Lib.hid h6
  clear h6
  have HO0 := Lib.hid ho
  clear ho
  have hfd := field0
  go_enter Tryz.func144, Tryz.ntmps144
  go_wp2_with fail
  refine (next_ok C _ _ _ _ _ HS0.out.ps).mono ?_
  rintro e w1 ⟨rfl, hb⟩
  have HS1 := Lib.hid (HS0.out.below hb)
  clear hb HS0
  unfold tokV
  go_wp2_with fail
  refine (seesWord_is C _ _ _ _ _ [[110, 117, 108, 108]] _ _ _ false HS1.out.ps (by simp) rfl rfl (by decide) H2.out).mono ?_
  rintro e w2 ⟨rfl, hb⟩
  have HS2 := Lib.hid (HS1.out.below hb)
  clear hb HS1
  go_wp2_with fail
  refine (seesWord_is C _ _ _ _ _ [[105, 116]] _ _ _ false HS2.out.ps (by simp) rfl rfl (by decide) H3.out).mono ?_
  rintro e w3 ⟨rfl, hb⟩
  have HS3 := Lib.hid (HS2.out.below hb)
  clear hb HS2
  go_wp2_with fail
  refine (seesWord_is C _ _ _ _ _ [[110, 101, 119]] _ _ _ false HS3.out.ps (by simp) rfl rfl (by decide) H4.out).mono ?_
  rintro e w4 ⟨rfl, hb⟩
  have HS4 := Lib.hid (HS3.out.below hb)
  clear hb HS3
  go_wp2_with fail
  refine (seesWord_is C _ _ _ _ _ [[102, 110]] _ _ _ false HS4.out.ps (by simp) rfl rfl (by decide) H5.out).mono ?_
  rintro e w5 ⟨rfl, hb⟩
  have HS5 := Lib.hid (HS4.out.below hb)
  clear hb HS4
  go_wp2_with fail
  refine (seesMark_is C _ _ _ _ _ [[40]] _ _ _ false HS5.out.ps (by simp) rfl rfl (by decide) H6.out).mono ?_
  rintro e w6 ⟨rfl, hb⟩
  have HS6 := Lib.hid (HS5.out.below hb)
  clear hb HS5
  go_wp2_with fail
  have hnd : useO (C.T.drop k) ≠ .dry := fun hdry => by have h1 := HO0.out; rw [hdry] at h1; exact HND.out h1.symm
  refine (useC.out C _ _ _ _ _ HS6.out.ps0 hnd).mono ?_
  rintro e w9 hr
  have h0 := HO0.out
  rw [h0] at hr
  have HR := Lib.hid (HS6.out.from hr)
  clear HS6 h0 hnd
  cases o with
  | dry => exact absurd rfl HND.out
  | bad er r => (obtain ⟨rfl, _⟩ := hr; go_wp2_with fail; exact ⟨rfl, HR.out⟩)
  | ok d f r => (obtain ⟨j, v', _, rfl, _⟩ := hr; generalize ((tw.length + f.size : Nat) : Int) = N at HR ⊢; go_wp2_with fail; go_ret; exact HR.out)

theorem first_ok (n : Nat) (HBLK : Hid (Ct 94 n .block)) (HTERM : Hid (Ct 130 n .term)) : Ct 144 (n + 1) .first := fun C w k m v tw h hnd => by
  cases h1 : ((hd (C.T.drop k)).kind == 3)
  · cases h2 : seesW (C.T.drop k) [[110, 117, 108, 108]]
    · cases h3 : seesW (C.T.drop k) [[105, 116]]
      · cases h4 : seesW (C.T.drop k) [[110, 101, 119]]
        · cases h5 : seesW (C.T.drop k) [[102, 110]]
          · cases h6 : seesM (C.T.drop k) [[40]]
            · exact first_use n C w k m v tw h h1 h2 h3 h4 h5 h6 hnd
            · exact first_par n HTERM C w k m v tw h h1 h2 h3 h4 h5 h6 hnd
          · exact first_fn n HBLK C w k m v tw h h1 h2 h3 h4 h5 hnd
        · exact first_new n C w k m v tw h h1 h2 h3 h4 hnd
      · exact first_it n C w k m v tw h h1 h2 h3 hnd
    · exact first_null n C w k m v tw h h1 h2 hnd
  · exact first_num n C w k m v tw h h1 hnd

end Go.Proofs.YtehdljcmeimbcaaGreat

namespace Go.Proofs.YtehdljcmeimbcaaGreat
open Go.RowKit

theorem tok5S {w : World} {g : Nat} {a0 a1 a2 a3 a4 : Value} (h : w.cell? ⟨g, 0, none⟩ = some a0 ∧ w.cell? ⟨g, 1, none⟩ = some a1 ∧ w.cell? ⟨g, 2, none⟩ = some a2 ∧ w.cell? ⟨g, 3, none⟩ = some a3 ∧ w.cell? ⟨g, 4, none⟩ = some a4 ∧ ∀ i, w.frozen? ⟨g, i, none⟩ = false) :
    w.cell? ⟨g, 0, none⟩ = some a0 ∧ w.cell? ⟨g, 1, none⟩ = some a1 ∧ w.cell? ⟨g, 2, none⟩ = some a2 ∧ w.cell? ⟨g, 3, none⟩ = some a3 ∧ w.cell? ⟨g, 4, none⟩ = some a4 := ⟨h.1, h.2.1, h.2.2.1, h.2.2.2.1, h.2.2.2.2.1⟩
theorem introw_loc {C : Cx} {v : Value} {w : World} {b : Nat} {x : Int} {X : List Nat} (h : Loc C v w b (.cells #[.int .i64 x] 3)) (hX : ∀ y ∈ X, y < b) : IntRow w X (.slice (some ⟨b, 0, none⟩) 1 1) [x] :=
  ⟨_, _, rfl, fun _ => ⟨b, _, _, rfl, h.is, fun hm => absurd (hX b hm) (Nat.lt_irrefl _), fun i y hi => by cases i with | zero => (simp at hi; subst hi; rfl) | succ i => (simp at hi)⟩⟩

set_option maxRecDepth 100000 in
set_option maxHeartbeats 2000000 in
theorem tight_w (n : Nat) (HFI : Hid (Ct 144 n .first)) (HTM : Hid (∀ i, i ≤ n → Ct 130 i .term)) (C : Cx) (w : World) (k m : Nat) (v : Value) (tw : List Tw) (h : PS w C k m v tw) (hnd : P (n + 1) .tight (C.T.drop k) m ≠ .dry) :
    Calls Tryz.prog 139 #[C.ptr] w (Ret C w k m v tw (P (n + 1) .tight (C.T.drop k) m)) := by
  have HS0 := Lib.hid (St.start h)
  clear h
  generalize ho : P (n + 1) .tight (C.T.drop k) m = o at hnd ⊢
  have HND := Lib.hid hnd
  clear hnd
  rw [P] at ho
  have HO0 := Lib.hid ho
  clear ho
  have hfd := field1
  go_enter Tryz.func139, Tryz.ntmps139
  go_wp2_with fail
  have hnd : P n .first (C.T.drop k) m ≠ .dry := fun hdry => by have h1 := HO0.out; rw [hdry] at h1; exact HND.out h1.symm
  refine (HFI.out C _ _ _ _ _ HS0.out.ps hnd).mono ?_
  rintro e w1 hr
  rcases hP : P n .first (C.T.drop k) m with _ | ⟨er, r⟩ | ⟨d1, f1, r⟩
  · exact absurd hP hnd
  · rw [hP] at hr
    have ho' := HO0.out
    rw [hP] at ho'
    have HB := Lib.hid (HS0.out.bad' (m0 := m) ho' hr)
    obtain ⟨rfl, _⟩ := hr
    clear hnd hP ho'
    go_wp2_with fail
    exact ⟨rfl, HB.out⟩
  rw [hP] at hr
  obtain ⟨j1, v1, rfl, rfl, hs⟩ := HS0.out.sub hr
  have ho' := HO0.out
  rw [hP] at ho'
  dsimp only [Out.and] at ho'
  have HO1 := Lib.hid ho'
  have HS1 := Lib.hid hs
  generalize hN : ((tw.length + _ + f1.size : Nat) : Int) = N1
  have HN1 := Lib.hid hN
  clear hs hr hN hnd hP ho' HS0 
  go_wp2_with fail
  go_loopg [3] n (fun i v3 wr => ∃ (j : Nat) (vv : Value) (d : Nd) (f : Fo) (q : Nat), i ≤ n ∧ v3 = .int .i64 ((tw.length + f.size : Nat) : Int) ∧ St C w k v tw wr j m vv (one d f) q [] ∧ P i (.tightL d f) (C.T.drop j) m = o)
  case atStart => exact ⟨j1, v1, d1, f1, 0, Nat.le_refl _, by rw [← HN1.out]; rfl, HS1.out, HO1.out⟩
  case round =>
    obtain ⟨j, vv, d, f, q, hin, rfl, hS, hPo⟩ := hrel
    have HS2 := Lib.hid hS
    generalize hN2 : ((tw.length + f.size : Nat) : Int) = N2
    have HN2 := Lib.hid hN2
    have HPO := Lib.hid hPo
    clear hS hN2 hPo HN1 HS1 HO1
    cases gk with
    | zero => exact absurd HPO.out.symm HND.out
    | succ i =>
    cases hx : seesM (C.T.drop j) [[46]]
    · cases hy : seesM (C.T.drop j) [[91]]
      · have hp := HPO.out
        rw [P] at hp
        simp only [hx, hy, Bool.false_eq_true, if_false] at hp
        have HX := Lib.hid hx
        have HY := Lib.hid hy
        have HP1 := Lib.hid hp
        clear hp hx hy HPO
        go_wp2_with fail
        refine (seesMark_is C _ _ _ _ _ [[46]] _ _ _ false HS2.out.ps (by simp) rfl rfl (by decide) HX.out).mono ?_
        rintro e w3 ⟨rfl, hb⟩
        have HS3 := Lib.hid (HS2.out.below hb)
        clear hb HS2
        go_wp2_with fail
        refine (seesMark_is C _ _ _ _ _ [[91]] _ _ _ false HS3.out.ps (by simp) rfl rfl (by decide) HY.out).mono ?_
        rintro e w4 ⟨rfl, hb⟩
        have HS4 := Lib.hid (HS3.out.below hb)
        clear hb HS3
        have HR := Lib.hid (St.same (d := d) (kf := f) HS4.out HP1.out (x := N2) HN2.out.symm)
        go_wp2_with fail
        go_ret
        exact HR.out
      · have hp := HPO.out
        rw [P] at hp
        simp only [hx, hy, Bool.false_eq_true, if_false, if_true] at hp
        have HX := Lib.hid hx
        have HY := Lib.hid hy
        have HP1 := Lib.hid hp
        have hlt : j < C.T.length := sees_lt (x := 4) (by decide) (seesK_kind hy)
        clear hp hx hy HPO
        go_wp2_with fail
        refine (seesMark_is C _ _ _ _ _ [[46]] _ _ _ false HS2.out.ps (by simp) rfl rfl (by decide) HX.out).mono ?_
        rintro e w3 ⟨rfl, hb⟩
        have HS3 := Lib.hid (HS2.out.below hb)
        clear hb HS2
        go_wp2_with fail
        refine (seesMark_is C _ _ _ _ _ [[91]] _ _ _ true HS3.out.ps (by simp) rfl rfl (by decide) HY.out).mono ?_
        rintro e w4 ⟨rfl, hb⟩
        have HS4 := Lib.hid (HS3.out.below hb)
        clear hb HS3
        go_wp2_with fail
        by_cases hm : m = 64
        · have ho' := HP1.out
          rw [ent_no hm] at ho'
          subst hm
          refine (enter_bad C _ _ _ _ HS4.out.ps).mono ?_
          rintro e w' ⟨rfl, hb⟩
          have HB := Lib.hid (HS4.out.bad (m0 := 64) ho' hb)
          clear hb ho'
          go_wp2_with fail
          exact ⟨rfl, HB.out⟩
        have ho' := HP1.out
        rw [ent_yes hm, tail_drop'] at ho'
        have HO6 := Lib.hid ho'
        have hm' : m < 64 := by have := HS4.out.ps.nest; omega
        refine (enter_ok C _ _ _ _ _ HS4.out.ps hlt hm').mono ?_
        rintro e w5 ⟨rfl, hs, hk⟩
        have HS5 := Lib.hid (HS4.out.took hs hk)
        clear hs hk HS4 ho'
        unfold tokV
        go_wp2_with fail
        have HTMI := Lib.hid (HTM.out i (by omega))
        have hnd : P i .term (C.T.drop (j + 1)) (m + 1) ≠ .dry := fun hdry => by have h1 := HO6.out; rw [hdry] at h1; exact HND.out h1.symm
        refine (HTMI.out C _ _ _ _ _ (HS5.out.var (w5.heap.size) (by simp) (.cells #[.int .i64 (hd (C.T.drop j)).kind, .string ⟨(hd (C.T.drop j)).text.toArray⟩, .int .i64 (hd (C.T.drop j)).n, .int .i64 (hd (C.T.drop j)).line, .int .i64 (hd (C.T.drop j)).col] 61)).ps hnd).mono ?_
        rintro e w6 hr
        rcases hP : P i .term (C.T.drop (j + 1)) (m + 1) with _ | ⟨er, r⟩ | ⟨d3, f3, r⟩
        · exact absurd hP hnd
        · rw [hP] at hr
          have ho' := HO6.out
          rw [hP] at ho'
          have HB := Lib.hid ((HS5.out.var (w5.heap.size) (by simp) (.cells #[.int .i64 (hd (C.T.drop j)).kind, .string ⟨(hd (C.T.drop j)).text.toArray⟩, .int .i64 (hd (C.T.drop j)).n, .int .i64 (hd (C.T.drop j)).line, .int .i64 (hd (C.T.drop j)).col] 61)).bad' (m0 := m) ho' hr)
          obtain ⟨rfl, _⟩ := hr
          clear hnd hP ho'
          go_wp2_with fail
          exact ⟨rfl, HB.out⟩
        rw [hP] at hr
        obtain ⟨j3, v3, rfl, rfl, hs⟩ := (HS5.out.var (w5.heap.size) (by simp) (.cells #[.int .i64 (hd (C.T.drop j)).kind, .string ⟨(hd (C.T.drop j)).text.toArray⟩, .int .i64 (hd (C.T.drop j)).n, .int .i64 (hd (C.T.drop j)).line, .int .i64 (hd (C.T.drop j)).col] 61)).sub hr
        have ho' := HO6.out
        rw [hP] at ho'
        dsimp only [Out.and] at ho'
        have HO7 := Lib.hid ho'
        have HS6 := Lib.hid hs
        generalize hN : ((tw.length + _ + f3.size : Nat) : Int) = N3
        have HN3 := Lib.hid hN
        clear hs hr hN hnd hP ho' HS5 
        go_wp2_with fail
        cases hx : seesM (C.T.drop j3) [[93]]
        · have ho' := HO7.out
          rw [tkM_no hx] at ho'
          refine (takeMark_new_no C _ _ _ _ _ [[93]] _ _ _ HS6.out.ps (by simp) rfl rfl (by decide) hx).mono ?_
          rintro e w' ⟨rfl, hb⟩
          have HB := Lib.hid (HS6.out.bad (m0 := m) ho' hb)
          clear hb ho' hx
          go_wp2_with fail
          exact ⟨rfl, HB.out⟩
        have ho' := HO7.out
        rw [tkM_yes hx, tail_drop'] at ho'
        have HO8 := Lib.hid ho'
        refine (takeMark_new_yes C _ _ _ _ _ [[93]] _ _ _ HS6.out.ps (by simp) rfl rfl (by decide) hx).mono ?_
        rintro e w7 ⟨rfl, hs, hk⟩
        have HS7 := Lib.hid (HS6.out.took hs hk)
        clear hs hk HS6 ho' hx
        unfold tokV
        go_wp2_with fail
        refine (leave_ok C _ _ _ _ _ HS7.out.ps).mono ?_
        rintro e w8 ⟨rfl, hs, hk⟩
        have HS8 := Lib.hid (HS7.out.left hs hk)
        clear hs hk HS7
        obtain ⟨a8_0, a8_1, a8_2, a8_3, a8_4, a8_5⟩ := tok5 (HS8.out.loc _ (.head _)).is
        have a8_lt := lt_of_block (HS8.out.loc _ (.head _)).is
        go_wp2_with fail
        refine (add_ok C _ _ _ _ _ (hd (C.T.drop j)) 31 [] 0 _ _ (HS8.out.al _).ps (ints_new _ (fun b hb => HS8.out.ps.xlt b hb) [N2, N3] #[.int .i64 N2, .int .i64 N3] rfl _ _ (by simp) rfl) HS8.out.room).mono ?_
        rintro e w20 ⟨rfl, v'', hs, hk⟩
        have hids : [N2, N3] = ((one d f).app (one d3 f3)).ids tw.length := by rw [ids_snoc, one_ids, ← HN3.out, ← HN2.out]; rfl
        rw [hids] at hs
        have HR := Lib.hid (((HS8.out.al _).addOp (at_ (hd (C.T.drop j)) 31 [] 0) hs hk).forget)
        generalize hNN : (((tw ++ _ : List Tw).length : Nat) : Int) = NN
        have HNN := Lib.hid hNN
        clear hs hk hids hNN HS8
        go_wp2_with fail
        go_roundg i
        case measure => omega
        case rel => exact ⟨_, _, _, _, _, by omega, by rw [← HNN.out, len_post], HR.out, HO8.out⟩
    · have hp := HPO.out
      rw [P] at hp
      simp only [hx, if_true, tail_drop'] at hp
      have HX := Lib.hid hx
      have HP1 := Lib.hid hp
      have hlt : j < C.T.length := sees_lt (x := 4) (by decide) (seesK_kind hx)
      clear hp hx HPO
      go_wp2_with fail
      refine (seesMark_is C _ _ _ _ _ [[46]] _ _ _ true HS2.out.ps (by simp) rfl rfl (by decide) HX.out).mono ?_
      rintro e w3 ⟨rfl, hb⟩
      have HS3 := Lib.hid (HS2.out.below hb)
      clear hb HS2
      go_wp2_with fail
      refine (take_ok C _ _ _ _ _ HS3.out.ps (hlt)).mono ?_
      rintro e w4 ⟨rfl, hs, hk⟩
      have HS4 := Lib.hid (HS3.out.took hs hk)
      clear hs hk HS3 
      unfold tokV
      go_wp2_with fail
      have HSD := Lib.hid ((HS4.out.var (w4.heap.size) (by simp) (.cells #[.int .i64 (hd (C.T.drop j)).kind, .string ⟨(hd (C.T.drop j)).text.toArray⟩, .int .i64 (hd (C.T.drop j)).n, .int .i64 (hd (C.T.drop j)).line, .int .i64 (hd (C.T.drop j)).col] 61)).drew)
      have HSE := Lib.hid (((HS4.out.var (w4.heap.size) (by simp) (.cells #[.int .i64 (hd (C.T.drop j)).kind, .string ⟨(hd (C.T.drop j)).text.toArray⟩, .int .i64 (hd (C.T.drop j)).n, .int .i64 (hd (C.T.drop j)).line, .int .i64 (hd (C.T.drop j)).col] 61)).var (w4.heap.size + 1) (by simp) (.cells #[.int .i64 N2] 3)).drew)
      have HXL := Lib.hid (HS4.out.ps.xlt)
      cases hz : ((hd (C.T.drop (j + 1))).kind == 1)
      · have ho' := HP1.out
        rw [tkK_no hz] at ho'
        have HO' := Lib.hid ho'
        have HZ := Lib.hid hz
        clear ho' hz
        go_region_with (first | (go_at_call 102; ((with_reducible refine (takeName_no C _ _ _ _ _ HSD.out.ps HZ.out).mono ?_); rintro e w9 ⟨rfl, hb⟩; have HB := Lib.hid (HSD.out.bad (m0 := m) HO'.out hb); go_simp; suffices _hz : wpAny Tryz.prog .any #[] (fun _ _ _ => True) 0 #[] ⟨#[], []⟩ w9 from ⟨rfl, HB.out⟩)) | (go_at_call 102; ((with_reducible refine (takeName_no C _ _ _ _ _ HSE.out.ps HZ.out).mono ?_); rintro e w9 ⟨rfl, hb⟩; have HB := Lib.hid (HSE.out.bad (m0 := m) HO'.out hb); go_simp; suffices _hz : wpAny Tryz.prog .any #[] (fun _ _ _ => True) 0 #[] ⟨#[], []⟩ w9 from ⟨rfl, HB.out⟩)))
        all_goals trivial
      have ho' := HP1.out
      rw [tkK_yes hz, tail_drop'] at ho'
      have HO' := Lib.hid ho'
      have HZ := Lib.hid hz
      clear ho' hz
      go_region_held3 (fun w' => w'.cell? ⟨w4.heap.size, 0, none⟩ = some (.int .i64 (hd (C.T.drop j)).kind) ∧ w'.cell? ⟨w4.heap.size, 1, none⟩ = some (.string ⟨(hd (C.T.drop j)).text.toArray⟩) ∧ w'.cell? ⟨w4.heap.size, 2, none⟩ = some (.int .i64 (hd (C.T.drop j)).n) ∧ w'.cell? ⟨w4.heap.size, 3, none⟩ = some (.int .i64 (hd (C.T.drop j)).line) ∧ w'.cell? ⟨w4.heap.size, 4, none⟩ = some (.int .i64 (hd (C.T.drop j)).col)) (first | go_keep | (exact tok5S (tok5 (HS9.out.loc _ (.head _)).is)) | (exact tok5S (tok5 (HL.out _ (.head _)).is)) | (exact tok5S (tok5 (HS8.out.loc _ (.tail _ (.head _))).is)) | (exact tok5S (tok5 (HM.out _ (.tail _ (.head _))).is))) (first | (go_at_call 102; ((with_reducible refine (takeName_yes C _ _ _ _ _ HSD.out.ps HZ.out).mono ?_); rintro e w9 ⟨rfl, hs, hk⟩; have HS9 := Lib.hid (HSD.out.took hs hk); clear hs hk; unfold tokV)) | (go_at_call 102; ((with_reducible refine (takeName_yes C _ _ _ _ _ HSE.out.ps HZ.out).mono ?_); rintro e w9 ⟨rfl, hs, hk⟩; have HS8 := Lib.hid (HSE.out.took hs hk); clear hs hk; unfold tokV)) | (go_at_call 76; refine (add_ok C _ _ _ _ _ (hd (C.T.drop j)) 30 (hd (C.T.drop (j + 1))).text 0 _ _ (HS9.out.al _).ps (ints_new w9 HS9.out.ps.xlt [N2] #[.int .i64 N2] rfl w9.heap.size 1 rfl rfl) HS9.out.room).mono ?_; rintro e w10 ⟨rfl, v', hs, hk⟩; have HL := Lib.hid (fun x hx => ((HS9.out.al _).loc x hx).keep hk); have hids : [N2] = (one d f).ids tw.length := (by rw [one_ids, ← HN2.out]); rw [hids] at hs; have HR := Lib.hid (((HS9.out.al _).addOp (at_ (hd (C.T.drop j)) 30 (hd (C.T.drop (j + 1))).text 0) hs hk).forget); generalize hNN : (((tw ++ _ : List Tw).length : Nat) : Int) = NN; have HNN := Lib.hid hNN; clear hs hk hids hNN) | (go_at_call 76; refine (add_ok C _ _ _ _ _ (hd (C.T.drop j)) 30 (hd (C.T.drop (j + 1))).text 0 _ _ HS8.out.ps (introw_loc (HS8.out.loc _ (.head _)) (fun y hy => Nat.lt_succ_of_lt (HXL.out y hy))) HS8.out.room).mono ?_; rintro e w10 ⟨rfl, v', hs, hk⟩; have HM := Lib.hid (fun x hx => (HS8.out.loc x hx).keep hk); have hids : [N2] = (one d f).ids tw.length := (by rw [one_ids, ← HN2.out]); rw [hids] at hs; have HR := Lib.hid (((HS8.out.addOp (at_ (hd (C.T.drop j)) 30 (hd (C.T.drop (j + 1))).text 0) hs hk).forget).forget); generalize hNN : (((tw ++ _ : List Tw).length : Nat) : Int) = NN; have HNN := Lib.hid hNN; clear hs hk hids hNN))
      all_goals
        go_wp2_with fail
        go_roundg i
        case measure => omega
        case rel => exact ⟨_, _, _, _, _, by omega, by rw [← HNN.out, len_post], HR.out, HO'.out⟩

theorem tight_ok (n : Nat) (HFI : Hid (Ct 144 n .first)) (HTM : Hid (∀ i, i ≤ n → Ct 130 i .term)) : Ct 139 (n + 1) .tight := fun C w k m v tw h hnd => tight_w n HFI HTM C w k m v tw h hnd

end Go.Proofs.YtehdljcmeimbcaaGreat
