/- parser.variable, first. -/
import Derived.Test.YthgpepkcjjimlaaParM
namespace Go.Proofs.Ythgpepkcjjimlaa
open Go.RowKit

theorem tws_last {w : World} {X : List Nat} {t : Tw} : ∀ {tw : List Tw} {xs : List Value}, Tws w X (tw ++ [t]) xs → ∃ kv ys, xs = ys ++ twCells t kv ∧ ys.length = tw.length * 6
  | [], xs, ⟨kv, ys, e, _, h2⟩ => by
    have h3 : ys = [] := h2
    subst h3
    exact ⟨kv, [], by simpa using e, rfl⟩
  | _ :: _, xs, ⟨kv, ys, e, _, h2⟩ => by
    obtain ⟨kv', zs, h3, h4⟩ := tws_last h2
    exact ⟨kv', twCells _ kv ++ zs, by rw [e, h3, List.append_assoc], by rw [List.length_append, h4]; simp [twCells]; omega⟩
/-- The kind of the twig that was added last. -/
theorem PS.last {w : World} {C : Cx} {k m : Nat} {v : Value} {tw : List Tw} {t : Tw} (h : PS w C k m v (tw ++ [t])) : ∃ g cap, v = .slice (some ⟨g, 0, none⟩) (tw.length + 1) cap ∧ w.cell? ⟨g, tw.length * 6, none⟩ = some (.int .i64 t.kind) := by
  obtain ⟨xs, ho, ht⟩ := h.own
  obtain ⟨g, cap, hv, _, _, hc⟩ := own_some ho (by simp)
  obtain ⟨kv, ys, e, hl⟩ := tws_last ht
  refine ⟨g, cap, by simpa using hv, hc _ _ ?_⟩
  rw [e, ← hl, List.getElem?_append_right (Nat.le_refl _)]
  simp [twCells]

set_option maxRecDepth 100000 in
set_option maxHeartbeats 2000000 in
theorem variable_w (n : Nat) (HTI : Hid (Ct 84 n .tight)) (C : Cx) (w : World) (k m : Nat) (v : Value) (tw : List Tw) (h : PS w C k m v tw) (hnd : P (n + 1) .var (C.T.drop k) m ≠ .dry) :
    Calls Try.prog 81 #[C.ptr] w (Ret C w k m v tw (P (n + 1) .var (C.T.drop k) m)) := by
  have HS0 := Lib.hid (St.start h)
  clear h
  generalize ho : P (n + 1) .var (C.T.drop k) m = o at hnd ⊢
  have HND := Lib.hid hnd
  clear hnd
  rw [P] at ho
  have HO0 := Lib.hid ho
  clear ho
  go_enter Try.func81, Try.ntmps81
  go_wp2_with fail
  have hnd : P n .tight (C.T.drop k) m ≠ .dry := fun hdry => by have h1 := HO0.out; rw [hdry] at h1; exact HND.out h1.symm
  refine (HTI.out C _ _ _ _ _ HS0.out.ps hnd).mono ?_
  rintro e w1 hr
  rcases hP : P n .tight (C.T.drop k) m with _ | ⟨er, r⟩ | ⟨d1, f1, r⟩
  · exact absurd hP hnd
  · rw [hP] at hr
    have ho' := HO0.out
    rw [hP] at ho'
    have HB := Lib.hid (HS0.out.bad' (m0 := m) ho' hr)
    obtain ⟨rfl, _⟩ := hr
    clear hnd hP ho'
    go_wp2_with fail
    exact ⟨rfl, HB.out⟩
  rw [hP] at hr
  obtain ⟨j1, v1, rfl, rfl, hs⟩ := HS0.out.sub hr
  have ho' := HO0.out
  rw [hP] at ho'
  dsimp only [Out.and] at ho'
  have HO1 := Lib.hid ho'
  have HS1 := Lib.hid hs
  generalize hN : ((tw.length + _ + f1.size : Nat) : Int) = N1
  have HN1 := Lib.hid hN
  clear hs hr hN hnd hP ho' HS0 
  have hps : PS w1 C j1 m v1 ((tw ++ f1.post tw.length) ++ [d1.tw (f1.ids tw.length)]) := by have h1 := HS1.out.ps; rw [show Fo.nil.app (one d1 f1) = one d1 f1 from rfl, one_post, ← List.append_assoc] at h1; exact h1
  obtain ⟨gg, cap, hv, hkd⟩ := hps.last
  obtain ⟨_, _, _, c3⟩ := hps.cells
  have hpl : C.p < w1.heap.size := hps.lt
  rw [hv] at c3
  have hln : (tw ++ f1.post tw.length).length = tw.length + f1.size := by rw [List.length_append, Fo.post_len]
  rw [hln] at c3 hkd
  have hbd : tw.length + f1.size + 1 ≤ 2000001 := by have h1 := hps.few; have h2 := hps.kle; have h3 := hps.big; simp only [List.length_append, Fo.post_len, List.length_singleton] at h1; omega
  have hNe : N1 = ((tw.length + f1.size : Nat) : Int) := by rw [← HN1.out]; rfl
  have HNE := Lib.hid hNe
  rw [hNe]
  generalize tw.length + f1.size = nn at c3 hkd hbd hln HNE ⊢
  have hkd' : w1.cell? ⟨gg, nn * 6, none⟩ = some (.int .i64 d1.kind) := hkd
  have hKC : (isVarK d1.kind = true ∧ ((d1.kind == 29) = true ∨ ((d1.kind == 29) = false ∧ (d1.kind == 30) = true) ∨ ((d1.kind == 29) = false ∧ (d1.kind == 30) = false ∧ (d1.kind == 31) = true))) ∨ (isVarK d1.kind = false ∧ (d1.kind == 29) = false ∧ (d1.kind == 30) = false ∧ (d1.kind == 31) = false) := by unfold isVarK; cases h1 : (d1.kind == 29) <;> cases h2 : (d1.kind == 30) <;> cases h3 : (d1.kind == 31) <;> simp
  have HKC := Lib.hid hKC
  clear hps hv hln hNe hkd hKC
  unfold Cx.ptr
  rcases HKC.out with ⟨e0, e1 | ⟨e1, e2⟩ | ⟨e1, e2, e3⟩⟩ | ⟨e0, e1, e2, e3⟩
  · have ho' := HO1.out
    simp only [e0, if_true] at ho'
    have HR := Lib.hid (St.same (d := d1) (kf := f1) HS1.out ho' (x := (nn : Int)) (by rw [← HNE.out, ← HN1.out]; rfl))
    clear ho' e0 HKC HNE
    go_wp2_with fail
    go_ret
    exact HR.out
  · have ho' := HO1.out
    simp only [e0, if_true] at ho'
    have HR := Lib.hid (St.same (d := d1) (kf := f1) HS1.out ho' (x := (nn : Int)) (by rw [← HNE.out, ← HN1.out]; rfl))
    clear ho' e0 HKC HNE
    go_wp2_with fail
    go_ret
    exact HR.out
  · have ho' := HO1.out
    simp only [e0, if_true] at ho'
    have HR := Lib.hid (St.same (d := d1) (kf := f1) HS1.out ho' (x := (nn : Int)) (by rw [← HNE.out, ← HN1.out]; rfl))
    clear ho' e0 HKC HNE
    go_wp2_with fail
    go_ret
    exact HR.out
  · have ho' := HO1.out
    simp only [e0, Bool.false_eq_true, if_false] at ho'
    have HO8 := Lib.hid ho'
    clear ho' e0 HKC HNE
    go_wp2_with fail
    refine (refuse_ok C _ _ _ _ _ 4 HS1.out.ps).mono ?_
    rintro e w' ⟨rfl, hb⟩
    have HB := Lib.hid (HS1.out.bad (m0 := m) HO8.out (KpB.of hb))
    clear hb
    go_wp2_with fail
    exact ⟨rfl, HB.out⟩

theorem variable_ok (n : Nat) (HTI : Hid (Ct 84 n .tight)) : Ct 81 (n + 1) .var := fun C w k m v tw h hnd => variable_w n HTI C w k m v tw h hnd

set_option maxRecDepth 100000 in
set_option maxHeartbeats 2000000 in
theorem first_num (n : Nat) (C : Cx) (w : World) (k m : Nat) (v : Value) (tw : List Tw) (h : PS w C k m v tw) (h1 : ((hd (C.T.drop k)).kind == 3) = true) (hnd : P (n + 1) .first (C.T.drop k) m ≠ .dry) :
    Calls Try.prog 87 #[C.ptr] w (Ret C w k m v tw (P (n + 1) .first (C.T.drop k) m)) := by
  have HS0 := Lib.hid (St.start h)
  clear h
  generalize ho : P (n + 1) .first (C.T.drop k) m = o at hnd ⊢
  have HND := Lib.hid hnd
  clear hnd
  rw [P] at ho
  simp only [h1, if_true, tail_drop'] at ho
  have hlt : k < C.T.length := sees_lt (x := 3) (by decide) h1
  have HO0 := Lib.hid ho
  clear ho
  have hfd := field0
  go_enter Try.func87, Try.ntmps87
  go_wp2_with fail
  refine (next_ok C _ _ _ _ _ HS0.out.ps).mono ?_
  rintro e w1 ⟨rfl, hb⟩
  have HS1 := Lib.hid (HS0.out.below hb)
  clear hb HS0
  unfold tokV
  go_wp2_with fail
  refine (take_ok C _ _ _ _ _ HS1.out.ps (hlt)).mono ?_
  rintro e w2 ⟨rfl, hs, hk⟩
  have HS2 := Lib.hid (HS1.out.took hs hk)
  clear hs hk HS1 
  unfold tokV
  go_wp2_with fail
  refine (add_ok C _ _ _ _ _ (hd (C.T.drop k)) 26 [] (hd (C.T.drop k)).n _ [] (HS2.out.var (w2.heap.size) (by simp) (.cells #[.int .i64 (hd (C.T.drop k)).kind, .string ⟨(hd (C.T.drop k)).text.toArray⟩, .int .i64 (hd (C.T.drop k)).n, .int .i64 (hd (C.T.drop k)).line, .int .i64 (hd (C.T.drop k)).col] 38)).ps (ints_nil _) HS2.out.room).mono ?_
  rintro e w3 ⟨rfl, v', hs, hk⟩
  generalize hN : (((tw ++ _ : List Tw).length : Nat) : Int) = N
  have HR := Lib.hid ((HS2.out.var (w2.heap.size) (by simp) (.cells #[.int .i64 (hd (C.T.drop k)).kind, .string ⟨(hd (C.T.drop k)).text.toArray⟩, .int .i64 (hd (C.T.drop k)).n, .int .i64 (hd (C.T.drop k)).line, .int .i64 (hd (C.T.drop k)).col] 38)).fin HO0.out hs hk hN.symm)
  clear hs hk hN HS2
  go_wp2_with fail
  go_ret
  exact HR.out

set_option maxRecDepth 100000 in
set_option maxHeartbeats 2000000 in
theorem first_null (n : Nat) (C : Cx) (w : World) (k m : Nat) (v : Value) (tw : List Tw) (h : PS w C k m v tw) (h1 : ((hd (C.T.drop k)).kind == 3) = false) (h2 : seesW (C.T.drop k) [[110, 117, 108, 108]] = true) (hnd : P (n + 1) .first (C.T.drop k) m ≠ .dry) :
    Calls Try.prog 87 #[C.ptr] w (Ret C w k m v tw (P (n + 1) .first (C.T.drop k) m)) := by
  have HS0 := Lib.hid (St.start h)
  clear h
  generalize ho : P (n + 1) .first (C.T.drop k) m = o at hnd ⊢
  have HND := Lib.hid hnd
  clear hnd
  rw [P] at ho
  simp only [h1, h2, Bool.false_eq_true, if_false, if_true, tail_drop'] at ho
  have hlt : k < C.T.length := sees_lt (x := 2) (by decide) (seesK_kind h2)
  have H2 := Lib.hid h2
  clear h2
  have HO0 := Lib.hid ho
  clear ho
  have hfd := field0
  go_enter Try.func87, Try.ntmps87
  go_wp2_with fail
  refine (next_ok C _ _ _ _ _ HS0.out.ps).mono ?_
  rintro e w1 ⟨rfl, hb⟩
  have HS1 := Lib.hid (HS0.out.below hb)
  clear hb HS0
  unfold tokV
  go_wp2_with fail
  refine (seesWord_is C _ _ _ _ _ [[110, 117, 108, 108]] _ _ _ true HS1.out.ps (by simp) rfl rfl (by decide) H2.out).mono ?_
  rintro e w2 ⟨rfl, hb⟩
  have HS2 := Lib.hid (HS1.out.below hb)
  clear hb HS1
  go_wp2_with fail
  refine (take_ok C _ _ _ _ _ HS2.out.ps (hlt)).mono ?_
  rintro e w3 ⟨rfl, hs, hk⟩
  have HS3 := Lib.hid (HS2.out.took hs hk)
  clear hs hk HS2 
  unfold tokV
  go_wp2_with fail
  refine (add_ok C _ _ _ _ _ (hd (C.T.drop k)) 27 [] 0 _ [] HS3.out.ps (ints_nil _) HS3.out.room).mono ?_
  rintro e w4 ⟨rfl, v', hs, hk⟩
  generalize hN : (((tw ++ _ : List Tw).length : Nat) : Int) = N
  have HR := Lib.hid (HS3.out.fin HO0.out hs hk hN.symm)
  clear hs hk hN HS3
  go_wp2_with fail
  go_ret
  exact HR.out

set_option maxRecDepth 100000 in
set_option maxHeartbeats 2000000 in
theorem first_it (n : Nat) (C : Cx) (w : World) (k m : Nat) (v : Value) (tw : List Tw) (h : PS w C k m v tw) (h1 : ((hd (C.T.drop k)).kind == 3) = false) (h2 : seesW (C.T.drop k) [[110, 117, 108, 108]] = false) (h3 : seesW (C.T.drop k) [[105, 116]] = true) (hnd : P (n + 1) .first (C.T.drop k) m ≠ .dry) :
    Calls Try.prog 87 #[C.ptr] w (Ret C w k m v tw (P (n + 1) .first (C.T.drop k) m)) := by
  have HS0 := Lib.hid (St.start h)
  clear h
  generalize ho : P (n + 1) .first (C.T.drop k) m = o at hnd ⊢
  have HND := Lib.hid hnd
  clear hnd
  rw [P] at ho
  simp only [h1, h2, h3, Bool.false_eq_true, if_false, if_true, tail_drop'] at ho
  have hlt : k < C.T.length := sees_lt (x := 2) (by decide) (seesK_kind h3)
  have H2 := Lib.hid h2
  clear h2
  have H3 := Lib.hid h3
  clear h3
  have HO0 := Lib.hid ho
  clear ho
  have hfd := field0
  go_enter Try.func87, Try.ntmps87
  go_wp2_with fail
  refine (next_ok C _ _ _ _ _ HS0.out.ps).mono ?_
  rintro e w1 ⟨rfl, hb⟩
  have HS1 := Lib.hid (HS0.out.below hb)
  clear hb HS0
  unfold tokV
  go_wp2_with fail
  refine (seesWord_is C _ _ _ _ _ [[110, 117, 108, 108]] _ _ _ false HS1.out.ps (by simp) rfl rfl (by decide) H2.out).mono ?_
  rintro e w2 ⟨rfl, hb⟩
  have HS2 := Lib.hid (HS1.out.below hb)
  clear hb HS1
  go_wp2_with fail
  refine (seesWord_is C _ _ _ _ _ [[105, 116]] _ _ _ true HS2.out.ps (by simp) rfl rfl (by decide) H3.out).mono ?_
  rintro e w3 ⟨rfl, hb⟩
  have HS3 := Lib.hid (HS2.out.below hb)
  clear hb HS2
  go_wp2_with fail
  refine (take_ok C _ _ _ _ _ HS3.out.ps (hlt)).mono ?_
  rintro e w4 ⟨rfl, hs, hk⟩
  have HS4 := Lib.hid (HS3.out.took hs hk)
  clear hs hk HS3 
  unfold tokV
  go_wp2_with fail
  refine (add_ok C _ _ _ _ _ (hd (C.T.drop k)) 28 [] 0 _ [] HS4.out.ps (ints_nil _) HS4.out.room).mono ?_
  rintro e w5 ⟨rfl, v', hs, hk⟩
  generalize hN : (((tw ++ _ : List Tw).length : Nat) : Int) = N
  have HR := Lib.hid (HS4.out.fin HO0.out hs hk hN.symm)
  clear hs hk hN HS4
  go_wp2_with fail
  go_ret
  exact HR.out

set_option maxRecDepth 100000 in
set_option maxHeartbeats 2000000 in
theorem first_new (n : Nat) (C : Cx) (w : World) (k m : Nat) (v : Value) (tw : List Tw) (h : PS w C k m v tw) (h1 : ((hd (C.T.drop k)).kind == 3) = false) (h2 : seesW (C.T.drop k) [[110, 117, 108, 108]] = false) (h3 : seesW (C.T.drop k) [[105, 116]] = false) (h4 : seesW (C.T.drop k) [[110, 101, 119]] = true) (hnd : P (n + 1) .first (C.T.drop k) m ≠ .dry) :
    Calls Try.prog 87 #[C.ptr] w (Ret C w k m v tw (P (n + 1) .first (C.T.drop k) m)) := by
  have HS0 := Lib.hid (St.start h)
  clear h
  generalize ho : P (n + 1) .first (C.T.drop k) m = o at hnd ⊢
  have HND := Lib.hid hnd
  clear hnd
  rw [P] at ho
  simp only [h1, h2, h3, h4, Bool.false_eq_true, if_false, if_true, tail_drop'] at ho
  have hlt : k < C.T.length := sees_lt (x := 2) (by decide) (seesK_kind h4)
  have H2 := Lib.hid h2
  clear h2
  have H3 := Lib.hid h3
  clear h3
  have H4 := Lib.hid h4
  clear h4
  have HO0 := Lib.hid ho
  clear ho
  have hfd := field0
  go_enter Try.func87, Try.ntmps87
  go_wp2_with fail
  refine (next_ok C _ _ _ _ _ HS0.out.ps).mono ?_
  rintro e w1 ⟨rfl, hb⟩
  have HS1 := Lib.hid (HS0.out.below hb)
  clear hb HS0
  unfold tokV
  go_wp2_with fail
  refine (seesWord_is C _ _ _ _ _ [[110, 117, 108, 108]] _ _ _ false HS1.out.ps (by simp) rfl rfl (by decide) H2.out).mono ?_
  rintro e w2 ⟨rfl, hb⟩
  have HS2 := Lib.hid (HS1.out.below hb)
  clear hb HS1
  go_wp2_with fail
  refine (seesWord_is C _ _ _ _ _ [[105, 116]] _ _ _ false HS2.out.ps (by simp) rfl rfl (by decide) H3.out).mono ?_
  rintro e w3 ⟨rfl, hb⟩
  have HS3 := Lib.hid (HS2.out.below hb)
  clear hb HS2
  go_wp2_with fail
  refine (seesWord_is C _ _ _ _ _ [[110, 101, 119]] _ _ _ true HS3.out.ps (by simp) rfl rfl (by decide) H4.out).mono ?_
  rintro e w4 ⟨rfl, hb⟩
  have HS4 := Lib.hid (HS3.out.below hb)
  clear hb HS3
  go_wp2_with fail
  refine (take_ok C _ _ _ _ _ HS4.out.ps (hlt)).mono ?_
  rintro e w5 ⟨rfl, hs, hk⟩
  have HS5 := Lib.hid (HS4.out.took hs hk)
  clear hs hk HS4 
  unfold tokV
  go_wp2_with fail
  cases hx : ((hd (C.T.drop (k + 1))).kind == 1)
  · have ho' := HO0.out
    rw [tkK_no hx] at ho'
    refine (takeName_no C _ _ _ _ _ HS5.out.ps hx).mono ?_
    rintro e w' ⟨rfl, hb⟩
    have HB := Lib.hid (HS5.out.bad (m0 := m) ho' hb)
    clear hb ho' hx
    go_wp2_with fail
    exact ⟨rfl, HB.out⟩
  have ho' := HO0.out
  rw [tkK_yes hx, tail_drop'] at ho'
  have HO1 := Lib.hid ho'
  refine (takeName_yes C _ _ _ _ _ HS5.out.ps hx).mono ?_
  rintro e w6 ⟨rfl, hs, hk⟩
  have HS6 := Lib.hid (HS5.out.took hs hk)
  clear hs hk HS5 ho' hx
  unfold tokV
  go_wp2_with fail
  refine (add_ok C _ _ _ _ _ (hd (C.T.drop k)) 33 (hd (C.T.drop (k + 1))).text 0 _ [] ((HS6.out.var (w6.heap.size) (by simp) (.cells #[.int .i64 (hd (C.T.drop k)).kind, .string ⟨(hd (C.T.drop k)).text.toArray⟩, .int .i64 (hd (C.T.drop k)).n, .int .i64 (hd (C.T.drop k)).line, .int .i64 (hd (C.T.drop k)).col] 38)).var (w6.heap.size + 1) (by simp) (.cells #[.int .i64 (hd (C.T.drop (k + 1))).kind, .string ⟨(hd (C.T.drop (k + 1))).text.toArray⟩, .int .i64 (hd (C.T.drop (k + 1))).n, .int .i64 (hd (C.T.drop (k + 1))).line, .int .i64 (hd (C.T.drop (k + 1))).col] 38)).ps (ints_nil _) HS6.out.room).mono ?_
  rintro e w7 ⟨rfl, v', hs, hk⟩
  generalize hN : (((tw ++ _ : List Tw).length : Nat) : Int) = N
  have HR := Lib.hid (((HS6.out.var (w6.heap.size) (by simp) (.cells #[.int .i64 (hd (C.T.drop k)).kind, .string ⟨(hd (C.T.drop k)).text.toArray⟩, .int .i64 (hd (C.T.drop k)).n, .int .i64 (hd (C.T.drop k)).line, .int .i64 (hd (C.T.drop k)).col] 38)).var (w6.heap.size + 1) (by simp) (.cells #[.int .i64 (hd (C.T.drop (k + 1))).kind, .string ⟨(hd (C.T.drop (k + 1))).text.toArray⟩, .int .i64 (hd (C.T.drop (k + 1))).n, .int .i64 (hd (C.T.drop (k + 1))).line, .int .i64 (hd (C.T.drop (k + 1))).col] 38)).fin HO1.out hs hk hN.symm)
  clear hs hk hN HS6
  go_wp2_with fail
  go_ret
  exact HR.out

set_option maxRecDepth 100000 in
set_option maxHeartbeats 2000000 in
theorem first_fn (n : Nat) (HBLK : Hid (Ct 47 n .block)) (C : Cx) (w : World) (k m : Nat) (v : Value) (tw : List Tw) (h : PS w C k m v tw) (h1 : ((hd (C.T.drop k)).kind == 3) = false) (h2 : seesW (C.T.drop k) [[110, 117, 108, 108]] = false) (h3 : seesW (C.T.drop k) [[105, 116]] = false) (h4 : seesW (C.T.drop k) [[110, 101, 119]] = false) (h5 : seesW (C.T.drop k) [[102, 110]] = true) (hnd : P (n + 1) .first (C.T.drop k) m ≠ .dry) :
    Calls Try.prog 87 #[C.ptr] w (Ret C w k m v tw (P (n + 1) .first (C.T.drop k) m)) := by
  have HS0 := Lib.hid (St.start h)
  clear h
  generalize ho : P (n + 1) .first (C.T.drop k) m = o at hnd ⊢
  have HND := Lib.hid hnd
  clear hnd
  rw [P] at ho
  simp only [h1, h2, h3, h4, h5, Bool.false_eq_true, if_false, if_true, tail_drop'] at ho
  have hlt : k < C.T.length := sees_lt (x := 2) (by decide) (seesK_kind h5)
  have H2 := Lib.hid h2
  clear h2
  have H3 := Lib.hid h3
  clear h3
  have H4 := Lib.hid h4
  clear h4
  have H5 := Lib.hid h5
  clear h5
  have HO0 := Lib.hid ho
  clear ho
  have hfd := field0
  go_enter Try.func87, Try.ntmps87
  go_wp2_with fail
  refine (next_ok C _ _ _ _ _ HS0.out.ps).mono ?_
  rintro e w1 ⟨rfl, hb⟩
  have HS1 := Lib.hid (HS0.out.below hb)
  clear hb HS0
  unfold tokV
  go_wp2_with fail
  refine (seesWord_is C _ _ _ _ _ [[110, 117, 108, 108]] _ _ _ false HS1.out.ps (by simp) rfl rfl (by decide) H2.out).mono ?_
  rintro e w2 ⟨rfl, hb⟩
  have HS2 := Lib.hid (HS1.out.below hb)
  clear hb HS1
  go_wp2_with fail
  refine (seesWord_is C _ _ _ _ _ [[105, 116]] _ _ _ false HS2.out.ps (by simp) rfl rfl (by decide) H3.out).mono ?_
  rintro e w3 ⟨rfl, hb⟩
  have HS3 := Lib.hid (HS2.out.below hb)
  clear hb HS2
  go_wp2_with fail
  refine (seesWord_is C _ _ _ _ _ [[110, 101, 119]] _ _ _ false HS3.out.ps (by simp) rfl rfl (by decide) H4.out).mono ?_
  rintro e w4 ⟨rfl, hb⟩
  have HS4 := Lib.hid (HS3.out.below hb)
  clear hb HS3
  go_wp2_with fail
  refine (seesWord_is C _ _ _ _ _ [[102, 110]] _ _ _ true HS4.out.ps (by simp) rfl rfl (by decide) H5.out).mono ?_
  rintro e w5 ⟨rfl, hb⟩
  have HS5 := Lib.hid (HS4.out.below hb)
  clear hb HS4
  go_wp2_with fail
  refine (take_ok C _ _ _ _ _ HS5.out.ps (hlt)).mono ?_
  rintro e w6 ⟨rfl, hs, hk⟩
  have HS6 := Lib.hid (HS5.out.took hs hk)
  clear hs hk HS5 
  unfold tokV
  go_wp2_with fail
  have HSD := Lib.hid ((HS6.out.var (w6.heap.size) (by simp) (.cells #[.int .i64 (hd (C.T.drop k)).kind, .string ⟨(hd (C.T.drop k)).text.toArray⟩, .int .i64 (hd (C.T.drop k)).n, .int .i64 (hd (C.T.drop k)).line, .int .i64 (hd (C.T.drop k)).col] 38)).drew)
  have hnd : P n .block (C.T.drop (k + 1)) m ≠ .dry := fun hdry => by have h1 := HO0.out; rw [hdry] at h1; exact HND.out h1.symm
  rcases hP : P n .block (C.T.drop (k + 1)) m with _ | ⟨er, r⟩ | ⟨d1, f1, r⟩
  · exact absurd hP hnd
  · have ho' := HO0.out
    rw [hP] at ho'
    have HP := Lib.hid hP
    have HO' := Lib.hid ho'
    have HD := Lib.hid hnd
    clear hP ho' hnd
    go_region_with (first | (go_at_call 47; refine (HBLK.out C _ _ _ _ _ HSD.out.ps HD.out).mono ?_; rintro e w9 hr; rw [HP.out] at hr; have HB := Lib.hid (HSD.out.bad' (m0 := m) HO'.out hr); obtain ⟨rfl, _⟩ := hr; go_simp; suffices _hz : wpAny Try.prog .any #[] (fun _ _ _ => True) 0 #[] ⟨#[], []⟩ w9 from ⟨rfl, HB.out⟩))
    all_goals trivial
  have ho' := HO0.out
  rw [hP] at ho'
  dsimp only [Out.and] at ho'
  have HP := Lib.hid hP
  have HO' := Lib.hid ho'
  have HD := Lib.hid hnd
  clear hP ho' hnd
  go_region_held3 (fun w' => w'.cell? ⟨w6.heap.size, 0, none⟩ = some (.int .i64 (hd (C.T.drop k)).kind) ∧ w'.cell? ⟨w6.heap.size, 1, none⟩ = some (.string ⟨(hd (C.T.drop k)).text.toArray⟩) ∧ w'.cell? ⟨w6.heap.size, 2, none⟩ = some (.int .i64 (hd (C.T.drop k)).n) ∧ w'.cell? ⟨w6.heap.size, 3, none⟩ = some (.int .i64 (hd (C.T.drop k)).line) ∧ w'.cell? ⟨w6.heap.size, 4, none⟩ = some (.int .i64 (hd (C.T.drop k)).col)) (first | go_keep | (obtain ⟨qa0, qa1, qa2, qa3, qa4, _⟩ := tok5 (HS9.out.loc _ (.head _)).is; exact ⟨qa0, qa1, qa2, qa3, qa4⟩) | (obtain ⟨qa0, qa1, qa2, qa3, qa4, _⟩ := tok5 (HL.out _ (.head _)).is; exact ⟨qa0, qa1, qa2, qa3, qa4⟩)) (first | (go_at_call 47; refine (HBLK.out C _ _ _ _ _ HSD.out.ps HD.out).mono ?_; rintro e w9 hr; rw [HP.out] at hr; obtain ⟨j1, v1, rfl, rfl, hs⟩ := HSD.out.sub hr; have HS9 := Lib.hid hs; generalize hN : ((tw.length + _ + f1.size : Nat) : Int) = N1; have HN1 := Lib.hid hN; clear hs hr hN) | (go_at_call 30; refine (add_ok C _ _ _ _ _ (hd (C.T.drop k)) 36 [] 0 _ _ (HS9.out.al _).ps (ints_new w9 HS9.out.ps.xlt [N1] #[.int .i64 N1] rfl w9.heap.size 1 rfl rfl) HS9.out.room).mono ?_; rintro e w10 ⟨rfl, v', hs, hk⟩; have HL := Lib.hid (fun x hx => ((HS9.out.al _).loc x hx).keep hk); generalize hN2 : (((tw ++ _ : List Tw).length : Nat) : Int) = N; have hids : [N1] = (Fo.nil.app (one d1 f1)).ids tw.length := (by rw [ids_snoc, ← HN1.out]; rfl); rw [hids] at hs; have HR := Lib.hid ((HS9.out.al _).fin HO'.out hs hk hN2.symm); clear hs hk hN2 hids))
  go_wp2_with fail
  go_ret
  exact HR.out

set_option maxRecDepth 100000 in
set_option maxHeartbeats 2000000 in
theorem first_par (n : Nat) (HTERM : Hid (Ct 78 n .term)) (C : Cx) (w : World) (k m : Nat) (v : Value) (tw : List Tw) (h : PS w C k m v tw) (h1 : ((hd (C.T.drop k)).kind == 3) = false) (h2 : seesW (C.T.drop k) [[110, 117, 108, 108]] = false) (h3 : seesW (C.T.drop k) [[105, 116]] = false) (h4 : seesW (C.T.drop k) [[110, 101, 119]] = false) (h5 : seesW (C.T.drop k) [[102, 110]] = false) (h6 : seesM (C.T.drop k) [[40]] = true) (hnd : P (n + 1) .first (C.T.drop k) m ≠ .dry) :
    Calls Try.prog 87 #[C.ptr] w (Ret C w k m v tw (P (n + 1) .first (C.T.drop k) m)) := by
  have HS0 := Lib.hid (St.start h)
  clear h
  generalize ho : P (n + 1) .first (C.T.drop k) m = o at hnd ⊢
  have HND := Lib.hid hnd
  clear hnd
  rw [P] at ho
  simp only [h1, h2, h3, h4, h5, h6, Bool.false_eq_true, if_false, if_true] at ho
  have hlt : k < C.T.length := sees_lt (x := 4) (by decide) (seesK_kind h6)
  have H2 := Lib.hid h2
  clear h2
  have H3 := Lib.hid h3
  clear h3
  have H4 := Lib.hid h4
  clear h4
  have H5 := Lib.hid h5
  clear h5
  have H6 := Lib.hid h6
  clear h6
  have HO0 := Lib.hid ho
  clear ho
  have hfd := field0
  go_enter Try.func87, Try.ntmps87
  go_wp2_with fail
  refine (next_ok C _ _ _ _ _ HS0.out.ps).mono ?_
  rintro e w1 ⟨rfl, hb⟩
  have HS1 := Lib.hid (HS0.out.below hb)
  clear hb HS0
  unfold tokV
  go_wp2_with fail
  refine (seesWord_is C _ _ _ _ _ [[110, 117, 108, 108]] _ _ _ false HS1.out.ps (by simp) rfl rfl (by decide) H2.out).mono ?_
  rintro e w2 ⟨rfl, hb⟩
  have HS2 := Lib.hid (HS1.out.below hb)
  clear hb HS1
  go_wp2_with fail
  refine (seesWord_is C _ _ _ _ _ [[105, 116]] _ _ _ false HS2.out.ps (by simp) rfl rfl (by decide) H3.out).mono ?_
  rintro e w3 ⟨rfl, hb⟩
  have HS3 := Lib.hid (HS2.out.below hb)
  clear hb HS2
  go_wp2_with fail
  refine (seesWord_is C _ _ _ _ _ [[110, 101, 119]] _ _ _ false HS3.out.ps (by simp) rfl rfl (by decide) H4.out).mono ?_
  rintro e w4 ⟨rfl, hb⟩
  have HS4 := Lib.hid (HS3.out.below hb)
  clear hb HS3
  go_wp2_with fail
  refine (seesWord_is C _ _ _ _ _ [[102, 110]] _ _ _ false HS4.out.ps (by simp) rfl rfl (by decide) H5.out).mono ?_
  rintro e w5 ⟨rfl, hb⟩
  have HS5 := Lib.hid (HS4.out.below hb)
  clear hb HS4
  go_wp2_with fail
  refine (seesMark_is C _ _ _ _ _ [[40]] _ _ _ true HS5.out.ps (by simp) rfl rfl (by decide) H6.out).mono ?_
  rintro e w6 ⟨rfl, hb⟩
  have HS6 := Lib.hid (HS5.out.below hb)
  clear hb HS5
  go_wp2_with fail
  by_cases hm : m = 64
  · have ho' := HO0.out
    rw [ent_no hm] at ho'
    subst hm
    refine (enter_bad C _ _ _ _ HS6.out.ps).mono ?_
    rintro e w' ⟨rfl, hb⟩
    have HB := Lib.hid (HS6.out.bad (m0 := 64) ho' hb)
    clear hb ho'
    go_wp2_with fail
    exact ⟨rfl, HB.out⟩
  have ho' := HO0.out
  rw [ent_yes hm, tail_drop'] at ho'
  have HO1 := Lib.hid ho'
  have hm' : m < 64 := by have := HS6.out.ps.nest; omega
  refine (enter_ok C _ _ _ _ _ HS6.out.ps hlt hm').mono ?_
  rintro e w7 ⟨rfl, hs, hk⟩
  have HS7 := Lib.hid (HS6.out.took hs hk)
  clear hs hk HS6 ho'
  unfold tokV
  go_wp2_with fail
  have hnd : P n .term (C.T.drop (k + 1)) (m + 1) ≠ .dry := fun hdry => by have h1 := HO1.out; rw [hdry] at h1; exact HND.out h1.symm
  refine (HTERM.out C _ _ _ _ _ HS7.out.ps hnd).mono ?_
  rintro e w8 hr
  rcases hP : P n .term (C.T.drop (k + 1)) (m + 1) with _ | ⟨er, r⟩ | ⟨d1, f1, r⟩
  · exact absurd hP hnd
  · rw [hP] at hr
    have ho' := HO1.out
    rw [hP] at ho'
    have HB := Lib.hid (HS7.out.bad' (m0 := m) ho' hr)
    obtain ⟨rfl, _⟩ := hr
    clear hnd hP ho'
    go_wp2_with fail
    exact ⟨rfl, HB.out⟩
  rw [hP] at hr
  obtain ⟨j1, v1, rfl, rfl, hs⟩ := HS7.out.sub hr
  have ho' := HO1.out
  rw [hP] at ho'
  dsimp only [Out.and] at ho'
  have HO2 := Lib.hid ho'
  have HS8 := Lib.hid hs
  generalize hN : ((tw.length + _ + f1.size : Nat) : Int) = N1
  have HN1 := Lib.hid hN
  clear hs hr hN hnd hP ho' HS7 
  go_wp2_with fail
  cases hx : seesM (C.T.drop j1) [[41]]
  · have ho' := HO2.out
    rw [tkM_no hx] at ho'
    refine (takeMark_new_no C _ _ _ _ _ [[41]] _ _ _ HS8.out.ps (by simp) rfl rfl (by decide) hx).mono ?_
    rintro e w' ⟨rfl, hb⟩
    have HB := Lib.hid (HS8.out.bad (m0 := m) ho' hb)
    clear hb ho' hx
    go_wp2_with fail
    exact ⟨rfl, HB.out⟩
  have ho' := HO2.out
  rw [tkM_yes hx, tail_drop'] at ho'
  have HO3 := Lib.hid ho'
  refine (takeMark_new_yes C _ _ _ _ _ [[41]] _ _ _ HS8.out.ps (by simp) rfl rfl (by decide) hx).mono ?_
  rintro e w9 ⟨rfl, hs, hk⟩
  have HS9 := Lib.hid (HS8.out.took hs hk)
  clear hs hk HS8 ho' hx
  unfold tokV
  go_wp2_with fail
  refine (leave_ok C _ _ _ _ _ HS9.out.ps).mono ?_
  rintro e w10 ⟨rfl, hs, hk⟩
  have HS10 := Lib.hid (HS9.out.left hs hk)
  clear hs hk HS9
  have HR := Lib.hid (St.same (d := d1) (kf := f1) HS10.out HO3.out (x := N1) (by rw [← HN1.out]; rfl))
  go_wp2_with fail
  go_ret
  exact HR.out

set_option maxRecDepth 100000 in
set_option maxHeartbeats 2000000 in
theorem first_use (n : Nat) (C : Cx) (w : World) (k m : Nat) (v : Value) (tw : List Tw) (h : PS w C k m v tw) (h1 : ((hd (C.T.drop k)).kind == 3) = false) (h2 : seesW (C.T.drop k) [[110, 117, 108, 108]] = false) (h3 : seesW (C.T.drop k) [[105, 116]] = false) (h4 : seesW (C.T.drop k) [[110, 101, 119]] = false) (h5 : seesW (C.T.drop k) [[102, 110]] = false) (h6 : seesM (C.T.drop k) [[40]] = false) (hnd : P (n + 1) .first (C.T.drop k) m ≠ .dry) :
    Calls Try.prog 87 #[C.ptr] w (Ret C w k m v tw (P (n + 1) .first (C.T.drop k) m)) := by
  have HS0 := Lib.hid (St.start h)
  clear h
  generalize ho : P (n + 1) .first (C.T.drop k) m = o at hnd ⊢
  have HND := Lib.hid hnd
  clear hnd
  rw [P] at ho
  simp only [h1, h2, h3, h4, h5, h6, Bool.false_eq_true, if_false] at ho
  have H2 := Lib.hid h2
  clear h2
  have H3 := Lib.hid h3
  clear h3
  have H4 := Lib.hid h4
  clear h4
  have H5 := Lib.hid h5
  clear h5
  have H6 := Lib.hid h6
  clear h6
  have HO0 := Lib.hid ho
  clear ho
  have hfd := field0
  go_enter Try.func87, Try.ntmps87
  go_wp2_with fail
  refine (next_ok C _ _ _ _ _ HS0.out.ps).mono ?_
  rintro e w1 ⟨rfl, hb⟩
  have HS1 := Lib.hid (HS0.out.below hb)
  clear hb HS0
  unfold tokV
  go_wp2_with fail
  refine (seesWord_is C _ _ _ _ _ [[110, 117, 108, 108]] _ _ _ false HS1.out.ps (by simp) rfl rfl (by decide) H2.out).mono ?_
  rintro e w2 ⟨rfl, hb⟩
  have HS2 := Lib.hid (HS1.out.below hb)
  clear hb HS1
  go_wp2_with fail
  refine (seesWord_is C _ _ _ _ _ [[105, 116]] _ _ _ false HS2.out.ps (by simp) rfl rfl (by decide) H3.out).mono ?_
  rintro e w3 ⟨rfl, hb⟩
  have HS3 := Lib.hid (HS2.out.below hb)
  clear hb HS2
  go_wp2_with fail
  refine (seesWord_is C _ _ _ _ _ [[110, 101, 119]] _ _ _ false HS3.out.ps (by simp) rfl rfl (by decide) H4.out).mono ?_
  rintro e w4 ⟨rfl, hb⟩
  have HS4 := Lib.hid (HS3.out.below hb)
  clear hb HS3
  go_wp2_with fail
  refine (seesWord_is C _ _ _ _ _ [[102, 110]] _ _ _ false HS4.out.ps (by simp) rfl rfl (by decide) H5.out).mono ?_
  rintro e w5 ⟨rfl, hb⟩
  have HS5 := Lib.hid (HS4.out.below hb)
  clear hb HS4
  go_wp2_with fail
  refine (seesMark_is C _ _ _ _ _ [[40]] _ _ _ false HS5.out.ps (by simp) rfl rfl (by decide) H6.out).mono ?_
  rintro e w6 ⟨rfl, hb⟩
  have HS6 := Lib.hid (HS5.out.below hb)
  clear hb HS5
  go_wp2_with fail
  have hnd : useO (C.T.drop k) ≠ .dry := fun hdry => by have h1 := HO0.out; rw [hdry] at h1; exact HND.out h1.symm
  refine (useC.out C _ _ _ _ _ HS6.out.ps0 hnd).mono ?_
  rintro e w9 hr
  have h0 := HO0.out
  rw [h0] at hr
  have HR := Lib.hid (HS6.out.from hr)
  clear HS6 h0 hnd
  cases o with
  | dry => exact absurd rfl HND.out
  | bad er r => (obtain ⟨rfl, _⟩ := hr; go_wp2_with fail; exact ⟨rfl, HR.out⟩)
  | ok d f r => (obtain ⟨j, v', _, rfl, _⟩ := hr; generalize ((tw.length + f.size : Nat) : Int) = N at HR ⊢; go_wp2_with fail; go_ret; exact HR.out)

theorem first_ok (n : Nat) (HBLK : Hid (Ct 47 n .block)) (HTERM : Hid (Ct 78 n .term)) : Ct 87 (n + 1) .first := fun C w k m v tw h hnd => by
  cases h1 : ((hd (C.T.drop k)).kind == 3)
  · cases h2 : seesW (C.T.drop k) [[110, 117, 108, 108]]
    · cases h3 : seesW (C.T.drop k) [[105, 116]]
      · cases h4 : seesW (C.T.drop k) [[110, 101, 119]]
        · cases h5 : seesW (C.T.drop k) [[102, 110]]
          · cases h6 : seesM (C.T.drop k) [[40]]
            · exact first_use n C w k m v tw h h1 h2 h3 h4 h5 h6 hnd
            · exact first_par n HTERM C w k m v tw h h1 h2 h3 h4 h5 h6 hnd
          · exact first_fn n HBLK C w k m v tw h h1 h2 h3 h4 h5 hnd
        · exact first_new n C w k m v tw h h1 h2 h3 h4 hnd
      · exact first_it n C w k m v tw h h1 h2 h3 hnd
    · exact first_null n C w k m v tw h h1 h2 hnd
  · exact first_num n C w k m v tw h h1 hnd

end Go.Proofs.Ythgpepkcjjimlaa
