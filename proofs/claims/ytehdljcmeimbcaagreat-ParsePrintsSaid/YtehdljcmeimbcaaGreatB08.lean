/- parser.spawn, post. -/
import Derived.Test.YtehdljcmeimbcaaGreatB07
namespace Go.Proofs.YtehdljcmeimbcaaGreat
open Go.RowKit

def CtTo (n : Nat) : Prop := ∀ (C : Cx) (w : World) (k m : Nat) (v : Value) (tw : List Tw) (N : Int) (d : Nd) (acc : Fo), PS w C k m v tw → P n (.to d acc) (C.T.drop k) m ≠ .dry → Calls Tryz.prog 132 #[C.ptr, .int .i64 N] w (RetTo C w k m v tw N d acc (P n (.to d acc) (C.T.drop k) m))
theorem to_ok (n : Nat) (HVAR : Hid (∀ i, i < n → Ct 133 i .var)) : CtTo n := by
  intro C w k m v tw N d acc h hnd
  cases n with
  | zero => exact absurd rfl hnd
  | succ n =>
    cases h1 : seesW (C.T.drop k) [[116, 111]]
    · exact perhapsTo_not n C w k m v tw N d acc h h1
    · exact perhapsTo_is n (Lib.hid (HVAR.out n (by omega))) C w k m v tw N d acc h h1 hnd
theorem St.badTo' {C : Cx} {w0 w : World} {k0 k m : Nat} {v0 v : Value} {tw0 : List Tw} {F : Fo} {q : Nat} {L : List (Nat × Obj)} (h : St C w0 k0 v0 tw0 w k m v F q L) {o : Out} {er N : Int} {r : List Tok} {d : Nd} {acc : Fo} {e : Ending} {w' : World} {m0 : Nat} {tw' : List Tw} (ho : Out.bad er r = o) (hr : RetTo C w k m v tw' N d acc (.bad er r) e w') : Ret C w0 k0 m0 v0 tw0 o e w' := by
  subst ho; exact ⟨hr.1, h.lowB hr.2⟩
theorem St.subTo {C : Cx} {w0 w : World} {k0 k m : Nat} {v0 v : Value} {tw0 : List Tw} {F : Fo} {q : Nat} {L : List (Nat × Obj)} (h : St C w0 k0 v0 tw0 w k m v F q L) {j : Nat} {v' : Value} {H : Fo} {w' : World} (hs : PS w' C j m v' ((tw0 ++ F.post tw0.length) ++ H.post (tw0 ++ F.post tw0.length).length)) (hk : Kp C.p v w v' w') (hz : H.size + 2 * k + 2 ≤ 2 * j) : St C w0 k0 v0 tw0 w' j m v' (F.app H) (q + 2) L :=
  ⟨by rw [Fo.post_app, ← List.append_assoc]; rw [len_post] at hs; exact hs, h.kp.trans hk, by have := h.sz; rw [Fo.size_app]; omega, h.few0, fun x hx => (h.loc x hx).keep hk⟩

set_option maxRecDepth 100000 in
set_option maxHeartbeats 2000000 in
theorem spawn_ok (n : Nat) (HTERM : Hid (Ct 130 n .term)) (HTO : Hid (CtTo n)) (C : Cx) (w : World) (k m : Nat) (v : Value) (tw : List Tw) (h : PS w C k m v tw) (h2 : seesW (C.T.drop k) [[118, 97, 114]] = false) (h3 : seesW (C.T.drop k) actWords = false) (h4 : seesW (C.T.drop k) [[112, 111, 115, 116]] = false) (h1 : seesW (C.T.drop k) [[115, 112, 97, 119, 110]] = true) (hnd : P (n + 1) .stmt (C.T.drop k) m ≠ .dry) :
    Calls Tryz.prog 123 #[C.ptr] w (Ret C w k m v tw (P (n + 1) .stmt (C.T.drop k) m)) := by
  have HS0 := Lib.hid (St.start h)
  clear h
  generalize ho : P (n + 1) .stmt (C.T.drop k) m = o at hnd ⊢
  have HND := Lib.hid hnd
  clear hnd
  rw [P] at ho
  simp only [h2, h3, h4, h1, Bool.false_eq_true, if_false, if_true, tail_drop'] at ho
  have hlt : k < C.T.length := sees_lt (x := 2) (by decide) (seesK_kind h1)
  clear h2 h3 h4 h1
  have HO0 := Lib.hid ho
  clear ho
  go_enter Tryz.func123, Tryz.ntmps123
  go_wp2_with fail
  refine (take_ok C _ _ _ _ _ HS0.out.ps (hlt)).mono ?_
  rintro e w1 ⟨rfl, hs, hk⟩
  have HS1 := Lib.hid (HS0.out.took hs hk)
  clear hs hk HS0 
  unfold tokV
  go_wp2_with fail
  have hnd : P n .term (C.T.drop (k + 1)) m ≠ .dry := fun hdry => by have h1 := HO0.out; rw [hdry] at h1; exact HND.out h1.symm
  refine (HTERM.out C _ _ _ _ _ (HS1.out.var (w1.heap.size) (by simp) (.cells #[.int .i64 (hd (C.T.drop k)).kind, .string ⟨(hd (C.T.drop k)).text.toArray⟩, .int .i64 (hd (C.T.drop k)).n, .int .i64 (hd (C.T.drop k)).line, .int .i64 (hd (C.T.drop k)).col] 61)).ps hnd).mono ?_
  rintro e w2 hr
  rcases hP : P n .term (C.T.drop (k + 1)) m with _ | ⟨er, r⟩ | ⟨d1, f1, r⟩
  · exact absurd hP hnd
  · rw [hP] at hr
    have ho' := HO0.out
    rw [hP] at ho'
    have HB := Lib.hid ((HS1.out.var (w1.heap.size) (by simp) (.cells #[.int .i64 (hd (C.T.drop k)).kind, .string ⟨(hd (C.T.drop k)).text.toArray⟩, .int .i64 (hd (C.T.drop k)).n, .int .i64 (hd (C.T.drop k)).line, .int .i64 (hd (C.T.drop k)).col] 61)).bad' (m0 := m) ho' hr)
    obtain ⟨rfl, _⟩ := hr
    clear hnd hP ho'
    go_wp2_with fail
    exact ⟨rfl, HB.out⟩
  rw [hP] at hr
  obtain ⟨j1, v1, rfl, rfl, hs⟩ := (HS1.out.var (w1.heap.size) (by simp) (.cells #[.int .i64 (hd (C.T.drop k)).kind, .string ⟨(hd (C.T.drop k)).text.toArray⟩, .int .i64 (hd (C.T.drop k)).n, .int .i64 (hd (C.T.drop k)).line, .int .i64 (hd (C.T.drop k)).col] 61)).sub hr
  have ho' := HO0.out
  rw [hP] at ho'
  dsimp only [Out.and] at ho'
  have HO1 := Lib.hid ho'
  have HS2 := Lib.hid hs
  generalize hN : ((tw.length + _ + f1.size : Nat) : Int) = N1
  have HN1 := Lib.hid hN
  clear hs hr hN hnd hP ho' HS1 
  obtain ⟨a2_0, a2_1, a2_2, a2_3, a2_4, a2_5⟩ := tok5 (HS2.out.loc _ (.head _)).is
  have a2_lt := lt_of_block (HS2.out.loc _ (.head _)).is
  go_wp2_with fail
  have HSD := Lib.hid (HS2.out.drew)
  have hnd : P n (.to (at_ (hd (C.T.drop k)) 20 [] 0) (one d1 f1)) (C.T.drop j1) m ≠ .dry := fun hdry => by have h1 := HO1.out; rw [hdry] at h1; exact HND.out h1.symm
  rcases hP : P n (.to (at_ (hd (C.T.drop k)) 20 [] 0) (one d1 f1)) (C.T.drop j1) m with _ | ⟨er, r⟩ | ⟨d9, f9, r⟩
  · exact absurd hP hnd
  · have ho' := HO1.out
    rw [hP] at ho'
    have HP := Lib.hid hP
    have HO' := Lib.hid ho'
    have HD := Lib.hid hnd
    clear hP ho' hnd
    go_region_with (first | (go_at_call 132; refine (HTO.out C _ _ _ _ _ N1 _ _ HSD.out.ps HD.out).mono ?_; rintro e w9 hr; rw [HP.out] at hr; have HB := Lib.hid (HSD.out.badTo' (m0 := m) HO'.out hr); obtain ⟨rfl, _⟩ := hr; go_simp; suffices _hz : wpAny Tryz.prog .any #[] (fun _ _ _ => True) 0 #[] ⟨#[], []⟩ w9 from ⟨rfl, HB.out⟩))
    all_goals trivial
  have ho' := HO1.out
  rw [hP] at ho'
  have HP := Lib.hid hP
  have HO' := Lib.hid ho'
  have HD := Lib.hid hnd
  clear hP ho' hnd
  go_region_held3 (fun w' => w'.cell? ⟨w1.heap.size, 0, none⟩ = some (.int .i64 (hd (C.T.drop k)).kind) ∧ w'.cell? ⟨w1.heap.size, 1, none⟩ = some (.string ⟨(hd (C.T.drop k)).text.toArray⟩) ∧ w'.cell? ⟨w1.heap.size, 2, none⟩ = some (.int .i64 (hd (C.T.drop k)).n) ∧ w'.cell? ⟨w1.heap.size, 3, none⟩ = some (.int .i64 (hd (C.T.drop k)).line) ∧ w'.cell? ⟨w1.heap.size, 4, none⟩ = some (.int .i64 (hd (C.T.drop k)).col)) (first | go_keep | (obtain ⟨qa0, qa1, qa2, qa3, qa4, _⟩ := tok5 (HS9.out.loc _ (.head _)).is; exact ⟨qa0, qa1, qa2, qa3, qa4⟩) | (obtain ⟨qa0, qa1, qa2, qa3, qa4, _⟩ := tok5 (HL.out _ (.head _)).is; exact ⟨qa0, qa1, qa2, qa3, qa4⟩)) (first | (go_at_call 132; refine (HTO.out C _ _ _ _ _ N1 _ _ HSD.out.ps HD.out).mono ?_; rintro e w9 hr; rw [HP.out] at hr; obtain ⟨j9, v9, H9, kv, hj9, hd9, hf9, rfl, hi, hs, hk, hz⟩ := hr; have HS9 := Lib.hid (HSD.out.subTo hs hk hz); have HI9 := Lib.hid hi; have HE9 := Lib.hid (And.intro hj9 (And.intro hd9 hf9)); clear hs hk hz hi hj9 hd9 hf9) | (go_at_call 76; refine (add_ok C _ _ _ _ _ (hd (C.T.drop k)) 20 [] 0 _ _ HS9.out.ps HI9.out HS9.out.room).mono ?_; rintro e w10 ⟨rfl, v', hs, hk⟩; have HL := Lib.hid (fun x hx => (HS9.out.loc x hx).keep hk); generalize hN2 : (((tw ++ _ : List Tw).length : Nat) : Int) = N; have hids : (N1 :: H9.ids (tw ++ (Fo.nil.app (one d1 f1)).post tw.length).length) = ((Fo.nil.app (one d1 f1)).app H9).ids tw.length := (by rw [Fo.ids_app, len_post, ← HN1.out]; rfl); rw [hids] at hs; have ho9 := HO'.out; rw [HE9.out.1, HE9.out.2.1, HE9.out.2.2] at ho9; have HR := Lib.hid (HS9.out.fin ho9 hs hk hN2.symm); clear hs hk hN2 hids ho9))
  go_wp2_with fail
  go_ret
  exact HR.out

set_option maxRecDepth 100000 in
set_option maxHeartbeats 2000000 in
theorem post_ok (n : Nat) (HTERM : Hid (Ct 130 n .term)) (HTO : Hid (CtTo n)) (C : Cx) (w : World) (k m : Nat) (v : Value) (tw : List Tw) (h : PS w C k m v tw) (h2 : seesW (C.T.drop k) [[118, 97, 114]] = false) (h3 : seesW (C.T.drop k) actWords = false) (h1 : seesW (C.T.drop k) [[112, 111, 115, 116]] = true) (hnd : P (n + 1) .stmt (C.T.drop k) m ≠ .dry) :
    Calls Tryz.prog 122 #[C.ptr] w (Ret C w k m v tw (P (n + 1) .stmt (C.T.drop k) m)) := by
  have HS0 := Lib.hid (St.start h)
  clear h
  generalize ho : P (n + 1) .stmt (C.T.drop k) m = o at hnd ⊢
  have HND := Lib.hid hnd
  clear hnd
  rw [P] at ho
  simp only [h2, h3, h1, Bool.false_eq_true, if_false, if_true, tail_drop'] at ho
  have hlt : k < C.T.length := sees_lt (x := 2) (by decide) (seesK_kind h1)
  clear h2 h3 h1
  have HO0 := Lib.hid ho
  clear ho
  have hfd := field2
  go_enter Tryz.func122, Tryz.ntmps122
  go_wp2_with fail
  refine (take_ok C _ _ _ _ _ HS0.out.ps (hlt)).mono ?_
  rintro e w1 ⟨rfl, hs, hk⟩
  have HS1 := Lib.hid (HS0.out.took hs hk)
  clear hs hk HS0 
  unfold tokV
  go_wp2_with fail
  cases hx : ((hd (C.T.drop (k + 1))).kind == 1)
  · have ho' := HO0.out
    rw [tkK_no hx] at ho'
    refine (takeName_no C _ _ _ _ _ HS1.out.ps hx).mono ?_
    rintro e w' ⟨rfl, hb⟩
    have HB := Lib.hid (HS1.out.bad (m0 := m) ho' hb)
    clear hb ho' hx
    go_wp2_with fail
    exact ⟨rfl, HB.out⟩
  have ho' := HO0.out
  rw [tkK_yes hx, tail_drop'] at ho'
  have HO1 := Lib.hid ho'
  refine (takeName_yes C _ _ _ _ _ HS1.out.ps hx).mono ?_
  rintro e w2 ⟨rfl, hs, hk⟩
  have HS2 := Lib.hid (HS1.out.took hs hk)
  clear hs hk HS1 ho' hx
  unfold tokV
  go_wp2_with fail
  have hnd : P n .term (C.T.drop ((k + 1) + 1)) m ≠ .dry := fun hdry => by have h1 := HO1.out; rw [hdry] at h1; exact HND.out h1.symm
  refine (HTERM.out C _ _ _ _ _ ((HS2.out.var (w2.heap.size) (by simp) (.cells #[.int .i64 (hd (C.T.drop k)).kind, .string ⟨(hd (C.T.drop k)).text.toArray⟩, .int .i64 (hd (C.T.drop k)).n, .int .i64 (hd (C.T.drop k)).line, .int .i64 (hd (C.T.drop k)).col] 61)).var (w2.heap.size + 1) (by simp) (.cells #[.int .i64 (hd (C.T.drop (k + 1))).kind, .string ⟨(hd (C.T.drop (k + 1))).text.toArray⟩, .int .i64 (hd (C.T.drop (k + 1))).n, .int .i64 (hd (C.T.drop (k + 1))).line, .int .i64 (hd (C.T.drop (k + 1))).col] 61)).ps hnd).mono ?_
  rintro e w3 hr
  rcases hP : P n .term (C.T.drop ((k + 1) + 1)) m with _ | ⟨er, r⟩ | ⟨d1, f1, r⟩
  · exact absurd hP hnd
  · rw [hP] at hr
    have ho' := HO1.out
    rw [hP] at ho'
    have HB := Lib.hid (((HS2.out.var (w2.heap.size) (by simp) (.cells #[.int .i64 (hd (C.T.drop k)).kind, .string ⟨(hd (C.T.drop k)).text.toArray⟩, .int .i64 (hd (C.T.drop k)).n, .int .i64 (hd (C.T.drop k)).line, .int .i64 (hd (C.T.drop k)).col] 61)).var (w2.heap.size + 1) (by simp) (.cells #[.int .i64 (hd (C.T.drop (k + 1))).kind, .string ⟨(hd (C.T.drop (k + 1))).text.toArray⟩, .int .i64 (hd (C.T.drop (k + 1))).n, .int .i64 (hd (C.T.drop (k + 1))).line, .int .i64 (hd (C.T.drop (k + 1))).col] 61)).bad' (m0 := m) ho' hr)
    obtain ⟨rfl, _⟩ := hr
    clear hnd hP ho'
    go_wp2_with fail
    exact ⟨rfl, HB.out⟩
  rw [hP] at hr
  obtain ⟨j1, v1, rfl, rfl, hs⟩ := ((HS2.out.var (w2.heap.size) (by simp) (.cells #[.int .i64 (hd (C.T.drop k)).kind, .string ⟨(hd (C.T.drop k)).text.toArray⟩, .int .i64 (hd (C.T.drop k)).n, .int .i64 (hd (C.T.drop k)).line, .int .i64 (hd (C.T.drop k)).col] 61)).var (w2.heap.size + 1) (by simp) (.cells #[.int .i64 (hd (C.T.drop (k + 1))).kind, .string ⟨(hd (C.T.drop (k + 1))).text.toArray⟩, .int .i64 (hd (C.T.drop (k + 1))).n, .int .i64 (hd (C.T.drop (k + 1))).line, .int .i64 (hd (C.T.drop (k + 1))).col] 61)).sub hr
  have ho' := HO1.out
  rw [hP] at ho'
  dsimp only [Out.and] at ho'
  have HO2 := Lib.hid ho'
  have HS3 := Lib.hid hs
  generalize hN : ((tw.length + _ + f1.size : Nat) : Int) = N1
  have HN1 := Lib.hid hN
  clear hs hr hN hnd hP ho' HS2 
  obtain ⟨a3_0, a3_1, a3_2, a3_3, a3_4, a3_5⟩ := tok5 (HS3.out.loc _ (.tail _ (.head _))).is
  have a3_lt := lt_of_block (HS3.out.loc _ (.tail _ (.head _))).is
  obtain ⟨b3_0, b3_1, b3_2, b3_3, b3_4, b3_5⟩ := tok5 (HS3.out.loc _ (.head _)).is
  have b3_lt := lt_of_block (HS3.out.loc _ (.head _)).is
  have c_ge : w.heap.size ≤ w3.heap.size := HS3.out.kp.size
  go_wp2_with fail
  cases hx : seesW (C.T.drop j1) [[97, 102, 116, 101, 114]]
  · cases hy : seesW (C.T.drop j1) [[102, 114, 111, 110, 116]]
    · have ho' := HO2.out
      simp only [hx, hy, Bool.false_eq_true, if_false] at ho'
      have HO8 := Lib.hid ho'
      have HX := Lib.hid hx
      have HY := Lib.hid hy
      clear ho' hx hy
      refine (seesWord_is C _ _ _ _ _ [[97, 102, 116, 101, 114]] _ _ _ false (HS3.out.var (w3.heap.size) (by simp) (.cells #[.int .i64 19, .string ⟨(hd (C.T.drop (k + 1))).text.toArray⟩, .int .i64 0, .int .i64 0, .int .i64 0, .slice none 0 0] 39)).ps (by simp) rfl rfl (by decide) HX.out).mono ?_
      rintro e w4 ⟨rfl, hb⟩
      have HS4 := Lib.hid ((HS3.out.var (w3.heap.size) (by simp) (.cells #[.int .i64 19, .string ⟨(hd (C.T.drop (k + 1))).text.toArray⟩, .int .i64 0, .int .i64 0, .int .i64 0, .slice none 0 0] 39)).below hb)
      clear hb HS3
      go_wp2_with fail
      refine (seesWord_is C _ _ _ _ _ [[102, 114, 111, 110, 116]] _ _ _ false HS4.out.ps (by simp) rfl rfl (by decide) HY.out).mono ?_
      rintro e w5 ⟨rfl, hb⟩
      have HS5 := Lib.hid (HS4.out.below hb)
      clear hb HS4
      obtain ⟨a5_0, a5_1, a5_2, a5_3, a5_4, a5_5⟩ := tok5 (HS5.out.loc _ (.tail _ (.tail _ (.head _)))).is
      have a5_lt := lt_of_block (HS5.out.loc _ (.tail _ (.tail _ (.head _)))).is
      obtain ⟨c5_0, c5_1, c5_2, c5_3, c5_4, c5_5, c5_6⟩ := twig6 (HS5.out.loc _ (.head _)).is
      have c5_lt := lt_of_block (HS5.out.loc _ (.head _)).is
      go_wp2_with fail
      have HSD := Lib.hid (HS5.out.drew)
      have hnd : P n (.to (at_ (hd (C.T.drop k)) 19 (hd (C.T.drop (k + 1))).text 0) (one d1 f1)) (C.T.drop j1) m ≠ .dry := fun hdry => by have h1 := HO8.out; rw [hdry] at h1; exact HND.out h1.symm
      rcases hP : P n (.to (at_ (hd (C.T.drop k)) 19 (hd (C.T.drop (k + 1))).text 0) (one d1 f1)) (C.T.drop j1) m with _ | ⟨er, r⟩ | ⟨d9, f9, r⟩
      · exact absurd hP hnd
      · have ho' := HO8.out
        rw [hP] at ho'
        have HP := Lib.hid hP
        have HO' := Lib.hid ho'
        have HD := Lib.hid hnd
        clear hP ho' hnd
        go_region_with (first | (go_at_call 132; refine (HTO.out C _ _ _ _ _ N1 _ _ HSD.out.ps HD.out).mono ?_; rintro e w9 hr; rw [HP.out] at hr; have HB := Lib.hid (HSD.out.badTo' (m0 := m) HO'.out hr); obtain ⟨rfl, _⟩ := hr; go_simp; suffices _hz : wpAny Tryz.prog .any #[] (fun _ _ _ => True) 0 #[] ⟨#[], []⟩ w9 from ⟨rfl, HB.out⟩))
        all_goals trivial
      have ho' := HO8.out
      rw [hP] at ho'
      have HP := Lib.hid hP
      have HO' := Lib.hid ho'
      have HD := Lib.hid hnd
      clear hP ho' hnd
      go_region_held3 (fun w' => w'.cell? ⟨w2.heap.size, 0, none⟩ = some (.int .i64 (hd (C.T.drop k)).kind) ∧ w'.cell? ⟨w2.heap.size, 1, none⟩ = some (.string ⟨(hd (C.T.drop k)).text.toArray⟩) ∧ w'.cell? ⟨w2.heap.size, 2, none⟩ = some (.int .i64 (hd (C.T.drop k)).n) ∧ w'.cell? ⟨w2.heap.size, 3, none⟩ = some (.int .i64 (hd (C.T.drop k)).line) ∧ w'.cell? ⟨w2.heap.size, 4, none⟩ = some (.int .i64 (hd (C.T.drop k)).col) ∧ w'.cell? ⟨w3.heap.size, 0, none⟩ = some (.int .i64 19) ∧ w'.cell? ⟨w3.heap.size, 1, none⟩ = some (.string ⟨(hd (C.T.drop (k + 1))).text.toArray⟩) ∧ w'.cell? ⟨w3.heap.size, 2, none⟩ = some (.int .i64 0) ∧ w'.cell? ⟨w3.heap.size, 3, none⟩ = some (.int .i64 0) ∧ w'.cell? ⟨w3.heap.size, 4, none⟩ = some (.int .i64 0) ∧ w'.cell? ⟨w3.heap.size, 5, none⟩ = some (.slice none 0 0)) (first | go_keep | (obtain ⟨qa0, qa1, qa2, qa3, qa4, _⟩ := tok5 (HS9.out.loc _ (.tail _ (.tail _ (.head _)))).is; obtain ⟨qc0, qc1, qc2, qc3, qc4, qc5, _⟩ := twig6 (HS9.out.loc _ (.head _)).is; exact ⟨qa0, qa1, qa2, qa3, qa4, qc0, qc1, qc2, qc3, qc4, qc5⟩) | (obtain ⟨qa0, qa1, qa2, qa3, qa4, _⟩ := tok5 (HL.out _ (.tail _ (.tail _ (.head _)))).is; obtain ⟨qc0, qc1, qc2, qc3, qc4, qc5, _⟩ := twig6 (HL.out _ (.head _)).is; exact ⟨qa0, qa1, qa2, qa3, qa4, qc0, qc1, qc2, qc3, qc4, qc5⟩)) (first | (go_at_call 132; refine (HTO.out C _ _ _ _ _ N1 _ _ HSD.out.ps HD.out).mono ?_; rintro e w9 hr; rw [HP.out] at hr; obtain ⟨j9, v9, H9, kv, hj9, hd9, hf9, rfl, hi, hs, hk, hz⟩ := hr; have HS9 := Lib.hid (HSD.out.subTo hs hk hz); have HI9 := Lib.hid hi; have HE9 := Lib.hid (And.intro hj9 (And.intro hd9 hf9)); clear hs hk hz hi hj9 hd9 hf9) | (go_at_call 76; refine (add_ok C _ _ _ _ _ (hd (C.T.drop k)) 19 (hd (C.T.drop (k + 1))).text 0 _ _ HS9.out.ps HI9.out HS9.out.room).mono ?_; rintro e w10 ⟨rfl, v', hs, hk⟩; have HL := Lib.hid (fun x hx => (HS9.out.loc x hx).keep hk); generalize hN2 : (((tw ++ _ : List Tw).length : Nat) : Int) = N; have hids : (N1 :: H9.ids (tw ++ (Fo.nil.app (one d1 f1)).post tw.length).length) = ((Fo.nil.app (one d1 f1)).app H9).ids tw.length := (by rw [Fo.ids_app, len_post, ← HN1.out]; rfl); rw [hids] at hs; have ho9 := HO'.out; rw [HE9.out.1, HE9.out.2.1, HE9.out.2.2] at ho9; have HR := Lib.hid (HS9.out.fin ho9 hs hk hN2.symm); clear hs hk hN2 hids ho9))
      go_wp2_with fail
      go_ret
      exact HR.out
    · have ho' := HO2.out
      simp only [hx, hy, Bool.false_eq_true, if_false, if_true, tail_drop'] at ho'
      have HO8 := Lib.hid ho'
      have HX := Lib.hid hx
      have HY := Lib.hid hy
      have hlt2 : j1 < C.T.length := sees_lt (x := 2) (by decide) (seesK_kind hy)
      clear ho' hx hy
      refine (seesWord_is C _ _ _ _ _ [[97, 102, 116, 101, 114]] _ _ _ false (HS3.out.var (w3.heap.size) (by simp) (.cells #[.int .i64 19, .string ⟨(hd (C.T.drop (k + 1))).text.toArray⟩, .int .i64 0, .int .i64 0, .int .i64 0, .slice none 0 0] 39)).ps (by simp) rfl rfl (by decide) HX.out).mono ?_
      rintro e w4 ⟨rfl, hb⟩
      have HS4 := Lib.hid ((HS3.out.var (w3.heap.size) (by simp) (.cells #[.int .i64 19, .string ⟨(hd (C.T.drop (k + 1))).text.toArray⟩, .int .i64 0, .int .i64 0, .int .i64 0, .slice none 0 0] 39)).below hb)
      clear hb HS3
      go_wp2_with fail
      refine (seesWord_is C _ _ _ _ _ [[102, 114, 111, 110, 116]] _ _ _ true HS4.out.ps (by simp) rfl rfl (by decide) HY.out).mono ?_
      rintro e w5 ⟨rfl, hb⟩
      have HS5 := Lib.hid (HS4.out.below hb)
      clear hb HS4
      go_wp2_with fail
      refine (take_ok C _ _ _ _ _ HS5.out.ps (hlt2)).mono ?_
      rintro e w6 ⟨rfl, hs, hk⟩
      have HS6 := Lib.hid (HS5.out.took hs hk)
      clear hs hk HS5 
      unfold tokV
      obtain ⟨c6_0, c6_1, c6_2, c6_3, c6_4, c6_5, c6_6⟩ := twig6 (HS6.out.loc _ (.head _)).is
      have c6_lt := lt_of_block (HS6.out.loc _ (.head _)).is
      go_wp2_with fail
      have HSc := Lib.hid (HS6.out.setv 2 (.int .i64 (-1)) (by decide) c_ge (by intro x hx; simp at hx; rcases hx with rfl | rfl <;> simp <;> omega))
      clear c6_0 c6_1 c6_2 c6_3 c6_4 c6_5 c6_6 HS6
      generalize World.setCell w6 _ _ = w7 at HSc ⊢
      obtain ⟨a7_0, a7_1, a7_2, a7_3, a7_4, a7_5⟩ := tok5 (HSc.out.loc _ (.tail _ (.tail _ (.head _)))).is
      have a7_lt := lt_of_block (HSc.out.loc _ (.tail _ (.tail _ (.head _)))).is
      obtain ⟨c7_0, c7_1, c7_2, c7_3, c7_4, c7_5, c7_6⟩ := twig6 (HSc.out.loc _ (.head _)).is
      have c7_lt := lt_of_block (HSc.out.loc _ (.head _)).is
      have HSD := Lib.hid (HSc.out.drew)
      have hnd : P n (.to (at_ (hd (C.T.drop k)) 19 (hd (C.T.drop (k + 1))).text (-1)) (one d1 f1)) (C.T.drop (j1 + 1)) m ≠ .dry := fun hdry => by have h1 := HO8.out; rw [hdry] at h1; exact HND.out h1.symm
      rcases hP : P n (.to (at_ (hd (C.T.drop k)) 19 (hd (C.T.drop (k + 1))).text (-1)) (one d1 f1)) (C.T.drop (j1 + 1)) m with _ | ⟨er, r⟩ | ⟨d9, f9, r⟩
      · exact absurd hP hnd
      · have ho' := HO8.out
        rw [hP] at ho'
        have HP := Lib.hid hP
        have HO' := Lib.hid ho'
        have HD := Lib.hid hnd
        clear hP ho' hnd
        go_region_with (first | (go_at_call 132; refine (HTO.out C _ _ _ _ _ N1 _ _ HSD.out.ps HD.out).mono ?_; rintro e w9 hr; rw [HP.out] at hr; have HB := Lib.hid (HSD.out.badTo' (m0 := m) HO'.out hr); obtain ⟨rfl, _⟩ := hr; go_simp; suffices _hz : wpAny Tryz.prog .any #[] (fun _ _ _ => True) 0 #[] ⟨#[], []⟩ w9 from ⟨rfl, HB.out⟩))
        all_goals trivial
      have ho' := HO8.out
      rw [hP] at ho'
      have HP := Lib.hid hP
      have HO' := Lib.hid ho'
      have HD := Lib.hid hnd
      clear hP ho' hnd
      go_region_held3 (fun w' => w'.cell? ⟨w2.heap.size, 0, none⟩ = some (.int .i64 (hd (C.T.drop k)).kind) ∧ w'.cell? ⟨w2.heap.size, 1, none⟩ = some (.string ⟨(hd (C.T.drop k)).text.toArray⟩) ∧ w'.cell? ⟨w2.heap.size, 2, none⟩ = some (.int .i64 (hd (C.T.drop k)).n) ∧ w'.cell? ⟨w2.heap.size, 3, none⟩ = some (.int .i64 (hd (C.T.drop k)).line) ∧ w'.cell? ⟨w2.heap.size, 4, none⟩ = some (.int .i64 (hd (C.T.drop k)).col) ∧ w'.cell? ⟨w3.heap.size, 0, none⟩ = some (.int .i64 19) ∧ w'.cell? ⟨w3.heap.size, 1, none⟩ = some (.string ⟨(hd (C.T.drop (k + 1))).text.toArray⟩) ∧ w'.cell? ⟨w3.heap.size, 2, none⟩ = some (.int .i64 (-1)) ∧ w'.cell? ⟨w3.heap.size, 3, none⟩ = some (.int .i64 0) ∧ w'.cell? ⟨w3.heap.size, 4, none⟩ = some (.int .i64 0) ∧ w'.cell? ⟨w3.heap.size, 5, none⟩ = some (.slice none 0 0)) (first | go_keep | (obtain ⟨qa0, qa1, qa2, qa3, qa4, _⟩ := tok5 (HS9.out.loc _ (.tail _ (.tail _ (.head _)))).is; obtain ⟨qc0, qc1, qc2, qc3, qc4, qc5, _⟩ := twig6 (HS9.out.loc _ (.head _)).is; exact ⟨qa0, qa1, qa2, qa3, qa4, qc0, qc1, qc2, qc3, qc4, qc5⟩) | (obtain ⟨qa0, qa1, qa2, qa3, qa4, _⟩ := tok5 (HL.out _ (.tail _ (.tail _ (.head _)))).is; obtain ⟨qc0, qc1, qc2, qc3, qc4, qc5, _⟩ := twig6 (HL.out _ (.head _)).is; exact ⟨qa0, qa1, qa2, qa3, qa4, qc0, qc1, qc2, qc3, qc4, qc5⟩)) (first | (go_at_call 132; refine (HTO.out C _ _ _ _ _ N1 _ _ HSD.out.ps HD.out).mono ?_; rintro e w9 hr; rw [HP.out] at hr; obtain ⟨j9, v9, H9, kv, hj9, hd9, hf9, rfl, hi, hs, hk, hz⟩ := hr; have HS9 := Lib.hid (HSD.out.subTo hs hk hz); have HI9 := Lib.hid hi; have HE9 := Lib.hid (And.intro hj9 (And.intro hd9 hf9)); clear hs hk hz hi hj9 hd9 hf9) | (go_at_call 76; refine (add_ok C _ _ _ _ _ (hd (C.T.drop k)) 19 (hd (C.T.drop (k + 1))).text (-1) _ _ HS9.out.ps HI9.out HS9.out.room).mono ?_; rintro e w10 ⟨rfl, v', hs, hk⟩; have HL := Lib.hid (fun x hx => (HS9.out.loc x hx).keep hk); generalize hN2 : (((tw ++ _ : List Tw).length : Nat) : Int) = N; have hids : (N1 :: H9.ids (tw ++ (Fo.nil.app (one d1 f1)).post tw.length).length) = ((Fo.nil.app (one d1 f1)).app H9).ids tw.length := (by rw [Fo.ids_app, len_post, ← HN1.out]; rfl); rw [hids] at hs; have ho9 := HO'.out; rw [HE9.out.1, HE9.out.2.1, HE9.out.2.2] at ho9; have HR := Lib.hid (HS9.out.fin ho9 hs hk hN2.symm); clear hs hk hN2 hids ho9))
      go_wp2_with fail
      go_ret
      exact HR.out
  · have ho' := HO2.out
    simp only [hx, if_true, tail_drop'] at ho'
    have HO8 := Lib.hid ho'
    have HX := Lib.hid hx
    have hlt2 : j1 < C.T.length := sees_lt (x := 2) (by decide) (seesK_kind hx)
    clear ho' hx
    refine (seesWord_is C _ _ _ _ _ [[97, 102, 116, 101, 114]] _ _ _ true (HS3.out.var (w3.heap.size) (by simp) (.cells #[.int .i64 19, .string ⟨(hd (C.T.drop (k + 1))).text.toArray⟩, .int .i64 0, .int .i64 0, .int .i64 0, .slice none 0 0] 39)).ps (by simp) rfl rfl (by decide) HX.out).mono ?_
    rintro e w4 ⟨rfl, hb⟩
    have HS4 := Lib.hid ((HS3.out.var (w3.heap.size) (by simp) (.cells #[.int .i64 19, .string ⟨(hd (C.T.drop (k + 1))).text.toArray⟩, .int .i64 0, .int .i64 0, .int .i64 0, .slice none 0 0] 39)).below hb)
    clear hb HS3
    go_wp2_with fail
    refine (take_ok C _ _ _ _ _ HS4.out.ps (hlt2)).mono ?_
    rintro e w5 ⟨rfl, hs, hk⟩
    have HS5 := Lib.hid (HS4.out.took hs hk)
    clear hs hk HS4 
    unfold tokV
    go_wp2_with fail
    cases hx : ((hd (C.T.drop (j1 + 1))).kind == 3)
    · have ho' := HO8.out
      rw [tkK_no hx] at ho'
      refine (takeNumber_no C _ _ _ _ _ HS5.out.ps hx).mono ?_
      rintro e w' ⟨rfl, hb⟩
      have HB := Lib.hid (HS5.out.bad (m0 := m) ho' hb)
      clear hb ho' hx
      go_wp2_with fail
      exact ⟨rfl, HB.out⟩
    have ho' := HO8.out
    rw [tkK_yes hx, tail_drop'] at ho'
    have HO21 := Lib.hid ho'
    refine (takeNumber_yes C _ _ _ _ _ HS5.out.ps hx).mono ?_
    rintro e w6 ⟨rfl, hs, hk⟩
    have HS6 := Lib.hid (HS5.out.took hs hk)
    clear hs hk HS5 ho' hx
    unfold tokV
    obtain ⟨c6_0, c6_1, c6_2, c6_3, c6_4, c6_5, c6_6⟩ := twig6 (HS6.out.loc _ (.head _)).is
    have c6_lt := lt_of_block (HS6.out.loc _ (.head _)).is
    go_wp2_with fail
    have HSc := Lib.hid (HS6.out.setv 2 (.int .i64 (hd (C.T.drop (j1 + 1))).n) (by decide) c_ge (by intro x hx; simp at hx; rcases hx with rfl | rfl <;> simp <;> omega))
    clear c6_0 c6_1 c6_2 c6_3 c6_4 c6_5 c6_6 HS6
    generalize World.setCell w6 _ _ = w7 at HSc ⊢
    obtain ⟨a7_0, a7_1, a7_2, a7_3, a7_4, a7_5⟩ := tok5 (HSc.out.loc _ (.tail _ (.tail _ (.head _)))).is
    have a7_lt := lt_of_block (HSc.out.loc _ (.tail _ (.tail _ (.head _)))).is
    obtain ⟨c7_0, c7_1, c7_2, c7_3, c7_4, c7_5, c7_6⟩ := twig6 (HSc.out.loc _ (.head _)).is
    have c7_lt := lt_of_block (HSc.out.loc _ (.head _)).is
    have HSD := Lib.hid (HSc.out.drew)
    have hnd : P n (.to (at_ (hd (C.T.drop k)) 19 (hd (C.T.drop (k + 1))).text (hd (C.T.drop (j1 + 1))).n) (one d1 f1)) (C.T.drop ((j1 + 1) + 1)) m ≠ .dry := fun hdry => by have h1 := HO21.out; rw [hdry] at h1; exact HND.out h1.symm
    rcases hP : P n (.to (at_ (hd (C.T.drop k)) 19 (hd (C.T.drop (k + 1))).text (hd (C.T.drop (j1 + 1))).n) (one d1 f1)) (C.T.drop ((j1 + 1) + 1)) m with _ | ⟨er, r⟩ | ⟨d9, f9, r⟩
    · exact absurd hP hnd
    · have ho' := HO21.out
      rw [hP] at ho'
      have HP := Lib.hid hP
      have HO' := Lib.hid ho'
      have HD := Lib.hid hnd
      clear hP ho' hnd
      go_region_with (first | (go_at_call 132; refine (HTO.out C _ _ _ _ _ N1 _ _ HSD.out.ps HD.out).mono ?_; rintro e w9 hr; rw [HP.out] at hr; have HB := Lib.hid (HSD.out.badTo' (m0 := m) HO'.out hr); obtain ⟨rfl, _⟩ := hr; go_simp; suffices _hz : wpAny Tryz.prog .any #[] (fun _ _ _ => True) 0 #[] ⟨#[], []⟩ w9 from ⟨rfl, HB.out⟩))
      all_goals trivial
    have ho' := HO21.out
    rw [hP] at ho'
    have HP := Lib.hid hP
    have HO' := Lib.hid ho'
    have HD := Lib.hid hnd
    clear hP ho' hnd
    go_region_held3 (fun w' => w'.cell? ⟨w2.heap.size, 0, none⟩ = some (.int .i64 (hd (C.T.drop k)).kind) ∧ w'.cell? ⟨w2.heap.size, 1, none⟩ = some (.string ⟨(hd (C.T.drop k)).text.toArray⟩) ∧ w'.cell? ⟨w2.heap.size, 2, none⟩ = some (.int .i64 (hd (C.T.drop k)).n) ∧ w'.cell? ⟨w2.heap.size, 3, none⟩ = some (.int .i64 (hd (C.T.drop k)).line) ∧ w'.cell? ⟨w2.heap.size, 4, none⟩ = some (.int .i64 (hd (C.T.drop k)).col) ∧ w'.cell? ⟨w3.heap.size, 0, none⟩ = some (.int .i64 19) ∧ w'.cell? ⟨w3.heap.size, 1, none⟩ = some (.string ⟨(hd (C.T.drop (k + 1))).text.toArray⟩) ∧ w'.cell? ⟨w3.heap.size, 2, none⟩ = some (.int .i64 (hd (C.T.drop (j1 + 1))).n) ∧ w'.cell? ⟨w3.heap.size, 3, none⟩ = some (.int .i64 0) ∧ w'.cell? ⟨w3.heap.size, 4, none⟩ = some (.int .i64 0) ∧ w'.cell? ⟨w3.heap.size, 5, none⟩ = some (.slice none 0 0)) (first | go_keep | (obtain ⟨qa0, qa1, qa2, qa3, qa4, _⟩ := tok5 (HS9.out.loc _ (.tail _ (.tail _ (.head _)))).is; obtain ⟨qc0, qc1, qc2, qc3, qc4, qc5, _⟩ := twig6 (HS9.out.loc _ (.head _)).is; exact ⟨qa0, qa1, qa2, qa3, qa4, qc0, qc1, qc2, qc3, qc4, qc5⟩) | (obtain ⟨qa0, qa1, qa2, qa3, qa4, _⟩ := tok5 (HL.out _ (.tail _ (.tail _ (.head _)))).is; obtain ⟨qc0, qc1, qc2, qc3, qc4, qc5, _⟩ := twig6 (HL.out _ (.head _)).is; exact ⟨qa0, qa1, qa2, qa3, qa4, qc0, qc1, qc2, qc3, qc4, qc5⟩)) (first | (go_at_call 132; refine (HTO.out C _ _ _ _ _ N1 _ _ HSD.out.ps HD.out).mono ?_; rintro e w9 hr; rw [HP.out] at hr; obtain ⟨j9, v9, H9, kv, hj9, hd9, hf9, rfl, hi, hs, hk, hz⟩ := hr; have HS9 := Lib.hid (HSD.out.subTo hs hk hz); have HI9 := Lib.hid hi; have HE9 := Lib.hid (And.intro hj9 (And.intro hd9 hf9)); clear hs hk hz hi hj9 hd9 hf9) | (go_at_call 76; refine (add_ok C _ _ _ _ _ (hd (C.T.drop k)) 19 (hd (C.T.drop (k + 1))).text (hd (C.T.drop (j1 + 1))).n _ _ HS9.out.ps HI9.out HS9.out.room).mono ?_; rintro e w10 ⟨rfl, v', hs, hk⟩; have HL := Lib.hid (fun x hx => (HS9.out.loc x hx).keep hk); generalize hN2 : (((tw ++ _ : List Tw).length : Nat) : Int) = N; have hids : (N1 :: H9.ids (tw ++ (Fo.nil.app (one d1 f1)).post tw.length).length) = ((Fo.nil.app (one d1 f1)).app H9).ids tw.length := (by rw [Fo.ids_app, len_post, ← HN1.out]; rfl); rw [hids] at hs; have ho9 := HO'.out; rw [HE9.out.1, HE9.out.2.1, HE9.out.2.2] at ho9; have HR := Lib.hid (HS9.out.fin ho9 hs hk hN2.symm); clear hs hk hN2 hids ho9))
    go_wp2_with fail
    go_ret
    exact HR.out

end Go.Proofs.YtehdljcmeimbcaaGreat
