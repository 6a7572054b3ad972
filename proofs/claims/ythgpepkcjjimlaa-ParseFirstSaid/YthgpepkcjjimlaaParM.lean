/- parser.sum, product, term, unary, variable. -/
import Derived.Test.YthgpepkcjjimlaaParL
namespace Go.Proofs.Ythgpepkcjjimlaa
open Go.RowKit

theorem mkfn (fn : Fn) (first cap : Array Value) (w : World) : (Instr.makeFunc fn first cap).run Try.prog w = .ok (.func fn first cap) w := rfl


set_option maxRecDepth 100000 in
set_option maxHeartbeats 2000000 in
theorem sum_ok (n : Nat) (HP : Hid (∀ i, i ≤ n → Ct 86 i .product)) : Ct 82 (n + 1) .sum := by
  intro C w k m v tw h hnd
  have HS0 := Lib.hid ((St.start h).var w.heap.size rfl (.cells #[.string ⟨#[43]⟩, .string ⟨#[45]⟩] 9))
  clear h
  generalize ho : P (n + 1) .sum (C.T.drop k) m = o at hnd ⊢
  have HND := Lib.hid hnd
  rw [P] at ho
  have HO := Lib.hid ho
  clear ho hnd
  have hmf := mkfn
  go_enter Try.func82, Try.ntmps82
  go_wp2_with fail
  refine (chain_sum n HP C _ _ _ _ _ w.heap.size HS0.out.ps0 (HS0.out.loc _ (.head _)) (by rw [HO.out]; exact HND.out)).mono ?_
  rintro e w1 hr
  rw [HO.out] at hr
  have HR := Lib.hid (HS0.out.from hr)
  clear HS0
  cases o with
  | dry => exact absurd rfl HND.out
  | bad er r =>
    obtain ⟨rfl, _⟩ := hr
    go_wp2_with fail
    exact ⟨rfl, HR.out⟩
  | ok d f r =>
    obtain ⟨j, v', _, rfl, _⟩ := hr
    generalize ((tw.length + f.size : Nat) : Int) = N at HR ⊢
    go_wp2_with fail
    go_ret
    exact HR.out


set_option maxRecDepth 100000 in
set_option maxHeartbeats 2000000 in
theorem product_ok (n : Nat) (HP : Hid (∀ i, i ≤ n → Ct 88 i .unary)) : Ct 86 (n + 1) .product := by
  intro C w k m v tw h hnd
  have HS0 := Lib.hid ((St.start h).var w.heap.size rfl (.cells #[.string ⟨#[42]⟩] 9))
  clear h
  generalize ho : P (n + 1) .product (C.T.drop k) m = o at hnd ⊢
  have HND := Lib.hid hnd
  rw [P] at ho
  have HO := Lib.hid ho
  clear ho hnd
  have hmf := mkfn
  go_enter Try.func86, Try.ntmps86
  go_wp2_with fail
  refine (chain_product n HP C _ _ _ _ _ w.heap.size HS0.out.ps0 (HS0.out.loc _ (.head _)) (by rw [HO.out]; exact HND.out)).mono ?_
  rintro e w1 hr
  rw [HO.out] at hr
  have HR := Lib.hid (HS0.out.from hr)
  clear HS0
  cases o with
  | dry => exact absurd rfl HND.out
  | bad er r =>
    obtain ⟨rfl, _⟩ := hr
    go_wp2_with fail
    exact ⟨rfl, HR.out⟩
  | ok d f r =>
    obtain ⟨j, v', _, rfl, _⟩ := hr
    generalize ((tw.length + f.size : Nat) : Int) = N at HR ⊢
    go_wp2_with fail
    go_ret
    exact HR.out

set_option maxRecDepth 100000 in
set_option maxHeartbeats 2000000 in
theorem term_w (n : Nat) (HSUM : Hid (Ct 82 n .sum)) (C : Cx) (w : World) (k m : Nat) (v : Value) (tw : List Tw) (h : PS w C k m v tw) (hnd : P (n + 1) .term (C.T.drop k) m ≠ .dry) :
    Calls Try.prog 78 #[C.ptr] w (Ret C w k m v tw (P (n + 1) .term (C.T.drop k) m)) := by
  have HS0 := Lib.hid (St.start h)
  clear h
  generalize ho : P (n + 1) .term (C.T.drop k) m = o at hnd ⊢
  have HND := Lib.hid hnd
  clear hnd
  rw [P] at ho
  have HO0 := Lib.hid ho
  clear ho
  have hmf := mkfn
  go_enter Try.func78, Try.ntmps78
  go_wp2_with fail
  have hnd : P n .sum (C.T.drop k) m ≠ .dry := fun hdry => by have h1 := HO0.out; rw [hdry] at h1; exact HND.out h1.symm
  refine (HSUM.out C _ _ _ _ _ HS0.out.ps hnd).mono ?_
  rintro e w1 hr
  rcases hP : P n .sum (C.T.drop k) m with _ | ⟨er, r⟩ | ⟨d1, f1, r⟩
  · exact absurd hP hnd
  · rw [hP] at hr
    have ho' := HO0.out
    rw [hP] at ho'
    have HB := Lib.hid (HS0.out.bad' (m0 := m) ho' hr)
    obtain ⟨rfl, _⟩ := hr
    clear hnd hP ho'
    go_wp2_with fail
    exact ⟨rfl, HB.out⟩
  rw [hP] at hr
  obtain ⟨j1, v1, rfl, rfl, hs⟩ := HS0.out.sub hr
  have ho' := HO0.out
  rw [hP] at ho'
  dsimp only [Out.and] at ho'
  have HO1 := Lib.hid ho'
  have HS1 := Lib.hid hs
  generalize hN : ((tw.length + _ + f1.size : Nat) : Int) = N1
  have HN1 := Lib.hid hN
  clear hs hr hN hnd hP ho' HS0 
  go_wp2_with fail
  cases hx : seesM (C.T.drop j1) [[60], [61, 61]]
  · have ho' := HO1.out
    simp only [hx, Bool.false_eq_true, if_false] at ho'
    have HO8 := Lib.hid ho'
    have HX := Lib.hid hx
    clear ho' hx
    refine (seesMark_is C _ _ _ _ _ [[60], [61, 61]] _ _ _ false HS1.out.ps (by simp) rfl rfl (by decide) HX.out).mono ?_
    rintro e w2 ⟨rfl, hb⟩
    have HS2 := Lib.hid (HS1.out.below hb)
    clear hb HS1
    have HR := Lib.hid (St.same (d := d1) (kf := f1) HS2.out HO8.out (x := N1) (by rw [← HN1.out]; rfl))
    go_wp2_with fail
    go_ret
    exact HR.out
  · have ho' := HO1.out
    simp only [hx, if_true, tail_drop'] at ho'
    have HO8 := Lib.hid ho'
    have HX := Lib.hid hx
    have hlt : j1 < C.T.length := sees_lt (x := 4) (by decide) (seesK_kind hx)
    clear ho' hx
    refine (seesMark_is C _ _ _ _ _ [[60], [61, 61]] _ _ _ true HS1.out.ps (by simp) rfl rfl (by decide) HX.out).mono ?_
    rintro e w2 ⟨rfl, hb⟩
    have HS2 := Lib.hid (HS1.out.below hb)
    clear hb HS1
    go_wp2_with fail
    have hnd : P n .sum (C.T.drop (j1 + 1)) m ≠ .dry := fun hdry => by have h1 := HO8.out; rw [hdry] at h1; exact HND.out h1.symm
    refine (operation_ok 82 n .sum cf_sum HSUM C w _ k _ m v _ tw 0 [] d1 f1 HS2.out hlt hnd N1 (by rw [← HN1.out]; rfl)).mono ?_
    rintro e w4 hr
    rcases hP : P n .sum (C.T.drop (j1 + 1)) m with _ | ⟨er, r⟩ | ⟨d', f', r⟩
    · exact absurd hP hnd
    · rw [hP] at hr; have ho' := HO8.out; rw [hP] at ho'; have hR : Ret C w k m v tw o e w4 := (by subst ho'; exact ⟨hr.1, HS2.out.lowB hr.2⟩); have HB := Lib.hid hR; obtain ⟨rfl, _⟩ := hr; clear hnd hP ho' hR; go_wp2_with fail; exact ⟨rfl, HB.out⟩
    rw [hP] at hr
    obtain ⟨j3, v3, rfl, rfl, hs⟩ := hr
    have ho' := HO8.out
    rw [hP] at ho'
    dsimp only [Out.and] at ho'
    have HR := Lib.hid (St.same hs ho' (x := ((tw.length + ((one d1 f1).app (one d' f')).size : Nat) : Int)) rfl)
    generalize ((tw.length + ((one d1 f1).app (one d' f')).size : Nat) : Int) = N3 at HR ⊢
    clear hs hnd hP ho' HS2
    go_wp2_with fail
    go_ret
    exact HR.out

theorem term_ok (n : Nat) (HSUM : Hid (Ct 82 n .sum)) : Ct 78 (n + 1) .term := fun C w k m v tw h hnd => term_w n HSUM C w k m v tw h hnd

set_option maxRecDepth 100000 in
set_option maxHeartbeats 2000000 in
theorem unary_yes (n : Nat) (HUN : Hid (Ct 88 n .unary)) (C : Cx) (w : World) (k m : Nat) (v : Value) (tw : List Tw) (h : PS w C k m v tw) (h1 : seesW (C.T.drop k) [[97, 114, 114], [108, 101, 110]] = true) (hnd : P (n + 1) .unary (C.T.drop k) m ≠ .dry) :
    Calls Try.prog 88 #[C.ptr] w (Ret C w k m v tw (P (n + 1) .unary (C.T.drop k) m)) := by
  have HS0 := Lib.hid (St.start h)
  clear h
  generalize ho : P (n + 1) .unary (C.T.drop k) m = o at hnd ⊢
  have HND := Lib.hid hnd
  clear hnd
  rw [P] at ho
  simp only [h1, if_true] at ho
  have hlt : k < C.T.length := sees_lt (x := 2) (by decide) (seesK_kind h1)
  have H1 := Lib.hid h1
  clear h1
  have HO0 := Lib.hid ho
  clear ho
  go_enter Try.func88, Try.ntmps88
  go_wp2_with fail
  refine (seesWord_is C _ _ _ _ _ [[97, 114, 114], [108, 101, 110]] _ _ _ true HS0.out.ps (by simp) rfl rfl (by decide) H1.out).mono ?_
  rintro e w1 ⟨rfl, hb⟩
  have HS1 := Lib.hid (HS0.out.below hb)
  clear hb HS0
  go_wp2_with fail
  by_cases hm : m = 64
  · have ho' := HO0.out
    rw [ent_no hm] at ho'
    subst hm
    refine (enter_bad C _ _ _ _ HS1.out.ps).mono ?_
    rintro e w' ⟨rfl, hb⟩
    have HB := Lib.hid (HS1.out.bad (m0 := 64) ho' hb)
    clear hb ho'
    go_wp2_with fail
    exact ⟨rfl, HB.out⟩
  have ho' := HO0.out
  rw [ent_yes hm, tail_drop'] at ho'
  have HO1 := Lib.hid ho'
  have hm' : m < 64 := by have := HS1.out.ps.nest; omega
  refine (enter_ok C _ _ _ _ _ HS1.out.ps hlt hm').mono ?_
  rintro e w2 ⟨rfl, hs, hk⟩
  have HS2 := Lib.hid (HS1.out.took hs hk)
  clear hs hk HS1 ho'
  unfold tokV
  go_wp2_with fail
  have hnd : P n .unary (C.T.drop (k + 1)) (m + 1) ≠ .dry := fun hdry => by have h1 := HO1.out; rw [hdry] at h1; exact HND.out h1.symm
  refine (HUN.out C _ _ _ _ _ (HS2.out.var (w2.heap.size) (by simp) (.cells #[.int .i64 (hd (C.T.drop k)).kind, .string ⟨(hd (C.T.drop k)).text.toArray⟩, .int .i64 (hd (C.T.drop k)).n, .int .i64 (hd (C.T.drop k)).line, .int .i64 (hd (C.T.drop k)).col] 38)).ps hnd).mono ?_
  rintro e w3 hr
  rcases hP : P n .unary (C.T.drop (k + 1)) (m + 1) with _ | ⟨er, r⟩ | ⟨d1, f1, r⟩
  · exact absurd hP hnd
  · rw [hP] at hr
    have ho' := HO1.out
    rw [hP] at ho'
    have HB := Lib.hid ((HS2.out.var (w2.heap.size) (by simp) (.cells #[.int .i64 (hd (C.T.drop k)).kind, .string ⟨(hd (C.T.drop k)).text.toArray⟩, .int .i64 (hd (C.T.drop k)).n, .int .i64 (hd (C.T.drop k)).line, .int .i64 (hd (C.T.drop k)).col] 38)).bad' (m0 := m) ho' hr)
    obtain ⟨rfl, _⟩ := hr
    clear hnd hP ho'
    go_wp2_with fail
    exact ⟨rfl, HB.out⟩
  rw [hP] at hr
  obtain ⟨j1, v1, rfl, rfl, hs⟩ := (HS2.out.var (w2.heap.size) (by simp) (.cells #[.int .i64 (hd (C.T.drop k)).kind, .string ⟨(hd (C.T.drop k)).text.toArray⟩, .int .i64 (hd (C.T.drop k)).n, .int .i64 (hd (C.T.drop k)).line, .int .i64 (hd (C.T.drop k)).col] 38)).sub hr
  have ho' := HO1.out
  rw [hP] at ho'
  dsimp only [Out.and] at ho'
  have HO2 := Lib.hid ho'
  have HS3 := Lib.hid hs
  generalize hN : ((tw.length + _ + f1.size : Nat) : Int) = N1
  have HN1 := Lib.hid hN
  clear hs hr hN hnd hP ho' HS2 
  go_wp2_with fail
  refine (leave_ok C _ _ _ _ _ HS3.out.ps).mono ?_
  rintro e w4 ⟨rfl, hs, hk⟩
  have HS4 := Lib.hid (HS3.out.left hs hk)
  clear hs hk HS3
  obtain ⟨a4_0, a4_1, a4_2, a4_3, a4_4, a4_5⟩ := tok5 (HS4.out.loc _ (.head _)).is
  have a4_lt := lt_of_block (HS4.out.loc _ (.head _)).is
  have HDD : Hid ((((hd (C.T.drop k)).text == [108, 101, 110]) = true ∧ (if (hd (C.T.drop k)).text = [108, 101, 110] then (35 : Int) else 34) = 35) ∨ (((hd (C.T.drop k)).text == [108, 101, 110]) = false ∧ (if (hd (C.T.drop k)).text = [108, 101, 110] then (35 : Int) else 34) = 34)) := Lib.hid (by by_cases h : (hd (C.T.drop k)).text = [108, 101, 110] <;> simp [h])
  rcases HDD.out with ⟨e1, e2⟩ | ⟨e1, e2⟩
  all_goals
    have ho' := HO2.out
    simp only [e2] at ho'
    have HO8 := Lib.hid ho'
    clear ho' e2 HDD
    go_wp2_with fail
    refine (add_ok C _ _ _ _ _ (hd (C.T.drop k)) _ [] 0 _ _ ((HS4.out.al _).al _).ps (ints_new _ (fun b hb => by have := HS4.out.ps.xlt b hb; simp; try omega) [N1] #[.int .i64 N1] rfl _ _ (by simp) rfl) HS4.out.room).mono ?_
    rintro e w5 ⟨rfl, v', hs, hk⟩
    have hids : [N1] = (Fo.nil.app (one d1 f1)).ids tw.length := (by rw [ids_snoc, ← HN1.out]; rfl)
    rw [hids] at hs
    generalize hN : (((tw ++ _ : List Tw).length : Nat) : Int) = N
    have HR := Lib.hid (((HS4.out.al _).al _).fin HO8.out hs hk hN.symm)
    clear hs hk hN HS4
    go_wp2_with fail
    go_ret
    exact HR.out

set_option maxRecDepth 100000 in
set_option maxHeartbeats 2000000 in
theorem unary_no (n : Nat) (HTI : Hid (Ct 84 n .tight)) (C : Cx) (w : World) (k m : Nat) (v : Value) (tw : List Tw) (h : PS w C k m v tw) (h1 : seesW (C.T.drop k) [[97, 114, 114], [108, 101, 110]] = false) (hnd : P (n + 1) .unary (C.T.drop k) m ≠ .dry) :
    Calls Try.prog 88 #[C.ptr] w (Ret C w k m v tw (P (n + 1) .unary (C.T.drop k) m)) := by
  have HS0 := Lib.hid (St.start h)
  clear h
  generalize ho : P (n + 1) .unary (C.T.drop k) m = o at hnd ⊢
  have HND := Lib.hid hnd
  clear hnd
  rw [P] at ho
  simp only [h1, Bool.false_eq_true, if_false] at ho
  have H1 := Lib.hid h1
  clear h1
  have HO0 := Lib.hid ho
  clear ho
  go_enter Try.func88, Try.ntmps88
  go_wp2_with fail
  refine (seesWord_is C _ _ _ _ _ [[97, 114, 114], [108, 101, 110]] _ _ _ false HS0.out.ps (by simp) rfl rfl (by decide) H1.out).mono ?_
  rintro e w1 ⟨rfl, hb⟩
  have HS1 := Lib.hid (HS0.out.below hb)
  clear hb HS0
  go_wp2_with fail
  have hnd : P n .tight (C.T.drop k) m ≠ .dry := fun hdry => by have h1 := HO0.out; rw [hdry] at h1; exact HND.out h1.symm
  refine (HTI.out C _ _ _ _ _ HS1.out.ps0 hnd).mono ?_
  rintro e w9 hr
  have h0 := HO0.out
  rw [h0] at hr
  have HR := Lib.hid (HS1.out.from hr)
  clear HS1 h0 hnd
  cases o with
  | dry => exact absurd rfl HND.out
  | bad er r => (obtain ⟨rfl, _⟩ := hr; go_wp2_with fail; exact ⟨rfl, HR.out⟩)
  | ok d f r => (obtain ⟨j, v', _, rfl, _⟩ := hr; generalize ((tw.length + f.size : Nat) : Int) = N at HR ⊢; go_wp2_with fail; go_ret; exact HR.out)

theorem unary_ok (n : Nat) (HUN : Hid (Ct 88 n .unary)) (HTI : Hid (Ct 84 n .tight)) : Ct 88 (n + 1) .unary := fun C w k m v tw h hnd => by
  cases h1 : seesW (C.T.drop k) [[97, 114, 114], [108, 101, 110]]
  · exact unary_no n HTI C w k m v tw h h1 hnd
  · exact unary_yes n HUN C w k m v tw h h1 hnd

end Go.Proofs.Ythgpepkcjjimlaa
