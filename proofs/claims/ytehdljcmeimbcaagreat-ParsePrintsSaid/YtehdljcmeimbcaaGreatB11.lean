/- parser.function, event, life, main. -/
import Derived.Test.YtehdljcmeimbcaaGreatB06
namespace Go.Proofs.YtehdljcmeimbcaaGreat
open Go.RowKit

set_option maxRecDepth 100000 in
set_option maxHeartbeats 2000000 in
theorem function_ok (n : Nat) (HBLK : Hid (Ct 94 n .block)) (C : Cx) (w : World) (k m : Nat) (v : Value) (tw : List Tw) (h : PS w C k m v tw) (h2 : seesW (C.T.drop k) [[108, 111, 111, 112, 101, 114]] = false) (h3 : seesW (C.T.drop k) [[99, 108, 97, 115, 115]] = false) (h4 : seesW (C.T.drop k) [[118, 97, 114]] = false) (h1 : seesW (C.T.drop k) [[102, 110]] = true) (hnd : P (n + 1) .decl (C.T.drop k) m ≠ .dry) :
    Calls Tryz.prog 90 #[C.ptr] w (Ret C w k m v tw (P (n + 1) .decl (C.T.drop k) m)) := by
  have HS0 := Lib.hid (St.start h)
  clear h
  generalize ho : P (n + 1) .decl (C.T.drop k) m = o at hnd ⊢
  have HND := Lib.hid hnd
  clear hnd
  rw [P] at ho
  simp only [h1, h2, h3, h4, Bool.false_eq_true, if_false, if_true, tail_drop'] at ho
  have hlt : k < C.T.length := sees_lt (x := 2) (by decide) (seesK_kind h1)
  clear h1
  have HO0 := Lib.hid ho
  clear ho
  go_enter Tryz.func90, Tryz.ntmps90
  go_wp2_with fail
  refine (take_ok C _ _ _ _ _ HS0.out.ps (hlt)).mono ?_
  rintro e w1 ⟨rfl, hs, hk⟩
  have HS1 := Lib.hid (HS0.out.took hs hk)
  clear hs hk HS0 
  unfold tokV
  go_wp2_with fail
  cases hx : ((hd (C.T.drop (k + 1))).kind == 1)
  · have ho' := HO0.out
    rw [tkK_no hx] at ho'
    refine (takeName_no C _ _ _ _ _ HS1.out.ps hx).mono ?_
    rintro e w' ⟨rfl, hb⟩
    have HB := Lib.hid (HS1.out.bad (m0 := m) ho' hb)
    clear hb ho' hx
    go_wp2_with fail
    exact ⟨rfl, HB.out⟩
  have ho' := HO0.out
  rw [tkK_yes hx, tail_drop'] at ho'
  have HO1 := Lib.hid ho'
  refine (takeName_yes C _ _ _ _ _ HS1.out.ps hx).mono ?_
  rintro e w2 ⟨rfl, hs, hk⟩
  have HS2 := Lib.hid (HS1.out.took hs hk)
  clear hs hk HS1 ho' hx
  unfold tokV
  go_wp2_with fail
  have HSD := Lib.hid (((HS2.out.var (w2.heap.size) (by simp) (.cells #[.int .i64 (hd (C.T.drop k)).kind, .string ⟨(hd (C.T.drop k)).text.toArray⟩, .int .i64 (hd (C.T.drop k)).n, .int .i64 (hd (C.T.drop k)).line, .int .i64 (hd (C.T.drop k)).col] 61)).var (w2.heap.size + 1) (by simp) (.cells #[.int .i64 (hd (C.T.drop (k + 1))).kind, .string ⟨(hd (C.T.drop (k + 1))).text.toArray⟩, .int .i64 (hd (C.T.drop (k + 1))).n, .int .i64 (hd (C.T.drop (k + 1))).line, .int .i64 (hd (C.T.drop (k + 1))).col] 61)).drew)
  have hnd : P n .block (C.T.drop ((k + 1) + 1)) m ≠ .dry := fun hdry => by have h1 := HO1.out; rw [hdry] at h1; exact HND.out h1.symm
  rcases hP : P n .block (C.T.drop ((k + 1) + 1)) m with _ | ⟨er, r⟩ | ⟨d1, f1, r⟩
  · exact absurd hP hnd
  · have ho' := HO1.out
    rw [hP] at ho'
    have HP := Lib.hid hP
    have HO' := Lib.hid ho'
    have HD := Lib.hid hnd
    clear hP ho' hnd
    go_region_with (first | (go_at_call 94; refine (HBLK.out C _ _ _ _ _ HSD.out.ps HD.out).mono ?_; rintro e w9 hr; rw [HP.out] at hr; have HB := Lib.hid (HSD.out.bad' (m0 := m) HO'.out hr); obtain ⟨rfl, _⟩ := hr; go_simp; suffices _hz : wpAny Tryz.prog .any #[] (fun _ _ _ => True) 0 #[] ⟨#[], []⟩ w9 from ⟨rfl, HB.out⟩))
    all_goals trivial
  have ho' := HO1.out
  rw [hP] at ho'
  dsimp only [Out.and] at ho'
  have HP := Lib.hid hP
  have HO' := Lib.hid ho'
  have HD := Lib.hid hnd
  clear hP ho' hnd
  go_region_held3 (fun w' => w'.cell? ⟨w2.heap.size, 0, none⟩ = some (.int .i64 (hd (C.T.drop k)).kind) ∧ w'.cell? ⟨w2.heap.size, 1, none⟩ = some (.string ⟨(hd (C.T.drop k)).text.toArray⟩) ∧ w'.cell? ⟨w2.heap.size, 2, none⟩ = some (.int .i64 (hd (C.T.drop k)).n) ∧ w'.cell? ⟨w2.heap.size, 3, none⟩ = some (.int .i64 (hd (C.T.drop k)).line) ∧ w'.cell? ⟨w2.heap.size, 4, none⟩ = some (.int .i64 (hd (C.T.drop k)).col) ∧ w'.cell? ⟨w2.heap.size + 1, 1, none⟩ = some (.string ⟨(hd (C.T.drop (k + 1))).text.toArray⟩)) (first | go_keep | (obtain ⟨qa0, qa1, qa2, qa3, qa4, _⟩ := tok5 (HS9.out.loc _ (.tail _ (.head _))).is; obtain ⟨_, qb1, _, _, _, _⟩ := tok5 (HS9.out.loc _ (.head _)).is; exact ⟨qa0, qa1, qa2, qa3, qa4, qb1⟩) | (obtain ⟨qa0, qa1, qa2, qa3, qa4, _⟩ := tok5 (HL.out _ (.tail _ (.head _))).is; obtain ⟨_, qb1, _, _, _, _⟩ := tok5 (HL.out _ (.head _)).is; exact ⟨qa0, qa1, qa2, qa3, qa4, qb1⟩)) (first | (go_at_call 94; refine (HBLK.out C _ _ _ _ _ HSD.out.ps HD.out).mono ?_; rintro e w9 hr; rw [HP.out] at hr; obtain ⟨j1, v1, rfl, rfl, hs⟩ := HSD.out.sub hr; have HS9 := Lib.hid hs; generalize hN : ((tw.length + _ + f1.size : Nat) : Int) = N1; have HN1 := Lib.hid hN; clear hs hr hN) | (go_at_call 76; refine (add_ok C _ _ _ _ _ (hd (C.T.drop k)) 7 (hd (C.T.drop (k + 1))).text 0 _ _ (HS9.out.al _).ps (ints_new w9 HS9.out.ps.xlt [N1] #[.int .i64 N1] rfl w9.heap.size 1 rfl rfl) HS9.out.room).mono ?_; rintro e w10 ⟨rfl, v', hs, hk⟩; have HL := Lib.hid (fun x hx => ((HS9.out.al _).loc x hx).keep hk); generalize hN2 : (((tw ++ _ : List Tw).length : Nat) : Int) = N; have hids : [N1] = (Fo.nil.app (one d1 f1)).ids tw.length := (by rw [ids_snoc, ← HN1.out]; rfl); rw [hids] at hs; have HR := Lib.hid ((HS9.out.al _).fin HO'.out hs hk hN2.symm); clear hs hk hN2 hids))
  go_wp2_with fail
  go_ret
  exact HR.out

set_option maxRecDepth 100000 in
set_option maxHeartbeats 2000000 in
theorem life_ok (n : Nat) (HBLK : Hid (Ct 94 n .block)) (C : Cx) (w : World) (k m : Nat) (v : Value) (tw : List Tw) (h : PS w C k m v tw) (hnd : lifeO (fun r => P n .block r m) (C.T.drop k) ≠ .dry) :
    Calls Tryz.prog 108 #[C.ptr] w (Ret C w k m v tw (lifeO (fun r => P n .block r m) (C.T.drop k))) := by
  have HS0 := Lib.hid (St.start h)
  clear h
  generalize ho : lifeO (fun r => P n .block r m) (C.T.drop k) = o at hnd ⊢
  have HND := Lib.hid hnd
  clear hnd
  simp only [lifeO] at ho
  have HO0 := Lib.hid ho
  clear ho
  have hfd := field1
  go_enter Tryz.func108, Tryz.ntmps108
  go_wp2_with fail
  have HA := Lib.hid (HS0.out.var w.heap.size rfl (.cells #[.string ⟨#[99, 114, 101, 97, 116, 101]⟩, .string ⟨#[115, 116, 97, 114, 116]⟩, .string ⟨#[115, 116, 111, 112]⟩, .string ⟨#[100, 101, 115, 116, 114, 111, 121]⟩] 9))
  cases hx : seesW (C.T.drop k) lifeWords
  · have ho' := HO0.out
    rw [tkW_no hx] at ho'
    refine (takeWord_no C _ _ _ _ _ lifeWords w.heap.size 4 HA.out.ps (strs_new w lifeWords _ rfl w.heap.size rfl) (by simp) (by decide) hx).mono ?_
    rintro e w' ⟨rfl, hb⟩
    have HB := Lib.hid (HA.out.bad (m0 := m) ho' hb)
    clear hb ho' hx
    go_wp2_with fail
    exact ⟨rfl, HB.out⟩
  have ho' := HO0.out
  rw [tkW_yes hx, tail_drop'] at ho'
  have HO1 := Lib.hid ho'
  have HX := Lib.hid hx
  refine (takeWord_yes C _ _ _ _ _ lifeWords w.heap.size 4 HA.out.ps (strs_new w lifeWords _ rfl w.heap.size rfl) (by simp) (by decide) hx).mono ?_
  rintro e w1 ⟨rfl, hs, hk⟩
  have HS1 := Lib.hid (HA.out.took hs hk)
  clear hs hk HA ho' hx
  unfold tokV
  go_wp2_with fail
  have hsx : Strs w1 w.heap.size lifeWords := fun i s hi => by have h1 := (HS1.out.loc _ (.head _)).is; simp only [World.cell?, h1]; match i, hi with | 0, hi => (cases hi; rfl) | 1, hi => (cases hi; rfl) | 2, hi => (cases hi; rfl) | 3, hi => (cases hi; rfl)
  have hix := index_ok lifeWords w.heap.size 4 (hd (C.T.drop k)).text (w1.alloc (.cells #[.int .i64 (hd (C.T.drop k)).kind, .string ⟨(hd (C.T.drop k)).text.toArray⟩, .int .i64 (hd (C.T.drop k)).n, .int .i64 (hd (C.T.drop k)).line, .int .i64 (hd (C.T.drop k)).col] 61)) (hsx.below ((Below.refl _ _).alloc (Nat.le_refl _) _) (lt_of_block (HS1.out.loc _ (.head _)).is)) (by decide)
  have hidx : idx lifeWords (hd (C.T.drop k)).text = (lifeWords.idxOf (hd (C.T.drop k)).text : Int) := by unfold idx; rw [if_pos]; have h1 := HX.out; unfold seesW seesK at h1; simp only [Bool.and_eq_true] at h1; exact h1.2
  rw [hidx] at hix
  have HIX := Lib.hid hix
  clear hix hsx hidx
  refine HIX.out.mono ?_
  rintro e w2 ⟨rfl, rfl⟩
  clear HIX
  generalize hNN : (lifeWords.idxOf (hd (C.T.drop k)).text : Int) = NN
  have HNN := Lib.hid hNN
  have ho' := HO1.out
  rw [hNN] at ho'
  have HO7 := Lib.hid ho'
  clear hNN ho'
  go_wp2_with fail
  have HSD := Lib.hid ((HS1.out.var (w1.heap.size) (by simp) (.cells #[.int .i64 (hd (C.T.drop k)).kind, .string ⟨(hd (C.T.drop k)).text.toArray⟩, .int .i64 (hd (C.T.drop k)).n, .int .i64 (hd (C.T.drop k)).line, .int .i64 (hd (C.T.drop k)).col] 61)).drew)
  have hnd : P n .block (C.T.drop (k + 1)) m ≠ .dry := fun hdry => by have h1 := HO7.out; rw [hdry] at h1; exact HND.out h1.symm
  rcases hP : P n .block (C.T.drop (k + 1)) m with _ | ⟨er, r⟩ | ⟨d1, f1, r⟩
  · exact absurd hP hnd
  · have ho' := HO7.out
    rw [hP] at ho'
    have HP := Lib.hid hP
    have HO' := Lib.hid ho'
    have HD := Lib.hid hnd
    clear hP ho' hnd
    go_region_with (first | (go_at_call 94; refine (HBLK.out C _ _ _ _ _ HSD.out.ps HD.out).mono ?_; rintro e w9 hr; rw [HP.out] at hr; have HB := Lib.hid (HSD.out.bad' (m0 := m) HO'.out hr); obtain ⟨rfl, _⟩ := hr; go_simp; suffices _hz : wpAny Tryz.prog .any #[] (fun _ _ _ => True) 0 #[] ⟨#[], []⟩ w9 from ⟨rfl, HB.out⟩))
    all_goals trivial
  have ho' := HO7.out
  rw [hP] at ho'
  dsimp only [Out.and] at ho'
  have HP := Lib.hid hP
  have HO' := Lib.hid ho'
  have HD := Lib.hid hnd
  clear hP ho' hnd
  go_region_held3 (fun w' => w'.cell? ⟨w1.heap.size, 0, none⟩ = some (.int .i64 (hd (C.T.drop k)).kind) ∧ w'.cell? ⟨w1.heap.size, 1, none⟩ = some (.string ⟨(hd (C.T.drop k)).text.toArray⟩) ∧ w'.cell? ⟨w1.heap.size, 2, none⟩ = some (.int .i64 (hd (C.T.drop k)).n) ∧ w'.cell? ⟨w1.heap.size, 3, none⟩ = some (.int .i64 (hd (C.T.drop k)).line) ∧ w'.cell? ⟨w1.heap.size, 4, none⟩ = some (.int .i64 (hd (C.T.drop k)).col)) (first | go_keep | (obtain ⟨qa0, qa1, qa2, qa3, qa4, _⟩ := tok5 (HS9.out.loc _ (.head _)).is; exact ⟨qa0, qa1, qa2, qa3, qa4⟩) | (obtain ⟨qa0, qa1, qa2, qa3, qa4, _⟩ := tok5 (HL.out _ (.head _)).is; exact ⟨qa0, qa1, qa2, qa3, qa4⟩)) (first | (go_at_call 94; refine (HBLK.out C _ _ _ _ _ HSD.out.ps HD.out).mono ?_; rintro e w9 hr; rw [HP.out] at hr; obtain ⟨j1, v1, rfl, rfl, hs⟩ := HSD.out.sub hr; have HS9 := Lib.hid hs; generalize hN : ((tw.length + _ + f1.size : Nat) : Int) = N1; have HN1 := Lib.hid hN; clear hs hr hN) | (go_at_call 76; refine (add_ok C _ _ _ _ _ (hd (C.T.drop k)) 9 [] NN _ _ (HS9.out.al _).ps (ints_new w9 HS9.out.ps.xlt [N1] #[.int .i64 N1] rfl w9.heap.size 1 rfl rfl) HS9.out.room).mono ?_; rintro e w10 ⟨rfl, v', hs, hk⟩; have HL := Lib.hid (fun x hx => ((HS9.out.al _).loc x hx).keep hk); generalize hN2 : (((tw ++ _ : List Tw).length : Nat) : Int) = N; have hids : [N1] = (Fo.nil.app (one d1 f1)).ids tw.length := (by rw [ids_snoc, ← HN1.out]; rfl); rw [hids] at hs; have HR := Lib.hid ((HS9.out.al _).fin HO'.out hs hk hN2.symm); clear hs hk hN2 hids))
  go_wp2_with fail
  go_ret
  exact HR.out

theorem lifeC (n m : Nat) (HBLK : Hid (Ct 94 n .block)) : ∀ (C : Cx) (w : World) (k : Nat) (v : Value) (tw : List Tw), PS w C k m v tw → lifeO (fun r => P n .block r m) (C.T.drop k) ≠ .dry → Calls Tryz.prog 108 #[C.ptr] w (Ret C w k m v tw (lifeO (fun r => P n .block r m) (C.T.drop k))) := fun C w k v tw h hnd => life_ok n HBLK C w k m v tw h hnd

set_option maxRecDepth 100000 in
set_option maxHeartbeats 2000000 in
theorem event_ok (n : Nat) (HBLK : Hid (Ct 94 n .block)) (C : Cx) (w : World) (k m : Nat) (v : Value) (tw : List Tw) (h : PS w C k m v tw) (h2 : seesW (C.T.drop k) [[108, 111, 111, 112, 101, 114]] = false) (h3 : seesW (C.T.drop k) [[99, 108, 97, 115, 115]] = false) (h4 : seesW (C.T.drop k) [[118, 97, 114]] = false) (h5 : seesW (C.T.drop k) [[102, 110]] = false) (h6 : seesW (C.T.drop k) [[99, 111, 109, 112]] = false) (h1 : seesW (C.T.drop k) [[101, 118, 101, 110, 116]] = true) (hnd : P (n + 1) .decl (C.T.drop k) m ≠ .dry) :
    Calls Tryz.prog 92 #[C.ptr] w (Ret C w k m v tw (P (n + 1) .decl (C.T.drop k) m)) := by
  have HS0 := Lib.hid (St.start h)
  clear h
  generalize ho : P (n + 1) .decl (C.T.drop k) m = o at hnd ⊢
  have HND := Lib.hid hnd
  clear hnd
  rw [P] at ho
  simp only [h1, h2, h3, h4, h5, h6, Bool.false_eq_true, if_false, if_true, tail_drop'] at ho
  have hlt : k < C.T.length := sees_lt (x := 2) (by decide) (seesK_kind h1)
  clear h1
  have HO0 := Lib.hid ho
  clear ho
  have hfd := field1
  go_enter Tryz.func92, Tryz.ntmps92
  go_wp2_with fail
  refine (take_ok C _ _ _ _ _ HS0.out.ps (hlt)).mono ?_
  rintro e w1 ⟨rfl, hs, hk⟩
  have HS1 := Lib.hid (HS0.out.took hs hk)
  clear hs hk HS0 
  unfold tokV
  go_wp2_with fail
  cases hx : ((hd (C.T.drop (k + 1))).kind == 1)
  · have ho' := HO0.out
    rw [tkK_no hx] at ho'
    refine (takeName_no C _ _ _ _ _ HS1.out.ps hx).mono ?_
    rintro e w' ⟨rfl, hb⟩
    have HB := Lib.hid (HS1.out.bad (m0 := m) ho' hb)
    clear hb ho' hx
    go_wp2_with fail
    exact ⟨rfl, HB.out⟩
  have ho' := HO0.out
  rw [tkK_yes hx, tail_drop'] at ho'
  have HO1 := Lib.hid ho'
  refine (takeName_yes C _ _ _ _ _ HS1.out.ps hx).mono ?_
  rintro e w2 ⟨rfl, hs, hk⟩
  have HS2 := Lib.hid (HS1.out.took hs hk)
  clear hs hk HS1 ho' hx
  unfold tokV
  go_wp2_with fail
  have hnd : onO (C.T.drop ((k + 1) + 1)) ≠ .dry := fun hdry => by have h1 := HO1.out; rw [hdry] at h1; exact HND.out h1.symm
  refine (onC.out C _ _ _ _ _ ((HS2.out.var (w2.heap.size) (by simp) (.cells #[.int .i64 (hd (C.T.drop k)).kind, .string ⟨(hd (C.T.drop k)).text.toArray⟩, .int .i64 (hd (C.T.drop k)).n, .int .i64 (hd (C.T.drop k)).line, .int .i64 (hd (C.T.drop k)).col] 61)).var (w2.heap.size + 1) (by simp) (.cells #[.int .i64 (hd (C.T.drop (k + 1))).kind, .string ⟨(hd (C.T.drop (k + 1))).text.toArray⟩, .int .i64 (hd (C.T.drop (k + 1))).n, .int .i64 (hd (C.T.drop (k + 1))).line, .int .i64 (hd (C.T.drop (k + 1))).col] 61)).ps hnd).mono ?_
  rintro e w3 hr
  rcases hP : onO (C.T.drop ((k + 1) + 1)) with _ | ⟨er, r⟩ | ⟨d1, f1, r⟩
  · exact absurd hP hnd
  · rw [hP] at hr
    have ho' := HO1.out
    rw [hP] at ho'
    have HB := Lib.hid (((HS2.out.var (w2.heap.size) (by simp) (.cells #[.int .i64 (hd (C.T.drop k)).kind, .string ⟨(hd (C.T.drop k)).text.toArray⟩, .int .i64 (hd (C.T.drop k)).n, .int .i64 (hd (C.T.drop k)).line, .int .i64 (hd (C.T.drop k)).col] 61)).var (w2.heap.size + 1) (by simp) (.cells #[.int .i64 (hd (C.T.drop (k + 1))).kind, .string ⟨(hd (C.T.drop (k + 1))).text.toArray⟩, .int .i64 (hd (C.T.drop (k + 1))).n, .int .i64 (hd (C.T.drop (k + 1))).line, .int .i64 (hd (C.T.drop (k + 1))).col] 61)).bad' (m0 := m) ho' hr)
    obtain ⟨rfl, _⟩ := hr
    clear hnd hP ho'
    go_wp2_with fail
    exact ⟨rfl, HB.out⟩
  rw [hP] at hr
  obtain ⟨j1, v1, rfl, rfl, hs⟩ := ((HS2.out.var (w2.heap.size) (by simp) (.cells #[.int .i64 (hd (C.T.drop k)).kind, .string ⟨(hd (C.T.drop k)).text.toArray⟩, .int .i64 (hd (C.T.drop k)).n, .int .i64 (hd (C.T.drop k)).line, .int .i64 (hd (C.T.drop k)).col] 61)).var (w2.heap.size + 1) (by simp) (.cells #[.int .i64 (hd (C.T.drop (k + 1))).kind, .string ⟨(hd (C.T.drop (k + 1))).text.toArray⟩, .int .i64 (hd (C.T.drop (k + 1))).n, .int .i64 (hd (C.T.drop (k + 1))).line, .int .i64 (hd (C.T.drop (k + 1))).col] 61)).sub hr
  have ho' := HO1.out
  rw [hP] at ho'
  dsimp only [Out.and] at ho'
  have HO2 := Lib.hid ho'
  have HS3 := Lib.hid hs
  generalize hN : ((tw.length + _ + f1.size : Nat) : Int) = N1
  have HN1 := Lib.hid hN
  clear hs hr hN hnd hP ho' HS2 
  obtain ⟨a3_0, a3_1, a3_2, a3_3, a3_4, a3_5⟩ := tok5 (HS3.out.loc _ (.tail _ (.head _))).is
  have a3_lt := lt_of_block (HS3.out.loc _ (.tail _ (.head _))).is
  obtain ⟨b3_0, b3_1, b3_2, b3_3, b3_4, b3_5⟩ := tok5 (HS3.out.loc _ (.head _)).is
  have b3_lt := lt_of_block (HS3.out.loc _ (.head _)).is
  have c_ge : w.heap.size ≤ w3.heap.size := HS3.out.kp.size
  go_wp2_with fail
  cases hx : seesW (C.T.drop j1) [[111, 110], [111, 102, 102]]
  · have ho' := HO2.out
    rw [tkW_no hx] at ho'
    refine (takeWord_new_no C _ _ _ _ _ [[111, 110], [111, 102, 102]] _ _ _ (HS3.out.var (w3.heap.size) (by simp) (.cells #[.int .i64 10, .string ⟨(hd (C.T.drop (k + 1))).text.toArray⟩, .int .i64 0, .int .i64 0, .int .i64 0, .slice none 0 0] 39)).ps (by simp) rfl rfl (by decide) hx).mono ?_
    rintro e w' ⟨rfl, hb⟩
    have HB := Lib.hid ((HS3.out.var (w3.heap.size) (by simp) (.cells #[.int .i64 10, .string ⟨(hd (C.T.drop (k + 1))).text.toArray⟩, .int .i64 0, .int .i64 0, .int .i64 0, .slice none 0 0] 39)).bad (m0 := m) ho' hb)
    clear hb ho' hx
    go_wp2_with fail
    exact ⟨rfl, HB.out⟩
  have ho' := HO2.out
  rw [tkW_yes hx, tail_drop'] at ho'
  have HO3 := Lib.hid ho'
  refine (takeWord_new_yes C _ _ _ _ _ [[111, 110], [111, 102, 102]] _ _ _ (HS3.out.var (w3.heap.size) (by simp) (.cells #[.int .i64 10, .string ⟨(hd (C.T.drop (k + 1))).text.toArray⟩, .int .i64 0, .int .i64 0, .int .i64 0, .slice none 0 0] 39)).ps (by simp) rfl rfl (by decide) hx).mono ?_
  rintro e w4 ⟨rfl, hs, hk⟩
  have HS4 := Lib.hid ((HS3.out.var (w3.heap.size) (by simp) (.cells #[.int .i64 10, .string ⟨(hd (C.T.drop (k + 1))).text.toArray⟩, .int .i64 0, .int .i64 0, .int .i64 0, .slice none 0 0] 39)).took hs hk)
  clear hs hk HS3 ho' hx
  unfold tokV
  by_cases hon : (hd (C.T.drop j1)).text = [111, 110]
  · have hb1 : ((hd (C.T.drop j1)).text == [111, 110]) = true := by simp [hon]
    have ho' := HO3.out
    simp only [hon, if_true] at ho'
    have HO8 := Lib.hid ho'
    clear ho' hon
    obtain ⟨c4_0, c4_1, c4_2, c4_3, c4_4, c4_5, c4_6⟩ := twig6 (HS4.out.loc _ (.head _)).is
    have c4_lt := lt_of_block (HS4.out.loc _ (.head _)).is
    go_wp2_with fail
    have HS5 := Lib.hid (HS4.out.setv 2 (.int .i64 1) (by decide) c_ge (by intro x hx; simp at hx; rcases hx with rfl | rfl <;> simp <;> omega))
    clear c4_0 c4_1 c4_2 c4_3 c4_4 c4_5 c4_6 HS4
    generalize World.setCell w4 _ _ = w5 at HS5 ⊢
    obtain ⟨a5_0, a5_1, a5_2, a5_3, a5_4, a5_5⟩ := tok5 (HS5.out.loc _ (.tail _ (.tail _ (.head _)))).is
    have a5_lt := lt_of_block (HS5.out.loc _ (.tail _ (.tail _ (.head _)))).is
    obtain ⟨c5_0, c5_1, c5_2, c5_3, c5_4, c5_5, c5_6⟩ := twig6 (HS5.out.loc _ (.head _)).is
    have c5_lt := lt_of_block (HS5.out.loc _ (.head _)).is
    have HSD := Lib.hid (HS5.out.drew)
    have hnd : P n .block (C.T.drop (j1 + 1)) m ≠ .dry := fun hdry => by have h1 := HO8.out; rw [hdry] at h1; exact HND.out h1.symm
    rcases hP : P n .block (C.T.drop (j1 + 1)) m with _ | ⟨er, r⟩ | ⟨d2, f2, r⟩
    · exact absurd hP hnd
    · have ho' := HO8.out
      rw [hP] at ho'
      have HP := Lib.hid hP
      have HO' := Lib.hid ho'
      have HD := Lib.hid hnd
      clear hP ho' hnd
      go_region_with (first | (go_at_call 94; refine (HBLK.out C _ _ _ _ _ HSD.out.ps HD.out).mono ?_; rintro e w9 hr; rw [HP.out] at hr; have HB := Lib.hid (HSD.out.bad' (m0 := m) HO'.out hr); obtain ⟨rfl, _⟩ := hr; go_simp; suffices _hz : wpAny Tryz.prog .any #[] (fun _ _ _ => True) 0 #[] ⟨#[], []⟩ w9 from ⟨rfl, HB.out⟩))
      all_goals trivial
    have ho' := HO8.out
    rw [hP] at ho'
    dsimp only [Out.and] at ho'
    have HP := Lib.hid hP
    have HO' := Lib.hid ho'
    have HD := Lib.hid hnd
    clear hP ho' hnd
    go_region_held3 (fun w' => w'.cell? ⟨w2.heap.size, 0, none⟩ = some (.int .i64 (hd (C.T.drop k)).kind) ∧ w'.cell? ⟨w2.heap.size, 1, none⟩ = some (.string ⟨(hd (C.T.drop k)).text.toArray⟩) ∧ w'.cell? ⟨w2.heap.size, 2, none⟩ = some (.int .i64 (hd (C.T.drop k)).n) ∧ w'.cell? ⟨w2.heap.size, 3, none⟩ = some (.int .i64 (hd (C.T.drop k)).line) ∧ w'.cell? ⟨w2.heap.size, 4, none⟩ = some (.int .i64 (hd (C.T.drop k)).col) ∧ w'.cell? ⟨w3.heap.size, 0, none⟩ = some (.int .i64 10) ∧ w'.cell? ⟨w3.heap.size, 1, none⟩ = some (.string ⟨(hd (C.T.drop (k + 1))).text.toArray⟩) ∧ w'.cell? ⟨w3.heap.size, 2, none⟩ = some (.int .i64 1) ∧ w'.cell? ⟨w3.heap.size, 3, none⟩ = some (.int .i64 0) ∧ w'.cell? ⟨w3.heap.size, 4, none⟩ = some (.int .i64 0) ∧ w'.cell? ⟨w3.heap.size, 5, none⟩ = some (.slice none 0 0)) (first | go_keep | (obtain ⟨qa0, qa1, qa2, qa3, qa4, _⟩ := tok5 (HS9.out.loc _ (.tail _ (.tail _ (.head _)))).is; obtain ⟨qc0, qc1, qc2, qc3, qc4, qc5, _⟩ := twig6 (HS9.out.loc _ (.head _)).is; exact ⟨qa0, qa1, qa2, qa3, qa4, qc0, qc1, qc2, qc3, qc4, qc5⟩) | (obtain ⟨qa0, qa1, qa2, qa3, qa4, _⟩ := tok5 (HL.out _ (.tail _ (.tail _ (.head _)))).is; obtain ⟨qc0, qc1, qc2, qc3, qc4, qc5, _⟩ := twig6 (HL.out _ (.head _)).is; exact ⟨qa0, qa1, qa2, qa3, qa4, qc0, qc1, qc2, qc3, qc4, qc5⟩)) (first | (go_at_call 94; refine (HBLK.out C _ _ _ _ _ HSD.out.ps HD.out).mono ?_; rintro e w9 hr; rw [HP.out] at hr; obtain ⟨j2, v2, rfl, rfl, hs⟩ := HSD.out.sub hr; have HS9 := Lib.hid hs; generalize hN : ((tw.length + _ + f2.size : Nat) : Int) = N2; have HN2 := Lib.hid hN; clear hs hr hN) | (go_at_call 76; refine (add_ok C _ _ _ _ _ (hd (C.T.drop k)) 10 (hd (C.T.drop (k + 1))).text 1 _ _ (HS9.out.al _).ps (ints_new w9 HS9.out.ps.xlt [N1, N2] #[.int .i64 N1, .int .i64 N2] rfl w9.heap.size 2 rfl rfl) HS9.out.room).mono ?_; rintro e w10 ⟨rfl, v', hs, hk⟩; have HL := Lib.hid (fun x hx => ((HS9.out.al _).loc x hx).keep hk); generalize hN2 : (((tw ++ _ : List Tw).length : Nat) : Int) = N; have hids : [N1, N2] = ((Fo.nil.app (one d1 f1)).app (one d2 f2)).ids tw.length := (by rw [ids_snoc, ids_snoc, ← HN1.out, ← HN2.out]; rfl); rw [hids] at hs; have HR := Lib.hid ((HS9.out.al _).fin HO'.out hs hk hN2.symm); clear hs hk hN2 hids))
    go_wp2_with fail
    go_ret
    exact HR.out
  · have hb1 : ((hd (C.T.drop j1)).text == [111, 110]) = false := by simp [hon]
    have ho' := HO3.out
    simp only [hon, if_false] at ho'
    have HO8 := Lib.hid ho'
    clear ho' hon
    obtain ⟨a4_0, a4_1, a4_2, a4_3, a4_4, a4_5⟩ := tok5 (HS4.out.loc _ (.tail _ (.tail _ (.head _)))).is
    have a4_lt := lt_of_block (HS4.out.loc _ (.tail _ (.tail _ (.head _)))).is
    obtain ⟨c4_0, c4_1, c4_2, c4_3, c4_4, c4_5, c4_6⟩ := twig6 (HS4.out.loc _ (.head _)).is
    have c4_lt := lt_of_block (HS4.out.loc _ (.head _)).is
    go_wp2_with fail
    have HSD := Lib.hid (HS4.out.drew)
    have hnd : P n .block (C.T.drop (j1 + 1)) m ≠ .dry := fun hdry => by have h1 := HO8.out; rw [hdry] at h1; exact HND.out h1.symm
    rcases hP : P n .block (C.T.drop (j1 + 1)) m with _ | ⟨er, r⟩ | ⟨d2, f2, r⟩
    · exact absurd hP hnd
    · have ho' := HO8.out
      rw [hP] at ho'
      have HP := Lib.hid hP
      have HO' := Lib.hid ho'
      have HD := Lib.hid hnd
      clear hP ho' hnd
      go_region_with (first | (go_at_call 94; refine (HBLK.out C _ _ _ _ _ HSD.out.ps HD.out).mono ?_; rintro e w9 hr; rw [HP.out] at hr; have HB := Lib.hid (HSD.out.bad' (m0 := m) HO'.out hr); obtain ⟨rfl, _⟩ := hr; go_simp; suffices _hz : wpAny Tryz.prog .any #[] (fun _ _ _ => True) 0 #[] ⟨#[], []⟩ w9 from ⟨rfl, HB.out⟩))
      all_goals trivial
    have ho' := HO8.out
    rw [hP] at ho'
    dsimp only [Out.and] at ho'
    have HP := Lib.hid hP
    have HO' := Lib.hid ho'
    have HD := Lib.hid hnd
    clear hP ho' hnd
    go_region_held3 (fun w' => w'.cell? ⟨w2.heap.size, 0, none⟩ = some (.int .i64 (hd (C.T.drop k)).kind) ∧ w'.cell? ⟨w2.heap.size, 1, none⟩ = some (.string ⟨(hd (C.T.drop k)).text.toArray⟩) ∧ w'.cell? ⟨w2.heap.size, 2, none⟩ = some (.int .i64 (hd (C.T.drop k)).n) ∧ w'.cell? ⟨w2.heap.size, 3, none⟩ = some (.int .i64 (hd (C.T.drop k)).line) ∧ w'.cell? ⟨w2.heap.size, 4, none⟩ = some (.int .i64 (hd (C.T.drop k)).col) ∧ w'.cell? ⟨w3.heap.size, 0, none⟩ = some (.int .i64 10) ∧ w'.cell? ⟨w3.heap.size, 1, none⟩ = some (.string ⟨(hd (C.T.drop (k + 1))).text.toArray⟩) ∧ w'.cell? ⟨w3.heap.size, 2, none⟩ = some (.int .i64 0) ∧ w'.cell? ⟨w3.heap.size, 3, none⟩ = some (.int .i64 0) ∧ w'.cell? ⟨w3.heap.size, 4, none⟩ = some (.int .i64 0) ∧ w'.cell? ⟨w3.heap.size, 5, none⟩ = some (.slice none 0 0)) (first | go_keep | (obtain ⟨qa0, qa1, qa2, qa3, qa4, _⟩ := tok5 (HS9.out.loc _ (.tail _ (.tail _ (.head _)))).is; obtain ⟨qc0, qc1, qc2, qc3, qc4, qc5, _⟩ := twig6 (HS9.out.loc _ (.head _)).is; exact ⟨qa0, qa1, qa2, qa3, qa4, qc0, qc1, qc2, qc3, qc4, qc5⟩) | (obtain ⟨qa0, qa1, qa2, qa3, qa4, _⟩ := tok5 (HL.out _ (.tail _ (.tail _ (.head _)))).is; obtain ⟨qc0, qc1, qc2, qc3, qc4, qc5, _⟩ := twig6 (HL.out _ (.head _)).is; exact ⟨qa0, qa1, qa2, qa3, qa4, qc0, qc1, qc2, qc3, qc4, qc5⟩)) (first | (go_at_call 94; refine (HBLK.out C _ _ _ _ _ HSD.out.ps HD.out).mono ?_; rintro e w9 hr; rw [HP.out] at hr; obtain ⟨j2, v2, rfl, rfl, hs⟩ := HSD.out.sub hr; have HS9 := Lib.hid hs; generalize hN : ((tw.length + _ + f2.size : Nat) : Int) = N2; have HN2 := Lib.hid hN; clear hs hr hN) | (go_at_call 76; refine (add_ok C _ _ _ _ _ (hd (C.T.drop k)) 10 (hd (C.T.drop (k + 1))).text 0 _ _ (HS9.out.al _).ps (ints_new w9 HS9.out.ps.xlt [N1, N2] #[.int .i64 N1, .int .i64 N2] rfl w9.heap.size 2 rfl rfl) HS9.out.room).mono ?_; rintro e w10 ⟨rfl, v', hs, hk⟩; have HL := Lib.hid (fun x hx => ((HS9.out.al _).loc x hx).keep hk); generalize hN2 : (((tw ++ _ : List Tw).length : Nat) : Int) = N; have hids : [N1, N2] = ((Fo.nil.app (one d1 f1)).app (one d2 f2)).ids tw.length := (by rw [ids_snoc, ids_snoc, ← HN1.out, ← HN2.out]; rfl); rw [hids] at hs; have HR := Lib.hid ((HS9.out.al _).fin HO'.out hs hk hN2.symm); clear hs hk hN2 hids))
    go_wp2_with fail
    go_ret
    exact HR.out

end Go.Proofs.YtehdljcmeimbcaaGreat
