/- parser.class, component, program; parser.declaration, program. -/
import Derived.Test.YtehdljcmeimbcaaGreatB10
import Derived.Test.YtehdljcmeimbcaaGreatB11
namespace Go.Proofs.YtehdljcmeimbcaaGreat
open Go.RowKit

set_option maxRecDepth 100000 in
set_option maxHeartbeats 2000000 in
theorem class_ok (n : Nat) (C : Cx) (w : World) (k m : Nat) (v : Value) (tw : List Tw) (h : PS w C k m v tw) (h2 : seesW (C.T.drop k) [[108, 111, 111, 112, 101, 114]] = false) (h1 : seesW (C.T.drop k) [[99, 108, 97, 115, 115]] = true) (hnd : P (n + 1) .decl (C.T.drop k) m ≠ .dry) :
    Calls Tryz.prog 88 #[C.ptr] w (Ret C w k m v tw (P (n + 1) .decl (C.T.drop k) m)) := by
  have hpw := h.lt
  have HXW := Lib.hid h.xlt
  obtain ⟨i0, hi0, hz0, hz1, hz2⟩ := info_parts infoInt
  have HS0 := Lib.hid (St.start h)
  clear h
  generalize ho : P (n + 1) .decl (C.T.drop k) m = o at hnd ⊢
  have HND := Lib.hid hnd
  clear hnd
  rw [P] at ho
  simp only [h1, h2, Bool.false_eq_true, if_false, if_true, tail_drop'] at ho
  have hlt : k < C.T.length := sees_lt (x := 2) (by decide) (seesK_kind h1)
  clear h1 h2
  have HO0 := Lib.hid ho
  clear ho
  go_enter Tryz.func88, Tryz.ntmps88
  go_wp2_with fail
  refine (take_ok C _ _ _ _ _ HS0.out.ps (hlt)).mono ?_
  rintro e w1 ⟨rfl, hs, hk⟩
  have HS1 := Lib.hid (HS0.out.took hs hk)
  clear hs hk HS0 
  unfold tokV
  go_wp2_with fail
  cases hx : ((hd (C.T.drop (k + 1))).kind == 1)
  · have ho' := HO0.out
    rw [tkK_no hx] at ho'
    refine (takeName_no C _ _ _ _ _ HS1.out.ps hx).mono ?_
    rintro e w' ⟨rfl, hb⟩
    have HB := Lib.hid (HS1.out.bad (m0 := m) ho' hb)
    clear hb ho' hx
    go_wp2_with fail
    exact ⟨rfl, HB.out⟩
  have ho' := HO0.out
  rw [tkK_yes hx, tail_drop'] at ho'
  have HO1 := Lib.hid ho'
  refine (takeName_yes C _ _ _ _ _ HS1.out.ps hx).mono ?_
  rintro e w2 ⟨rfl, hs, hk⟩
  have HS2 := Lib.hid (HS1.out.took hs hk)
  clear hs hk HS1 ho' hx
  unfold tokV
  go_wp2_with fail
  cases hx : seesM (C.T.drop ((k + 1) + 1)) [[123]]
  · have ho' := HO1.out
    rw [tkM_no hx] at ho'
    refine (takeMark_new_no C _ _ _ _ _ [[123]] _ _ _ ((HS2.out.var (w2.heap.size) (by simp) (.cells #[.int .i64 (hd (C.T.drop k)).kind, .string ⟨(hd (C.T.drop k)).text.toArray⟩, .int .i64 (hd (C.T.drop k)).n, .int .i64 (hd (C.T.drop k)).line, .int .i64 (hd (C.T.drop k)).col] 61)).var (w2.heap.size + 1) (by simp) (.cells #[.int .i64 (hd (C.T.drop (k + 1))).kind, .string ⟨(hd (C.T.drop (k + 1))).text.toArray⟩, .int .i64 (hd (C.T.drop (k + 1))).n, .int .i64 (hd (C.T.drop (k + 1))).line, .int .i64 (hd (C.T.drop (k + 1))).col] 61)).ps (by simp) rfl rfl (by decide) hx).mono ?_
    rintro e w' ⟨rfl, hb⟩
    have HB := Lib.hid (((HS2.out.var (w2.heap.size) (by simp) (.cells #[.int .i64 (hd (C.T.drop k)).kind, .string ⟨(hd (C.T.drop k)).text.toArray⟩, .int .i64 (hd (C.T.drop k)).n, .int .i64 (hd (C.T.drop k)).line, .int .i64 (hd (C.T.drop k)).col] 61)).var (w2.heap.size + 1) (by simp) (.cells #[.int .i64 (hd (C.T.drop (k + 1))).kind, .string ⟨(hd (C.T.drop (k + 1))).text.toArray⟩, .int .i64 (hd (C.T.drop (k + 1))).n, .int .i64 (hd (C.T.drop (k + 1))).line, .int .i64 (hd (C.T.drop (k + 1))).col] 61)).bad (m0 := m) ho' hb)
    clear hb ho' hx
    go_wp2_with fail
    exact ⟨rfl, HB.out⟩
  have ho' := HO1.out
  rw [tkM_yes hx, tail_drop'] at ho'
  have HO2 := Lib.hid ho'
  refine (takeMark_new_yes C _ _ _ _ _ [[123]] _ _ _ ((HS2.out.var (w2.heap.size) (by simp) (.cells #[.int .i64 (hd (C.T.drop k)).kind, .string ⟨(hd (C.T.drop k)).text.toArray⟩, .int .i64 (hd (C.T.drop k)).n, .int .i64 (hd (C.T.drop k)).line, .int .i64 (hd (C.T.drop k)).col] 61)).var (w2.heap.size + 1) (by simp) (.cells #[.int .i64 (hd (C.T.drop (k + 1))).kind, .string ⟨(hd (C.T.drop (k + 1))).text.toArray⟩, .int .i64 (hd (C.T.drop (k + 1))).n, .int .i64 (hd (C.T.drop (k + 1))).line, .int .i64 (hd (C.T.drop (k + 1))).col] 61)).ps (by simp) rfl rfl (by decide) hx).mono ?_
  rintro e w3 ⟨rfl, hs, hk⟩
  have HS3 := Lib.hid (((HS2.out.var (w2.heap.size) (by simp) (.cells #[.int .i64 (hd (C.T.drop k)).kind, .string ⟨(hd (C.T.drop k)).text.toArray⟩, .int .i64 (hd (C.T.drop k)).n, .int .i64 (hd (C.T.drop k)).line, .int .i64 (hd (C.T.drop k)).col] 61)).var (w2.heap.size + 1) (by simp) (.cells #[.int .i64 (hd (C.T.drop (k + 1))).kind, .string ⟨(hd (C.T.drop (k + 1))).text.toArray⟩, .int .i64 (hd (C.T.drop (k + 1))).n, .int .i64 (hd (C.T.drop (k + 1))).line, .int .i64 (hd (C.T.drop (k + 1))).col] 61)).took hs hk)
  clear hs hk HS2 ho' hx
  unfold tokV
  go_wp2_with fail
  go_loopg [5] n (fun i v5 wr => ∃ (acc : Fo) (j : Nat) (vv : Value), i ≤ n ∧ Lp C w k v tw [(w2.heap.size + 1, .cells #[.int .i64 (hd (C.T.drop (k + 1))).kind, .string ⟨(hd (C.T.drop (k + 1))).text.toArray⟩, .int .i64 (hd (C.T.drop (k + 1))).n, .int .i64 (hd (C.T.drop (k + 1))).line, .int .i64 (hd (C.T.drop (k + 1))).col] 61), (w2.heap.size, .cells #[.int .i64 (hd (C.T.drop k)).kind, .string ⟨(hd (C.T.drop k)).text.toArray⟩, .int .i64 (hd (C.T.drop k)).n, .int .i64 (hd (C.T.drop k)).line, .int .i64 (hd (C.T.drop k)).col] 61)] m 6 acc j vv v5 wr ∧ P i (.members (hd (C.T.drop k)) (hd (C.T.drop (k + 1))) acc) (C.T.drop j) m = o)
  case atStart => exact ⟨.nil, _, _, Nat.le_refl _, ⟨HS3.out, World.ownsRow_nil _ _ _ _⟩, HO2.out⟩
  case round =>
    obtain ⟨acc, j, vv, hin, hLp, hPo⟩ := hrel
    generalize u5 = x at hLp ⊢
    have HLP := Lib.hid hLp
    have HPO := Lib.hid hPo
    clear hLp hPo
    cases gk with
    | zero => exact absurd HPO.out.symm HND.out
    | succ i =>
    cases hx : seesM (C.T.drop j) [[125]]
    · have hp := HPO.out
      rw [P] at hp
      simp only [hx, Bool.false_eq_true, if_false] at hp
      have HP1 := Lib.hid hp
      have HX := Lib.hid hx
      clear hp hx HPO
      go_wp2_with fail
      refine (seesMark_is (C.ex _) _ _ _ _ _ [[125]] _ _ _ false HLP.out.st.ps rfl rfl rfl (by decide) HX.out).mono ?_
      rintro e w13 ⟨rfl, hb⟩
      have HL2 := Lib.hid (HLP.out.keep hpw (HLP.out.st.below hb) (.of hb))
      clear hb HLP
      go_wp2_with fail
      have hnd : memO (C.T.drop j) ≠ .dry := fun hdry => by have h1 := HP1.out; rw [hdry] at h1; exact HND.out h1.symm
      refine (memC.out (C.ex _) _ _ _ _ _ HL2.out.st.ps hnd).mono ?_
      rintro e w14 hr0
      have hr : Ret (C.ex x) w13 j m vv (tw ++ acc.post tw.length) (memO (C.T.drop j)) e w14 := hr0
      clear hr0
      rcases hP : memO (C.T.drop j) with _ | ⟨er, r⟩ | ⟨d9, f9, r⟩
      · exact absurd hP hnd
      · rw [hP] at hr
        have ho' := HP1.out
        rw [hP] at ho'
        have hR : Ret C w k m v tw o e w14 := by subst ho'; exact ⟨hr.1, HL2.out.st.lowB hr.2⟩
        have HR := Lib.hid hR
        obtain ⟨rfl, _⟩ := hr
        clear hnd hP ho' hR
        go_wp2_with fail
        exact ⟨rfl, HR.out⟩
      rw [hP] at hr
      obtain ⟨_, _, _, _, _, hk3, _⟩ := id hr
      have HW3 := Lib.hid (ownI_keep HL2.out.own HL2.out.st.ps hpw hk3)
      obtain ⟨j9, v9, rfl, rfl, hs⟩ := HL2.out.st.sub hr
      have ho' := HP1.out
      rw [hP] at ho'
      dsimp only [Out.and, Cx.ex] at ho'
      have HO9 := Lib.hid ho'
      have HS9 := Lib.hid hs
      have hfew := HL2.out.few
      have hz14 : w.heap.size ≤ w14.heap.size := HS9.out.kp.size
      generalize hN : ((tw.length + _ + f9.size : Nat) : Int) = N9
      have HN9 := Lib.hid hN
      clear hs hr hN hnd hP ho' hk3
      go_wp2_with (at_builtin; refine wpList_append_lies _ rfl _ _ 37 rfl w.heap.size 3 i0 (.int .i64 0) 1 8 Tryz.underlying37 hi0 hz0 hz1 hz2 rfl (by decide) x acc.len _ rfl (HW3.out.alloc _) ⟨w14.heap.size, 0, none⟩ 1 1 [.int .i64 N9] rfl rfl (World.news_of_block (cs := #[.int .i64 N9]) (t := 3) (fr := (0, 0)) (heap_alloc_new w14 _)) (by simp [Value.oneCell']) (by decide) (by unfold maxLen; omega) (by omega) (by simp; omega) (w14.heap.size + 1) (by simp) ?_; intro gg cap w15 hown hgrow hat hltg)
      have HL3 := Lib.hid (HL2.out.next HS9.out hpw HW3.out _ hgrow hown hat hltg HN9.out (by intro y hy; simp at hy; rcases hy with rfl | rfl <;> exact ⟨_, _, _, rfl, by decide⟩))
      clear hown hgrow hat hltg HL2 HS9 HW3 HP1
      go_wp2_with fail
      go_roundg i
      case measure => omega
      case rel => exact ⟨_, _, _, by omega, HL3.out, HO9.out⟩
    · have hp := HPO.out
      rw [P] at hp
      simp only [hx, if_true, tail_drop'] at hp
      have HP1 := Lib.hid hp
      have HX := Lib.hid hx
      clear hp hx HPO
      go_wp2_with fail
      refine (seesMark_is (C.ex _) _ _ _ _ _ [[125]] _ _ _ true HLP.out.st.ps rfl rfl rfl (by decide) HX.out).mono ?_
      rintro e w13 ⟨rfl, hb⟩
      have HL2 := Lib.hid (HLP.out.keep hpw (HLP.out.st.below hb) (.of hb))
      clear hb HLP
      go_wp2_with fail
      refine (takeMark_new_yes (C.ex _) _ _ _ _ _ [[125]] _ _ _ HL2.out.st.ps rfl rfl rfl (by decide) HX.out).mono ?_
      rintro e w14 ⟨rfl, hs, hk⟩
      have HL3 := Lib.hid (HL2.out.keep hpw (HL2.out.st.took hs hk) hk)
      clear hs hk HL2
      unfold tokV

      have HI := Lib.hid (HL3.out.kids HXW.out)
      have HS5 := Lib.hid HL3.out.st.exDrop
      obtain ⟨z0, z1, z2, z3, z4, z5⟩ := tok5 (HS5.out.loc _ (.tail _ (.head _))).is
      obtain ⟨y0, y1, y2, y3, y4, y5⟩ := tok5 (HS5.out.loc _ (.head _)).is
      go_wp2_with fail
      refine (add_ok C _ _ _ _ _ (hd (C.T.drop k)) 3 (hd (C.T.drop (k + 1))).text 0 _ _ HS5.out.ps HI.out HS5.out.room).mono ?_
      rintro e w16 ⟨rfl, v', hs, hk⟩
      generalize hN : (((tw ++ _ : List Tw).length : Nat) : Int) = N
      have HR := Lib.hid (HS5.out.fin HP1.out hs hk hN.symm)
      clear hs hk hN HS5 HI
      go_wp2_with fail
      go_ret
      exact HR.out


set_option maxRecDepth 100000 in
set_option maxHeartbeats 2000000 in
theorem component_ok (n : Nat) (HBLK : Hid (∀ i, i ≤ n → Ct 94 i .block)) (C : Cx) (w : World) (k m : Nat) (v : Value) (tw : List Tw) (h : PS w C k m v tw) (h2 : seesW (C.T.drop k) [[108, 111, 111, 112, 101, 114]] = false) (h3 : seesW (C.T.drop k) [[99, 108, 97, 115, 115]] = false) (h4 : seesW (C.T.drop k) [[118, 97, 114]] = false) (h5 : seesW (C.T.drop k) [[102, 110]] = false) (h1 : seesW (C.T.drop k) [[99, 111, 109, 112]] = true) (hnd : P (n + 1) .decl (C.T.drop k) m ≠ .dry) :
    Calls Tryz.prog 91 #[C.ptr] w (Ret C w k m v tw (P (n + 1) .decl (C.T.drop k) m)) := by
  have hpw := h.lt
  have HXW := Lib.hid h.xlt
  obtain ⟨i0, hi0, hz0, hz1, hz2⟩ := info_parts infoInt
  have HS0 := Lib.hid (St.start h)
  clear h
  generalize ho : P (n + 1) .decl (C.T.drop k) m = o at hnd ⊢
  have HND := Lib.hid hnd
  clear hnd
  rw [P] at ho
  simp only [h1, h2, h3, h4, h5, Bool.false_eq_true, if_false, if_true, tail_drop'] at ho
  have hlt : k < C.T.length := sees_lt (x := 2) (by decide) (seesK_kind h1)
  clear h1 h2 h3 h4 h5
  have HO0 := Lib.hid ho
  clear ho
  go_enter Tryz.func91, Tryz.ntmps91
  go_wp2_with fail
  refine (take_ok C _ _ _ _ _ HS0.out.ps (hlt)).mono ?_
  rintro e w1 ⟨rfl, hs, hk⟩
  have HS1 := Lib.hid (HS0.out.took hs hk)
  clear hs hk HS0 
  unfold tokV
  go_wp2_with fail
  cases hx : ((hd (C.T.drop (k + 1))).kind == 1)
  · have ho' := HO0.out
    rw [tkK_no hx] at ho'
    refine (takeName_no C _ _ _ _ _ HS1.out.ps hx).mono ?_
    rintro e w' ⟨rfl, hb⟩
    have HB := Lib.hid (HS1.out.bad (m0 := m) ho' hb)
    clear hb ho' hx
    go_wp2_with fail
    exact ⟨rfl, HB.out⟩
  have ho' := HO0.out
  rw [tkK_yes hx, tail_drop'] at ho'
  have HO1 := Lib.hid ho'
  refine (takeName_yes C _ _ _ _ _ HS1.out.ps hx).mono ?_
  rintro e w2 ⟨rfl, hs, hk⟩
  have HS2 := Lib.hid (HS1.out.took hs hk)
  clear hs hk HS1 ho' hx
  unfold tokV
  go_wp2_with fail
  have hnd : onO (C.T.drop ((k + 1) + 1)) ≠ .dry := fun hdry => by have h1 := HO1.out; rw [hdry] at h1; exact HND.out h1.symm
  refine (onC.out C _ _ _ _ _ ((HS2.out.var (w2.heap.size) (by simp) (.cells #[.int .i64 (hd (C.T.drop k)).kind, .string ⟨(hd (C.T.drop k)).text.toArray⟩, .int .i64 (hd (C.T.drop k)).n, .int .i64 (hd (C.T.drop k)).line, .int .i64 (hd (C.T.drop k)).col] 61)).var (w2.heap.size + 1) (by simp) (.cells #[.int .i64 (hd (C.T.drop (k + 1))).kind, .string ⟨(hd (C.T.drop (k + 1))).text.toArray⟩, .int .i64 (hd (C.T.drop (k + 1))).n, .int .i64 (hd (C.T.drop (k + 1))).line, .int .i64 (hd (C.T.drop (k + 1))).col] 61)).ps hnd).mono ?_
  rintro e w3 hr
  rcases hP : onO (C.T.drop ((k + 1) + 1)) with _ | ⟨er, r⟩ | ⟨d1, f1, r⟩
  · exact absurd hP hnd
  · rw [hP] at hr
    have ho' := HO1.out
    rw [hP] at ho'
    have HB := Lib.hid (((HS2.out.var (w2.heap.size) (by simp) (.cells #[.int .i64 (hd (C.T.drop k)).kind, .string ⟨(hd (C.T.drop k)).text.toArray⟩, .int .i64 (hd (C.T.drop k)).n, .int .i64 (hd (C.T.drop k)).line, .int .i64 (hd (C.T.drop k)).col] 61)).var (w2.heap.size + 1) (by simp) (.cells #[.int .i64 (hd (C.T.drop (k + 1))).kind, .string ⟨(hd (C.T.drop (k + 1))).text.toArray⟩, .int .i64 (hd (C.T.drop (k + 1))).n, .int .i64 (hd (C.T.drop (k + 1))).line, .int .i64 (hd (C.T.drop (k + 1))).col] 61)).bad' (m0 := m) ho' hr)
    obtain ⟨rfl, _⟩ := hr
    clear hnd hP ho'
    go_wp2_with fail
    exact ⟨rfl, HB.out⟩
  rw [hP] at hr
  obtain ⟨j1, v1, rfl, rfl, hs⟩ := ((HS2.out.var (w2.heap.size) (by simp) (.cells #[.int .i64 (hd (C.T.drop k)).kind, .string ⟨(hd (C.T.drop k)).text.toArray⟩, .int .i64 (hd (C.T.drop k)).n, .int .i64 (hd (C.T.drop k)).line, .int .i64 (hd (C.T.drop k)).col] 61)).var (w2.heap.size + 1) (by simp) (.cells #[.int .i64 (hd (C.T.drop (k + 1))).kind, .string ⟨(hd (C.T.drop (k + 1))).text.toArray⟩, .int .i64 (hd (C.T.drop (k + 1))).n, .int .i64 (hd (C.T.drop (k + 1))).line, .int .i64 (hd (C.T.drop (k + 1))).col] 61)).sub hr
  have ho' := HO1.out
  rw [hP] at ho'
  dsimp only [Out.and] at ho'
  have HO2 := Lib.hid ho'
  have HS3 := Lib.hid hs
  generalize hN : ((tw.length + _ + f1.size : Nat) : Int) = N1
  have HN1 := Lib.hid hN
  clear hs hr hN hnd hP ho' HS2 
  go_wp2_with fail
  have hge : w.heap.size ≤ w3.heap.size := HS3.out.kp.size
  have hown0 : (w3.alloc (.cells #[.int .i64 N1] 3)).ownsRow w.heap.size 3 1 (.slice (some ⟨w3.heap.size, 0, none⟩) 1 1) 1 [.int .i64 N1] := ⟨rfl, .inr ⟨_, 1, #[.int .i64 N1], rfl, hge, heap_alloc_new w3 _, Nat.le_refl _, by decide, rfl, rfl⟩⟩
  have HL1 : Hid (Lp C w k v tw [(w2.heap.size + 1, .cells #[.int .i64 (hd (C.T.drop (k + 1))).kind, .string ⟨(hd (C.T.drop (k + 1))).text.toArray⟩, .int .i64 (hd (C.T.drop (k + 1))).n, .int .i64 (hd (C.T.drop (k + 1))).line, .int .i64 (hd (C.T.drop (k + 1))).col] 61), (w2.heap.size, .cells #[.int .i64 (hd (C.T.drop k)).kind, .string ⟨(hd (C.T.drop k)).text.toArray⟩, .int .i64 (hd (C.T.drop k)).n, .int .i64 (hd (C.T.drop k)).line, .int .i64 (hd (C.T.drop k)).col] 61)] m 4 (Fo.nil.app (one d1 f1)) j1 v1 (.slice (some ⟨w3.heap.size, 0, none⟩) 1 1) (w3.alloc (.cells #[.int .i64 N1] 3))) := Lib.hid ⟨HS3.out.exNew _ 1 1, by rw [ids_snoc, HN1.out]; exact hown0⟩
  clear hown0 HS3
  have hsz : (w3.alloc (.cells #[.int .i64 N1] 3)).heap.size = w3.heap.size + 1 := by simp
  generalize w3.alloc (.cells #[.int .i64 N1] 3) = W3 at HL1 hsz ⊢
  have HSZ := Lib.hid hsz
  clear hsz
  cases hx : seesM (C.T.drop j1) [[123]]
  · have ho' := HO2.out; rw [tkM_no hx] at ho'; refine (takeMark_new_no (C.ex _) _ _ _ _ _ [[123]] _ _ _ HL1.out.st.ps HSZ.out.symm rfl rfl (by decide) hx).mono ?_; rintro e w' ⟨rfl, hb⟩; have hR : Ret C w k m v tw o (.panicked [{ v := diagV (hd (C.T.drop j1)) 4, recovered := false }]) w' := (ret_bad ho' (HL1.out.st.lowB hb)); have HB := Lib.hid hR; clear hb ho' hx hR; go_wp2_with fail; exact ⟨rfl, HB.out⟩
  have ho' := HO2.out
  rw [tkM_yes hx, tail_drop'] at ho'
  have HO7 := Lib.hid ho'
  refine (takeMark_new_yes (C.ex _) _ _ _ _ _ [[123]] _ _ _ HL1.out.st.ps HSZ.out.symm rfl rfl (by decide) hx).mono ?_
  rintro e w4 ⟨rfl, hs, hk⟩
  have HL0 := Lib.hid (HL1.out.keep hpw (HL1.out.st.took hs hk) hk)
  clear hs hk HL1 ho' hx HSZ
  unfold tokV
  go_wp2_with fail
  go_loopg [5] n (fun i v5 wr => ∃ (acc : Fo) (j : Nat) (vv : Value), i ≤ n ∧ Lp C w k v tw [(w2.heap.size + 1, .cells #[.int .i64 (hd (C.T.drop (k + 1))).kind, .string ⟨(hd (C.T.drop (k + 1))).text.toArray⟩, .int .i64 (hd (C.T.drop (k + 1))).n, .int .i64 (hd (C.T.drop (k + 1))).line, .int .i64 (hd (C.T.drop (k + 1))).col] 61), (w2.heap.size, .cells #[.int .i64 (hd (C.T.drop k)).kind, .string ⟨(hd (C.T.drop k)).text.toArray⟩, .int .i64 (hd (C.T.drop k)).n, .int .i64 (hd (C.T.drop k)).line, .int .i64 (hd (C.T.drop k)).col] 61)] m 6 acc j vv v5 wr ∧ P i (.lives (hd (C.T.drop k)) (hd (C.T.drop (k + 1))) acc) (C.T.drop j) m = o)
  case atStart => exact ⟨_, _, _, Nat.le_refl _, HL0.out, HO7.out⟩
  case round =>
    obtain ⟨acc, j, vv, hin, hLp, hPo⟩ := hrel
    generalize u5 = x at hLp ⊢
    have HLP := Lib.hid hLp
    have HPO := Lib.hid hPo
    clear hLp hPo
    cases gk with
    | zero => exact absurd HPO.out.symm HND.out
    | succ i =>
    cases hx : seesM (C.T.drop j) [[125]]
    · have hp := HPO.out
      rw [P] at hp
      simp only [hx, Bool.false_eq_true, if_false] at hp
      have HP1 := Lib.hid hp
      have HX := Lib.hid hx
      clear hp hx HPO
      go_wp2_with fail
      refine (seesMark_is (C.ex _) _ _ _ _ _ [[125]] _ _ _ false HLP.out.st.ps rfl rfl rfl (by decide) HX.out).mono ?_
      rintro e w13 ⟨rfl, hb⟩
      have HL2 := Lib.hid (HLP.out.keep hpw (HLP.out.st.below hb) (.of hb))
      clear hb HLP
      go_wp2_with fail
      have hnd : lifeO (fun r => P i .block r m) (C.T.drop j) ≠ .dry := fun hdry => by have h1 := HP1.out; rw [hdry] at h1; exact HND.out h1.symm
      refine (lifeC i m (Lib.hid (HBLK.out i (by omega))) (C.ex _) _ _ _ _ HL2.out.st.ps hnd).mono ?_
      rintro e w14 hr0
      have hr : Ret (C.ex x) w13 j m vv (tw ++ acc.post tw.length) (lifeO (fun r => P i .block r m) (C.T.drop j)) e w14 := hr0
      clear hr0
      rcases hP : lifeO (fun r => P i .block r m) (C.T.drop j) with _ | ⟨er, r⟩ | ⟨d9, f9, r⟩
      · exact absurd hP hnd
      · rw [hP] at hr
        have ho' := HP1.out
        rw [hP] at ho'
        have hR : Ret C w k m v tw o e w14 := by subst ho'; exact ⟨hr.1, HL2.out.st.lowB hr.2⟩
        have HR := Lib.hid hR
        obtain ⟨rfl, _⟩ := hr
        clear hnd hP ho' hR
        go_wp2_with fail
        exact ⟨rfl, HR.out⟩
      rw [hP] at hr
      obtain ⟨_, _, _, _, _, hk3, _⟩ := id hr
      have HW3 := Lib.hid (ownI_keep HL2.out.own HL2.out.st.ps hpw hk3)
      obtain ⟨j9, v9, rfl, rfl, hs⟩ := HL2.out.st.sub hr
      have ho' := HP1.out
      rw [hP] at ho'
      dsimp only [Out.and, Cx.ex] at ho'
      have HO9 := Lib.hid ho'
      have HS9 := Lib.hid hs
      have hfew := HL2.out.few
      have hz14 : w.heap.size ≤ w14.heap.size := HS9.out.kp.size
      generalize hN : ((tw.length + _ + f9.size : Nat) : Int) = N9
      have HN9 := Lib.hid hN
      clear hs hr hN hnd hP ho' hk3
      go_wp2_with (at_builtin; refine wpList_append_lies _ rfl _ _ 37 rfl w.heap.size 3 i0 (.int .i64 0) 1 8 Tryz.underlying37 hi0 hz0 hz1 hz2 rfl (by decide) x acc.len _ rfl (HW3.out.alloc _) ⟨w14.heap.size, 0, none⟩ 1 1 [.int .i64 N9] rfl rfl (World.news_of_block (cs := #[.int .i64 N9]) (t := 3) (fr := (0, 0)) (heap_alloc_new w14 _)) (by simp [Value.oneCell']) (by decide) (by unfold maxLen; omega) (by omega) (by simp; omega) (w14.heap.size + 1) (by simp) ?_; intro gg cap w15 hown hgrow hat hltg)
      have HL3 := Lib.hid (HL2.out.next HS9.out hpw HW3.out _ hgrow hown hat hltg HN9.out (by intro y hy; simp at hy; rcases hy with rfl | rfl <;> exact ⟨_, _, _, rfl, by decide⟩))
      clear hown hgrow hat hltg HL2 HS9 HW3 HP1
      go_wp2_with fail
      go_roundg i
      case measure => omega
      case rel => exact ⟨_, _, _, by omega, HL3.out, HO9.out⟩
    · have hp := HPO.out
      rw [P] at hp
      simp only [hx, if_true, tail_drop'] at hp
      have HP1 := Lib.hid hp
      have HX := Lib.hid hx
      clear hp hx HPO
      go_wp2_with fail
      refine (seesMark_is (C.ex _) _ _ _ _ _ [[125]] _ _ _ true HLP.out.st.ps rfl rfl rfl (by decide) HX.out).mono ?_
      rintro e w13 ⟨rfl, hb⟩
      have HL2 := Lib.hid (HLP.out.keep hpw (HLP.out.st.below hb) (.of hb))
      clear hb HLP
      go_wp2_with fail
      refine (takeMark_new_yes (C.ex _) _ _ _ _ _ [[125]] _ _ _ HL2.out.st.ps rfl rfl rfl (by decide) HX.out).mono ?_
      rintro e w14 ⟨rfl, hs, hk⟩
      have HL3 := Lib.hid (HL2.out.keep hpw (HL2.out.st.took hs hk) hk)
      clear hs hk HL2
      unfold tokV

      have HI := Lib.hid (HL3.out.kids HXW.out)
      have HS5 := Lib.hid HL3.out.st.exDrop
      obtain ⟨z0, z1, z2, z3, z4, z5⟩ := tok5 (HS5.out.loc _ (.tail _ (.head _))).is
      obtain ⟨y0, y1, y2, y3, y4, y5⟩ := tok5 (HS5.out.loc _ (.head _)).is
      go_wp2_with fail
      refine (add_ok C _ _ _ _ _ (hd (C.T.drop k)) 8 (hd (C.T.drop (k + 1))).text 0 _ _ HS5.out.ps HI.out HS5.out.room).mono ?_
      rintro e w16 ⟨rfl, v', hs, hk⟩
      generalize hN : (((tw ++ _ : List Tw).length : Nat) : Int) = N
      have HR := Lib.hid (HS5.out.fin HP1.out hs hk hN.symm)
      clear hs hk hN HS5 HI
      go_wp2_with fail
      go_ret
      exact HR.out

end Go.Proofs.YtehdljcmeimbcaaGreat

namespace Go.Proofs.YtehdljcmeimbcaaGreat
open Go.RowKit

set_option maxRecDepth 100000 in
set_option maxHeartbeats 2000000 in
theorem declaration_looper (n : Nat) (C : Cx) (w : World) (k m : Nat) (v : Value) (tw : List Tw) (h : PS w C k m v tw) (h1 : seesW (C.T.drop k) [[108, 111, 111, 112, 101, 114]] = true) (hnd : P (n + 1) .decl (C.T.drop k) m ≠ .dry) :
    Calls Tryz.prog 75 #[C.ptr] w (Ret C w k m v tw (P (n + 1) .decl (C.T.drop k) m)) := by
  have HS0 := Lib.hid (St.start h)
  clear h
  generalize ho : P (n + 1) .decl (C.T.drop k) m = o at hnd ⊢
  have HND := Lib.hid hnd
  clear hnd
  have H1 := Lib.hid h1
  clear h1
  have HO0 := Lib.hid ho
  clear ho
  go_enter Tryz.func75, Tryz.ntmps75
  go_wp2_with fail
  refine (seesWord_is C _ _ _ _ _ [[108, 111, 111, 112, 101, 114]] _ _ _ true HS0.out.ps (by simp) rfl rfl (by decide) H1.out).mono ?_
  rintro e w1 ⟨rfl, hb⟩
  have HS1 := Lib.hid (HS0.out.below hb)
  clear hb HS0
  go_wp2_with fail
  refine (looper_ok n C _ _ _ _ _ HS1.out.ps0 H1.out (by rw [HO0.out]; exact HND.out)).mono ?_
  rintro e w9 hr
  rw [HO0.out] at hr
  have HR := Lib.hid (HS1.out.from hr)
  clear HS1
  cases o with
  | dry => exact absurd rfl HND.out
  | bad er r => (obtain ⟨rfl, _⟩ := hr; go_wp2_with fail; exact ⟨rfl, HR.out⟩)
  | ok d f r => (obtain ⟨j, v', _, rfl, _⟩ := hr; generalize ((tw.length + f.size : Nat) : Int) = N at HR ⊢; go_wp2_with fail; go_ret; exact HR.out)

set_option maxRecDepth 100000 in
set_option maxHeartbeats 2000000 in
theorem declaration_class (n : Nat) (C : Cx) (w : World) (k m : Nat) (v : Value) (tw : List Tw) (h : PS w C k m v tw) (h2 : seesW (C.T.drop k) [[108, 111, 111, 112, 101, 114]] = false) (h1 : seesW (C.T.drop k) [[99, 108, 97, 115, 115]] = true) (hnd : P (n + 1) .decl (C.T.drop k) m ≠ .dry) :
    Calls Tryz.prog 75 #[C.ptr] w (Ret C w k m v tw (P (n + 1) .decl (C.T.drop k) m)) := by
  have HS0 := Lib.hid (St.start h)
  clear h
  generalize ho : P (n + 1) .decl (C.T.drop k) m = o at hnd ⊢
  have HND := Lib.hid hnd
  clear hnd
  have H2 := Lib.hid h2
  clear h2
  have H1 := Lib.hid h1
  clear h1
  have HO0 := Lib.hid ho
  clear ho
  go_enter Tryz.func75, Tryz.ntmps75
  go_wp2_with fail
  refine (seesWord_is C _ _ _ _ _ [[108, 111, 111, 112, 101, 114]] _ _ _ false HS0.out.ps (by simp) rfl rfl (by decide) H2.out).mono ?_
  rintro e w1 ⟨rfl, hb⟩
  have HS1 := Lib.hid (HS0.out.below hb)
  clear hb HS0
  go_wp2_with fail
  refine (seesWord_is C _ _ _ _ _ [[99, 108, 97, 115, 115]] _ _ _ true HS1.out.ps (by simp) rfl rfl (by decide) H1.out).mono ?_
  rintro e w2 ⟨rfl, hb⟩
  have HS2 := Lib.hid (HS1.out.below hb)
  clear hb HS1
  go_wp2_with fail
  refine (class_ok n C _ _ _ _ _ HS2.out.ps0 H2.out H1.out (by rw [HO0.out]; exact HND.out)).mono ?_
  rintro e w9 hr
  rw [HO0.out] at hr
  have HR := Lib.hid (HS2.out.from hr)
  clear HS2
  cases o with
  | dry => exact absurd rfl HND.out
  | bad er r => (obtain ⟨rfl, _⟩ := hr; go_wp2_with fail; exact ⟨rfl, HR.out⟩)
  | ok d f r => (obtain ⟨j, v', _, rfl, _⟩ := hr; generalize ((tw.length + f.size : Nat) : Int) = N at HR ⊢; go_wp2_with fail; go_ret; exact HR.out)

set_option maxRecDepth 100000 in
set_option maxHeartbeats 2000000 in
theorem declaration_var (n : Nat) (C : Cx) (w : World) (k m : Nat) (v : Value) (tw : List Tw) (h : PS w C k m v tw) (h2 : seesW (C.T.drop k) [[108, 111, 111, 112, 101, 114]] = false) (h3 : seesW (C.T.drop k) [[99, 108, 97, 115, 115]] = false) (h1 : seesW (C.T.drop k) [[118, 97, 114]] = true) (hnd : P (n + 1) .decl (C.T.drop k) m ≠ .dry) :
    Calls Tryz.prog 75 #[C.ptr] w (Ret C w k m v tw (P (n + 1) .decl (C.T.drop k) m)) := by
  have HS0 := Lib.hid (St.start h)
  clear h
  generalize ho : P (n + 1) .decl (C.T.drop k) m = o at hnd ⊢
  have HND := Lib.hid hnd
  clear hnd
  have H2 := Lib.hid h2
  clear h2
  have H3 := Lib.hid h3
  clear h3
  have H1 := Lib.hid h1
  clear h1
  have HO0 := Lib.hid ho
  clear ho
  go_enter Tryz.func75, Tryz.ntmps75
  go_wp2_with fail
  refine (seesWord_is C _ _ _ _ _ [[108, 111, 111, 112, 101, 114]] _ _ _ false HS0.out.ps (by simp) rfl rfl (by decide) H2.out).mono ?_
  rintro e w1 ⟨rfl, hb⟩
  have HS1 := Lib.hid (HS0.out.below hb)
  clear hb HS0
  go_wp2_with fail
  refine (seesWord_is C _ _ _ _ _ [[99, 108, 97, 115, 115]] _ _ _ false HS1.out.ps (by simp) rfl rfl (by decide) H3.out).mono ?_
  rintro e w2 ⟨rfl, hb⟩
  have HS2 := Lib.hid (HS1.out.below hb)
  clear hb HS1
  go_wp2_with fail
  refine (seesWord_is C _ _ _ _ _ [[118, 97, 114]] _ _ _ true HS2.out.ps (by simp) rfl rfl (by decide) H1.out).mono ?_
  rintro e w3 ⟨rfl, hb⟩
  have HS3 := Lib.hid (HS2.out.below hb)
  clear hb HS2
  go_wp2_with fail
  refine (global_ok n C _ _ _ _ _ HS3.out.ps0 H2.out H3.out H1.out (by rw [HO0.out]; exact HND.out)).mono ?_
  rintro e w9 hr
  rw [HO0.out] at hr
  have HR := Lib.hid (HS3.out.from hr)
  clear HS3
  cases o with
  | dry => exact absurd rfl HND.out
  | bad er r => (obtain ⟨rfl, _⟩ := hr; go_wp2_with fail; exact ⟨rfl, HR.out⟩)
  | ok d f r => (obtain ⟨j, v', _, rfl, _⟩ := hr; generalize ((tw.length + f.size : Nat) : Int) = N at HR ⊢; go_wp2_with fail; go_ret; exact HR.out)

set_option maxRecDepth 100000 in
set_option maxHeartbeats 2000000 in
theorem declaration_fn (n : Nat) (HBLK : Hid (Ct 94 n .block)) (C : Cx) (w : World) (k m : Nat) (v : Value) (tw : List Tw) (h : PS w C k m v tw) (h2 : seesW (C.T.drop k) [[108, 111, 111, 112, 101, 114]] = false) (h3 : seesW (C.T.drop k) [[99, 108, 97, 115, 115]] = false) (h4 : seesW (C.T.drop k) [[118, 97, 114]] = false) (h1 : seesW (C.T.drop k) [[102, 110]] = true) (hnd : P (n + 1) .decl (C.T.drop k) m ≠ .dry) :
    Calls Tryz.prog 75 #[C.ptr] w (Ret C w k m v tw (P (n + 1) .decl (C.T.drop k) m)) := by
  have HS0 := Lib.hid (St.start h)
  clear h
  generalize ho : P (n + 1) .decl (C.T.drop k) m = o at hnd ⊢
  have HND := Lib.hid hnd
  clear hnd
  have H2 := Lib.hid h2
  clear h2
  have H3 := Lib.hid h3
  clear h3
  have H4 := Lib.hid h4
  clear h4
  have H1 := Lib.hid h1
  clear h1
  have HO0 := Lib.hid ho
  clear ho
  go_enter Tryz.func75, Tryz.ntmps75
  go_wp2_with fail
  refine (seesWord_is C _ _ _ _ _ [[108, 111, 111, 112, 101, 114]] _ _ _ false HS0.out.ps (by simp) rfl rfl (by decide) H2.out).mono ?_
  rintro e w1 ⟨rfl, hb⟩
  have HS1 := Lib.hid (HS0.out.below hb)
  clear hb HS0
  go_wp2_with fail
  refine (seesWord_is C _ _ _ _ _ [[99, 108, 97, 115, 115]] _ _ _ false HS1.out.ps (by simp) rfl rfl (by decide) H3.out).mono ?_
  rintro e w2 ⟨rfl, hb⟩
  have HS2 := Lib.hid (HS1.out.below hb)
  clear hb HS1
  go_wp2_with fail
  refine (seesWord_is C _ _ _ _ _ [[118, 97, 114]] _ _ _ false HS2.out.ps (by simp) rfl rfl (by decide) H4.out).mono ?_
  rintro e w3 ⟨rfl, hb⟩
  have HS3 := Lib.hid (HS2.out.below hb)
  clear hb HS2
  go_wp2_with fail
  refine (seesWord_is C _ _ _ _ _ [[102, 110]] _ _ _ true HS3.out.ps (by simp) rfl rfl (by decide) H1.out).mono ?_
  rintro e w4 ⟨rfl, hb⟩
  have HS4 := Lib.hid (HS3.out.below hb)
  clear hb HS3
  go_wp2_with fail
  refine (function_ok n HBLK C _ _ _ _ _ HS4.out.ps0 H2.out H3.out H4.out H1.out (by rw [HO0.out]; exact HND.out)).mono ?_
  rintro e w9 hr
  rw [HO0.out] at hr
  have HR := Lib.hid (HS4.out.from hr)
  clear HS4
  cases o with
  | dry => exact absurd rfl HND.out
  | bad er r => (obtain ⟨rfl, _⟩ := hr; go_wp2_with fail; exact ⟨rfl, HR.out⟩)
  | ok d f r => (obtain ⟨j, v', _, rfl, _⟩ := hr; generalize ((tw.length + f.size : Nat) : Int) = N at HR ⊢; go_wp2_with fail; go_ret; exact HR.out)

set_option maxRecDepth 100000 in
set_option maxHeartbeats 2000000 in
theorem declaration_comp (n : Nat) (HBLK : Hid (∀ i, i ≤ n → Ct 94 i .block)) (C : Cx) (w : World) (k m : Nat) (v : Value) (tw : List Tw) (h : PS w C k m v tw) (h2 : seesW (C.T.drop k) [[108, 111, 111, 112, 101, 114]] = false) (h3 : seesW (C.T.drop k) [[99, 108, 97, 115, 115]] = false) (h4 : seesW (C.T.drop k) [[118, 97, 114]] = false) (h5 : seesW (C.T.drop k) [[102, 110]] = false) (h1 : seesW (C.T.drop k) [[99, 111, 109, 112]] = true) (hnd : P (n + 1) .decl (C.T.drop k) m ≠ .dry) :
    Calls Tryz.prog 75 #[C.ptr] w (Ret C w k m v tw (P (n + 1) .decl (C.T.drop k) m)) := by
  have HS0 := Lib.hid (St.start h)
  clear h
  generalize ho : P (n + 1) .decl (C.T.drop k) m = o at hnd ⊢
  have HND := Lib.hid hnd
  clear hnd
  have H2 := Lib.hid h2
  clear h2
  have H3 := Lib.hid h3
  clear h3
  have H4 := Lib.hid h4
  clear h4
  have H5 := Lib.hid h5
  clear h5
  have H1 := Lib.hid h1
  clear h1
  have HO0 := Lib.hid ho
  clear ho
  go_enter Tryz.func75, Tryz.ntmps75
  go_wp2_with fail
  refine (seesWord_is C _ _ _ _ _ [[108, 111, 111, 112, 101, 114]] _ _ _ false HS0.out.ps (by simp) rfl rfl (by decide) H2.out).mono ?_
  rintro e w1 ⟨rfl, hb⟩
  have HS1 := Lib.hid (HS0.out.below hb)
  clear hb HS0
  go_wp2_with fail
  refine (seesWord_is C _ _ _ _ _ [[99, 108, 97, 115, 115]] _ _ _ false HS1.out.ps (by simp) rfl rfl (by decide) H3.out).mono ?_
  rintro e w2 ⟨rfl, hb⟩
  have HS2 := Lib.hid (HS1.out.below hb)
  clear hb HS1
  go_wp2_with fail
  refine (seesWord_is C _ _ _ _ _ [[118, 97, 114]] _ _ _ false HS2.out.ps (by simp) rfl rfl (by decide) H4.out).mono ?_
  rintro e w3 ⟨rfl, hb⟩
  have HS3 := Lib.hid (HS2.out.below hb)
  clear hb HS2
  go_wp2_with fail
  refine (seesWord_is C _ _ _ _ _ [[102, 110]] _ _ _ false HS3.out.ps (by simp) rfl rfl (by decide) H5.out).mono ?_
  rintro e w4 ⟨rfl, hb⟩
  have HS4 := Lib.hid (HS3.out.below hb)
  clear hb HS3
  go_wp2_with fail
  refine (seesWord_is C _ _ _ _ _ [[99, 111, 109, 112]] _ _ _ true HS4.out.ps (by simp) rfl rfl (by decide) H1.out).mono ?_
  rintro e w5 ⟨rfl, hb⟩
  have HS5 := Lib.hid (HS4.out.below hb)
  clear hb HS4
  go_wp2_with fail
  refine (component_ok n HBLK C _ _ _ _ _ HS5.out.ps0 H2.out H3.out H4.out H5.out H1.out (by rw [HO0.out]; exact HND.out)).mono ?_
  rintro e w9 hr
  rw [HO0.out] at hr
  have HR := Lib.hid (HS5.out.from hr)
  clear HS5
  cases o with
  | dry => exact absurd rfl HND.out
  | bad er r => (obtain ⟨rfl, _⟩ := hr; go_wp2_with fail; exact ⟨rfl, HR.out⟩)
  | ok d f r => (obtain ⟨j, v', _, rfl, _⟩ := hr; generalize ((tw.length + f.size : Nat) : Int) = N at HR ⊢; go_wp2_with fail; go_ret; exact HR.out)

set_option maxRecDepth 100000 in
set_option maxHeartbeats 2000000 in
theorem declaration_event (n : Nat) (HBLK : Hid (Ct 94 n .block)) (C : Cx) (w : World) (k m : Nat) (v : Value) (tw : List Tw) (h : PS w C k m v tw) (h2 : seesW (C.T.drop k) [[108, 111, 111, 112, 101, 114]] = false) (h3 : seesW (C.T.drop k) [[99, 108, 97, 115, 115]] = false) (h4 : seesW (C.T.drop k) [[118, 97, 114]] = false) (h5 : seesW (C.T.drop k) [[102, 110]] = false) (h6 : seesW (C.T.drop k) [[99, 111, 109, 112]] = false) (h1 : seesW (C.T.drop k) [[101, 118, 101, 110, 116]] = true) (hnd : P (n + 1) .decl (C.T.drop k) m ≠ .dry) :
    Calls Tryz.prog 75 #[C.ptr] w (Ret C w k m v tw (P (n + 1) .decl (C.T.drop k) m)) := by
  have HS0 := Lib.hid (St.start h)
  clear h
  generalize ho : P (n + 1) .decl (C.T.drop k) m = o at hnd ⊢
  have HND := Lib.hid hnd
  clear hnd
  have H2 := Lib.hid h2
  clear h2
  have H3 := Lib.hid h3
  clear h3
  have H4 := Lib.hid h4
  clear h4
  have H5 := Lib.hid h5
  clear h5
  have H6 := Lib.hid h6
  clear h6
  have H1 := Lib.hid h1
  clear h1
  have HO0 := Lib.hid ho
  clear ho
  go_enter Tryz.func75, Tryz.ntmps75
  go_wp2_with fail
  refine (seesWord_is C _ _ _ _ _ [[108, 111, 111, 112, 101, 114]] _ _ _ false HS0.out.ps (by simp) rfl rfl (by decide) H2.out).mono ?_
  rintro e w1 ⟨rfl, hb⟩
  have HS1 := Lib.hid (HS0.out.below hb)
  clear hb HS0
  go_wp2_with fail
  refine (seesWord_is C _ _ _ _ _ [[99, 108, 97, 115, 115]] _ _ _ false HS1.out.ps (by simp) rfl rfl (by decide) H3.out).mono ?_
  rintro e w2 ⟨rfl, hb⟩
  have HS2 := Lib.hid (HS1.out.below hb)
  clear hb HS1
  go_wp2_with fail
  refine (seesWord_is C _ _ _ _ _ [[118, 97, 114]] _ _ _ false HS2.out.ps (by simp) rfl rfl (by decide) H4.out).mono ?_
  rintro e w3 ⟨rfl, hb⟩
  have HS3 := Lib.hid (HS2.out.below hb)
  clear hb HS2
  go_wp2_with fail
  refine (seesWord_is C _ _ _ _ _ [[102, 110]] _ _ _ false HS3.out.ps (by simp) rfl rfl (by decide) H5.out).mono ?_
  rintro e w4 ⟨rfl, hb⟩
  have HS4 := Lib.hid (HS3.out.below hb)
  clear hb HS3
  go_wp2_with fail
  refine (seesWord_is C _ _ _ _ _ [[99, 111, 109, 112]] _ _ _ false HS4.out.ps (by simp) rfl rfl (by decide) H6.out).mono ?_
  rintro e w5 ⟨rfl, hb⟩
  have HS5 := Lib.hid (HS4.out.below hb)
  clear hb HS4
  go_wp2_with fail
  refine (seesWord_is C _ _ _ _ _ [[101, 118, 101, 110, 116]] _ _ _ true HS5.out.ps (by simp) rfl rfl (by decide) H1.out).mono ?_
  rintro e w6 ⟨rfl, hb⟩
  have HS6 := Lib.hid (HS5.out.below hb)
  clear hb HS5
  go_wp2_with fail
  refine (event_ok n HBLK C _ _ _ _ _ HS6.out.ps0 H2.out H3.out H4.out H5.out H6.out H1.out (by rw [HO0.out]; exact HND.out)).mono ?_
  rintro e w9 hr
  rw [HO0.out] at hr
  have HR := Lib.hid (HS6.out.from hr)
  clear HS6
  cases o with
  | dry => exact absurd rfl HND.out
  | bad er r => (obtain ⟨rfl, _⟩ := hr; go_wp2_with fail; exact ⟨rfl, HR.out⟩)
  | ok d f r => (obtain ⟨j, v', _, rfl, _⟩ := hr; generalize ((tw.length + f.size : Nat) : Int) = N at HR ⊢; go_wp2_with fail; go_ret; exact HR.out)

set_option maxRecDepth 100000 in
set_option maxHeartbeats 2000000 in
theorem declaration_main (n : Nat) (HBLK : Hid (Ct 94 n .block)) (C : Cx) (w : World) (k m : Nat) (v : Value) (tw : List Tw) (h : PS w C k m v tw) (h2 : seesW (C.T.drop k) [[108, 111, 111, 112, 101, 114]] = false) (h3 : seesW (C.T.drop k) [[99, 108, 97, 115, 115]] = false) (h4 : seesW (C.T.drop k) [[118, 97, 114]] = false) (h5 : seesW (C.T.drop k) [[102, 110]] = false) (h6 : seesW (C.T.drop k) [[99, 111, 109, 112]] = false) (h7 : seesW (C.T.drop k) [[101, 118, 101, 110, 116]] = false) (hnd : P (n + 1) .decl (C.T.drop k) m ≠ .dry) :
    Calls Tryz.prog 75 #[C.ptr] w (Ret C w k m v tw (P (n + 1) .decl (C.T.drop k) m)) := by
  have HS0 := Lib.hid (St.start h)
  clear h
  generalize ho : P (n + 1) .decl (C.T.drop k) m = o at hnd ⊢
  have HND := Lib.hid hnd
  clear hnd
  rw [P] at ho
  simp only [h2, h3, h4, h5, h6, h7, Bool.false_eq_true, if_false] at ho
  have H2 := Lib.hid h2
  clear h2
  have H3 := Lib.hid h3
  clear h3
  have H4 := Lib.hid h4
  clear h4
  have H5 := Lib.hid h5
  clear h5
  have H6 := Lib.hid h6
  clear h6
  have H7 := Lib.hid h7
  clear h7
  have HO0 := Lib.hid ho
  clear ho
  go_enter Tryz.func75, Tryz.ntmps75
  go_wp2_with fail
  refine (seesWord_is C _ _ _ _ _ [[108, 111, 111, 112, 101, 114]] _ _ _ false HS0.out.ps (by simp) rfl rfl (by decide) H2.out).mono ?_
  rintro e w1 ⟨rfl, hb⟩
  have HS1 := Lib.hid (HS0.out.below hb)
  clear hb HS0
  go_wp2_with fail
  refine (seesWord_is C _ _ _ _ _ [[99, 108, 97, 115, 115]] _ _ _ false HS1.out.ps (by simp) rfl rfl (by decide) H3.out).mono ?_
  rintro e w2 ⟨rfl, hb⟩
  have HS2 := Lib.hid (HS1.out.below hb)
  clear hb HS1
  go_wp2_with fail
  refine (seesWord_is C _ _ _ _ _ [[118, 97, 114]] _ _ _ false HS2.out.ps (by simp) rfl rfl (by decide) H4.out).mono ?_
  rintro e w3 ⟨rfl, hb⟩
  have HS3 := Lib.hid (HS2.out.below hb)
  clear hb HS2
  go_wp2_with fail
  refine (seesWord_is C _ _ _ _ _ [[102, 110]] _ _ _ false HS3.out.ps (by simp) rfl rfl (by decide) H5.out).mono ?_
  rintro e w4 ⟨rfl, hb⟩
  have HS4 := Lib.hid (HS3.out.below hb)
  clear hb HS3
  go_wp2_with fail
  refine (seesWord_is C _ _ _ _ _ [[99, 111, 109, 112]] _ _ _ false HS4.out.ps (by simp) rfl rfl (by decide) H6.out).mono ?_
  rintro e w5 ⟨rfl, hb⟩
  have HS5 := Lib.hid (HS4.out.below hb)
  clear hb HS4
  go_wp2_with fail
  refine (seesWord_is C _ _ _ _ _ [[101, 118, 101, 110, 116]] _ _ _ false HS5.out.ps (by simp) rfl rfl (by decide) H7.out).mono ?_
  rintro e w6 ⟨rfl, hb⟩
  have HS6 := Lib.hid (HS5.out.below hb)
  clear hb HS5
  go_wp2_with fail
  cases hx : seesW (C.T.drop k) [[109, 97, 105, 110]]
  · have ho' := HO0.out
    rw [tkW_no hx] at ho'
    refine (takeWord_new_no C _ _ _ _ _ [[109, 97, 105, 110]] _ _ _ HS6.out.ps (by simp) rfl rfl (by decide) hx).mono ?_
    rintro e w' ⟨rfl, hb⟩
    have HB := Lib.hid (HS6.out.bad (m0 := m) ho' hb)
    clear hb ho' hx
    go_wp2_with fail
    exact ⟨rfl, HB.out⟩
  have ho' := HO0.out
  rw [tkW_yes hx, tail_drop'] at ho'
  have HO1 := Lib.hid ho'
  refine (takeWord_new_yes C _ _ _ _ _ [[109, 97, 105, 110]] _ _ _ HS6.out.ps (by simp) rfl rfl (by decide) hx).mono ?_
  rintro e w7 ⟨rfl, hs, hk⟩
  have HS7 := Lib.hid (HS6.out.took hs hk)
  clear hs hk HS6 ho' hx
  unfold tokV
  go_wp2_with fail
  have HSD := Lib.hid ((HS7.out.var (w7.heap.size) (by simp) (.cells #[.int .i64 (hd (C.T.drop k)).kind, .string ⟨(hd (C.T.drop k)).text.toArray⟩, .int .i64 (hd (C.T.drop k)).n, .int .i64 (hd (C.T.drop k)).line, .int .i64 (hd (C.T.drop k)).col] 61)).drew)
  have hnd : P n .block (C.T.drop (k + 1)) m ≠ .dry := fun hdry => by have h1 := HO1.out; rw [hdry] at h1; exact HND.out h1.symm
  rcases hP : P n .block (C.T.drop (k + 1)) m with _ | ⟨er, r⟩ | ⟨d1, f1, r⟩
  · exact absurd hP hnd
  · have ho' := HO1.out
    rw [hP] at ho'
    have HP := Lib.hid hP
    have HO' := Lib.hid ho'
    have HD := Lib.hid hnd
    clear hP ho' hnd
    go_region_with (first | (go_at_call 94; refine (HBLK.out C _ _ _ _ _ HSD.out.ps HD.out).mono ?_; rintro e w9 hr; rw [HP.out] at hr; have HB := Lib.hid (HSD.out.bad' (m0 := m) HO'.out hr); obtain ⟨rfl, _⟩ := hr; go_simp; suffices _hz : wpAny Tryz.prog .any #[] (fun _ _ _ => True) 0 #[] ⟨#[], []⟩ w9 from ⟨rfl, HB.out⟩))
    all_goals trivial
  have ho' := HO1.out
  rw [hP] at ho'
  dsimp only [Out.and] at ho'
  have HP := Lib.hid hP
  have HO' := Lib.hid ho'
  have HD := Lib.hid hnd
  clear hP ho' hnd
  go_region_held3 (fun w' => w'.cell? ⟨w7.heap.size, 0, none⟩ = some (.int .i64 (hd (C.T.drop k)).kind) ∧ w'.cell? ⟨w7.heap.size, 1, none⟩ = some (.string ⟨(hd (C.T.drop k)).text.toArray⟩) ∧ w'.cell? ⟨w7.heap.size, 2, none⟩ = some (.int .i64 (hd (C.T.drop k)).n) ∧ w'.cell? ⟨w7.heap.size, 3, none⟩ = some (.int .i64 (hd (C.T.drop k)).line) ∧ w'.cell? ⟨w7.heap.size, 4, none⟩ = some (.int .i64 (hd (C.T.drop k)).col)) (first | go_keep | (obtain ⟨qa0, qa1, qa2, qa3, qa4, _⟩ := tok5 (HS9.out.loc _ (.head _)).is; exact ⟨qa0, qa1, qa2, qa3, qa4⟩) | (obtain ⟨qa0, qa1, qa2, qa3, qa4, _⟩ := tok5 (HL.out _ (.head _)).is; exact ⟨qa0, qa1, qa2, qa3, qa4⟩)) (first | (go_at_call 94; refine (HBLK.out C _ _ _ _ _ HSD.out.ps HD.out).mono ?_; rintro e w9 hr; rw [HP.out] at hr; obtain ⟨j1, v1, rfl, rfl, hs⟩ := HSD.out.sub hr; have HS9 := Lib.hid hs; generalize hN : ((tw.length + _ + f1.size : Nat) : Int) = N1; have HN1 := Lib.hid hN; clear hs hr hN) | (go_at_call 76; refine (add_ok C _ _ _ _ _ (hd (C.T.drop k)) 11 [] 0 _ _ (HS9.out.al _).ps (ints_new w9 HS9.out.ps.xlt [N1] #[.int .i64 N1] rfl w9.heap.size 1 rfl rfl) HS9.out.room).mono ?_; rintro e w10 ⟨rfl, v', hs, hk⟩; have HL := Lib.hid (fun x hx => ((HS9.out.al _).loc x hx).keep hk); generalize hN2 : (((tw ++ _ : List Tw).length : Nat) : Int) = N; have hids : [N1] = (Fo.nil.app (one d1 f1)).ids tw.length := (by rw [ids_snoc, ← HN1.out]; rfl); rw [hids] at hs; have HR := Lib.hid ((HS9.out.al _).fin HO'.out hs hk hN2.symm); clear hs hk hN2 hids))
  go_wp2_with fail
  go_ret
  exact HR.out

theorem declaration_ok (n : Nat) (HBLK : Hid (∀ i, i ≤ n → Ct 94 i .block)) : Ct 75 (n + 1) .decl := fun C w k m v tw h hnd => by
  have HB := Lib.hid (HBLK.out n (Nat.le_refl _))
  cases h2 : seesW (C.T.drop k) [[108, 111, 111, 112, 101, 114]]
  · cases h3 : seesW (C.T.drop k) [[99, 108, 97, 115, 115]]
    · cases h4 : seesW (C.T.drop k) [[118, 97, 114]]
      · cases h5 : seesW (C.T.drop k) [[102, 110]]
        · cases h6 : seesW (C.T.drop k) [[99, 111, 109, 112]]
          · cases h7 : seesW (C.T.drop k) [[101, 118, 101, 110, 116]]
            · exact declaration_main n HB C w k m v tw h h2 h3 h4 h5 h6 h7 hnd
            · exact declaration_event n HB C w k m v tw h h2 h3 h4 h5 h6 h7 hnd
          · exact declaration_comp n HBLK C w k m v tw h h2 h3 h4 h5 h6 hnd
        · exact declaration_fn n HB C w k m v tw h h2 h3 h4 h5 hnd
      · exact declaration_var n C w k m v tw h h2 h3 h4 hnd
    · exact declaration_class n C w k m v tw h h2 h3 hnd
  · exact declaration_looper n C w k m v tw h h2 hnd
end Go.Proofs.YtehdljcmeimbcaaGreat
