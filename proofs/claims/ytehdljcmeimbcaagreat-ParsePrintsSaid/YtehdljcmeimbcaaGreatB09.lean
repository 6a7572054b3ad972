/- parser.choose; parser.statement. -/
import Derived.Test.YtehdljcmeimbcaaGreatB07
import Derived.Test.YtehdljcmeimbcaaGreatB08
namespace Go.Proofs.YtehdljcmeimbcaaGreat
open Go.RowKit

set_option maxRecDepth 100000 in
set_option maxHeartbeats 2000000 in
theorem choose_ok (n : Nat) (HTERM : Hid (Ct 130 n .term)) (HBLK : Hid (Ct 94 n .block)) (C : Cx) (w : World) (k m : Nat) (v : Value) (tw : List Tw) (h : PS w C k m v tw) (h2 : seesW (C.T.drop k) [[118, 97, 114]] = false) (h3 : seesW (C.T.drop k) actWords = false) (h4 : seesW (C.T.drop k) [[112, 111, 115, 116]] = false) (h5 : seesW (C.T.drop k) [[115, 112, 97, 119, 110]] = false) (h6 : seesW (C.T.drop k) [[101, 110, 97, 98, 108, 101], [100, 105, 115, 97, 98, 108, 101]] = false) (h1 : seesW (C.T.drop k) [[105, 102]] = true) (hnd : P (n + 1) .stmt (C.T.drop k) m ≠ .dry) :
    Calls Tryz.prog 125 #[C.ptr] w (Ret C w k m v tw (P (n + 1) .stmt (C.T.drop k) m)) := by
  have HS0 := Lib.hid (St.start h)
  clear h
  generalize ho : P (n + 1) .stmt (C.T.drop k) m = o at hnd ⊢
  have HND := Lib.hid hnd
  clear hnd
  rw [P] at ho
  simp only [h2, h3, h4, h5, h6, h1, Bool.false_eq_true, if_false, if_true, tail_drop'] at ho
  have hlt : k < C.T.length := sees_lt (x := 2) (by decide) (seesK_kind h1)
  clear h2 h3 h4 h5 h6 h1
  have HO0 := Lib.hid ho
  clear ho
  obtain ⟨i0, hi0, hz0, hz1, hz2⟩ := info_parts infoInt
  go_enter Tryz.func125, Tryz.ntmps125
  go_wp2_with fail
  refine (take_ok C _ _ _ _ _ HS0.out.ps (hlt)).mono ?_
  rintro e w1 ⟨rfl, hs, hk⟩
  have HS1 := Lib.hid (HS0.out.took hs hk)
  clear hs hk HS0 
  unfold tokV
  go_wp2_with fail
  have hnd : P n .term (C.T.drop (k + 1)) m ≠ .dry := fun hdry => by have h1 := HO0.out; rw [hdry] at h1; exact HND.out h1.symm
  refine (HTERM.out C _ _ _ _ _ (HS1.out.var (w1.heap.size) (by simp) (.cells #[.int .i64 (hd (C.T.drop k)).kind, .string ⟨(hd (C.T.drop k)).text.toArray⟩, .int .i64 (hd (C.T.drop k)).n, .int .i64 (hd (C.T.drop k)).line, .int .i64 (hd (C.T.drop k)).col] 61)).ps hnd).mono ?_
  rintro e w2 hr
  rcases hP : P n .term (C.T.drop (k + 1)) m with _ | ⟨er, r⟩ | ⟨d1, f1, r⟩
  · exact absurd hP hnd
  · rw [hP] at hr
    have ho' := HO0.out
    rw [hP] at ho'
    have HB := Lib.hid ((HS1.out.var (w1.heap.size) (by simp) (.cells #[.int .i64 (hd (C.T.drop k)).kind, .string ⟨(hd (C.T.drop k)).text.toArray⟩, .int .i64 (hd (C.T.drop k)).n, .int .i64 (hd (C.T.drop k)).line, .int .i64 (hd (C.T.drop k)).col] 61)).bad' (m0 := m) ho' hr)
    obtain ⟨rfl, _⟩ := hr
    clear hnd hP ho'
    go_wp2_with fail
    exact ⟨rfl, HB.out⟩
  rw [hP] at hr
  obtain ⟨j1, v1, rfl, rfl, hs⟩ := (HS1.out.var (w1.heap.size) (by simp) (.cells #[.int .i64 (hd (C.T.drop k)).kind, .string ⟨(hd (C.T.drop k)).text.toArray⟩, .int .i64 (hd (C.T.drop k)).n, .int .i64 (hd (C.T.drop k)).line, .int .i64 (hd (C.T.drop k)).col] 61)).sub hr
  have ho' := HO0.out
  rw [hP] at ho'
  dsimp only [Out.and] at ho'
  have HO1 := Lib.hid ho'
  have HS2 := Lib.hid hs
  generalize hN : ((tw.length + _ + f1.size : Nat) : Int) = N1
  have HN1 := Lib.hid hN
  clear hs hr hN hnd hP ho' HS1 
  go_wp2_with fail
  have hnd : P n .block (C.T.drop j1) m ≠ .dry := fun hdry => by have h1 := HO1.out; rw [hdry] at h1; exact HND.out h1.symm
  refine (HBLK.out C _ _ _ _ _ HS2.out.ps hnd).mono ?_
  rintro e w3 hr
  rcases hP : P n .block (C.T.drop j1) m with _ | ⟨er, r⟩ | ⟨d2, f2, r⟩
  · exact absurd hP hnd
  · rw [hP] at hr
    have ho' := HO1.out
    rw [hP] at ho'
    have HB := Lib.hid (HS2.out.bad' (m0 := m) ho' hr)
    obtain ⟨rfl, _⟩ := hr
    clear hnd hP ho'
    go_wp2_with fail
    exact ⟨rfl, HB.out⟩
  rw [hP] at hr
  obtain ⟨j2, v2, rfl, rfl, hs⟩ := HS2.out.sub hr
  have ho' := HO1.out
  rw [hP] at ho'
  dsimp only [Out.and] at ho'
  have HO2 := Lib.hid ho'
  have HS3 := Lib.hid hs
  generalize hN : ((tw.length + _ + f2.size : Nat) : Int) = N2
  have HN2 := Lib.hid hN
  clear hs hr hN hnd hP ho' HS2 
  have hpw : C.p < w3.heap.size := HS3.out.ps.lt
  have hge : w.heap.size ≤ w3.heap.size := HS3.out.kp.size
  have hal : w1.heap.size < w3.heap.size := lt_of_block (HS3.out.loc _ (.head _)).is
  have HX := Lib.hid HS3.out.ps.xlt
  have HSX := Lib.hid (HS3.out.exNew (.cells #[.int .i64 N1, .int .i64 N2] 3) 2 2)
  have hown0 : (w3.alloc (.cells #[.int .i64 N1, .int .i64 N2] 3)).ownsRow w3.heap.size 3 1 (.slice (some ⟨w3.heap.size, 0, none⟩) 2 2) 2 [.int .i64 N1, .int .i64 N2] := ⟨rfl, .inr ⟨_, 2, #[.int .i64 N1, .int .i64 N2], rfl, Nat.le_refl _, heap_alloc_new w3 _, Nat.le_refl _, by decide, rfl, rfl⟩⟩
  have HW0 := Lib.hid hown0
  clear hown0 HS3
  go_wp2_with fail
  generalize hWG : w3.alloc (.cells #[.int .i64 N1, .int .i64 N2] 3) = W0 at HSX HW0 ⊢
  have hsz : W0.heap.size = w3.heap.size + 1 := by rw [← hWG]; simp
  have HSZ := Lib.hid hsz
  clear hWG hsz
  cases hx : seesW (C.T.drop j2) [[101, 108, 115, 101]]
  · have ho' := HO2.out
    simp only [hx, Bool.false_eq_true, if_false] at ho'
    have HO9 := Lib.hid ho'
    have H1 := Lib.hid hx
    clear ho' hx
    refine (seesWord_is (C.ex _) W0 _ _ _ _ [[101, 108, 115, 101]] _ _ _ false HSX.out.ps HSZ.out.symm rfl rfl (by decide) H1.out).mono ?_
    rintro e w4 ⟨rfl, hb⟩
    have HW1 := Lib.hid (ownI_keep HW0.out HSX.out.ps hpw (.of hb))
    have HS4 := Lib.hid (HSX.out.below hb)
    clear hb HSX HW0 HSZ
    obtain ⟨y0, y1, y2, y3, y4, y5⟩ := tok5 (HS4.out.loc _ (.head _)).is
    go_wp2_with fail
    refine (add_ok (C.ex _) _ _ _ _ _ (hd (C.T.drop k)) 12 [] 0 _ [] HS4.out.ps (ints_nil _) HS4.out.room).mono ?_
    rintro e w5 ⟨rfl, v5, hs, hk⟩
    have HW2 := Lib.hid (ownI_keep HW1.out HS4.out.ps hpw hk)
    have HS5 := Lib.hid (HS4.out.added (at_ (hd (C.T.drop k)) 12 [] 0) hs hk)
    generalize hN3 : (((tw ++ _ : List Tw).length : Nat) : Int) = N3
    have hN3' : ((tw.length + ((Fo.nil.app (one d1 f1)).app (one d2 f2)).size + Fo.nil.size : Nat) : Int) = N3 := by rw [← hN3, len_post]; rfl
    have HN3 := Lib.hid hN3'
    clear hs hk hN3 hN3' HS4 HW1 y0 y1 y2 y3 y4 y5
    have hza : w3.heap.size ≤ w5.heap.size := by have h1 := lt_of_block (HS5.out.loc _ (.head _)).is; have h2 := (own_type HW2.out w3.heap.size rfl); obtain ⟨cur, h3⟩ := h2; have := lt_of_block h3; omega
    go_wp2_with (at_builtin; refine wpList_append_lies _ rfl _ _ 37 rfl w3.heap.size 3 i0 (.int .i64 0) 1 8 Tryz.underlying37 hi0 hz0 hz1 hz2 rfl (by decide) (.slice (some ⟨w3.heap.size, 0, none⟩) 2 2) 2 [.int .i64 N1, .int .i64 N2] rfl (HW2.out.alloc _) ⟨w5.heap.size, 0, none⟩ 1 1 [.int .i64 N3] rfl rfl (World.news_of_block (cs := #[.int .i64 N3]) (t := 3) (fr := (0, 0)) (heap_alloc_new w5 _)) (by simp [Value.oneCell']) (by decide) (by unfold maxLen; omega) (by omega) (by simp; omega) (w5.heap.size + 1) (by simp) ?_; intro gg cap w7 hown hgrow hat hltg; have HSA := Lib.hid ((HS5.out.al _).growI (x' := .slice (some ⟨gg, 0, none⟩) (2 + 1) cap) (HW2.out.alloc _) hge hpw hgrow (fun g hg => by simp [Value.ownBlock] at hg; subst hg; exact hat.imp id fun e => by simp; omega) (fun g hg => by simp [Value.ownBlock] at hg; subst hg; exact hltg) (by intro y hy; simp at hy; subst hy; simp [Value.ownBlock]; omega)).exDrop; have HI : Hid (IntRow w7 C.X (.slice (some ⟨gg, 0, none⟩) 3 cap) [N1, N2, N3]) := Lib.hid (own_introw (ids := [N1, N2, N3]) hown HX.out); clear hown hgrow hat hltg HS5 HW2; obtain ⟨z0, z1, z2, z3, z4, z5⟩ := tok5 (HSA.out.loc _ (.head _)).is)
    refine (add_ok C _ _ _ _ _ (hd (C.T.drop k)) 23 [] 0 _ _ HSA.out.ps HI.out HSA.out.room).mono ?_
    rintro e w8 ⟨rfl, v', hs, hk⟩
    have hids : [N1, N2, N3] = (((Fo.nil.app (one d1 f1)).app (one d2 f2)).app (one (at_ (hd (C.T.drop k)) 12 [] 0) .nil)).ids tw.length := (by rw [ids_snoc, ids_snoc, ids_snoc, ← HN1.out, ← HN2.out, ← HN3.out]; rfl)
    rw [hids] at hs
    generalize hN : (((tw ++ _ : List Tw).length : Nat) : Int) = N
    have HR := Lib.hid (HSA.out.fin HO9.out hs hk hN.symm)
    clear hs hk hN HSA hids HI
    go_wp2_with fail
    go_ret
    exact HR.out
  have ho' := HO2.out
  simp only [hx, if_true, tail_drop'] at ho'
  have HO8 := Lib.hid ho'
  have H1 := Lib.hid hx
  have hlt2 : j2 < C.T.length := sees_lt (x := 2) (by decide) (seesK_kind hx)
  clear ho' hx
  refine (seesWord_is (C.ex _) W0 _ _ _ _ [[101, 108, 115, 101]] _ _ _ true HSX.out.ps HSZ.out.symm rfl rfl (by decide) H1.out).mono ?_
  rintro e w4 ⟨rfl, hb⟩
  have HW1 := Lib.hid (ownI_keep HW0.out HSX.out.ps hpw (.of hb))
  have HS4 := Lib.hid (HSX.out.below hb)
  clear hb HSX HW0 HSZ
  go_wp2_with fail
  refine (take_ok (C.ex _) _ _ _ _ _ HS4.out.ps hlt2).mono ?_
  rintro e w5 ⟨rfl, hs, hk⟩
  have HW2 := Lib.hid (ownI_keep HW1.out HS4.out.ps hpw hk)
  have HS5 := Lib.hid (HS4.out.took hs hk)
  clear hs hk HS4 HW1
  unfold tokV
  go_wp2_with fail
  have hnd : P n .block (C.T.drop (j2 + 1)) m ≠ .dry := fun hdry => by have h1 := HO8.out; rw [hdry] at h1; exact HND.out h1.symm
  refine (HBLK.out (C.ex _) _ _ _ _ _ HS5.out.ps hnd).mono ?_
  rintro e w6 hr0
  have hr : Ret (C.ex (.slice (some ⟨w3.heap.size, 0, none⟩) 2 2)) w5 (j2 + 1) m v2 (tw ++ ((Fo.nil.app (one d1 f1)).app (one d2 f2)).post tw.length) (P n .block (C.T.drop (j2 + 1)) m) e w6 := hr0
  clear hr0
  rcases hP : P n .block (C.T.drop (j2 + 1)) m with _ | ⟨er, r⟩ | ⟨d3, f3, r⟩
  · exact absurd hP hnd
  · rw [hP] at hr; have ho' := HO8.out; rw [hP] at ho'; have hR : Ret C w k m v tw o e w6 := (by subst ho'; exact ⟨hr.1, HS5.out.lowB hr.2⟩); have HR := Lib.hid hR; obtain ⟨rfl, _⟩ := hr; clear hnd hP ho' hR; go_wp2_with fail; exact ⟨rfl, HR.out⟩
  rw [hP] at hr
  obtain ⟨_, _, _, _, _, hk3, _⟩ := id hr
  have HW3 := Lib.hid (ownI_keep HW2.out HS5.out.ps hpw hk3)
  obtain ⟨j3, v3, rfl, rfl, hs⟩ := HS5.out.sub hr
  have ho' := HO8.out
  rw [hP] at ho'
  dsimp only [Out.and, Cx.ex] at ho'
  have HO9 := Lib.hid ho'
  have HS6 := Lib.hid hs
  generalize hN : ((tw.length + _ + f3.size : Nat) : Int) = N3
  have HN3 := Lib.hid hN
  clear hs hr hN hnd hP ho' HS5 HW2 hk3
  have hza : w3.heap.size ≤ w6.heap.size := by have h1 := lt_of_block (HS6.out.loc _ (.head _)).is; have h2 := (own_type HW3.out w3.heap.size rfl); obtain ⟨cur, h3⟩ := h2; have := lt_of_block h3; omega
  go_wp2_with (at_builtin; refine wpList_append_lies _ rfl _ _ 37 rfl w3.heap.size 3 i0 (.int .i64 0) 1 8 Tryz.underlying37 hi0 hz0 hz1 hz2 rfl (by decide) (.slice (some ⟨w3.heap.size, 0, none⟩) 2 2) 2 [.int .i64 N1, .int .i64 N2] rfl (HW3.out.alloc _) ⟨w6.heap.size, 0, none⟩ 1 1 [.int .i64 N3] rfl rfl (World.news_of_block (cs := #[.int .i64 N3]) (t := 3) (fr := (0, 0)) (heap_alloc_new w6 _)) (by simp [Value.oneCell']) (by decide) (by unfold maxLen; omega) (by omega) (by simp; omega) (w6.heap.size + 1) (by simp) ?_; intro gg cap w7 hown hgrow hat hltg; have HSA := Lib.hid ((HS6.out.al _).growI (x' := .slice (some ⟨gg, 0, none⟩) (2 + 1) cap) (HW3.out.alloc _) hge hpw hgrow (fun g hg => by simp [Value.ownBlock] at hg; subst hg; exact hat.imp id fun e => by simp; omega) (fun g hg => by simp [Value.ownBlock] at hg; subst hg; exact hltg) (by intro y hy; simp at hy; subst hy; simp [Value.ownBlock]; omega)).exDrop; have HI : Hid (IntRow w7 C.X (.slice (some ⟨gg, 0, none⟩) 3 cap) [N1, N2, N3]) := Lib.hid (own_introw (ids := [N1, N2, N3]) hown HX.out); clear hown hgrow hat hltg HS6 HW3; obtain ⟨z0, z1, z2, z3, z4, z5⟩ := tok5 (HSA.out.loc _ (.head _)).is)
  refine (add_ok C _ _ _ _ _ (hd (C.T.drop k)) 23 [] 0 _ _ HSA.out.ps HI.out HSA.out.room).mono ?_
  rintro e w8 ⟨rfl, v', hs, hk⟩
  have hids : [N1, N2, N3] = (((Fo.nil.app (one d1 f1)).app (one d2 f2)).app (one d3 f3)).ids tw.length := (by rw [ids_snoc, ids_snoc, ids_snoc, ← HN1.out, ← HN2.out, ← HN3.out]; rfl)
  rw [hids] at hs
  generalize hN : (((tw ++ _ : List Tw).length : Nat) : Int) = N
  have HR := Lib.hid (HSA.out.fin HO9.out hs hk hN.symm)
  clear hs hk hN HSA hids HI
  go_wp2_with fail
  go_ret
  exact HR.out

end Go.Proofs.YtehdljcmeimbcaaGreat

namespace Go.Proofs.YtehdljcmeimbcaaGreat
open Go.RowKit

set_option maxRecDepth 100000 in
set_option maxHeartbeats 2000000 in
theorem statement_var (n : Nat) (HTERM : Hid (Ct 130 n .term)) (C : Cx) (w : World) (k m : Nat) (v : Value) (tw : List Tw) (h : PS w C k m v tw) (h1 : seesW (C.T.drop k) [[118, 97, 114]] = true) (hnd : P (n + 1) .stmt (C.T.drop k) m ≠ .dry) :
    Calls Tryz.prog 112 #[C.ptr] w (Ret C w k m v tw (P (n + 1) .stmt (C.T.drop k) m)) := by
  have HS0 := Lib.hid (St.start h)
  clear h
  generalize ho : P (n + 1) .stmt (C.T.drop k) m = o at hnd ⊢
  have HND := Lib.hid hnd
  clear hnd
  have H1 := Lib.hid h1
  clear h1
  have HO0 := Lib.hid ho
  clear ho
  go_enter Tryz.func112, Tryz.ntmps112
  go_wp2_with fail
  refine (seesWord_is C _ _ _ _ _ [[118, 97, 114]] _ _ _ true HS0.out.ps (by simp) rfl rfl (by decide) H1.out).mono ?_
  rintro e w1 ⟨rfl, hb⟩
  have HS1 := Lib.hid (HS0.out.below hb)
  clear hb HS0
  go_wp2_with fail
  refine (local_ok n HTERM C _ _ _ _ _ HS1.out.ps0 H1.out (by rw [HO0.out]; exact HND.out)).mono ?_
  rintro e w9 hr
  rw [HO0.out] at hr
  have HR := Lib.hid (HS1.out.from hr)
  clear HS1
  cases o with
  | dry => exact absurd rfl HND.out
  | bad er r => (obtain ⟨rfl, _⟩ := hr; go_wp2_with fail; exact ⟨rfl, HR.out⟩)
  | ok d f r => (obtain ⟨j, v', _, rfl, _⟩ := hr; generalize ((tw.length + f.size : Nat) : Int) = N at HR ⊢; go_wp2_with fail; go_ret; exact HR.out)

set_option maxRecDepth 100000 in
set_option maxHeartbeats 2000000 in
theorem statement_act (n : Nat) (HTERM : Hid (Ct 130 n .term)) (C : Cx) (w : World) (k m : Nat) (v : Value) (tw : List Tw) (h : PS w C k m v tw) (h2 : seesW (C.T.drop k) [[118, 97, 114]] = false) (h1 : seesW (C.T.drop k) actWords = true) (hnd : P (n + 1) .stmt (C.T.drop k) m ≠ .dry) :
    Calls Tryz.prog 112 #[C.ptr] w (Ret C w k m v tw (P (n + 1) .stmt (C.T.drop k) m)) := by
  have HS0 := Lib.hid (St.start h)
  clear h
  generalize ho : P (n + 1) .stmt (C.T.drop k) m = o at hnd ⊢
  have HND := Lib.hid hnd
  clear hnd
  have H2 := Lib.hid h2
  clear h2
  have H1 := Lib.hid h1
  clear h1
  have HO0 := Lib.hid ho
  clear ho
  go_enter Tryz.func112, Tryz.ntmps112
  go_wp2_with fail
  refine (seesWord_is C _ _ _ _ _ [[118, 97, 114]] _ _ _ false HS0.out.ps (by simp) rfl rfl (by decide) H2.out).mono ?_
  rintro e w1 ⟨rfl, hb⟩
  have HS1 := Lib.hid (HS0.out.below hb)
  clear hb HS0
  go_wp2_with fail
  refine (seesWord_is C _ _ _ _ _ actWords _ _ _ true HS1.out.ps (by simp) rfl rfl (by decide) H1.out).mono ?_
  rintro e w2 ⟨rfl, hb⟩
  have HS2 := Lib.hid (HS1.out.below hb)
  clear hb HS1
  go_wp2_with fail
  refine (act_ok n HTERM C _ _ _ _ _ HS2.out.ps0 H2.out H1.out (by rw [HO0.out]; exact HND.out)).mono ?_
  rintro e w9 hr
  rw [HO0.out] at hr
  have HR := Lib.hid (HS2.out.from hr)
  clear HS2
  cases o with
  | dry => exact absurd rfl HND.out
  | bad er r => (obtain ⟨rfl, _⟩ := hr; go_wp2_with fail; exact ⟨rfl, HR.out⟩)
  | ok d f r => (obtain ⟨j, v', _, rfl, _⟩ := hr; generalize ((tw.length + f.size : Nat) : Int) = N at HR ⊢; go_wp2_with fail; go_ret; exact HR.out)

set_option maxRecDepth 100000 in
set_option maxHeartbeats 2000000 in
theorem statement_post (n : Nat) (HTERM : Hid (Ct 130 n .term)) (HTO : Hid (CtTo n)) (C : Cx) (w : World) (k m : Nat) (v : Value) (tw : List Tw) (h : PS w C k m v tw) (h2 : seesW (C.T.drop k) [[118, 97, 114]] = false) (h3 : seesW (C.T.drop k) actWords = false) (h1 : seesW (C.T.drop k) [[112, 111, 115, 116]] = true) (hnd : P (n + 1) .stmt (C.T.drop k) m ≠ .dry) :
    Calls Tryz.prog 112 #[C.ptr] w (Ret C w k m v tw (P (n + 1) .stmt (C.T.drop k) m)) := by
  have HS0 := Lib.hid (St.start h)
  clear h
  generalize ho : P (n + 1) .stmt (C.T.drop k) m = o at hnd ⊢
  have HND := Lib.hid hnd
  clear hnd
  have H2 := Lib.hid h2
  clear h2
  have H3 := Lib.hid h3
  clear h3
  have H1 := Lib.hid h1
  clear h1
  have HO0 := Lib.hid ho
  clear ho
  go_enter Tryz.func112, Tryz.ntmps112
  go_wp2_with fail
  refine (seesWord_is C _ _ _ _ _ [[118, 97, 114]] _ _ _ false HS0.out.ps (by simp) rfl rfl (by decide) H2.out).mono ?_
  rintro e w1 ⟨rfl, hb⟩
  have HS1 := Lib.hid (HS0.out.below hb)
  clear hb HS0
  go_wp2_with fail
  refine (seesWord_is C _ _ _ _ _ actWords _ _ _ false HS1.out.ps (by simp) rfl rfl (by decide) H3.out).mono ?_
  rintro e w2 ⟨rfl, hb⟩
  have HS2 := Lib.hid (HS1.out.below hb)
  clear hb HS1
  go_wp2_with fail
  refine (seesWord_is C _ _ _ _ _ [[112, 111, 115, 116]] _ _ _ true HS2.out.ps (by simp) rfl rfl (by decide) H1.out).mono ?_
  rintro e w3 ⟨rfl, hb⟩
  have HS3 := Lib.hid (HS2.out.below hb)
  clear hb HS2
  go_wp2_with fail
  refine (post_ok n HTERM HTO C _ _ _ _ _ HS3.out.ps0 H2.out H3.out H1.out (by rw [HO0.out]; exact HND.out)).mono ?_
  rintro e w9 hr
  rw [HO0.out] at hr
  have HR := Lib.hid (HS3.out.from hr)
  clear HS3
  cases o with
  | dry => exact absurd rfl HND.out
  | bad er r => (obtain ⟨rfl, _⟩ := hr; go_wp2_with fail; exact ⟨rfl, HR.out⟩)
  | ok d f r => (obtain ⟨j, v', _, rfl, _⟩ := hr; generalize ((tw.length + f.size : Nat) : Int) = N at HR ⊢; go_wp2_with fail; go_ret; exact HR.out)

set_option maxRecDepth 100000 in
set_option maxHeartbeats 2000000 in
theorem statement_spawn (n : Nat) (HTERM : Hid (Ct 130 n .term)) (HTO : Hid (CtTo n)) (C : Cx) (w : World) (k m : Nat) (v : Value) (tw : List Tw) (h : PS w C k m v tw) (h2 : seesW (C.T.drop k) [[118, 97, 114]] = false) (h3 : seesW (C.T.drop k) actWords = false) (h4 : seesW (C.T.drop k) [[112, 111, 115, 116]] = false) (h1 : seesW (C.T.drop k) [[115, 112, 97, 119, 110]] = true) (hnd : P (n + 1) .stmt (C.T.drop k) m ≠ .dry) :
    Calls Tryz.prog 112 #[C.ptr] w (Ret C w k m v tw (P (n + 1) .stmt (C.T.drop k) m)) := by
  have HS0 := Lib.hid (St.start h)
  clear h
  generalize ho : P (n + 1) .stmt (C.T.drop k) m = o at hnd ⊢
  have HND := Lib.hid hnd
  clear hnd
  have H2 := Lib.hid h2
  clear h2
  have H3 := Lib.hid h3
  clear h3
  have H4 := Lib.hid h4
  clear h4
  have H1 := Lib.hid h1
  clear h1
  have HO0 := Lib.hid ho
  clear ho
  go_enter Tryz.func112, Tryz.ntmps112
  go_wp2_with fail
  refine (seesWord_is C _ _ _ _ _ [[118, 97, 114]] _ _ _ false HS0.out.ps (by simp) rfl rfl (by decide) H2.out).mono ?_
  rintro e w1 ⟨rfl, hb⟩
  have HS1 := Lib.hid (HS0.out.below hb)
  clear hb HS0
  go_wp2_with fail
  refine (seesWord_is C _ _ _ _ _ actWords _ _ _ false HS1.out.ps (by simp) rfl rfl (by decide) H3.out).mono ?_
  rintro e w2 ⟨rfl, hb⟩
  have HS2 := Lib.hid (HS1.out.below hb)
  clear hb HS1
  go_wp2_with fail
  refine (seesWord_is C _ _ _ _ _ [[112, 111, 115, 116]] _ _ _ false HS2.out.ps (by simp) rfl rfl (by decide) H4.out).mono ?_
  rintro e w3 ⟨rfl, hb⟩
  have HS3 := Lib.hid (HS2.out.below hb)
  clear hb HS2
  go_wp2_with fail
  refine (seesWord_is C _ _ _ _ _ [[115, 112, 97, 119, 110]] _ _ _ true HS3.out.ps (by simp) rfl rfl (by decide) H1.out).mono ?_
  rintro e w4 ⟨rfl, hb⟩
  have HS4 := Lib.hid (HS3.out.below hb)
  clear hb HS3
  go_wp2_with fail
  refine (spawn_ok n HTERM HTO C _ _ _ _ _ HS4.out.ps0 H2.out H3.out H4.out H1.out (by rw [HO0.out]; exact HND.out)).mono ?_
  rintro e w9 hr
  rw [HO0.out] at hr
  have HR := Lib.hid (HS4.out.from hr)
  clear HS4
  cases o with
  | dry => exact absurd rfl HND.out
  | bad er r => (obtain ⟨rfl, _⟩ := hr; go_wp2_with fail; exact ⟨rfl, HR.out⟩)
  | ok d f r => (obtain ⟨j, v', _, rfl, _⟩ := hr; generalize ((tw.length + f.size : Nat) : Int) = N at HR ⊢; go_wp2_with fail; go_ret; exact HR.out)

set_option maxRecDepth 100000 in
set_option maxHeartbeats 2000000 in
theorem statement_turn (n : Nat) (C : Cx) (w : World) (k m : Nat) (v : Value) (tw : List Tw) (h : PS w C k m v tw) (h2 : seesW (C.T.drop k) [[118, 97, 114]] = false) (h3 : seesW (C.T.drop k) actWords = false) (h4 : seesW (C.T.drop k) [[112, 111, 115, 116]] = false) (h5 : seesW (C.T.drop k) [[115, 112, 97, 119, 110]] = false) (h1 : seesW (C.T.drop k) [[101, 110, 97, 98, 108, 101], [100, 105, 115, 97, 98, 108, 101]] = true) (hnd : P (n + 1) .stmt (C.T.drop k) m ≠ .dry) :
    Calls Tryz.prog 112 #[C.ptr] w (Ret C w k m v tw (P (n + 1) .stmt (C.T.drop k) m)) := by
  have HS0 := Lib.hid (St.start h)
  clear h
  generalize ho : P (n + 1) .stmt (C.T.drop k) m = o at hnd ⊢
  have HND := Lib.hid hnd
  clear hnd
  have H2 := Lib.hid h2
  clear h2
  have H3 := Lib.hid h3
  clear h3
  have H4 := Lib.hid h4
  clear h4
  have H5 := Lib.hid h5
  clear h5
  have H1 := Lib.hid h1
  clear h1
  have HO0 := Lib.hid ho
  clear ho
  go_enter Tryz.func112, Tryz.ntmps112
  go_wp2_with fail
  refine (seesWord_is C _ _ _ _ _ [[118, 97, 114]] _ _ _ false HS0.out.ps (by simp) rfl rfl (by decide) H2.out).mono ?_
  rintro e w1 ⟨rfl, hb⟩
  have HS1 := Lib.hid (HS0.out.below hb)
  clear hb HS0
  go_wp2_with fail
  refine (seesWord_is C _ _ _ _ _ actWords _ _ _ false HS1.out.ps (by simp) rfl rfl (by decide) H3.out).mono ?_
  rintro e w2 ⟨rfl, hb⟩
  have HS2 := Lib.hid (HS1.out.below hb)
  clear hb HS1
  go_wp2_with fail
  refine (seesWord_is C _ _ _ _ _ [[112, 111, 115, 116]] _ _ _ false HS2.out.ps (by simp) rfl rfl (by decide) H4.out).mono ?_
  rintro e w3 ⟨rfl, hb⟩
  have HS3 := Lib.hid (HS2.out.below hb)
  clear hb HS2
  go_wp2_with fail
  refine (seesWord_is C _ _ _ _ _ [[115, 112, 97, 119, 110]] _ _ _ false HS3.out.ps (by simp) rfl rfl (by decide) H5.out).mono ?_
  rintro e w4 ⟨rfl, hb⟩
  have HS4 := Lib.hid (HS3.out.below hb)
  clear hb HS3
  go_wp2_with fail
  refine (seesWord_is C _ _ _ _ _ [[101, 110, 97, 98, 108, 101], [100, 105, 115, 97, 98, 108, 101]] _ _ _ true HS4.out.ps (by simp) rfl rfl (by decide) H1.out).mono ?_
  rintro e w5 ⟨rfl, hb⟩
  have HS5 := Lib.hid (HS4.out.below hb)
  clear hb HS4
  go_wp2_with fail
  refine (turn_ok n C _ _ _ _ _ HS5.out.ps0 H2.out H3.out H4.out H5.out H1.out (by rw [HO0.out]; exact HND.out)).mono ?_
  rintro e w9 hr
  rw [HO0.out] at hr
  have HR := Lib.hid (HS5.out.from hr)
  clear HS5
  cases o with
  | dry => exact absurd rfl HND.out
  | bad er r => (obtain ⟨rfl, _⟩ := hr; go_wp2_with fail; exact ⟨rfl, HR.out⟩)
  | ok d f r => (obtain ⟨j, v', _, rfl, _⟩ := hr; generalize ((tw.length + f.size : Nat) : Int) = N at HR ⊢; go_wp2_with fail; go_ret; exact HR.out)

set_option maxRecDepth 100000 in
set_option maxHeartbeats 2000000 in
theorem statement_if (n : Nat) (HTERM : Hid (Ct 130 n .term)) (HBLK : Hid (Ct 94 n .block)) (C : Cx) (w : World) (k m : Nat) (v : Value) (tw : List Tw) (h : PS w C k m v tw) (h2 : seesW (C.T.drop k) [[118, 97, 114]] = false) (h3 : seesW (C.T.drop k) actWords = false) (h4 : seesW (C.T.drop k) [[112, 111, 115, 116]] = false) (h5 : seesW (C.T.drop k) [[115, 112, 97, 119, 110]] = false) (h6 : seesW (C.T.drop k) [[101, 110, 97, 98, 108, 101], [100, 105, 115, 97, 98, 108, 101]] = false) (h1 : seesW (C.T.drop k) [[105, 102]] = true) (hnd : P (n + 1) .stmt (C.T.drop k) m ≠ .dry) :
    Calls Tryz.prog 112 #[C.ptr] w (Ret C w k m v tw (P (n + 1) .stmt (C.T.drop k) m)) := by
  have HS0 := Lib.hid (St.start h)
  clear h
  generalize ho : P (n + 1) .stmt (C.T.drop k) m = o at hnd ⊢
  have HND := Lib.hid hnd
  clear hnd
  have H2 := Lib.hid h2
  clear h2
  have H3 := Lib.hid h3
  clear h3
  have H4 := Lib.hid h4
  clear h4
  have H5 := Lib.hid h5
  clear h5
  have H6 := Lib.hid h6
  clear h6
  have H1 := Lib.hid h1
  clear h1
  have HO0 := Lib.hid ho
  clear ho
  go_enter Tryz.func112, Tryz.ntmps112
  go_wp2_with fail
  refine (seesWord_is C _ _ _ _ _ [[118, 97, 114]] _ _ _ false HS0.out.ps (by simp) rfl rfl (by decide) H2.out).mono ?_
  rintro e w1 ⟨rfl, hb⟩
  have HS1 := Lib.hid (HS0.out.below hb)
  clear hb HS0
  go_wp2_with fail
  refine (seesWord_is C _ _ _ _ _ actWords _ _ _ false HS1.out.ps (by simp) rfl rfl (by decide) H3.out).mono ?_
  rintro e w2 ⟨rfl, hb⟩
  have HS2 := Lib.hid (HS1.out.below hb)
  clear hb HS1
  go_wp2_with fail
  refine (seesWord_is C _ _ _ _ _ [[112, 111, 115, 116]] _ _ _ false HS2.out.ps (by simp) rfl rfl (by decide) H4.out).mono ?_
  rintro e w3 ⟨rfl, hb⟩
  have HS3 := Lib.hid (HS2.out.below hb)
  clear hb HS2
  go_wp2_with fail
  refine (seesWord_is C _ _ _ _ _ [[115, 112, 97, 119, 110]] _ _ _ false HS3.out.ps (by simp) rfl rfl (by decide) H5.out).mono ?_
  rintro e w4 ⟨rfl, hb⟩
  have HS4 := Lib.hid (HS3.out.below hb)
  clear hb HS3
  go_wp2_with fail
  refine (seesWord_is C _ _ _ _ _ [[101, 110, 97, 98, 108, 101], [100, 105, 115, 97, 98, 108, 101]] _ _ _ false HS4.out.ps (by simp) rfl rfl (by decide) H6.out).mono ?_
  rintro e w5 ⟨rfl, hb⟩
  have HS5 := Lib.hid (HS4.out.below hb)
  clear hb HS4
  go_wp2_with fail
  refine (seesWord_is C _ _ _ _ _ [[105, 102]] _ _ _ true HS5.out.ps (by simp) rfl rfl (by decide) H1.out).mono ?_
  rintro e w6 ⟨rfl, hb⟩
  have HS6 := Lib.hid (HS5.out.below hb)
  clear hb HS5
  go_wp2_with fail
  refine (choose_ok n HTERM HBLK C _ _ _ _ _ HS6.out.ps0 H2.out H3.out H4.out H5.out H6.out H1.out (by rw [HO0.out]; exact HND.out)).mono ?_
  rintro e w9 hr
  rw [HO0.out] at hr
  have HR := Lib.hid (HS6.out.from hr)
  clear HS6
  cases o with
  | dry => exact absurd rfl HND.out
  | bad er r => (obtain ⟨rfl, _⟩ := hr; go_wp2_with fail; exact ⟨rfl, HR.out⟩)
  | ok d f r => (obtain ⟨j, v', _, rfl, _⟩ := hr; generalize ((tw.length + f.size : Nat) : Int) = N at HR ⊢; go_wp2_with fail; go_ret; exact HR.out)

set_option maxRecDepth 100000 in
set_option maxHeartbeats 2000000 in
theorem statement_while (n : Nat) (HTERM : Hid (Ct 130 n .term)) (HBLK : Hid (Ct 94 n .block)) (C : Cx) (w : World) (k m : Nat) (v : Value) (tw : List Tw) (h : PS w C k m v tw) (h2 : seesW (C.T.drop k) [[118, 97, 114]] = false) (h3 : seesW (C.T.drop k) actWords = false) (h4 : seesW (C.T.drop k) [[112, 111, 115, 116]] = false) (h5 : seesW (C.T.drop k) [[115, 112, 97, 119, 110]] = false) (h6 : seesW (C.T.drop k) [[101, 110, 97, 98, 108, 101], [100, 105, 115, 97, 98, 108, 101]] = false) (h7 : seesW (C.T.drop k) [[105, 102]] = false) (h1 : seesW (C.T.drop k) [[119, 104, 105, 108, 101]] = true) (hnd : P (n + 1) .stmt (C.T.drop k) m ≠ .dry) :
    Calls Tryz.prog 112 #[C.ptr] w (Ret C w k m v tw (P (n + 1) .stmt (C.T.drop k) m)) := by
  have HS0 := Lib.hid (St.start h)
  clear h
  generalize ho : P (n + 1) .stmt (C.T.drop k) m = o at hnd ⊢
  have HND := Lib.hid hnd
  clear hnd
  have H2 := Lib.hid h2
  clear h2
  have H3 := Lib.hid h3
  clear h3
  have H4 := Lib.hid h4
  clear h4
  have H5 := Lib.hid h5
  clear h5
  have H6 := Lib.hid h6
  clear h6
  have H7 := Lib.hid h7
  clear h7
  have H1 := Lib.hid h1
  clear h1
  have HO0 := Lib.hid ho
  clear ho
  go_enter Tryz.func112, Tryz.ntmps112
  go_wp2_with fail
  refine (seesWord_is C _ _ _ _ _ [[118, 97, 114]] _ _ _ false HS0.out.ps (by simp) rfl rfl (by decide) H2.out).mono ?_
  rintro e w1 ⟨rfl, hb⟩
  have HS1 := Lib.hid (HS0.out.below hb)
  clear hb HS0
  go_wp2_with fail
  refine (seesWord_is C _ _ _ _ _ actWords _ _ _ false HS1.out.ps (by simp) rfl rfl (by decide) H3.out).mono ?_
  rintro e w2 ⟨rfl, hb⟩
  have HS2 := Lib.hid (HS1.out.below hb)
  clear hb HS1
  go_wp2_with fail
  refine (seesWord_is C _ _ _ _ _ [[112, 111, 115, 116]] _ _ _ false HS2.out.ps (by simp) rfl rfl (by decide) H4.out).mono ?_
  rintro e w3 ⟨rfl, hb⟩
  have HS3 := Lib.hid (HS2.out.below hb)
  clear hb HS2
  go_wp2_with fail
  refine (seesWord_is C _ _ _ _ _ [[115, 112, 97, 119, 110]] _ _ _ false HS3.out.ps (by simp) rfl rfl (by decide) H5.out).mono ?_
  rintro e w4 ⟨rfl, hb⟩
  have HS4 := Lib.hid (HS3.out.below hb)
  clear hb HS3
  go_wp2_with fail
  refine (seesWord_is C _ _ _ _ _ [[101, 110, 97, 98, 108, 101], [100, 105, 115, 97, 98, 108, 101]] _ _ _ false HS4.out.ps (by simp) rfl rfl (by decide) H6.out).mono ?_
  rintro e w5 ⟨rfl, hb⟩
  have HS5 := Lib.hid (HS4.out.below hb)
  clear hb HS4
  go_wp2_with fail
  refine (seesWord_is C _ _ _ _ _ [[105, 102]] _ _ _ false HS5.out.ps (by simp) rfl rfl (by decide) H7.out).mono ?_
  rintro e w6 ⟨rfl, hb⟩
  have HS6 := Lib.hid (HS5.out.below hb)
  clear hb HS5
  go_wp2_with fail
  refine (seesWord_is C _ _ _ _ _ [[119, 104, 105, 108, 101]] _ _ _ true HS6.out.ps (by simp) rfl rfl (by decide) H1.out).mono ?_
  rintro e w7 ⟨rfl, hb⟩
  have HS7 := Lib.hid (HS6.out.below hb)
  clear hb HS6
  go_wp2_with fail
  refine (repeat_ok n HTERM HBLK C _ _ _ _ _ HS7.out.ps0 H2.out H3.out H4.out H5.out H6.out H7.out H1.out (by rw [HO0.out]; exact HND.out)).mono ?_
  rintro e w9 hr
  rw [HO0.out] at hr
  have HR := Lib.hid (HS7.out.from hr)
  clear HS7
  cases o with
  | dry => exact absurd rfl HND.out
  | bad er r => (obtain ⟨rfl, _⟩ := hr; go_wp2_with fail; exact ⟨rfl, HR.out⟩)
  | ok d f r => (obtain ⟨j, v', _, rfl, _⟩ := hr; generalize ((tw.length + f.size : Nat) : Int) = N at HR ⊢; go_wp2_with fail; go_ret; exact HR.out)

set_option maxRecDepth 100000 in
set_option maxHeartbeats 2000000 in
theorem statement_return (n : Nat) (C : Cx) (w : World) (k m : Nat) (v : Value) (tw : List Tw) (h : PS w C k m v tw) (h2 : seesW (C.T.drop k) [[118, 97, 114]] = false) (h3 : seesW (C.T.drop k) actWords = false) (h4 : seesW (C.T.drop k) [[112, 111, 115, 116]] = false) (h5 : seesW (C.T.drop k) [[115, 112, 97, 119, 110]] = false) (h6 : seesW (C.T.drop k) [[101, 110, 97, 98, 108, 101], [100, 105, 115, 97, 98, 108, 101]] = false) (h7 : seesW (C.T.drop k) [[105, 102]] = false) (h8 : seesW (C.T.drop k) [[119, 104, 105, 108, 101]] = false) (h1 : seesW (C.T.drop k) [[114, 101, 116, 117, 114, 110]] = true) (hnd : P (n + 1) .stmt (C.T.drop k) m ≠ .dry) :
    Calls Tryz.prog 112 #[C.ptr] w (Ret C w k m v tw (P (n + 1) .stmt (C.T.drop k) m)) := by
  have HS0 := Lib.hid (St.start h)
  clear h
  generalize ho : P (n + 1) .stmt (C.T.drop k) m = o at hnd ⊢
  have HND := Lib.hid hnd
  clear hnd
  rw [P] at ho
  simp only [h2, h3, h4, h5, h6, h7, h8, h1, Bool.false_eq_true, if_false, if_true, tail_drop'] at ho
  have hlt : k < C.T.length := sees_lt (x := 2) (by decide) (seesK_kind h1)
  have H2 := Lib.hid h2
  clear h2
  have H3 := Lib.hid h3
  clear h3
  have H4 := Lib.hid h4
  clear h4
  have H5 := Lib.hid h5
  clear h5
  have H6 := Lib.hid h6
  clear h6
  have H7 := Lib.hid h7
  clear h7
  have H8 := Lib.hid h8
  clear h8
  have H1 := Lib.hid h1
  clear h1
  have HO0 := Lib.hid ho
  clear ho
  go_enter Tryz.func112, Tryz.ntmps112
  go_wp2_with fail
  refine (seesWord_is C _ _ _ _ _ [[118, 97, 114]] _ _ _ false HS0.out.ps (by simp) rfl rfl (by decide) H2.out).mono ?_
  rintro e w1 ⟨rfl, hb⟩
  have HS1 := Lib.hid (HS0.out.below hb)
  clear hb HS0
  go_wp2_with fail
  refine (seesWord_is C _ _ _ _ _ actWords _ _ _ false HS1.out.ps (by simp) rfl rfl (by decide) H3.out).mono ?_
  rintro e w2 ⟨rfl, hb⟩
  have HS2 := Lib.hid (HS1.out.below hb)
  clear hb HS1
  go_wp2_with fail
  refine (seesWord_is C _ _ _ _ _ [[112, 111, 115, 116]] _ _ _ false HS2.out.ps (by simp) rfl rfl (by decide) H4.out).mono ?_
  rintro e w3 ⟨rfl, hb⟩
  have HS3 := Lib.hid (HS2.out.below hb)
  clear hb HS2
  go_wp2_with fail
  refine (seesWord_is C _ _ _ _ _ [[115, 112, 97, 119, 110]] _ _ _ false HS3.out.ps (by simp) rfl rfl (by decide) H5.out).mono ?_
  rintro e w4 ⟨rfl, hb⟩
  have HS4 := Lib.hid (HS3.out.below hb)
  clear hb HS3
  go_wp2_with fail
  refine (seesWord_is C _ _ _ _ _ [[101, 110, 97, 98, 108, 101], [100, 105, 115, 97, 98, 108, 101]] _ _ _ false HS4.out.ps (by simp) rfl rfl (by decide) H6.out).mono ?_
  rintro e w5 ⟨rfl, hb⟩
  have HS5 := Lib.hid (HS4.out.below hb)
  clear hb HS4
  go_wp2_with fail
  refine (seesWord_is C _ _ _ _ _ [[105, 102]] _ _ _ false HS5.out.ps (by simp) rfl rfl (by decide) H7.out).mono ?_
  rintro e w6 ⟨rfl, hb⟩
  have HS6 := Lib.hid (HS5.out.below hb)
  clear hb HS5
  go_wp2_with fail
  refine (seesWord_is C _ _ _ _ _ [[119, 104, 105, 108, 101]] _ _ _ false HS6.out.ps (by simp) rfl rfl (by decide) H8.out).mono ?_
  rintro e w7 ⟨rfl, hb⟩
  have HS7 := Lib.hid (HS6.out.below hb)
  clear hb HS6
  go_wp2_with fail
  refine (seesWord_is C _ _ _ _ _ [[114, 101, 116, 117, 114, 110]] _ _ _ true HS7.out.ps (by simp) rfl rfl (by decide) H1.out).mono ?_
  rintro e w8 ⟨rfl, hb⟩
  have HS8 := Lib.hid (HS7.out.below hb)
  clear hb HS7
  go_wp2_with fail
  refine (take_ok C _ _ _ _ _ HS8.out.ps (hlt)).mono ?_
  rintro e w9 ⟨rfl, hs, hk⟩
  have HS9 := Lib.hid (HS8.out.took hs hk)
  clear hs hk HS8 
  unfold tokV
  go_wp2_with fail
  cases hx : seesM (C.T.drop (k + 1)) [[59]]
  · have ho' := HO0.out
    rw [tkM_no hx] at ho'
    refine (takeMark_new_no C _ _ _ _ _ [[59]] _ _ _ (HS9.out.var (w9.heap.size) (by simp) (.cells #[.int .i64 (hd (C.T.drop k)).kind, .string ⟨(hd (C.T.drop k)).text.toArray⟩, .int .i64 (hd (C.T.drop k)).n, .int .i64 (hd (C.T.drop k)).line, .int .i64 (hd (C.T.drop k)).col] 61)).ps (by simp) rfl rfl (by decide) hx).mono ?_
    rintro e w' ⟨rfl, hb⟩
    have HB := Lib.hid ((HS9.out.var (w9.heap.size) (by simp) (.cells #[.int .i64 (hd (C.T.drop k)).kind, .string ⟨(hd (C.T.drop k)).text.toArray⟩, .int .i64 (hd (C.T.drop k)).n, .int .i64 (hd (C.T.drop k)).line, .int .i64 (hd (C.T.drop k)).col] 61)).bad (m0 := m) ho' hb)
    clear hb ho' hx
    go_wp2_with fail
    exact ⟨rfl, HB.out⟩
  have ho' := HO0.out
  rw [tkM_yes hx, tail_drop'] at ho'
  have HO1 := Lib.hid ho'
  refine (takeMark_new_yes C _ _ _ _ _ [[59]] _ _ _ (HS9.out.var (w9.heap.size) (by simp) (.cells #[.int .i64 (hd (C.T.drop k)).kind, .string ⟨(hd (C.T.drop k)).text.toArray⟩, .int .i64 (hd (C.T.drop k)).n, .int .i64 (hd (C.T.drop k)).line, .int .i64 (hd (C.T.drop k)).col] 61)).ps (by simp) rfl rfl (by decide) hx).mono ?_
  rintro e w10 ⟨rfl, hs, hk⟩
  have HS10 := Lib.hid ((HS9.out.var (w9.heap.size) (by simp) (.cells #[.int .i64 (hd (C.T.drop k)).kind, .string ⟨(hd (C.T.drop k)).text.toArray⟩, .int .i64 (hd (C.T.drop k)).n, .int .i64 (hd (C.T.drop k)).line, .int .i64 (hd (C.T.drop k)).col] 61)).took hs hk)
  clear hs hk HS9 ho' hx
  unfold tokV
  obtain ⟨a10_0, a10_1, a10_2, a10_3, a10_4, a10_5⟩ := tok5 (HS10.out.loc _ (.head _)).is
  have a10_lt := lt_of_block (HS10.out.loc _ (.head _)).is
  go_wp2_with fail
  refine (add_ok C _ _ _ _ _ (hd (C.T.drop k)) 25 [] 0 _ [] HS10.out.ps (ints_nil _) HS10.out.room).mono ?_
  rintro e w11 ⟨rfl, v', hs, hk⟩
  generalize hN : (((tw ++ _ : List Tw).length : Nat) : Int) = N
  have HR := Lib.hid (HS10.out.fin HO1.out hs hk hN.symm)
  clear hs hk hN HS10
  go_wp2_with fail
  go_ret
  exact HR.out

set_option maxRecDepth 100000 in
set_option maxHeartbeats 2000000 in
theorem statement_set (n : Nat) (HTERM : Hid (Ct 130 n .term)) (HVAR : Hid (Ct 133 n .var)) (C : Cx) (w : World) (k m : Nat) (v : Value) (tw : List Tw) (h : PS w C k m v tw) (h2 : seesW (C.T.drop k) [[118, 97, 114]] = false) (h3 : seesW (C.T.drop k) actWords = false) (h4 : seesW (C.T.drop k) [[112, 111, 115, 116]] = false) (h5 : seesW (C.T.drop k) [[115, 112, 97, 119, 110]] = false) (h6 : seesW (C.T.drop k) [[101, 110, 97, 98, 108, 101], [100, 105, 115, 97, 98, 108, 101]] = false) (h7 : seesW (C.T.drop k) [[105, 102]] = false) (h8 : seesW (C.T.drop k) [[119, 104, 105, 108, 101]] = false) (h9 : seesW (C.T.drop k) [[114, 101, 116, 117, 114, 110]] = false) (hnd : P (n + 1) .stmt (C.T.drop k) m ≠ .dry) :
    Calls Tryz.prog 112 #[C.ptr] w (Ret C w k m v tw (P (n + 1) .stmt (C.T.drop k) m)) := by
  have HS0 := Lib.hid (St.start h)
  clear h
  generalize ho : P (n + 1) .stmt (C.T.drop k) m = o at hnd ⊢
  have HND := Lib.hid hnd
  clear hnd
  have H2 := Lib.hid h2
  clear h2
  have H3 := Lib.hid h3
  clear h3
  have H4 := Lib.hid h4
  clear h4
  have H5 := Lib.hid h5
  clear h5
  have H6 := Lib.hid h6
  clear h6
  have H7 := Lib.hid h7
  clear h7
  have H8 := Lib.hid h8
  clear h8
  have H9 := Lib.hid h9
  clear h9
  have HO0 := Lib.hid ho
  clear ho
  go_enter Tryz.func112, Tryz.ntmps112
  go_wp2_with fail
  refine (seesWord_is C _ _ _ _ _ [[118, 97, 114]] _ _ _ false HS0.out.ps (by simp) rfl rfl (by decide) H2.out).mono ?_
  rintro e w1 ⟨rfl, hb⟩
  have HS1 := Lib.hid (HS0.out.below hb)
  clear hb HS0
  go_wp2_with fail
  refine (seesWord_is C _ _ _ _ _ actWords _ _ _ false HS1.out.ps (by simp) rfl rfl (by decide) H3.out).mono ?_
  rintro e w2 ⟨rfl, hb⟩
  have HS2 := Lib.hid (HS1.out.below hb)
  clear hb HS1
  go_wp2_with fail
  refine (seesWord_is C _ _ _ _ _ [[112, 111, 115, 116]] _ _ _ false HS2.out.ps (by simp) rfl rfl (by decide) H4.out).mono ?_
  rintro e w3 ⟨rfl, hb⟩
  have HS3 := Lib.hid (HS2.out.below hb)
  clear hb HS2
  go_wp2_with fail
  refine (seesWord_is C _ _ _ _ _ [[115, 112, 97, 119, 110]] _ _ _ false HS3.out.ps (by simp) rfl rfl (by decide) H5.out).mono ?_
  rintro e w4 ⟨rfl, hb⟩
  have HS4 := Lib.hid (HS3.out.below hb)
  clear hb HS3
  go_wp2_with fail
  refine (seesWord_is C _ _ _ _ _ [[101, 110, 97, 98, 108, 101], [100, 105, 115, 97, 98, 108, 101]] _ _ _ false HS4.out.ps (by simp) rfl rfl (by decide) H6.out).mono ?_
  rintro e w5 ⟨rfl, hb⟩
  have HS5 := Lib.hid (HS4.out.below hb)
  clear hb HS4
  go_wp2_with fail
  refine (seesWord_is C _ _ _ _ _ [[105, 102]] _ _ _ false HS5.out.ps (by simp) rfl rfl (by decide) H7.out).mono ?_
  rintro e w6 ⟨rfl, hb⟩
  have HS6 := Lib.hid (HS5.out.below hb)
  clear hb HS5
  go_wp2_with fail
  refine (seesWord_is C _ _ _ _ _ [[119, 104, 105, 108, 101]] _ _ _ false HS6.out.ps (by simp) rfl rfl (by decide) H8.out).mono ?_
  rintro e w7 ⟨rfl, hb⟩
  have HS7 := Lib.hid (HS6.out.below hb)
  clear hb HS6
  go_wp2_with fail
  refine (seesWord_is C _ _ _ _ _ [[114, 101, 116, 117, 114, 110]] _ _ _ false HS7.out.ps (by simp) rfl rfl (by decide) H9.out).mono ?_
  rintro e w8 ⟨rfl, hb⟩
  have HS8 := Lib.hid (HS7.out.below hb)
  clear hb HS7
  go_wp2_with fail
  refine (set_ok n HTERM HVAR C _ _ _ _ _ HS8.out.ps0 H2.out H3.out H4.out H5.out H6.out H7.out H8.out H9.out (by rw [HO0.out]; exact HND.out)).mono ?_
  rintro e w9 hr
  rw [HO0.out] at hr
  have HR := Lib.hid (HS8.out.from hr)
  clear HS8
  cases o with
  | dry => exact absurd rfl HND.out
  | bad er r => (obtain ⟨rfl, _⟩ := hr; go_wp2_with fail; exact ⟨rfl, HR.out⟩)
  | ok d f r => (obtain ⟨j, v', _, rfl, _⟩ := hr; generalize ((tw.length + f.size : Nat) : Int) = N at HR ⊢; go_wp2_with fail; go_ret; exact HR.out)

theorem statement_ok (n : Nat) (HTERM : Hid (Ct 130 n .term)) (HBLK : Hid (Ct 94 n .block)) (HVAR : Hid (Ct 133 n .var)) (HTO : Hid (CtTo n)) : Ct 112 (n + 1) .stmt := fun C w k m v tw h hnd => by
  cases h2 : seesW (C.T.drop k) [[118, 97, 114]]
  · cases h3 : seesW (C.T.drop k) actWords
    · cases h4 : seesW (C.T.drop k) [[112, 111, 115, 116]]
      · cases h5 : seesW (C.T.drop k) [[115, 112, 97, 119, 110]]
        · cases h6 : seesW (C.T.drop k) [[101, 110, 97, 98, 108, 101], [100, 105, 115, 97, 98, 108, 101]]
          · cases h7 : seesW (C.T.drop k) [[105, 102]]
            · cases h8 : seesW (C.T.drop k) [[119, 104, 105, 108, 101]]
              · cases h9 : seesW (C.T.drop k) [[114, 101, 116, 117, 114, 110]]
                · exact statement_set n HTERM HVAR C w k m v tw h h2 h3 h4 h5 h6 h7 h8 h9 hnd
                · exact statement_return n C w k m v tw h h2 h3 h4 h5 h6 h7 h8 h9 hnd
              · exact statement_while n HTERM HBLK C w k m v tw h h2 h3 h4 h5 h6 h7 h8 hnd
            · exact statement_if n HTERM HBLK C w k m v tw h h2 h3 h4 h5 h6 h7 hnd
          · exact statement_turn n C w k m v tw h h2 h3 h4 h5 h6 hnd
        · exact statement_spawn n HTERM HTO C w k m v tw h h2 h3 h4 h5 hnd
      · exact statement_post n HTERM HTO C w k m v tw h h2 h3 h4 hnd
    · exact statement_act n HTERM C w k m v tw h h2 h3 hnd
  · exact statement_var n HTERM C w k m v tw h h2 hnd
end Go.Proofs.YtehdljcmeimbcaaGreat
