/- parser.perhapsTo. -/
import Derived.Test.YthgpepkcjjimlaaParX
namespace Go.Proofs.Ythgpepkcjjimlaa
open Go.RowKit

def RetTo (C : Cx) (w : World) (k m : Nat) (v : Value) (tw : List Tw) (N : Int) (d : Nd) (acc : Fo) (o : Out) (e : Ending) (w' : World) : Prop :=
  match o with
  | .dry => False
  | .bad er r => e = .panicked [{ v := diagV (hd r) er, recovered := false }] ∧ KpB C.p v w w'
  | .ok d1 kf r => ∃ (j : Nat) (v' : Value) (H : Fo) (kv : Value), r = C.T.drop j ∧ d1 = d ∧ kf = acc.app H ∧ e = .returned kv ∧ IntRow w' C.X kv (N :: H.ids tw.length) ∧ PS w' C j m v' (tw ++ H.post tw.length) ∧ Kp C.p v w v' w' ∧ H.size + 2 * k + 2 ≤ 2 * j
theorem St.badTo {C : Cx} {w0 w : World} {k0 k m : Nat} {v0 v : Value} {tw0 : List Tw} {F : Fo} {q : Nat} {L : List (Nat × Obj)} (h : St C w0 k0 v0 tw0 w k m v F q L) {o : Out} {j : Nat} {er N : Int} {d : Nd} {acc : Fo} {w' : World} {m0 : Nat} (ho : Out.bad er (C.T.drop j) = o) (hb : KpB C.p v w w') : RetTo C w0 k0 m0 v0 tw0 N d acc o (.panicked [{ v := diagV (hd (C.T.drop j)) er, recovered := false }]) w' := by
  subst ho; exact ⟨rfl, h.lowB hb⟩
theorem infoInt : (Try.prog.info? 3).map (fun i => (i.zero, i.size, i.bytes)) = some (some (.int .i64 0), 1, 8) := by kernel_rfl

set_option maxRecDepth 100000 in
set_option maxHeartbeats 2000000 in
theorem perhapsTo_not (n : Nat) (C : Cx) (w : World) (k m : Nat) (v : Value) (tw : List Tw) (N : Int) (d : Nd) (acc : Fo) (h : PS w C k m v tw) (h1 : seesW (C.T.drop k) [[116, 111]] = false) :
    Calls Try.prog 80 #[C.ptr, .int .i64 N] w (RetTo C w k m v tw N d acc (P (n + 1) (.to d acc) (C.T.drop k) m)) := by
  have hX := h.xlt
  have HX := Lib.hid hX
  have HS0 := Lib.hid ((St.start h).var w.heap.size rfl (.cells #[.int .i64 N] 3))
  clear h hX
  generalize ho : P (n + 1) (.to d acc) (C.T.drop k) m = o
  rw [P] at ho
  simp only [h1, Bool.false_eq_true, if_false] at ho
  have HO0 := Lib.hid ho
  have H1 := Lib.hid h1
  clear ho h1
  go_enter Try.func80, Try.ntmps80
  go_wp2_with fail
  refine (seesWord_is C _ _ _ _ _ [[116, 111]] _ _ _ false HS0.out.ps (by simp) rfl rfl (by decide) H1.out).mono ?_
  rintro e w1 ⟨rfl, hb⟩
  have HS1 := Lib.hid (HS0.out.below hb)
  clear hb HS0
  go_wp2_with fail
  cases hx : seesM (C.T.drop k) [[59]]
  · have ho' := HO0.out
    simp only [tkM, tk, hx, Bool.false_eq_true, if_false] at ho'
    refine (takeMark_new_no C _ _ _ _ _ [[59]] _ _ _ HS1.out.ps (by simp) rfl rfl (by decide) hx).mono ?_
    rintro e w' ⟨rfl, hb⟩
    have HB := Lib.hid (HS1.out.badTo (m0 := m) (N := N) (d := d) (acc := acc) ho' hb)
    clear hb ho' hx
    go_wp2_with fail
    exact ⟨rfl, HB.out⟩
  have ho' := HO0.out
  simp only [tkM, tk, hx, if_true, tail_drop'] at ho'
  refine (takeMark_new_yes C _ _ _ _ _ [[59]] _ _ _ HS1.out.ps (by simp) rfl rfl (by decide) hx).mono ?_
  rintro e w2 ⟨rfl, hs, hk⟩
  have hS := HS1.out.took hs hk
  have hR : RetTo C w k m v tw N d acc o (.returned (.slice (some ⟨w.heap.size, 0, none⟩) 1 1)) w2 := by
    subst ho'
    refine ⟨k + 1, v, .nil, _, rfl, rfl, (Fo.app_nil acc).symm, rfl, ?_, hS.ps, hS.kp, by simp [Fo.size]; omega⟩
    exact ⟨_, _, rfl, fun _ => ⟨_, _, _, rfl, (hS.loc _ (.head _)).is, fun hm => absurd (HX.out _ hm) (Nat.lt_irrefl _), fun i x hi => by cases i with | zero => (simp at hi; subst hi; rfl) | succ i => (simp [Fo.ids] at hi)⟩⟩
  have HR := Lib.hid hR
  clear hs hk hS hR ho' hx HS1
  go_wp2_with fail
  go_ret
  exact HR.out

set_option maxRecDepth 100000 in
set_option maxHeartbeats 2000000 in
theorem perhapsTo_is (n : Nat) (HVAR : Hid (Ct 81 n .var)) (C : Cx) (w : World) (k m : Nat) (v : Value) (tw : List Tw) (N : Int) (d : Nd) (acc : Fo) (h : PS w C k m v tw) (h1 : seesW (C.T.drop k) [[116, 111]] = true) (hnd : P (n + 1) (.to d acc) (C.T.drop k) m ≠ .dry) :
    Calls Try.prog 80 #[C.ptr, .int .i64 N] w (RetTo C w k m v tw N d acc (P (n + 1) (.to d acc) (C.T.drop k) m)) := by
  obtain ⟨i0, hi0, hz0, hz1, hz2⟩ := info_parts infoInt
  have hX := h.xlt
  have HX := Lib.hid hX
  have hpw := h.lt
  have HS0 := Lib.hid ((St.start h).exNew (.cells #[.int .i64 N] 3) 1 1)
  have hown0 : (w.alloc (.cells #[.int .i64 N] 3)).ownsRow w.heap.size 3 1 (.slice (some ⟨w.heap.size, 0, none⟩) 1 1) 1 [.int .i64 N] := ⟨rfl, .inr ⟨_, 1, #[.int .i64 N], rfl, Nat.le_refl _, heap_alloc_new w _, Nat.le_refl _, by decide, rfl, rfl⟩⟩
  have HW0 := Lib.hid hown0
  clear h hX hown0
  generalize ho : P (n + 1) (.to d acc) (C.T.drop k) m = o at hnd ⊢
  have HND := Lib.hid hnd
  rw [P] at ho
  simp only [h1, if_true, tail_drop'] at ho
  have HO0 := Lib.hid ho
  have H1 := Lib.hid h1
  have hlt : k < C.T.length := sees_lt (x := 2) (by decide) (seesK_kind h1)
  clear ho h1 hnd
  go_enter Try.func80, Try.ntmps80
  go_wp2_with fail
  generalize hWG : w.alloc (.cells #[.int .i64 N] 3) = W0 at HS0 HW0 ⊢
  have hsz : W0.heap.size = w.heap.size + 1 := by rw [← hWG]; simp
  have HSZ := Lib.hid hsz
  clear hWG hsz
  refine (seesWord_is (C.ex _) W0 _ _ _ _ [[116, 111]] _ _ _ true HS0.out.ps HSZ.out.symm rfl rfl (by decide) H1.out).mono ?_
  rintro e w1 ⟨rfl, hb⟩
  have HW1 := Lib.hid (ownI_keep HW0.out HS0.out.ps hpw (.of hb))
  have HS1 := Lib.hid (HS0.out.below hb)
  clear hb HS0 HW0 HSZ
  go_wp2_with fail
  refine (take_ok (C.ex _) _ _ _ _ _ HS1.out.ps hlt).mono ?_
  rintro e w2 ⟨rfl, hs, hk⟩
  have HW2 := Lib.hid (ownI_keep HW1.out HS1.out.ps hpw hk)
  have HS2 := Lib.hid (HS1.out.took hs hk)
  clear hs hk HS1 HW1
  unfold tokV
  go_wp2_with fail
  have hnd : P n .var (C.T.drop (k + 1)) m ≠ .dry := fun hdry => by have h1 := HO0.out; rw [hdry] at h1; exact HND.out h1.symm
  refine (HVAR.out (C.ex _) _ _ _ _ _ HS2.out.ps hnd).mono ?_
  rintro e w3 hr0
  have hr : Ret (C.ex (.slice (some ⟨w.heap.size, 0, none⟩) 1 1)) w2 (k + 1) m v (tw ++ Fo.nil.post tw.length) (P n .var (C.T.drop (k + 1)) m) e w3 := hr0
  clear hr0
  rcases hP : P n .var (C.T.drop (k + 1)) m with _ | ⟨er, r⟩ | ⟨d1, f1, r⟩
  · exact absurd hP hnd
  · rw [hP] at hr
    have ho' := HO0.out
    rw [hP] at ho'
    have hR : RetTo C w k m v tw N d acc o e w3 := by subst ho'; exact ⟨hr.1, HS2.out.lowB hr.2⟩
    have HR := Lib.hid hR
    obtain ⟨rfl, _⟩ := hr
    clear hnd hP ho' hR
    go_wp2_with fail
    exact ⟨rfl, HR.out⟩
  rw [hP] at hr
  obtain ⟨_, _, _, _, _, hk3, _⟩ := id hr
  have HW3 := Lib.hid (ownI_keep HW2.out HS2.out.ps hpw hk3)
  obtain ⟨j1, v1, rfl, rfl, hs⟩ := HS2.out.sub hr
  have ho' := HO0.out
  rw [hP] at ho'
  dsimp only [Out.and, Cx.ex] at ho'
  have HO1 := Lib.hid ho'
  have HS3 := Lib.hid hs
  generalize hN : ((tw.length + _ + f1.size : Nat) : Int) = N1
  have HN1 := Lib.hid hN
  clear hs hr hN hnd hP ho' HS2 HW2 hk3
  have hz3 : w.heap.size ≤ w3.heap.size := HS3.out.kp.size
  go_wp2_with (at_builtin; refine wpList_append_lies _ rfl _ _ 44 rfl w.heap.size 3 i0 (.int .i64 0) 1 8 Try.underlying44 hi0 hz0 hz1 hz2 rfl (by decide) (.slice (some ⟨w.heap.size, 0, none⟩) 1 1) 1 [.int .i64 N] rfl (HW3.out.alloc _) ⟨w3.heap.size, 0, none⟩ 1 1 [.int .i64 N1] rfl rfl (World.news_of_block (cs := #[.int .i64 N1]) (t := 3) (fr := (0, 0)) (heap_alloc_new w3 _)) (by simp [Value.oneCell']) (by decide) (by unfold maxLen; omega) (by omega) (by simp; omega) (w3.heap.size + 1) (by simp) ?_; intro gg cap w4 hown hgrow hat hltg)
  have HS4 := Lib.hid ((HS3.out.al _).growI (x' := .slice (some ⟨gg, 0, none⟩) (1 + 1) cap) (HW3.out.alloc _) (Nat.le_refl _) hpw hgrow (fun g hg => by simp [Value.ownBlock] at hg; subst hg; exact hat.imp id fun e => by simp; omega) (fun g hg => by simp [Value.ownBlock] at hg; subst hg; exact hltg) (by simp)).exDrop
  have HW4 := Lib.hid hown
  clear hown hgrow hat HS3 HW3 hltg
  go_wp2_with fail
  cases hx : seesM (C.T.drop j1) [[59]]
  · have ho' := HO1.out
    simp only [tkM, tk, hx, Bool.false_eq_true, if_false] at ho'
    refine (takeMark_new_no C _ _ _ _ _ [[59]] _ _ _ HS4.out.ps (by simp) rfl rfl (by decide) hx).mono ?_
    rintro e w' ⟨rfl, hb⟩
    have HB := Lib.hid (HS4.out.badTo (m0 := m) (N := N) (d := d) (acc := acc) ho' hb)
    clear hb ho' hx
    go_wp2_with fail
    exact ⟨rfl, HB.out⟩
  have ho' := HO1.out
  simp only [tkM, tk, hx, if_true, tail_drop'] at ho'
  refine (takeMark_new_yes C _ _ _ _ _ [[59]] _ _ _ HS4.out.ps (by simp) rfl rfl (by decide) hx).mono ?_
  rintro e w5 ⟨rfl, hs, hk⟩
  have hS := HS4.out.took hs hk
  have hW := ownI_keep HW4.out HS4.out.ps hpw hk
  have hR : RetTo C w k m v tw N d acc o (.returned (.slice (some ⟨gg, 0, none⟩) 2 cap)) w5 := by
    subst ho'
    refine ⟨j1 + 1, v1, one d1 f1, _, rfl, rfl, rfl, rfl, ?_, hS.ps, hS.kp, by have h1 := hS.sz; simp only [Fo.app] at h1; omega⟩
    have h1 : (N :: (one d1 f1).ids tw.length) = [N, N1] := by rw [← HN1.out]; rfl
    rw [h1]
    exact own_introw (ids := [N, N1]) hW HX.out
  have HR := Lib.hid hR
  clear hs hk hS hW hR ho' hx HS4 HW4
  unfold tokV
  go_wp2_with fail
  go_ret
  exact HR.out
end Go.Proofs.Ythgpepkcjjimlaa
