/- parser.operation, chain; parser.sum, product, term, unary, variable. -/
import Derived.Test.YtehdljcmeimbcaaGreatB06
namespace Go.Proofs.YtehdljcmeimbcaaGreat
open Go.RowKit

/-- A tree stands, and a sign with another tree behind it is joined to it. -/
def RetOp (C : Cx) (w0 : World) (k0 : Nat) (v0 : Value) (tw0 : List Tw) (w : World) (k m : Nat) (v : Value) (q : Nat) (L : List (Nat × Obj)) (d : Nd) (f : Fo) (o : Out) (e : Ending) (w' : World) : Prop :=
  match o with
  | .dry => False
  | .bad er r => e = .panicked [{ v := diagV (hd r) er, recovered := false }] ∧ KpB C.p v w w'
  | .ok d' f' r => ∃ (j : Nat) (v' : Value), r = C.T.drop j ∧ e = .returned (.int .i64 ((tw0.length + ((one d f).app (one d' f')).size : Nat) : Int)) ∧ St C w0 k0 v0 tw0 w' j m v' (one (at_ (hd (C.T.drop k)) 32 (hd (C.T.drop k)).text 0) ((one d f).app (one d' f'))) (q + 1) L

theorem St.addOp {C : Cx} {w0 w : World} {k0 k m : Nat} {v0 v : Value} {tw0 : List Tw} {F : Fo} {q : Nat} {L : List (Nat × Obj)} (h : St C w0 k0 v0 tw0 w k m v F (q + 1) L) {w' : World} {v' : Value} (d : Nd) (hs : PS w' C k m v' (tw0 ++ F.post tw0.length ++ [d.tw (F.ids tw0.length)])) (hk : Kp C.p v w v' w') : St C w0 k0 v0 tw0 w' k m v' (one d F) q L :=
  ⟨by rw [one_post, ← List.append_assoc]; exact hs, h.kp.trans hk, by have := h.sz; rw [one_size]; omega, h.few0, fun x hx => (h.loc x hx).keep hk⟩
theorem St.forget {C : Cx} {w0 w : World} {k0 k m : Nat} {v0 v : Value} {tw0 : List Tw} {F : Fo} {q : Nat} {L : List (Nat × Obj)} {x : Nat × Obj} (h : St C w0 k0 v0 tw0 w k m v F q (x :: L)) : St C w0 k0 v0 tw0 w k m v F q L :=
  ⟨h.ps, h.kp, h.sz, h.few0, fun y hy => h.loc y (List.mem_cons_of_mem _ hy)⟩
theorem St.less {C : Cx} {w0 w : World} {k0 k m : Nat} {v0 v : Value} {tw0 : List Tw} {F : Fo} {q : Nat} {L : List (Nat × Obj)} (h : St C w0 k0 v0 tw0 w k m v F q L) {q' : Nat} (hq : q' ≤ q) : St C w0 k0 v0 tw0 w k m v F q' L :=
  ⟨h.ps, h.kp, by have := h.sz; omega, h.few0, h.loc⟩

set_option maxRecDepth 100000 in
set_option maxHeartbeats 2000000 in
theorem operation_ok (part n : Nat) (g : Gr) (hcf : ∀ (a : Array Value) (w : World), (callFunc part a).run Tryz.prog w = .ok (.enter part a) w) (HP : Hid (Ct part n g)) (C : Cx) (w0 w : World) (k0 k m : Nat) (v0 v : Value) (tw0 : List Tw) (q : Nat) (L : List (Nat × Obj)) (d : Nd) (f : Fo) (S : St C w0 k0 v0 tw0 w k m v (one d f) q L) (hlt : k < C.T.length) (hnd : P n g (C.T.drop (k + 1)) m ≠ .dry) (N : Int) (hN : ((tw0.length + f.size : Nat) : Int) = N) :
    Calls Tryz.prog 138 #[C.ptr, .int .i64 N, .func (.func part) #[C.ptr] #[]] w (RetOp C w0 k0 v0 tw0 w k m v q L d f (P n g (C.T.drop (k + 1)) m)) := by
  have HS0 := Lib.hid S
  have HN := Lib.hid hN
  have HD := Lib.hid hnd
  clear S hN hnd
  go_enter Tryz.func138, Tryz.ntmps138
  go_wp2_with fail
  refine (take_ok C _ _ _ _ _ HS0.out.ps hlt).mono ?_
  rintro e w1 ⟨rfl, hs, hk⟩
  have HK1 := Lib.hid hk
  have HS1 := Lib.hid (HS0.out.took hs hk)
  clear hs hk HS0
  unfold tokV
  go_wp2_with fail
  have HS2 := Lib.hid (HS1.out.var w1.heap.size rfl (.cells #[.int .i64 (hd (C.T.drop k)).kind, .string ⟨(hd (C.T.drop k)).text.toArray⟩, .int .i64 (hd (C.T.drop k)).n, .int .i64 (hd (C.T.drop k)).line, .int .i64 (hd (C.T.drop k)).col] 61))
  have HK2 := Lib.hid (HK1.out.trans (Kp.alloc w1 (.cells #[.int .i64 (hd (C.T.drop k)).kind, .string ⟨(hd (C.T.drop k)).text.toArray⟩, .int .i64 (hd (C.T.drop k)).n, .int .i64 (hd (C.T.drop k)).line, .int .i64 (hd (C.T.drop k)).col] 61)))
  refine (HP.out C _ _ _ _ _ HS2.out.ps HD.out).mono ?_
  rintro e w2 hr
  rcases hP : P n g (C.T.drop (k + 1)) m with _ | ⟨er, r⟩ | ⟨d', f', r⟩
  · exact absurd hP HD.out
  · rw [hP] at hr
    have hR : RetOp C w0 k0 v0 tw0 w k m v q L d f (.bad er r) e w2 := ⟨hr.1, HK2.out.transB hr.2⟩
    have HR := Lib.hid hR
    obtain ⟨rfl, _⟩ := hr
    clear hP hR
    go_wp2_with fail
    exact ⟨rfl, HR.out⟩
  rw [hP] at hr
  obtain ⟨j, v', rfl, rfl, hs⟩ := HS2.out.sub hr
  have HS3 := Lib.hid hs
  generalize hN1 : ((tw0.length + (one d f).size + f'.size : Nat) : Int) = N1
  have HN1 := Lib.hid hN1
  obtain ⟨a0, a1, a2, a3, a4, a5⟩ := tok5 (hs.loc _ (.head _)).is
  have HPP := Lib.hid hP
  clear hs hr hN1 HS1 HS2 hP
  go_wp2_with fail
  refine (add_ok C _ _ _ _ _ (hd (C.T.drop k)) 32 (hd (C.T.drop k)).text 0 _ _ (HS3.out.al _).ps (ints_new _ (fun b hb => HS3.out.ps.xlt b hb) [N, N1] #[.int .i64 N, .int .i64 N1] rfl _ _ (by simp) rfl) HS3.out.room).mono ?_
  rintro e w3 ⟨rfl, v'', hs, hk⟩
  have hids : [N, N1] = ((one d f).app (one d' f')).ids tw0.length := by rw [ids_snoc, one_ids, ← HN1.out, ← HN.out]; rfl
  rw [hids] at hs
  have hR := (((HS3.out.al _).addOp (at_ (hd (C.T.drop k)) 32 (hd (C.T.drop k)).text 0) hs hk).forget)
  have HR := Lib.hid hR
  generalize hNN : (((tw0 ++ _ : List Tw).length : Nat) : Int) = NN
  have HNN := Lib.hid hNN
  clear hs hk hids hR hNN
  go_wp2_with fail
  go_ret
  change RetOp C w0 k0 v0 tw0 w k m v q L d f (P n g (C.T.drop (k + 1)) m) (.returned (.int .i64 NN)) w3
  rw [HPP.out]
  exact ⟨j, v'', rfl, by rw [← HNN.out, len_post], HR.out⟩
set_option maxRecDepth 100000 in
theorem cf_sum (a : Array Value) (w : World) : (callFunc 137 a).run Tryz.prog w = .ok (.enter 137 a) w := by rfl
set_option maxRecDepth 100000 in
theorem cf_product (a : Array Value) (w : World) : (callFunc 143 a).run Tryz.prog w = .ok (.enter 143 a) w := by rfl
set_option maxRecDepth 100000 in
theorem cf_unary (a : Array Value) (w : World) : (callFunc 145 a).run Tryz.prog w = .ok (.enter 145 a) w := by rfl

set_option maxRecDepth 100000 in
set_option maxHeartbeats 2000000 in
theorem chain_sum (n : Nat) (HP : Hid (∀ i, i ≤ n → Ct 143 i .product)) (C : Cx) (w : World) (k m : Nat) (v : Value) (tw : List Tw) (g : Nat) (h : PS w C k m v tw) (hl : Loc C v w g (.cells #[.string ⟨#[43]⟩, .string ⟨#[45]⟩] 9)) (hnd : ((P n .product (C.T.drop k) m).and fun d f r' => P n (.sumL d f) r' m) ≠ .dry) :
    Calls Tryz.prog 142 #[C.ptr, .func (.func 143) #[C.ptr] #[], .slice (some ⟨g, 0, none⟩) 2 2] w (Ret C w k m v tw ((P n .product (C.T.drop k) m).and fun d f r' => P n (.sumL d f) r' m)) := by
  have hcf := cf_product
  have hst : St C w k v tw w k m v .nil 0 [(g, .cells #[.string ⟨#[43]⟩, .string ⟨#[45]⟩] 9)] :=
    have hs := St.start h
    ⟨hs.ps, hs.kp, hs.sz, hs.few0, fun x hx => by simp at hx; subst hx; exact hl⟩
  have HS0 := Lib.hid hst
  generalize ho : ((P n .product (C.T.drop k) m).and fun d f r' => P n (.sumL d f) r' m) = o at hnd ⊢
  have HND := Lib.hid hnd
  have HO := Lib.hid ho
  clear hst h hl hnd ho
  go_enter Tryz.func142, Tryz.ntmps142
  go_wp2_with fail
  have hnd : P n .product (C.T.drop k) m ≠ .dry := fun hdry => by have h1 := HO.out; rw [hdry] at h1; exact HND.out h1.symm
  refine (HP.out n (Nat.le_refl _) C _ _ _ _ _ HS0.out.ps hnd).mono ?_
  rintro e w1 hr
  rcases hP : P n .product (C.T.drop k) m with _ | ⟨er, r⟩ | ⟨d1, f1, r⟩
  · exact absurd hP hnd
  · rw [hP] at hr
    have ho' := HO.out
    rw [hP] at ho'
    have HB := Lib.hid (HS0.out.bad' (m0 := m) ho' hr)
    obtain ⟨rfl, _⟩ := hr
    clear hnd hP ho'
    go_wp2_with fail
    exact ⟨rfl, HB.out⟩
  rw [hP] at hr
  obtain ⟨j1, v1, rfl, rfl, hs⟩ := HS0.out.sub hr
  have ho' := HO.out
  rw [hP] at ho'
  dsimp only [Out.and] at ho'
  have HO1 := Lib.hid ho'
  have HS1 := Lib.hid hs
  generalize hN : ((tw.length + _ + f1.size : Nat) : Int) = N1
  have HN1 := Lib.hid hN
  clear hs hr hN hnd hP ho' HS0 HO
  go_wp2_with fail
  go_loopg [7] n (fun i v7 wr => ∃ (j : Nat) (vv : Value) (d : Nd) (f : Fo) (q : Nat), i ≤ n ∧ v7 = .int .i64 ((tw.length + f.size : Nat) : Int) ∧ St C w k v tw wr j m vv (one d f) q [(g, .cells #[.string ⟨#[43]⟩, .string ⟨#[45]⟩] 9)] ∧ P i (.sumL d f) (C.T.drop j) m = o)
  case atStart => exact ⟨j1, v1, d1, f1, 0, Nat.le_refl _, by rw [← HN1.out]; rfl, HS1.out, HO1.out⟩
  case round =>
    obtain ⟨j, vv, d, f, q, hin, rfl, hS, hPo⟩ := hrel
    have HS2 := Lib.hid hS
    generalize hN2 : ((tw.length + f.size : Nat) : Int) = N2
    have HN2 := Lib.hid hN2
    have HPO := Lib.hid hPo
    have hgl : g < wr.heap.size := lt_of_block (hS.loc _ (.head _)).is
    have hstr : Strs wr g [[43], [45]] := fun i s hi => by have h1 := (HS2.out.loc _ (.head _)).is; simp only [World.cell?, h1]; match i, hi with | 0, hi => (cases hi; rfl) | 1, hi => (cases hi; rfl)
    have HSTR := Lib.hid hstr
    clear hS hN2 hPo hstr HN1 HS1 HO1
    cases gk with
    | zero => exact absurd HPO.out.symm HND.out
    | succ i =>
    cases hx : seesM (C.T.drop j) [[43], [45]]
    · have hp := HPO.out
      rw [P] at hp
      simp only [hx, Bool.false_eq_true, if_false] at hp
      have hsee := seesMark_ok C wr j m vv _ [[43], [45]] g 2 HS2.out.ps HSTR.out hgl (by decide)
      rw [hx] at hsee
      have HSEE := Lib.hid hsee
      have HP1 := Lib.hid hp
      clear hsee hp hx
      go_wp2_with fail
      refine HSEE.out.mono ?_
      rintro e w3 ⟨rfl, hb⟩
      have HR := Lib.hid ((HS2.out.below hb).same HP1.out (x := N2) HN2.out.symm)
      clear hb HSEE
      go_wp2_with fail
      go_ret
      exact HR.out
    · have hp := HPO.out
      rw [P] at hp
      simp only [hx, if_true, tail_drop'] at hp
      have hsee := seesMark_ok C wr j m vv _ [[43], [45]] g 2 HS2.out.ps HSTR.out hgl (by decide)
      rw [hx] at hsee
      have hlt : j < C.T.length := sees_lt (x := 4) (by decide) (seesK_kind hx)
      have HSEE := Lib.hid hsee
      have HP1 := Lib.hid hp
      clear hsee hp hx
      go_wp2_with fail
      refine HSEE.out.mono ?_
      rintro e w3 ⟨rfl, hb⟩
      have HS3 := Lib.hid (HS2.out.below hb)
      clear hb HSEE HS2
      go_wp2_with fail
      have hnd : P i .product (C.T.drop (j + 1)) m ≠ .dry := fun hdry => by have h1 := HP1.out; rw [hdry] at h1; exact HND.out h1.symm
      refine (operation_ok 143 i .product cf_product (Lib.hid (HP.out i (by omega))) C w _ k _ m v _ tw q _ d f HS3.out hlt hnd N2 HN2.out).mono ?_
      rintro e w4 hr
      rcases hP : P i .product (C.T.drop (j + 1)) m with _ | ⟨er, r⟩ | ⟨d', f', r⟩
      · exact absurd hP hnd
      · rw [hP] at hr
        have ho' := HP1.out
        rw [hP] at ho'
        have hR : Ret C w k m v tw o e w4 := by subst ho'; exact ⟨hr.1, HS3.out.lowB hr.2⟩
        have HB := Lib.hid hR
        obtain ⟨rfl, _⟩ := hr
        clear hnd hP ho' hR
        go_wp2_with fail
        exact ⟨rfl, HB.out⟩
      rw [hP] at hr
      obtain ⟨j3, v3, rfl, rfl, hs⟩ := hr
      have ho' := HP1.out
      rw [hP] at ho'
      dsimp only [Out.and] at ho'
      have HO3 := Lib.hid ho'
      have HS4 := Lib.hid hs
      generalize hN3 : ((tw.length + ((one d f).app (one d' f')).size : Nat) : Int) = N3
      have HN3 := Lib.hid hN3
      clear hs hN3 hnd hP ho' HS3
      go_wp2_with fail
      go_roundg i
      case measure => omega
      case rel => exact ⟨j3, v3, _, _, _, by omega, by rw [HN3.out], HS4.out, HO3.out⟩

set_option maxRecDepth 100000 in
set_option maxHeartbeats 2000000 in
theorem chain_product (n : Nat) (HP : Hid (∀ i, i ≤ n → Ct 145 i .unary)) (C : Cx) (w : World) (k m : Nat) (v : Value) (tw : List Tw) (g : Nat) (h : PS w C k m v tw) (hl : Loc C v w g (.cells #[.string ⟨#[42]⟩] 9)) (hnd : ((P n .unary (C.T.drop k) m).and fun d f r' => P n (.prodL d f) r' m) ≠ .dry) :
    Calls Tryz.prog 142 #[C.ptr, .func (.func 145) #[C.ptr] #[], .slice (some ⟨g, 0, none⟩) 1 1] w (Ret C w k m v tw ((P n .unary (C.T.drop k) m).and fun d f r' => P n (.prodL d f) r' m)) := by
  have hcf := cf_unary
  have hst : St C w k v tw w k m v .nil 0 [(g, .cells #[.string ⟨#[42]⟩] 9)] :=
    have hs := St.start h
    ⟨hs.ps, hs.kp, hs.sz, hs.few0, fun x hx => by simp at hx; subst hx; exact hl⟩
  have HS0 := Lib.hid hst
  generalize ho : ((P n .unary (C.T.drop k) m).and fun d f r' => P n (.prodL d f) r' m) = o at hnd ⊢
  have HND := Lib.hid hnd
  have HO := Lib.hid ho
  clear hst h hl hnd ho
  go_enter Tryz.func142, Tryz.ntmps142
  go_wp2_with fail
  have hnd : P n .unary (C.T.drop k) m ≠ .dry := fun hdry => by have h1 := HO.out; rw [hdry] at h1; exact HND.out h1.symm
  refine (HP.out n (Nat.le_refl _) C _ _ _ _ _ HS0.out.ps hnd).mono ?_
  rintro e w1 hr
  rcases hP : P n .unary (C.T.drop k) m with _ | ⟨er, r⟩ | ⟨d1, f1, r⟩
  · exact absurd hP hnd
  · rw [hP] at hr
    have ho' := HO.out
    rw [hP] at ho'
    have HB := Lib.hid (HS0.out.bad' (m0 := m) ho' hr)
    obtain ⟨rfl, _⟩ := hr
    clear hnd hP ho'
    go_wp2_with fail
    exact ⟨rfl, HB.out⟩
  rw [hP] at hr
  obtain ⟨j1, v1, rfl, rfl, hs⟩ := HS0.out.sub hr
  have ho' := HO.out
  rw [hP] at ho'
  dsimp only [Out.and] at ho'
  have HO1 := Lib.hid ho'
  have HS1 := Lib.hid hs
  generalize hN : ((tw.length + _ + f1.size : Nat) : Int) = N1
  have HN1 := Lib.hid hN
  clear hs hr hN hnd hP ho' HS0 HO
  go_wp2_with fail
  go_loopg [7] n (fun i v7 wr => ∃ (j : Nat) (vv : Value) (d : Nd) (f : Fo) (q : Nat), i ≤ n ∧ v7 = .int .i64 ((tw.length + f.size : Nat) : Int) ∧ St C w k v tw wr j m vv (one d f) q [(g, .cells #[.string ⟨#[42]⟩] 9)] ∧ P i (.prodL d f) (C.T.drop j) m = o)
  case atStart => exact ⟨j1, v1, d1, f1, 0, Nat.le_refl _, by rw [← HN1.out]; rfl, HS1.out, HO1.out⟩
  case round =>
    obtain ⟨j, vv, d, f, q, hin, rfl, hS, hPo⟩ := hrel
    have HS2 := Lib.hid hS
    generalize hN2 : ((tw.length + f.size : Nat) : Int) = N2
    have HN2 := Lib.hid hN2
    have HPO := Lib.hid hPo
    have hgl : g < wr.heap.size := lt_of_block (hS.loc _ (.head _)).is
    have hstr : Strs wr g [[42]] := fun i s hi => by have h1 := (HS2.out.loc _ (.head _)).is; simp only [World.cell?, h1]; match i, hi with | 0, hi => (cases hi; rfl)
    have HSTR := Lib.hid hstr
    clear hS hN2 hPo hstr HN1 HS1 HO1
    cases gk with
    | zero => exact absurd HPO.out.symm HND.out
    | succ i =>
    cases hx : seesM (C.T.drop j) [[42]]
    · have hp := HPO.out
      rw [P] at hp
      simp only [hx, Bool.false_eq_true, if_false] at hp
      have hsee := seesMark_ok C wr j m vv _ [[42]] g 1 HS2.out.ps HSTR.out hgl (by decide)
      rw [hx] at hsee
      have HSEE := Lib.hid hsee
      have HP1 := Lib.hid hp
      clear hsee hp hx
      go_wp2_with fail
      refine HSEE.out.mono ?_
      rintro e w3 ⟨rfl, hb⟩
      have HR := Lib.hid ((HS2.out.below hb).same HP1.out (x := N2) HN2.out.symm)
      clear hb HSEE
      go_wp2_with fail
      go_ret
      exact HR.out
    · have hp := HPO.out
      rw [P] at hp
      simp only [hx, if_true, tail_drop'] at hp
      have hsee := seesMark_ok C wr j m vv _ [[42]] g 1 HS2.out.ps HSTR.out hgl (by decide)
      rw [hx] at hsee
      have hlt : j < C.T.length := sees_lt (x := 4) (by decide) (seesK_kind hx)
      have HSEE := Lib.hid hsee
      have HP1 := Lib.hid hp
      clear hsee hp hx
      go_wp2_with fail
      refine HSEE.out.mono ?_
      rintro e w3 ⟨rfl, hb⟩
      have HS3 := Lib.hid (HS2.out.below hb)
      clear hb HSEE HS2
      go_wp2_with fail
      have hnd : P i .unary (C.T.drop (j + 1)) m ≠ .dry := fun hdry => by have h1 := HP1.out; rw [hdry] at h1; exact HND.out h1.symm
      refine (operation_ok 145 i .unary cf_unary (Lib.hid (HP.out i (by omega))) C w _ k _ m v _ tw q _ d f HS3.out hlt hnd N2 HN2.out).mono ?_
      rintro e w4 hr
      rcases hP : P i .unary (C.T.drop (j + 1)) m with _ | ⟨er, r⟩ | ⟨d', f', r⟩
      · exact absurd hP hnd
      · rw [hP] at hr
        have ho' := HP1.out
        rw [hP] at ho'
        have hR : Ret C w k m v tw o e w4 := by subst ho'; exact ⟨hr.1, HS3.out.lowB hr.2⟩
        have HB := Lib.hid hR
        obtain ⟨rfl, _⟩ := hr
        clear hnd hP ho' hR
        go_wp2_with fail
        exact ⟨rfl, HB.out⟩
      rw [hP] at hr
      obtain ⟨j3, v3, rfl, rfl, hs⟩ := hr
      have ho' := HP1.out
      rw [hP] at ho'
      dsimp only [Out.and] at ho'
      have HO3 := Lib.hid ho'
      have HS4 := Lib.hid hs
      generalize hN3 : ((tw.length + ((one d f).app (one d' f')).size : Nat) : Int) = N3
      have HN3 := Lib.hid hN3
      clear hs hN3 hnd hP ho' HS3
      go_wp2_with fail
      go_roundg i
      case measure => omega
      case rel => exact ⟨j3, v3, _, _, _, by omega, by rw [HN3.out], HS4.out, HO3.out⟩
end Go.Proofs.YtehdljcmeimbcaaGreat

namespace Go.Proofs.YtehdljcmeimbcaaGreat
open Go.RowKit

theorem mkfn (fn : Fn) (first cap : Array Value) (w : World) : (Instr.makeFunc fn first cap).run Tryz.prog w = .ok (.func fn first cap) w := rfl


set_option maxRecDepth 100000 in
set_option maxHeartbeats 2000000 in
theorem sum_ok (n : Nat) (HP : Hid (∀ i, i ≤ n → Ct 143 i .product)) : Ct 137 (n + 1) .sum := by
  intro C w k m v tw h hnd
  have HS0 := Lib.hid ((St.start h).var w.heap.size rfl (.cells #[.string ⟨#[43]⟩, .string ⟨#[45]⟩] 9))
  clear h
  generalize ho : P (n + 1) .sum (C.T.drop k) m = o at hnd ⊢
  have HND := Lib.hid hnd
  rw [P] at ho
  have HO := Lib.hid ho
  clear ho hnd
  have hmf := mkfn
  go_enter Tryz.func137, Tryz.ntmps137
  go_wp2_with fail
  refine (chain_sum n HP C _ _ _ _ _ w.heap.size HS0.out.ps0 (HS0.out.loc _ (.head _)) (by rw [HO.out]; exact HND.out)).mono ?_
  rintro e w1 hr
  rw [HO.out] at hr
  have HR := Lib.hid (HS0.out.from hr)
  clear HS0
  cases o with
  | dry => exact absurd rfl HND.out
  | bad er r =>
    obtain ⟨rfl, _⟩ := hr
    go_wp2_with fail
    exact ⟨rfl, HR.out⟩
  | ok d f r =>
    obtain ⟨j, v', _, rfl, _⟩ := hr
    generalize ((tw.length + f.size : Nat) : Int) = N at HR ⊢
    go_wp2_with fail
    go_ret
    exact HR.out


set_option maxRecDepth 100000 in
set_option maxHeartbeats 2000000 in
theorem product_ok (n : Nat) (HP : Hid (∀ i, i ≤ n → Ct 145 i .unary)) : Ct 143 (n + 1) .product := by
  intro C w k m v tw h hnd
  have HS0 := Lib.hid ((St.start h).var w.heap.size rfl (.cells #[.string ⟨#[42]⟩] 9))
  clear h
  generalize ho : P (n + 1) .product (C.T.drop k) m = o at hnd ⊢
  have HND := Lib.hid hnd
  rw [P] at ho
  have HO := Lib.hid ho
  clear ho hnd
  have hmf := mkfn
  go_enter Tryz.func143, Tryz.ntmps143
  go_wp2_with fail
  refine (chain_product n HP C _ _ _ _ _ w.heap.size HS0.out.ps0 (HS0.out.loc _ (.head _)) (by rw [HO.out]; exact HND.out)).mono ?_
  rintro e w1 hr
  rw [HO.out] at hr
  have HR := Lib.hid (HS0.out.from hr)
  clear HS0
  cases o with
  | dry => exact absurd rfl HND.out
  | bad er r =>
    obtain ⟨rfl, _⟩ := hr
    go_wp2_with fail
    exact ⟨rfl, HR.out⟩
  | ok d f r =>
    obtain ⟨j, v', _, rfl, _⟩ := hr
    generalize ((tw.length + f.size : Nat) : Int) = N at HR ⊢
    go_wp2_with fail
    go_ret
    exact HR.out

set_option maxRecDepth 100000 in
set_option maxHeartbeats 2000000 in
theorem term_w (n : Nat) (HSUM : Hid (Ct 137 n .sum)) (C : Cx) (w : World) (k m : Nat) (v : Value) (tw : List Tw) (h : PS w C k m v tw) (hnd : P (n + 1) .term (C.T.drop k) m ≠ .dry) :
    Calls Tryz.prog 130 #[C.ptr] w (Ret C w k m v tw (P (n + 1) .term (C.T.drop k) m)) := by
  have HS0 := Lib.hid (St.start h)
  clear h
  generalize ho : P (n + 1) .term (C.T.drop k) m = o at hnd ⊢
  have HND := Lib.hid hnd
  clear hnd
  rw [P] at ho
  have HO0 := Lib.hid ho
  clear ho
  have hmf := mkfn
  go_enter Tryz.func130, Tryz.ntmps130
  go_wp2_with fail
  have hnd : P n .sum (C.T.drop k) m ≠ .dry := fun hdry => by have h1 := HO0.out; rw [hdry] at h1; exact HND.out h1.symm
  refine (HSUM.out C _ _ _ _ _ HS0.out.ps hnd).mono ?_
  rintro e w1 hr
  rcases hP : P n .sum (C.T.drop k) m with _ | ⟨er, r⟩ | ⟨d1, f1, r⟩
  · exact absurd hP hnd
  · rw [hP] at hr
    have ho' := HO0.out
    rw [hP] at ho'
    have HB := Lib.hid (HS0.out.bad' (m0 := m) ho' hr)
    obtain ⟨rfl, _⟩ := hr
    clear hnd hP ho'
    go_wp2_with fail
    exact ⟨rfl, HB.out⟩
  rw [hP] at hr
  obtain ⟨j1, v1, rfl, rfl, hs⟩ := HS0.out.sub hr
  have ho' := HO0.out
  rw [hP] at ho'
  dsimp only [Out.and] at ho'
  have HO1 := Lib.hid ho'
  have HS1 := Lib.hid hs
  generalize hN : ((tw.length + _ + f1.size : Nat) : Int) = N1
  have HN1 := Lib.hid hN
  clear hs hr hN hnd hP ho' HS0 
  go_wp2_with fail
  cases hx : seesM (C.T.drop j1) [[60], [61, 61]]
  · have ho' := HO1.out
    simp only [hx, Bool.false_eq_true, if_false] at ho'
    have HO8 := Lib.hid ho'
    have HX := Lib.hid hx
    clear ho' hx
    refine (seesMark_is C _ _ _ _ _ [[60], [61, 61]] _ _ _ false HS1.out.ps (by simp) rfl rfl (by decide) HX.out).mono ?_
    rintro e w2 ⟨rfl, hb⟩
    have HS2 := Lib.hid (HS1.out.below hb)
    clear hb HS1
    have HR := Lib.hid (St.same (d := d1) (kf := f1) HS2.out HO8.out (x := N1) (by rw [← HN1.out]; rfl))
    go_wp2_with fail
    go_ret
    exact HR.out
  · have ho' := HO1.out
    simp only [hx, if_true, tail_drop'] at ho'
    have HO8 := Lib.hid ho'
    have HX := Lib.hid hx
    have hlt : j1 < C.T.length := sees_lt (x := 4) (by decide) (seesK_kind hx)
    clear ho' hx
    refine (seesMark_is C _ _ _ _ _ [[60], [61, 61]] _ _ _ true HS1.out.ps (by simp) rfl rfl (by decide) HX.out).mono ?_
    rintro e w2 ⟨rfl, hb⟩
    have HS2 := Lib.hid (HS1.out.below hb)
    clear hb HS1
    go_wp2_with fail
    have hnd : P n .sum (C.T.drop (j1 + 1)) m ≠ .dry := fun hdry => by have h1 := HO8.out; rw [hdry] at h1; exact HND.out h1.symm
    refine (operation_ok 137 n .sum cf_sum HSUM C w _ k _ m v _ tw 0 [] d1 f1 HS2.out hlt hnd N1 (by rw [← HN1.out]; rfl)).mono ?_
    rintro e w4 hr
    rcases hP : P n .sum (C.T.drop (j1 + 1)) m with _ | ⟨er, r⟩ | ⟨d', f', r⟩
    · exact absurd hP hnd
    · rw [hP] at hr; have ho' := HO8.out; rw [hP] at ho'; have hR : Ret C w k m v tw o e w4 := (by subst ho'; exact ⟨hr.1, HS2.out.lowB hr.2⟩); have HB := Lib.hid hR; obtain ⟨rfl, _⟩ := hr; clear hnd hP ho' hR; go_wp2_with fail; exact ⟨rfl, HB.out⟩
    rw [hP] at hr
    obtain ⟨j3, v3, rfl, rfl, hs⟩ := hr
    have ho' := HO8.out
    rw [hP] at ho'
    dsimp only [Out.and] at ho'
    have HR := Lib.hid (St.same hs ho' (x := ((tw.length + ((one d1 f1).app (one d' f')).size : Nat) : Int)) rfl)
    generalize ((tw.length + ((one d1 f1).app (one d' f')).size : Nat) : Int) = N3 at HR ⊢
    clear hs hnd hP ho' HS2
    go_wp2_with fail
    go_ret
    exact HR.out

theorem term_ok (n : Nat) (HSUM : Hid (Ct 137 n .sum)) : Ct 130 (n + 1) .term := fun C w k m v tw h hnd => term_w n HSUM C w k m v tw h hnd

set_option maxRecDepth 100000 in
set_option maxHeartbeats 2000000 in
theorem unary_yes (n : Nat) (HUN : Hid (Ct 145 n .unary)) (C : Cx) (w : World) (k m : Nat) (v : Value) (tw : List Tw) (h : PS w C k m v tw) (h1 : seesW (C.T.drop k) [[97, 114, 114], [108, 101, 110]] = true) (hnd : P (n + 1) .unary (C.T.drop k) m ≠ .dry) :
    Calls Tryz.prog 145 #[C.ptr] w (Ret C w k m v tw (P (n + 1) .unary (C.T.drop k) m)) := by
  have HS0 := Lib.hid (St.start h)
  clear h
  generalize ho : P (n + 1) .unary (C.T.drop k) m = o at hnd ⊢
  have HND := Lib.hid hnd
  clear hnd
  rw [P] at ho
  simp only [h1, if_true] at ho
  have hlt : k < C.T.length := sees_lt (x := 2) (by decide) (seesK_kind h1)
  have H1 := Lib.hid h1
  clear h1
  have HO0 := Lib.hid ho
  clear ho
  go_enter Tryz.func145, Tryz.ntmps145
  go_wp2_with fail
  refine (seesWord_is C _ _ _ _ _ [[97, 114, 114], [108, 101, 110]] _ _ _ true HS0.out.ps (by simp) rfl rfl (by decide) H1.out).mono ?_
  rintro e w1 ⟨rfl, hb⟩
  have HS1 := Lib.hid (HS0.out.below hb)
  clear hb HS0
  go_wp2_with fail
  by_cases hm : m = 64
  · have ho' := HO0.out
    rw [ent_no hm] at ho'
    subst hm
    refine (enter_bad C _ _ _ _ HS1.out.ps).mono ?_
    rintro e w' ⟨rfl, hb⟩
    have HB := Lib.hid (HS1.out.bad (m0 := 64) ho' hb)
    clear hb ho'
    go_wp2_with fail
    exact ⟨rfl, HB.out⟩
  have ho' := HO0.out
  rw [ent_yes hm, tail_drop'] at ho'
  have HO1 := Lib.hid ho'
  have hm' : m < 64 := by have := HS1.out.ps.nest; omega
  refine (enter_ok C _ _ _ _ _ HS1.out.ps hlt hm').mono ?_
  rintro e w2 ⟨rfl, hs, hk⟩
  have HS2 := Lib.hid (HS1.out.took hs hk)
  clear hs hk HS1 ho'
  unfold tokV
  go_wp2_with fail
  have hnd : P n .unary (C.T.drop (k + 1)) (m + 1) ≠ .dry := fun hdry => by have h1 := HO1.out; rw [hdry] at h1; exact HND.out h1.symm
  refine (HUN.out C _ _ _ _ _ (HS2.out.var (w2.heap.size) (by simp) (.cells #[.int .i64 (hd (C.T.drop k)).kind, .string ⟨(hd (C.T.drop k)).text.toArray⟩, .int .i64 (hd (C.T.drop k)).n, .int .i64 (hd (C.T.drop k)).line, .int .i64 (hd (C.T.drop k)).col] 61)).ps hnd).mono ?_
  rintro e w3 hr
  rcases hP : P n .unary (C.T.drop (k + 1)) (m + 1) with _ | ⟨er, r⟩ | ⟨d1, f1, r⟩
  · exact absurd hP hnd
  · rw [hP] at hr
    have ho' := HO1.out
    rw [hP] at ho'
    have HB := Lib.hid ((HS2.out.var (w2.heap.size) (by simp) (.cells #[.int .i64 (hd (C.T.drop k)).kind, .string ⟨(hd (C.T.drop k)).text.toArray⟩, .int .i64 (hd (C.T.drop k)).n, .int .i64 (hd (C.T.drop k)).line, .int .i64 (hd (C.T.drop k)).col] 61)).bad' (m0 := m) ho' hr)
    obtain ⟨rfl, _⟩ := hr
    clear hnd hP ho'
    go_wp2_with fail
    exact ⟨rfl, HB.out⟩
  rw [hP] at hr
  obtain ⟨j1, v1, rfl, rfl, hs⟩ := (HS2.out.var (w2.heap.size) (by simp) (.cells #[.int .i64 (hd (C.T.drop k)).kind, .string ⟨(hd (C.T.drop k)).text.toArray⟩, .int .i64 (hd (C.T.drop k)).n, .int .i64 (hd (C.T.drop k)).line, .int .i64 (hd (C.T.drop k)).col] 61)).sub hr
  have ho' := HO1.out
  rw [hP] at ho'
  dsimp only [Out.and] at ho'
  have HO2 := Lib.hid ho'
  have HS3 := Lib.hid hs
  generalize hN : ((tw.length + _ + f1.size : Nat) : Int) = N1
  have HN1 := Lib.hid hN
  clear hs hr hN hnd hP ho' HS2 
  go_wp2_with fail
  refine (leave_ok C _ _ _ _ _ HS3.out.ps).mono ?_
  rintro e w4 ⟨rfl, hs, hk⟩
  have HS4 := Lib.hid (HS3.out.left hs hk)
  clear hs hk HS3
  obtain ⟨a4_0, a4_1, a4_2, a4_3, a4_4, a4_5⟩ := tok5 (HS4.out.loc _ (.head _)).is
  have a4_lt := lt_of_block (HS4.out.loc _ (.head _)).is
  have HDD : Hid ((((hd (C.T.drop k)).text == [108, 101, 110]) = true ∧ (if (hd (C.T.drop k)).text = [108, 101, 110] then (35 : Int) else 34) = 35) ∨ (((hd (C.T.drop k)).text == [108, 101, 110]) = false ∧ (if (hd (C.T.drop k)).text = [108, 101, 110] then (35 : Int) else 34) = 34)) := Lib.hid (by by_cases h : (hd (C.T.drop k)).text = [108, 101, 110] <;> simp [h])
  rcases HDD.out with ⟨e1, e2⟩ | ⟨e1, e2⟩
  all_goals
    have ho' := HO2.out
    simp only [e2] at ho'
    have HO8 := Lib.hid ho'
    clear ho' e2 HDD
    go_wp2_with fail
    refine (add_ok C _ _ _ _ _ (hd (C.T.drop k)) _ [] 0 _ _ ((HS4.out.al _).al _).ps (ints_new _ (fun b hb => by have := HS4.out.ps.xlt b hb; simp; try omega) [N1] #[.int .i64 N1] rfl _ _ (by simp) rfl) HS4.out.room).mono ?_
    rintro e w5 ⟨rfl, v', hs, hk⟩
    have hids : [N1] = (Fo.nil.app (one d1 f1)).ids tw.length := (by rw [ids_snoc, ← HN1.out]; rfl)
    rw [hids] at hs
    generalize hN : (((tw ++ _ : List Tw).length : Nat) : Int) = N
    have HR := Lib.hid (((HS4.out.al _).al _).fin HO8.out hs hk hN.symm)
    clear hs hk hN HS4
    go_wp2_with fail
    go_ret
    exact HR.out

set_option maxRecDepth 100000 in
set_option maxHeartbeats 2000000 in
theorem unary_no (n : Nat) (HTI : Hid (Ct 139 n .tight)) (C : Cx) (w : World) (k m : Nat) (v : Value) (tw : List Tw) (h : PS w C k m v tw) (h1 : seesW (C.T.drop k) [[97, 114, 114], [108, 101, 110]] = false) (hnd : P (n + 1) .unary (C.T.drop k) m ≠ .dry) :
    Calls Tryz.prog 145 #[C.ptr] w (Ret C w k m v tw (P (n + 1) .unary (C.T.drop k) m)) := by
  have HS0 := Lib.hid (St.start h)
  clear h
  generalize ho : P (n + 1) .unary (C.T.drop k) m = o at hnd ⊢
  have HND := Lib.hid hnd
  clear hnd
  rw [P] at ho
  simp only [h1, Bool.false_eq_true, if_false] at ho
  have H1 := Lib.hid h1
  clear h1
  have HO0 := Lib.hid ho
  clear ho
  go_enter Tryz.func145, Tryz.ntmps145
  go_wp2_with fail
  refine (seesWord_is C _ _ _ _ _ [[97, 114, 114], [108, 101, 110]] _ _ _ false HS0.out.ps (by simp) rfl rfl (by decide) H1.out).mono ?_
  rintro e w1 ⟨rfl, hb⟩
  have HS1 := Lib.hid (HS0.out.below hb)
  clear hb HS0
  go_wp2_with fail
  have hnd : P n .tight (C.T.drop k) m ≠ .dry := fun hdry => by have h1 := HO0.out; rw [hdry] at h1; exact HND.out h1.symm
  refine (HTI.out C _ _ _ _ _ HS1.out.ps0 hnd).mono ?_
  rintro e w9 hr
  have h0 := HO0.out
  rw [h0] at hr
  have HR := Lib.hid (HS1.out.from hr)
  clear HS1 h0 hnd
  cases o with
  | dry => exact absurd rfl HND.out
  | bad er r => (obtain ⟨rfl, _⟩ := hr; go_wp2_with fail; exact ⟨rfl, HR.out⟩)
  | ok d f r => (obtain ⟨j, v', _, rfl, _⟩ := hr; generalize ((tw.length + f.size : Nat) : Int) = N at HR ⊢; go_wp2_with fail; go_ret; exact HR.out)

theorem unary_ok (n : Nat) (HUN : Hid (Ct 145 n .unary)) (HTI : Hid (Ct 139 n .tight)) : Ct 145 (n + 1) .unary := fun C w k m v tw h hnd => by
  cases h1 : seesW (C.T.drop k) [[97, 114, 114], [108, 101, 110]]
  · exact unary_no n HTI C w k m v tw h h1 hnd
  · exact unary_yes n HUN C w k m v tw h h1 hnd

end Go.Proofs.YtehdljcmeimbcaaGreat
