/- Each part of the grammar, for every number of rounds; parser.program. -/
import Derived.Test.YthgpepkcjjimlaaParR
import Derived.Test.YthgpepkcjjimlaaParS
import Derived.Test.YthgpepkcjjimlaaParO
import Derived.Test.YthgpepkcjjimlaaParV
namespace Go.Proofs.Ythgpepkcjjimlaa
open Go.RowKit

structure Parts (i : Nat) : Prop where
  block : Ct 47 i .block
  stmt : Ct 63 i .stmt
  term : Ct 78 i .term
  sum : Ct 82 i .sum
  product : Ct 86 i .product
  unary : Ct 88 i .unary
  tight : Ct 84 i .tight
  first : Ct 87 i .first
  var : Ct 81 i .var
  perh : CtTo i
theorem ct_zero (f : Nat) (g : Gr) : Ct f 0 g := fun _ _ _ _ _ _ _ hnd => absurd rfl hnd
theorem parts_all : ∀ n i, i ≤ n → Parts i
  | 0, i, h => by
    obtain rfl : i = 0 := by omega
    exact ⟨ct_zero _ _, ct_zero _ _, ct_zero _ _, ct_zero _ _, ct_zero _ _, ct_zero _ _, ct_zero _ _, ct_zero _ _, ct_zero _ _, fun _ _ _ _ _ _ _ _ _ _ hnd => absurd rfl hnd⟩
  | n + 1, i, h => by
    have ih := parts_all n
    by_cases hi : i ≤ n
    · exact ih i hi
    obtain rfl : i = n + 1 := by omega
    have hn := ih n (Nat.le_refl _)
    exact ⟨block_ok n (Lib.hid fun i hi => (ih i hi).stmt), statement_ok n (Lib.hid hn.term) (Lib.hid hn.block) (Lib.hid hn.var) (Lib.hid hn.perh), term_ok n (Lib.hid hn.sum), sum_ok n (Lib.hid fun i hi => (ih i hi).product), product_ok n (Lib.hid fun i hi => (ih i hi).unary), unary_ok n (Lib.hid hn.unary) (Lib.hid hn.tight), tight_ok n (Lib.hid hn.first) (Lib.hid fun i hi => (ih i hi).term), first_ok n (Lib.hid hn.block) (Lib.hid hn.term), variable_ok n (Lib.hid hn.tight), to_ok (n + 1) (Lib.hid fun i hi => (ih i (by omega)).var)⟩
theorem blocks (n : Nat) : Hid (∀ i, i ≤ n → Ct 47 i .block) := Lib.hid fun i hi => (parts_all n i hi).block
theorem decls_ct : ∀ n, Ct 29 n .decl
  | 0 => ct_zero _ _
  | n + 1 => declaration_ok n (blocks n)
end Go.Proofs.Ythgpepkcjjimlaa

namespace Go.Proofs.Ythgpepkcjjimlaa
open Go.RowKit

set_option maxRecDepth 100000 in
set_option maxHeartbeats 2000000 in
theorem program_ok (n : Nat) (C : Cx) (w : World) (k m : Nat) (v : Value) (h : PS w C k m v []) (hnd : P n (.decls .nil) (C.T.drop k) m ≠ .dry) :
    Calls Try.prog 21 #[C.ptr] w (RetP C w m v (P n (.decls .nil) (C.T.drop k) m)) := by
  have hpw := h.lt
  have HXW := Lib.hid h.xlt
  obtain ⟨i0, hi0, hz0, hz1, hz2⟩ := info_parts infoInt
  have HS0 := Lib.hid (St.start h)
  generalize ho : P n (.decls .nil) (C.T.drop k) m = o at hnd ⊢
  have HO0 := Lib.hid ho
  have HND := Lib.hid hnd
  clear h ho hnd
  unfold Cx.ptr
  go_enter Try.func21, Try.ntmps21
  go_wp2_with fail
  go_loopg [3] n (fun i v3 wr => ∃ (acc : Fo) (j : Nat) (vv : Value), i ≤ n ∧ Lp C w k v [] [] m 0 acc j vv v3 wr ∧ P i (.decls acc) (C.T.drop j) m = o)
  case atStart => exact ⟨.nil, k, v, Nat.le_refl _, ⟨HS0.out, World.ownsRow_nil _ _ _ _⟩, HO0.out⟩
  case round =>
    obtain ⟨acc, j, vv, hin, hLp, hPo⟩ := hrel
    generalize u3 = x at hLp ⊢
    have HLP := Lib.hid hLp
    have HPO := Lib.hid hPo
    obtain ⟨c0, c1, c2, c3⟩ := hLp.st.ps.cells
    have hkle : j ≤ C.T.length := hLp.st.ps.kle
    have hbig : C.T.length ≤ 1000000 := hLp.st.ps.big
    have c0' : wr.cell? ⟨C.p, 0, none⟩ = some (.slice C.A C.T.length C.cap) := c0
    have c1' : wr.cell? ⟨C.p, 1, none⟩ = some (.int .i64 j) := c1
    have hpr : C.p < wr.heap.size := hLp.st.ps.lt
    clear hLp hPo c0 c1 c2 c3 HS0 HO0
    cases gk with
    | zero => exact absurd HPO.out.symm HND.out
    | succ i =>
    by_cases hlt : j < C.T.length
    · have hne : ¬ C.T.drop j = [] := by rw [List.drop_eq_nil_iff]; omega
      have hp := HPO.out
      rw [P] at hp
      simp only [hne, if_false] at hp
      have HP1 := Lib.hid hp
      clear hp hne HPO
      go_wp2_with fail
      go_quiet (fail)
      have hbd := bdrew (Below.refl wr.heap.size wr) nq
      have HL2 := Lib.hid (HLP.out.keep hpw (HLP.out.st.below hbd) (.of hbd))
      clear HLP c0' c1' hbd
      generalize wr.drewN nq = w13 at HL2 ⊢
      go_wp2_with fail
      have hnd : P i .decl (C.T.drop j) m ≠ .dry := fun hdry => by have h1 := HP1.out; rw [hdry] at h1; exact HND.out h1.symm
      refine (decls_ct i (C.ex _) _ _ _ _ _ HL2.out.st.ps hnd).mono ?_
      rintro e w14 hr0
      have hr : Ret (C.ex x) w13 j m vv ([] ++ acc.post 0) (P i .decl (C.T.drop j) m) e w14 := hr0
      clear hr0
      rcases hP : P i .decl (C.T.drop j) m with _ | ⟨er, r⟩ | ⟨d9, f9, r⟩
      · exact absurd hP hnd
      · rw [hP] at hr
        have ho' := HP1.out
        rw [hP] at ho'
        have hR : RetP C w m v o e w14 := by subst ho'; exact ⟨hr.1, HL2.out.st.lowB hr.2⟩
        have HR := Lib.hid hR
        obtain ⟨rfl, _⟩ := hr
        clear hnd hP ho' hR
        go_wp2_with fail
        exact ⟨rfl, HR.out⟩
      rw [hP] at hr
      obtain ⟨_, _, _, _, _, hk3, _⟩ := id hr
      have HW3 := Lib.hid (ownI_keep HL2.out.own HL2.out.st.ps hpw hk3)
      obtain ⟨j9, v9, rfl, rfl, hs⟩ := HL2.out.st.sub hr
      have ho' := HP1.out
      rw [hP] at ho'
      dsimp only [Out.and, Cx.ex] at ho'
      have HO9 := Lib.hid ho'
      have HS9 := Lib.hid hs
      have hfew := HL2.out.few
      have hz14 : w.heap.size ≤ w14.heap.size := HS9.out.kp.size
      generalize hN : ((([] : List Tw).length + _ + f9.size : Nat) : Int) = N9
      have HN9 := Lib.hid hN
      clear hs hr hN hnd hP ho' hk3
      go_wp2_with (at_builtin; refine wpList_append_lies _ rfl _ _ 44 rfl w.heap.size 3 i0 (.int .i64 0) 1 8 Try.underlying44 hi0 hz0 hz1 hz2 rfl (by decide) x acc.len _ rfl (HW3.out.alloc _) ⟨w14.heap.size, 0, none⟩ 1 1 [.int .i64 N9] rfl rfl (World.news_of_block (cs := #[.int .i64 N9]) (t := 3) (fr := (0, 0)) (heap_alloc_new w14 _)) (by simp [Value.oneCell']) (by decide) (by unfold maxLen; omega) (by omega) (by simp; omega) (w14.heap.size + 1) (by simp) ?_; intro gg cap w15 hown hgrow hat hltg)
      have HL3 := Lib.hid (HL2.out.next HS9.out hpw HW3.out _ hgrow hown hat hltg HN9.out (by intro y hy; simp at hy))
      clear hown hgrow hat hltg HL2 HS9 HW3 HP1
      go_wp2_with fail
      go_roundg i
      case measure => omega
      case rel => exact ⟨_, _, _, by omega, HL3.out, HO9.out⟩
    · have hjj : j = C.T.length := by omega
      have hne : C.T.drop j = [] := by rw [List.drop_eq_nil_iff]; omega
      have hp := HPO.out
      rw [P] at hp
      simp only [hne, if_true] at hp
      have HP1 := Lib.hid hp
      clear hp hne HPO
      subst hjj
      go_wp2_with fail
      go_quiet (fail)
      have hbd := bdrew (Below.refl wr.heap.size wr) nq
      have HL2 := Lib.hid (HLP.out.keep hpw (HLP.out.st.below hbd) (.of hbd))
      clear HLP c0' c1' hbd
      generalize wr.drewN nq = w13 at HL2 ⊢
      have HI := Lib.hid (HL2.out.kids HXW.out)
      have HS5 := Lib.hid HL2.out.st.exDrop
      have hroom : (([] : List Tw) ++ acc.post 0).length + 1 ≤ 2 * C.T.length + 1 := by
        have h1 := HS5.out.sz
        rw [List.nil_append, Fo.post_len]
        omega
      have HRM := Lib.hid hroom
      clear HL2 hroom
      go_wp2_with fail
      refine (add_ok C _ _ _ _ _ ⟨0, [], 0, 1, 1⟩ 1 [] 0 _ _ HS5.out.ps HI.out HRM.out).mono ?_
      rintro e w16 ⟨rfl, v', hs, hk⟩
      generalize hN : (((([] : List Tw) ++ acc.post 0 : List Tw).length : Nat) : Int) = N
      have hR : RetP C w m v o (.returned (.int .i64 N)) w16 := by
        have h1 := HP1.out
        subst h1
        exact ⟨⟨_, rfl⟩, _, _, hs, HS5.out.kp.trans hk⟩
      have HR := Lib.hid hR
      clear hs hk hN hR
      go_wp2_with fail
      go_ret
      exact HR.out
end Go.Proofs.Ythgpepkcjjimlaa
