/- What run defers; Each part of the grammar, for every number of rounds; parser.program. -/
import Derived.Test.YtpeoefbibjbinaaGreatB06
import Derived.Defers
import Derived.Recover
import Derived.Test.YtpeoefbibjbinaaGreatB18
import Derived.Test.YtpeoefbibjbinaaGreatB21
import Derived.Test.YtpeoefbibjbinaaGreatB23
namespace Go.Proofs.YtpeoefbibjbinaaGreat
open Go.RowKit

theorem tassert (a b c : Value) (w : World) : (Instr.typeAssert (.iface 48 (.agg #[a, b, c])) 20 48 false).run Tryz.prog w = .ok (.agg #[a, b, c]) w := by kernel_rfl

set_option maxRecDepth 100000 in
theorem catch_panicking (r : Nat) (t : Tok) (er : Int) (x : Value) (w : World) (hc : w.cell? ⟨r, 0, none⟩ = some x) (hz : w.frozen? ⟨r, 0, none⟩ = false) (hr : r < w.heap.size) :
    CallsD Tryz.prog 53 #[.pointer (some ⟨r, 0, none⟩)] (.panicking ({ v := diagV t er, recovered := false } :: [])) w fun e u' w' =>
      e = .returned (.tuple #[]) ∧ u' = .panicking ({ v := diagV t er, recovered := true } :: []) ∧ w' = (w.setCell ⟨r, 0, none⟩ (.slice (some ⟨w.heap.size, 0, none⟩) 1 1)).alloc (.cells #[.int .i64 t.line, .int .i64 t.col, .int .i64 er] 48) := by
  unfold diagV
  refine callsD_of_wpS Tryz.func53 rfl fun c₀ cs hu => ?_
  apply wpS_seq
  apply wpS_region
  simp [wpOpsS, go_sem, recoverD, hu, Tryz.ntmps53, Exit.thenS]
  apply wpS_seq
  apply wpS_region
  simp [wpOpsS, go_sem, Exit.thenS]
  refine wpS_cond (t := true) (by simp [Act.eval, Array.replicate]) ?_
  simp only [if_true]
  apply wpS_region
  simp [wpOpsS, go_sem, tassert, hc, hz, hr, bodyPostS, results, Tryz.results53]

set_option maxRecDepth 100000 in
theorem catch_idle (r : Nat) (w : World) :
    CallsD Tryz.prog 53 #[.pointer (some ⟨r, 0, none⟩)] .returning w fun e u' w' => e = .returned (.tuple #[]) ∧ u' = .returning ∧ w' = w := by
  refine callsD_of_wpS Tryz.func53 rfl fun c₀ cs hu => ?_
  apply wpS_seq
  apply wpS_region
  simp [wpOpsS, go_sem, recoverD, hu, Tryz.ntmps53, Exit.thenS]
  apply wpS_seq
  apply wpS_region
  simp [wpOpsS, go_sem, Exit.thenS]
  refine wpS_cond (t := false) (by simp [Act.eval, Array.replicate]) ?_
  simp only [Bool.false_eq_true, if_false]
  refine wpS_of_wp (wp_skip ?_)
  cases c₀
  simp_all [bodyPostS, results, Tryz.results53]

/-- What program answers. -/
def RetP (C : Cx) (w : World) (m : Nat) (v : Value) (o : Out) (e : Ending) (w' : World) : Prop :=
  match o with
  | .dry => False
  | .bad er r => e = .panicked [{ v := diagV (hd r) er, recovered := false }] ∧ KpB C.p v w w'
  | .ok d kf _ => (∃ x : Int, e = .returned (.int .i64 x)) ∧ (∃ j v', PS w' C j m v' ((one d kf).post 0) ∧ Kp C.p v w v' w')
/-- What run answers. -/
def RetR (C : Cx) (w : World) (m : Nat) (o : Out) (e : Ending) (w' : World) : Prop :=
  match o with
  | .dry => False
  | .bad er r => ∃ g, e = .returned (.slice (some ⟨g, 0, none⟩) 1 1) ∧ w'.heap[g]? = some (.cells #[.int .i64 (hd r).line, .int .i64 (hd r).col, .int .i64 er] 48 (0, 0)) ∧ w.heap.size ≤ g ∧ Below C.p w w'
  | .ok d kf _ => e = .returned (.slice none 0 0) ∧ (∃ j v', PS w' C j m v' ((one d kf).post 0)) ∧ Below C.p w w'

theorem KpB.low {C : Cx} {k m : Nat} {v : Value} {tw : List Tw} {w w' : World} (h : KpB C.p v w w') (hs : PS w C k m v tw) : Below C.p w w' := let ⟨_, h⟩ := h; h.below hs

set_option maxRecDepth 100000 in
set_option maxHeartbeats 1000000 in
theorem run_bad (C : Cx) (w : World) (k m : Nat) (v : Value) (er : Int) (r : List Tok) (h : PS w C k m v []) (HPR : Hid (∀ w1, PS w1 C k m v [] → Calls Tryz.prog 54 #[C.ptr] w1 (RetP C w1 m v (.bad er r)))) :
    Calls Tryz.prog 27 #[C.ptr] w (RetR C w m (.bad er r)) := by
  have hp := h.lt
  have hal := h.al (.cells #[.slice none 0 0] 27)
  have HC := Lib.hid (HPR.out _ hal)
  have HAL := Lib.hid hal
  have HS := Lib.hid h
  clear h hal HPR
  have hmf : ∀ (fn : Fn) (first cap : Array Value) (w : World), (Instr.makeFunc fn first cap).run Tryz.prog w = .ok (.func fn first cap) w := fun _ _ _ _ => rfl
  go_enter_defers Tryz.func27, Tryz.ntmps27
  go_wp2_with fail
  refine HC.out.mono ?_
  rintro e w1 ⟨rfl, v', hk⟩
  have hnew := (hk.new HS.out).1
  have hc : w1.cell? ⟨w.heap.size, 0, none⟩ = some (.slice none 0 0) := by simp [World.cell?, hnew]
  have hz : w1.frozen? ⟨w.heap.size, 0, none⟩ = false := by simp [World.frozen?, hnew]
  have hr := lt_of_block hnew
  have HB := Lib.hid (hk.below HAL.out)
  have HNEW := Lib.hid hnew
  clear hk HC hnew
  go_wp2_with fail
  refine leaves_cons (f := 53) (args := #[.pointer (some ⟨w.heap.size, 0, none⟩)]) (by simp) (by simp [go_sem]) ?_
  refine (catch_panicking w.heap.size (hd r) er _ _ hc hz hr).mono ?_
  rintro e u' w'' ⟨rfl, rfl, rfl⟩
  have hset := rowset HNEW.out 0 (.slice (some ⟨w1.heap.size, 0, none⟩) 1 1)
  have hsz : (w1.setCell ⟨w.heap.size, 0, none⟩ (.slice (some ⟨w1.heap.size, 0, none⟩) 1 1)).heap.size = w1.heap.size := by simp [World.setCell]
  have hb2 : Below C.p w1 (w1.setCell ⟨w.heap.size, 0, none⟩ (.slice (some ⟨w1.heap.size, 0, none⟩) 1 1)) := (Below.refl C.p w1).setCell (p := ⟨w.heap.size, 0, none⟩) (by show C.p ≤ w.heap.size; omega) _
  generalize w1.setCell ⟨w.heap.size, 0, none⟩ (.slice (some ⟨w1.heap.size, 0, none⟩) 1 1) = w2 at hset hsz hb2 ⊢
  have hc2 : w2.cell? ⟨w.heap.size, 0, none⟩ = some (.slice (some ⟨w1.heap.size, 0, none⟩) 1 1) := by simp [World.cell?, hset]
  have hlt2 : w.heap.size < w2.heap.size := lt_of_block hset
  have hR : RetR C w m (.bad er r) (.returned (.slice (some ⟨w1.heap.size, 0, none⟩) 1 1)) (w2.alloc (.cells #[.int .i64 (hd r).line, .int .i64 (hd r).col, .int .i64 er] 48)) :=
    ⟨w1.heap.size, rfl, by rw [← hsz]; exact heap_alloc_new w2 _, by omega, (((Below.refl C.p w).alloc (by omega) _).trans HB.out).trans (hb2.trans ((Below.refl _ _).alloc (by omega) _))⟩
  have HR := Lib.hid hR
  clear hR hb2 hset
  simp [Leaves, settle, results, Tryz.results27, go_sem, hc2, hlt2]
  exact HR.out

set_option maxRecDepth 100000 in
set_option maxHeartbeats 1000000 in
theorem run_good (C : Cx) (w : World) (k m : Nat) (v : Value) (d : Nd) (f : Fo) (r : List Tok) (h : PS w C k m v []) (HPR : Hid (∀ w1, PS w1 C k m v [] → Calls Tryz.prog 54 #[C.ptr] w1 (RetP C w1 m v (.ok d f r)))) :
    Calls Tryz.prog 27 #[C.ptr] w (RetR C w m (.ok d f r)) := by
  have hp := h.lt
  have hal := h.al (.cells #[.slice none 0 0] 27)
  have HC := Lib.hid (HPR.out _ hal)
  have HAL := Lib.hid hal
  have HS := Lib.hid h
  clear h hal HPR
  have hmf : ∀ (fn : Fn) (first cap : Array Value) (w : World), (Instr.makeFunc fn first cap).run Tryz.prog w = .ok (.func fn first cap) w := fun _ _ _ _ => rfl
  go_enter_defers Tryz.func27, Tryz.ntmps27
  go_wp2_with fail
  refine HC.out.mono ?_
  rintro e w1 ⟨⟨x, rfl⟩, ⟨j, v', hps, hk⟩⟩
  have hnew := (hk.new HS.out).1
  have hvn := (hk.new HS.out).2
  have hc : w1.cell? ⟨w.heap.size, 0, none⟩ = some (.slice none 0 0) := by simp [World.cell?, hnew]
  have hz : w1.frozen? ⟨w.heap.size, 0, none⟩ = false := by simp [World.frozen?, hnew]
  have hr := lt_of_block hnew
  have HB := Lib.hid (hk.below HAL.out)
  have HNEW := Lib.hid hnew
  have HPS := Lib.hid hps
  have HVN := Lib.hid hvn
  clear hk HC hnew hps hvn
  go_wp2_with fail
  refine leaves_cons (f := 53) (args := #[.pointer (some ⟨w.heap.size, 0, none⟩)]) (by simp) (by simp [go_sem]) ?_
  refine (catch_idle w.heap.size _).mono ?_
  rintro e u' w'' ⟨rfl, rfl, rfl⟩
  have hset := rowset HNEW.out 0 (.slice none 0 0)
  have hb2 : Below w.heap.size w1 (w1.setCell ⟨w.heap.size, 0, none⟩ (.slice none 0 0)) := (Below.refl _ w1).setCell (p := ⟨w.heap.size, 0, none⟩) (Nat.le_refl _) _
  have hps2 := HPS.out.move w.heap.size hp HVN.out HNEW.out (by decide) hb2 (fun b hb _ => set_other _ _ _ _ _ hb)
  generalize w1.setCell ⟨w.heap.size, 0, none⟩ (.slice none 0 0) = w2 at hset hb2 hps2 ⊢
  have hc2 : w2.cell? ⟨w.heap.size, 0, none⟩ = some (.slice none 0 0) := by simp [World.cell?, hset]
  have hR : RetR C w m (.ok d f r) (.returned (.slice none 0 0)) w2 :=
    ⟨rfl, ⟨j, v', hps2⟩, (((Below.refl C.p w).alloc (by omega) _).trans HB.out).trans (hb2.mono (by omega))⟩
  have HR := Lib.hid hR
  clear hR hb2 hset hps2
  simp [Leaves, settle, results, Tryz.results27, go_sem, hc2]
  exact HR.out
end Go.Proofs.YtpeoefbibjbinaaGreat

namespace Go.Proofs.YtpeoefbibjbinaaGreat
open Go.RowKit

structure Parts (i : Nat) : Prop where
  block : Ct 94 i .block
  stmt : Ct 112 i .stmt
  term : Ct 130 i .term
  sum : Ct 137 i .sum
  product : Ct 143 i .product
  unary : Ct 145 i .unary
  tight : Ct 139 i .tight
  first : Ct 144 i .first
  var : Ct 133 i .var
  perh : CtTo i
theorem ct_zero (f : Nat) (g : Gr) : Ct f 0 g := fun _ _ _ _ _ _ _ hnd => absurd rfl hnd
theorem parts_all : ∀ n i, i ≤ n → Parts i
  | 0, i, h => by
    obtain rfl : i = 0 := by omega
    exact ⟨ct_zero _ _, ct_zero _ _, ct_zero _ _, ct_zero _ _, ct_zero _ _, ct_zero _ _, ct_zero _ _, ct_zero _ _, ct_zero _ _, fun _ _ _ _ _ _ _ _ _ _ hnd => absurd rfl hnd⟩
  | n + 1, i, h => by
    have ih := parts_all n
    by_cases hi : i ≤ n
    · exact ih i hi
    obtain rfl : i = n + 1 := by omega
    have hn := ih n (Nat.le_refl _)
    exact ⟨block_ok n (Lib.hid fun i hi => (ih i hi).stmt), statement_ok n (Lib.hid hn.term) (Lib.hid hn.block) (Lib.hid hn.var) (Lib.hid hn.perh), term_ok n (Lib.hid hn.sum), sum_ok n (Lib.hid fun i hi => (ih i hi).product), product_ok n (Lib.hid fun i hi => (ih i hi).unary), unary_ok n (Lib.hid hn.unary) (Lib.hid hn.tight), tight_ok n (Lib.hid hn.first) (Lib.hid fun i hi => (ih i hi).term), first_ok n (Lib.hid hn.block) (Lib.hid hn.term), variable_ok n (Lib.hid hn.tight), to_ok (n + 1) (Lib.hid fun i hi => (ih i (by omega)).var)⟩
theorem blocks (n : Nat) : Hid (∀ i, i ≤ n → Ct 94 i .block) := Lib.hid fun i hi => (parts_all n i hi).block
theorem decls_ct : ∀ n, Ct 75 n .decl
  | 0 => ct_zero _ _
  | n + 1 => declaration_ok n (blocks n)
end Go.Proofs.YtpeoefbibjbinaaGreat

namespace Go.Proofs.YtpeoefbibjbinaaGreat
open Go.RowKit

set_option maxRecDepth 100000 in
set_option maxHeartbeats 2000000 in
theorem program_ok (n : Nat) (C : Cx) (w : World) (k m : Nat) (v : Value) (h : PS w C k m v []) (hnd : P n (.decls .nil) (C.T.drop k) m ≠ .dry) :
    Calls Tryz.prog 54 #[C.ptr] w (RetP C w m v (P n (.decls .nil) (C.T.drop k) m)) := by
  have hpw := h.lt
  have HXW := Lib.hid h.xlt
  obtain ⟨i0, hi0, hz0, hz1, hz2⟩ := info_parts infoInt
  have HS0 := Lib.hid (St.start h)
  generalize ho : P n (.decls .nil) (C.T.drop k) m = o at hnd ⊢
  have HO0 := Lib.hid ho
  have HND := Lib.hid hnd
  clear h ho hnd
  unfold Cx.ptr
  go_enter Tryz.func54, Tryz.ntmps54
  go_wp2_with fail
  go_loopg [3] n (fun i v3 wr => ∃ (acc : Fo) (j : Nat) (vv : Value), i ≤ n ∧ Lp C w k v [] [] m 0 acc j vv v3 wr ∧ P i (.decls acc) (C.T.drop j) m = o)
  case atStart => exact ⟨.nil, k, v, Nat.le_refl _, ⟨HS0.out, World.ownsRow_nil _ _ _ _⟩, HO0.out⟩
  case round =>
    obtain ⟨acc, j, vv, hin, hLp, hPo⟩ := hrel
    generalize u3 = x at hLp ⊢
    have HLP := Lib.hid hLp
    have HPO := Lib.hid hPo
    obtain ⟨c0, c1, c2, c3⟩ := hLp.st.ps.cells
    have hkle : j ≤ C.T.length := hLp.st.ps.kle
    have hbig : C.T.length ≤ 1000000 := hLp.st.ps.big
    have c0' : wr.cell? ⟨C.p, 0, none⟩ = some (.slice C.A C.T.length C.cap) := c0
    have c1' : wr.cell? ⟨C.p, 1, none⟩ = some (.int .i64 j) := c1
    have hpr : C.p < wr.heap.size := hLp.st.ps.lt
    clear hLp hPo c0 c1 c2 c3 HS0 HO0
    cases gk with
    | zero => exact absurd HPO.out.symm HND.out
    | succ i =>
    by_cases hlt : j < C.T.length
    · have hne : ¬ C.T.drop j = [] := by rw [List.drop_eq_nil_iff]; omega
      have hp := HPO.out
      rw [P] at hp
      simp only [hne, if_false] at hp
      have HP1 := Lib.hid hp
      clear hp hne HPO
      go_wp2_with fail
      go_quiet (fail)
      have hbd := bdrew (Below.refl wr.heap.size wr) nq
      have HL2 := Lib.hid (HLP.out.keep hpw (HLP.out.st.below hbd) (.of hbd))
      clear HLP c0' c1' hbd
      generalize wr.drewN nq = w13 at HL2 ⊢
      go_wp2_with fail
      have hnd : P i .decl (C.T.drop j) m ≠ .dry := fun hdry => by have h1 := HP1.out; rw [hdry] at h1; exact HND.out h1.symm
      refine (decls_ct i (C.ex _) _ _ _ _ _ HL2.out.st.ps hnd).mono ?_
      rintro e w14 hr0
      have hr : Ret (C.ex x) w13 j m vv ([] ++ acc.post 0) (P i .decl (C.T.drop j) m) e w14 := hr0
      clear hr0
      rcases hP : P i .decl (C.T.drop j) m with _ | ⟨er, r⟩ | ⟨d9, f9, r⟩
      · exact absurd hP hnd
      · rw [hP] at hr
        have ho' := HP1.out
        rw [hP] at ho'
        have hR : RetP C w m v o e w14 := by subst ho'; exact ⟨hr.1, HL2.out.st.lowB hr.2⟩
        have HR := Lib.hid hR
        obtain ⟨rfl, _⟩ := hr
        clear hnd hP ho' hR
        go_wp2_with fail
        exact ⟨rfl, HR.out⟩
      rw [hP] at hr
      obtain ⟨_, _, _, _, _, hk3, _⟩ := id hr
      have HW3 := Lib.hid (ownI_keep HL2.out.own HL2.out.st.ps hpw hk3)
      obtain ⟨j9, v9, rfl, rfl, hs⟩ := HL2.out.st.sub hr
      have ho' := HP1.out
      rw [hP] at ho'
      dsimp only [Out.and, Cx.ex] at ho'
      have HO9 := Lib.hid ho'
      have HS9 := Lib.hid hs
      have hfew := HL2.out.few
      have hz14 : w.heap.size ≤ w14.heap.size := HS9.out.kp.size
      generalize hN : ((([] : List Tw).length + _ + f9.size : Nat) : Int) = N9
      have HN9 := Lib.hid hN
      clear hs hr hN hnd hP ho' hk3
      go_wp2_with (at_builtin; refine wpList_append_lies _ rfl _ _ 37 rfl w.heap.size 3 i0 (.int .i64 0) 1 8 Tryz.underlying37 hi0 hz0 hz1 hz2 rfl (by decide) x acc.len _ rfl (HW3.out.alloc _) ⟨w14.heap.size, 0, none⟩ 1 1 [.int .i64 N9] rfl rfl (World.news_of_block (cs := #[.int .i64 N9]) (t := 3) (fr := (0, 0)) (heap_alloc_new w14 _)) (by simp [Value.oneCell']) (by decide) (by unfold maxLen; omega) (by omega) (by simp; omega) (w14.heap.size + 1) (by simp) ?_; intro gg cap w15 hown hgrow hat hltg)
      have HL3 := Lib.hid (HL2.out.next HS9.out hpw HW3.out _ hgrow hown hat hltg HN9.out (by intro y hy; simp at hy))
      clear hown hgrow hat hltg HL2 HS9 HW3 HP1
      go_wp2_with fail
      go_roundg i
      case measure => omega
      case rel => exact ⟨_, _, _, by omega, HL3.out, HO9.out⟩
    · have hjj : j = C.T.length := by omega
      have hne : C.T.drop j = [] := by rw [List.drop_eq_nil_iff]; omega
      have hp := HPO.out
      rw [P] at hp
      simp only [hne, if_true] at hp
      have HP1 := Lib.hid hp
      clear hp hne HPO
      subst hjj
      go_wp2_with fail
      go_quiet (fail)
      have hbd := bdrew (Below.refl wr.heap.size wr) nq
      have HL2 := Lib.hid (HLP.out.keep hpw (HLP.out.st.below hbd) (.of hbd))
      clear HLP c0' c1' hbd
      generalize wr.drewN nq = w13 at HL2 ⊢
      have HI := Lib.hid (HL2.out.kids HXW.out)
      have HS5 := Lib.hid HL2.out.st.exDrop
      have hroom : (([] : List Tw) ++ acc.post 0).length + 1 ≤ 2 * C.T.length + 1 := by
        have h1 := HS5.out.sz
        rw [List.nil_append, Fo.post_len]
        omega
      have HRM := Lib.hid hroom
      clear HL2 hroom
      go_wp2_with fail
      refine (add_ok C _ _ _ _ _ ⟨0, [], 0, 1, 1⟩ 1 [] 0 _ _ HS5.out.ps HI.out HRM.out).mono ?_
      rintro e w16 ⟨rfl, v', hs, hk⟩
      generalize hN : (((([] : List Tw) ++ acc.post 0 : List Tw).length : Nat) : Int) = N
      have hR : RetP C w m v o (.returned (.int .i64 N)) w16 := by
        have h1 := HP1.out
        subst h1
        exact ⟨⟨_, rfl⟩, _, _, hs, HS5.out.kp.trans hk⟩
      have HR := Lib.hid hR
      clear hs hk hN hR
      go_wp2_with fail
      go_ret
      exact HR.out
end Go.Proofs.YtpeoefbibjbinaaGreat
