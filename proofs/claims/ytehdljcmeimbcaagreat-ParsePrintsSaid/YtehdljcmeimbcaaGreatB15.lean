/- What run defers; Each part of the grammar, for every number of rounds; parser.program; Laying twigs in the order of a tree, plainly; slices.Backward over numbers. -/
import Derived.Test.YtehdljcmeimbcaaGreatB06
import Derived.Defers
import Derived.Recover
import Derived.Test.YtehdljcmeimbcaaGreatB09
import Derived.Test.YtehdljcmeimbcaaGreatB12
import Derived.Test.YtehdljcmeimbcaaGreatB14
import Derived.Test.YtehdljcmeimbcaaGreatB03
import Derived.RangeFuncBox
import Derived.RangeFuncNested
import Derived.RangeFuncLeaves
import Derived.Shelf.Abstract
import Derived.WalkKit
import Derived.OwnWalkIn
import Derived.TacticsInMore
import Derived.LoopNIn
import Derived.LoopIn
namespace Go.Proofs.YtehdljcmeimbcaaGreat
open Go.RowKit

theorem tassert (a b c : Value) (w : World) : (Instr.typeAssert (.iface 48 (.agg #[a, b, c])) 20 48 false).run Tryz.prog w = .ok (.agg #[a, b, c]) w := by kernel_rfl

set_option maxRecDepth 100000 in
theorem catch_panicking (r : Nat) (t : Tok) (er : Int) (x : Value) (w : World) (hc : w.cell? ⟨r, 0, none⟩ = some x) (hz : w.frozen? ⟨r, 0, none⟩ = false) (hr : r < w.heap.size) :
    CallsD Tryz.prog 53 #[.pointer (some ⟨r, 0, none⟩)] (.panicking ({ v := diagV t er, recovered := false } :: [])) w fun e u' w' =>
      e = .returned (.tuple #[]) ∧ u' = .panicking ({ v := diagV t er, recovered := true } :: []) ∧ w' = (w.setCell ⟨r, 0, none⟩ (.slice (some ⟨w.heap.size, 0, none⟩) 1 1)).alloc (.cells #[.int .i64 t.line, .int .i64 t.col, .int .i64 er] 48) := by
  unfold diagV
  refine callsD_of_wpS Tryz.func53 rfl fun c₀ cs hu => ?_
  apply wpS_seq
  apply wpS_region
  simp [wpOpsS, go_sem, recoverD, hu, Tryz.ntmps53, Exit.thenS]
  apply wpS_seq
  apply wpS_region
  simp [wpOpsS, go_sem, Exit.thenS]
  refine wpS_cond (t := true) (by simp [Act.eval, Array.replicate]) ?_
  simp only [if_true]
  apply wpS_region
  simp [wpOpsS, go_sem, tassert, hc, hz, hr, bodyPostS, results, Tryz.results53]

set_option maxRecDepth 100000 in
theorem catch_idle (r : Nat) (w : World) :
    CallsD Tryz.prog 53 #[.pointer (some ⟨r, 0, none⟩)] .returning w fun e u' w' => e = .returned (.tuple #[]) ∧ u' = .returning ∧ w' = w := by
  refine callsD_of_wpS Tryz.func53 rfl fun c₀ cs hu => ?_
  apply wpS_seq
  apply wpS_region
  simp [wpOpsS, go_sem, recoverD, hu, Tryz.ntmps53, Exit.thenS]
  apply wpS_seq
  apply wpS_region
  simp [wpOpsS, go_sem, Exit.thenS]
  refine wpS_cond (t := false) (by simp [Act.eval, Array.replicate]) ?_
  simp only [Bool.false_eq_true, if_false]
  refine wpS_of_wp (wp_skip ?_)
  cases c₀
  simp_all [bodyPostS, results, Tryz.results53]

/-- What program answers. -/
def RetP (C : Cx) (w : World) (m : Nat) (v : Value) (o : Out) (e : Ending) (w' : World) : Prop :=
  match o with
  | .dry => False
  | .bad er r => e = .panicked [{ v := diagV (hd r) er, recovered := false }] ∧ KpB C.p v w w'
  | .ok d kf _ => (∃ x : Int, e = .returned (.int .i64 x)) ∧ (∃ j v', PS w' C j m v' ((one d kf).post 0) ∧ Kp C.p v w v' w')
/-- What run answers. -/
def RetR (C : Cx) (w : World) (m : Nat) (o : Out) (e : Ending) (w' : World) : Prop :=
  match o with
  | .dry => False
  | .bad er r => ∃ g, e = .returned (.slice (some ⟨g, 0, none⟩) 1 1) ∧ w'.heap[g]? = some (.cells #[.int .i64 (hd r).line, .int .i64 (hd r).col, .int .i64 er] 48 (0, 0)) ∧ w.heap.size ≤ g ∧ Below C.p w w'
  | .ok d kf _ => e = .returned (.slice none 0 0) ∧ (∃ j v', PS w' C j m v' ((one d kf).post 0)) ∧ Below C.p w w'

theorem KpB.low {C : Cx} {k m : Nat} {v : Value} {tw : List Tw} {w w' : World} (h : KpB C.p v w w') (hs : PS w C k m v tw) : Below C.p w w' := let ⟨_, h⟩ := h; h.below hs

set_option maxRecDepth 100000 in
set_option maxHeartbeats 1000000 in
theorem run_bad (C : Cx) (w : World) (k m : Nat) (v : Value) (er : Int) (r : List Tok) (h : PS w C k m v []) (HPR : Hid (∀ w1, PS w1 C k m v [] → Calls Tryz.prog 54 #[C.ptr] w1 (RetP C w1 m v (.bad er r)))) :
    Calls Tryz.prog 27 #[C.ptr] w (RetR C w m (.bad er r)) := by
  have hp := h.lt
  have hal := h.al (.cells #[.slice none 0 0] 27)
  have HC := Lib.hid (HPR.out _ hal)
  have HAL := Lib.hid hal
  have HS := Lib.hid h
  clear h hal HPR
  have hmf : ∀ (fn : Fn) (first cap : Array Value) (w : World), (Instr.makeFunc fn first cap).run Tryz.prog w = .ok (.func fn first cap) w := fun _ _ _ _ => rfl
  go_enter_defers Tryz.func27, Tryz.ntmps27
  go_wp2_with fail
  refine HC.out.mono ?_
  rintro e w1 ⟨rfl, v', hk⟩
  have hnew := (hk.new HS.out).1
  have hc : w1.cell? ⟨w.heap.size, 0, none⟩ = some (.slice none 0 0) := by simp [World.cell?, hnew]
  have hz : w1.frozen? ⟨w.heap.size, 0, none⟩ = false := by simp [World.frozen?, hnew]
  have hr := lt_of_block hnew
  have HB := Lib.hid (hk.below HAL.out)
  have HNEW := Lib.hid hnew
  clear hk HC hnew
  go_wp2_with fail
  refine leaves_cons (f := 53) (args := #[.pointer (some ⟨w.heap.size, 0, none⟩)]) (by simp) (by simp [go_sem]) ?_
  refine (catch_panicking w.heap.size (hd r) er _ _ hc hz hr).mono ?_
  rintro e u' w'' ⟨rfl, rfl, rfl⟩
  have hset := rowset HNEW.out 0 (.slice (some ⟨w1.heap.size, 0, none⟩) 1 1)
  have hsz : (w1.setCell ⟨w.heap.size, 0, none⟩ (.slice (some ⟨w1.heap.size, 0, none⟩) 1 1)).heap.size = w1.heap.size := by simp [World.setCell]
  have hb2 : Below C.p w1 (w1.setCell ⟨w.heap.size, 0, none⟩ (.slice (some ⟨w1.heap.size, 0, none⟩) 1 1)) := (Below.refl C.p w1).setCell (p := ⟨w.heap.size, 0, none⟩) (by show C.p ≤ w.heap.size; omega) _
  generalize w1.setCell ⟨w.heap.size, 0, none⟩ (.slice (some ⟨w1.heap.size, 0, none⟩) 1 1) = w2 at hset hsz hb2 ⊢
  have hc2 : w2.cell? ⟨w.heap.size, 0, none⟩ = some (.slice (some ⟨w1.heap.size, 0, none⟩) 1 1) := by simp [World.cell?, hset]
  have hlt2 : w.heap.size < w2.heap.size := lt_of_block hset
  have hR : RetR C w m (.bad er r) (.returned (.slice (some ⟨w1.heap.size, 0, none⟩) 1 1)) (w2.alloc (.cells #[.int .i64 (hd r).line, .int .i64 (hd r).col, .int .i64 er] 48)) :=
    ⟨w1.heap.size, rfl, by rw [← hsz]; exact heap_alloc_new w2 _, by omega, (((Below.refl C.p w).alloc (by omega) _).trans HB.out).trans (hb2.trans ((Below.refl _ _).alloc (by omega) _))⟩
  have HR := Lib.hid hR
  clear hR hb2 hset
  simp [Leaves, settle, results, Tryz.results27, go_sem, hc2, hlt2]
  exact HR.out

set_option maxRecDepth 100000 in
set_option maxHeartbeats 1000000 in
theorem run_good (C : Cx) (w : World) (k m : Nat) (v : Value) (d : Nd) (f : Fo) (r : List Tok) (h : PS w C k m v []) (HPR : Hid (∀ w1, PS w1 C k m v [] → Calls Tryz.prog 54 #[C.ptr] w1 (RetP C w1 m v (.ok d f r)))) :
    Calls Tryz.prog 27 #[C.ptr] w (RetR C w m (.ok d f r)) := by
  have hp := h.lt
  have hal := h.al (.cells #[.slice none 0 0] 27)
  have HC := Lib.hid (HPR.out _ hal)
  have HAL := Lib.hid hal
  have HS := Lib.hid h
  clear h hal HPR
  have hmf : ∀ (fn : Fn) (first cap : Array Value) (w : World), (Instr.makeFunc fn first cap).run Tryz.prog w = .ok (.func fn first cap) w := fun _ _ _ _ => rfl
  go_enter_defers Tryz.func27, Tryz.ntmps27
  go_wp2_with fail
  refine HC.out.mono ?_
  rintro e w1 ⟨⟨x, rfl⟩, ⟨j, v', hps, hk⟩⟩
  have hnew := (hk.new HS.out).1
  have hvn := (hk.new HS.out).2
  have hc : w1.cell? ⟨w.heap.size, 0, none⟩ = some (.slice none 0 0) := by simp [World.cell?, hnew]
  have hz : w1.frozen? ⟨w.heap.size, 0, none⟩ = false := by simp [World.frozen?, hnew]
  have hr := lt_of_block hnew
  have HB := Lib.hid (hk.below HAL.out)
  have HNEW := Lib.hid hnew
  have HPS := Lib.hid hps
  have HVN := Lib.hid hvn
  clear hk HC hnew hps hvn
  go_wp2_with fail
  refine leaves_cons (f := 53) (args := #[.pointer (some ⟨w.heap.size, 0, none⟩)]) (by simp) (by simp [go_sem]) ?_
  refine (catch_idle w.heap.size _).mono ?_
  rintro e u' w'' ⟨rfl, rfl, rfl⟩
  have hset := rowset HNEW.out 0 (.slice none 0 0)
  have hb2 : Below w.heap.size w1 (w1.setCell ⟨w.heap.size, 0, none⟩ (.slice none 0 0)) := (Below.refl _ w1).setCell (p := ⟨w.heap.size, 0, none⟩) (Nat.le_refl _) _
  have hps2 := HPS.out.move w.heap.size hp HVN.out HNEW.out (by decide) hb2 (fun b hb _ => set_other _ _ _ _ _ hb)
  generalize w1.setCell ⟨w.heap.size, 0, none⟩ (.slice none 0 0) = w2 at hset hb2 hps2 ⊢
  have hc2 : w2.cell? ⟨w.heap.size, 0, none⟩ = some (.slice none 0 0) := by simp [World.cell?, hset]
  have hR : RetR C w m (.ok d f r) (.returned (.slice none 0 0)) w2 :=
    ⟨rfl, ⟨j, v', hps2⟩, (((Below.refl C.p w).alloc (by omega) _).trans HB.out).trans (hb2.mono (by omega))⟩
  have HR := Lib.hid hR
  clear hR hb2 hset hps2
  simp [Leaves, settle, results, Tryz.results27, go_sem, hc2]
  exact HR.out
end Go.Proofs.YtehdljcmeimbcaaGreat

namespace Go.Proofs.YtehdljcmeimbcaaGreat
open Go.RowKit

structure Parts (i : Nat) : Prop where
  block : Ct 94 i .block
  stmt : Ct 112 i .stmt
  term : Ct 130 i .term
  sum : Ct 137 i .sum
  product : Ct 143 i .product
  unary : Ct 145 i .unary
  tight : Ct 139 i .tight
  first : Ct 144 i .first
  var : Ct 133 i .var
  perh : CtTo i
theorem ct_zero (f : Nat) (g : Gr) : Ct f 0 g := fun _ _ _ _ _ _ _ hnd => absurd rfl hnd
theorem parts_all : ∀ n i, i ≤ n → Parts i
  | 0, i, h => by
    obtain rfl : i = 0 := by omega
    exact ⟨ct_zero _ _, ct_zero _ _, ct_zero _ _, ct_zero _ _, ct_zero _ _, ct_zero _ _, ct_zero _ _, ct_zero _ _, ct_zero _ _, fun _ _ _ _ _ _ _ _ _ _ hnd => absurd rfl hnd⟩
  | n + 1, i, h => by
    have ih := parts_all n
    by_cases hi : i ≤ n
    · exact ih i hi
    obtain rfl : i = n + 1 := by omega
    have hn := ih n (Nat.le_refl _)
    exact ⟨block_ok n (Lib.hid fun i hi => (ih i hi).stmt), statement_ok n (Lib.hid hn.term) (Lib.hid hn.block) (Lib.hid hn.var) (Lib.hid hn.perh), term_ok n (Lib.hid hn.sum), sum_ok n (Lib.hid fun i hi => (ih i hi).product), product_ok n (Lib.hid fun i hi => (ih i hi).unary), unary_ok n (Lib.hid hn.unary) (Lib.hid hn.tight), tight_ok n (Lib.hid hn.first) (Lib.hid fun i hi => (ih i hi).term), first_ok n (Lib.hid hn.block) (Lib.hid hn.term), variable_ok n (Lib.hid hn.tight), to_ok (n + 1) (Lib.hid fun i hi => (ih i (by omega)).var)⟩
theorem blocks (n : Nat) : Hid (∀ i, i ≤ n → Ct 94 i .block) := Lib.hid fun i hi => (parts_all n i hi).block
theorem decls_ct : ∀ n, Ct 75 n .decl
  | 0 => ct_zero _ _
  | n + 1 => declaration_ok n (blocks n)
end Go.Proofs.YtehdljcmeimbcaaGreat

namespace Go.Proofs.YtehdljcmeimbcaaGreat
open Go.RowKit

set_option maxRecDepth 100000 in
set_option maxHeartbeats 2000000 in
theorem program_ok (n : Nat) (C : Cx) (w : World) (k m : Nat) (v : Value) (h : PS w C k m v []) (hnd : P n (.decls .nil) (C.T.drop k) m ≠ .dry) :
    Calls Tryz.prog 54 #[C.ptr] w (RetP C w m v (P n (.decls .nil) (C.T.drop k) m)) := by
  have hpw := h.lt
  have HXW := Lib.hid h.xlt
  obtain ⟨i0, hi0, hz0, hz1, hz2⟩ := info_parts infoInt
  have HS0 := Lib.hid (St.start h)
  generalize ho : P n (.decls .nil) (C.T.drop k) m = o at hnd ⊢
  have HO0 := Lib.hid ho
  have HND := Lib.hid hnd
  clear h ho hnd
  unfold Cx.ptr
  go_enter Tryz.func54, Tryz.ntmps54
  go_wp2_with fail
  go_loopg [3] n (fun i v3 wr => ∃ (acc : Fo) (j : Nat) (vv : Value), i ≤ n ∧ Lp C w k v [] [] m 0 acc j vv v3 wr ∧ P i (.decls acc) (C.T.drop j) m = o)
  case atStart => exact ⟨.nil, k, v, Nat.le_refl _, ⟨HS0.out, World.ownsRow_nil _ _ _ _⟩, HO0.out⟩
  case round =>
    obtain ⟨acc, j, vv, hin, hLp, hPo⟩ := hrel
    generalize u3 = x at hLp ⊢
    have HLP := Lib.hid hLp
    have HPO := Lib.hid hPo
    obtain ⟨c0, c1, c2, c3⟩ := hLp.st.ps.cells
    have hkle : j ≤ C.T.length := hLp.st.ps.kle
    have hbig : C.T.length ≤ 1000000 := hLp.st.ps.big
    have c0' : wr.cell? ⟨C.p, 0, none⟩ = some (.slice C.A C.T.length C.cap) := c0
    have c1' : wr.cell? ⟨C.p, 1, none⟩ = some (.int .i64 j) := c1
    have hpr : C.p < wr.heap.size := hLp.st.ps.lt
    clear hLp hPo c0 c1 c2 c3 HS0 HO0
    cases gk with
    | zero => exact absurd HPO.out.symm HND.out
    | succ i =>
    by_cases hlt : j < C.T.length
    · have hne : ¬ C.T.drop j = [] := by rw [List.drop_eq_nil_iff]; omega
      have hp := HPO.out
      rw [P] at hp
      simp only [hne, if_false] at hp
      have HP1 := Lib.hid hp
      clear hp hne HPO
      go_wp2_with fail
      go_quiet (fail)
      have hbd := bdrew (Below.refl wr.heap.size wr) nq
      have HL2 := Lib.hid (HLP.out.keep hpw (HLP.out.st.below hbd) (.of hbd))
      clear HLP c0' c1' hbd
      generalize wr.drewN nq = w13 at HL2 ⊢
      go_wp2_with fail
      have hnd : P i .decl (C.T.drop j) m ≠ .dry := fun hdry => by have h1 := HP1.out; rw [hdry] at h1; exact HND.out h1.symm
      refine (decls_ct i (C.ex _) _ _ _ _ _ HL2.out.st.ps hnd).mono ?_
      rintro e w14 hr0
      have hr : Ret (C.ex x) w13 j m vv ([] ++ acc.post 0) (P i .decl (C.T.drop j) m) e w14 := hr0
      clear hr0
      rcases hP : P i .decl (C.T.drop j) m with _ | ⟨er, r⟩ | ⟨d9, f9, r⟩
      · exact absurd hP hnd
      · rw [hP] at hr
        have ho' := HP1.out
        rw [hP] at ho'
        have hR : RetP C w m v o e w14 := by subst ho'; exact ⟨hr.1, HL2.out.st.lowB hr.2⟩
        have HR := Lib.hid hR
        obtain ⟨rfl, _⟩ := hr
        clear hnd hP ho' hR
        go_wp2_with fail
        exact ⟨rfl, HR.out⟩
      rw [hP] at hr
      obtain ⟨_, _, _, _, _, hk3, _⟩ := id hr
      have HW3 := Lib.hid (ownI_keep HL2.out.own HL2.out.st.ps hpw hk3)
      obtain ⟨j9, v9, rfl, rfl, hs⟩ := HL2.out.st.sub hr
      have ho' := HP1.out
      rw [hP] at ho'
      dsimp only [Out.and, Cx.ex] at ho'
      have HO9 := Lib.hid ho'
      have HS9 := Lib.hid hs
      have hfew := HL2.out.few
      have hz14 : w.heap.size ≤ w14.heap.size := HS9.out.kp.size
      generalize hN : ((([] : List Tw).length + _ + f9.size : Nat) : Int) = N9
      have HN9 := Lib.hid hN
      clear hs hr hN hnd hP ho' hk3
      go_wp2_with (at_builtin; refine wpList_append_lies _ rfl _ _ 37 rfl w.heap.size 3 i0 (.int .i64 0) 1 8 Tryz.underlying37 hi0 hz0 hz1 hz2 rfl (by decide) x acc.len _ rfl (HW3.out.alloc _) ⟨w14.heap.size, 0, none⟩ 1 1 [.int .i64 N9] rfl rfl (World.news_of_block (cs := #[.int .i64 N9]) (t := 3) (fr := (0, 0)) (heap_alloc_new w14 _)) (by simp [Value.oneCell']) (by decide) (by unfold maxLen; omega) (by omega) (by simp; omega) (w14.heap.size + 1) (by simp) ?_; intro gg cap w15 hown hgrow hat hltg)
      have HL3 := Lib.hid (HL2.out.next HS9.out hpw HW3.out _ hgrow hown hat hltg HN9.out (by intro y hy; simp at hy))
      clear hown hgrow hat hltg HL2 HS9 HW3 HP1
      go_wp2_with fail
      go_roundg i
      case measure => omega
      case rel => exact ⟨_, _, _, by omega, HL3.out, HO9.out⟩
    · have hjj : j = C.T.length := by omega
      have hne : C.T.drop j = [] := by rw [List.drop_eq_nil_iff]; omega
      have hp := HPO.out
      rw [P] at hp
      simp only [hne, if_true] at hp
      have HP1 := Lib.hid hp
      clear hp hne HPO
      subst hjj
      go_wp2_with fail
      go_quiet (fail)
      have hbd := bdrew (Below.refl wr.heap.size wr) nq
      have HL2 := Lib.hid (HLP.out.keep hpw (HLP.out.st.below hbd) (.of hbd))
      clear HLP c0' c1' hbd
      generalize wr.drewN nq = w13 at HL2 ⊢
      have HI := Lib.hid (HL2.out.kids HXW.out)
      have HS5 := Lib.hid HL2.out.st.exDrop
      have hroom : (([] : List Tw) ++ acc.post 0).length + 1 ≤ 2 * C.T.length + 1 := by
        have h1 := HS5.out.sz
        rw [List.nil_append, Fo.post_len]
        omega
      have HRM := Lib.hid hroom
      clear HL2 hroom
      go_wp2_with fail
      refine (add_ok C _ _ _ _ _ ⟨0, [], 0, 1, 1⟩ 1 [] 0 _ _ HS5.out.ps HI.out HRM.out).mono ?_
      rintro e w16 ⟨rfl, v', hs, hk⟩
      generalize hN : (((([] : List Tw) ++ acc.post 0 : List Tw).length : Nat) : Int) = N
      have hR : RetP C w m v o (.returned (.int .i64 N)) w16 := by
        have h1 := HP1.out
        subst h1
        exact ⟨⟨_, rfl⟩, _, _, hs, HS5.out.kp.trans hk⟩
      have HR := Lib.hid hR
      clear hs hk hN hR
      go_wp2_with fail
      go_ret
      exact HR.out
end Go.Proofs.YtehdljcmeimbcaaGreat

namespace Go.Proofs.YtehdljcmeimbcaaGreat

/-- A tree that is still to be laid: its root's number among twigs that each stand behind its kids, and whose kid it is. -/
structure Pd where
  d : Nd
  k : Fo
  i : Nat
  up : Int
def Fo.pds (up : Int) : Nat → Fo → List Pd
  | _, .nil => []
  | b, .cons d k r => ⟨d, k, b + k.size, up⟩ :: r.pds up (b + k.size + 1)
/-- Kids more for one of those that are laid. -/
def addK (l : List Tw) (u : Int) (xs : List Int) : List Tw := if 0 ≤ u then l.modify u.toNat (fun t => { t with kids := t.kids ++ xs }) else l
def layS : Nat → List Tw → List Pd → List Tw
  | 0, l, _ => l
  | _ + 1, l, [] => l
  | n + 1, l, p :: S => layS n (addK l p.up [(l.length : Int)] ++ [p.d.tw []]) (p.k.pds l.length (p.i - p.k.size) ++ S)

theorem addK_len (l : List Tw) (u : Int) (xs : List Int) : (addK l u xs).length = l.length := by
  unfold addK; split <;> simp
theorem modify_nil (l : List Tw) (i : Nat) : l.modify i (fun t => { t with kids := t.kids ++ [] }) = l := by
  apply List.ext_getElem?
  intro j
  rw [List.getElem?_modify]
  cases l[j]? <;> simp
theorem addK_nil (l : List Tw) (u : Int) : addK l u [] = l := by
  unfold addK; split
  · exact modify_nil _ _
  · rfl
theorem addK_app (l m : List Tw) (u : Int) (xs : List Int) (h : u < l.length) : addK (l ++ m) u xs = addK l u xs ++ m := by
  unfold addK; split
  · apply List.ext_getElem?
    intro j
    rw [List.getElem?_modify, List.getElem?_append, List.getElem?_append, List.length_modify]
    by_cases hj : j < l.length
    · simp only [hj, if_true]
      rw [List.getElem?_modify]
    · have : u.toNat ≠ j := by omega
      simp only [hj, if_false, this]
      simp
  · rfl
theorem addK_add (l : List Tw) (u : Int) (xs ys : List Int) : addK (addK l u xs) u ys = addK l u (xs ++ ys) := by
  unfold addK; split
  · apply List.ext_getElem?
    intro j
    rw [List.getElem?_modify, List.getElem?_modify, List.getElem?_modify]
    cases l[j]? <;> by_cases h : u.toNat = j <;> simp [h]
  · rfl
theorem addK_last (l : List Tw) (d : Nd) (xs : List Int) : addK (l ++ [d.tw []]) l.length xs = l ++ [d.tw xs] := by
  unfold addK
  rw [if_pos (by omega)]
  apply List.ext_getElem?
  intro j
  rw [List.getElem?_modify, List.getElem?_append, List.getElem?_append]
  by_cases hj : j < l.length
  · have : ((l.length : Int)).toNat ≠ j := by omega
    simp only [hj, if_true, this]
    simp
  · by_cases h0 : j = l.length
    · subst h0
      simp [Nd.tw]
    · have h1 : (j - l.length) ≠ 0 := by omega
      have : ((l.length : Int)).toNat ≠ j := by omega
      simp only [hj, if_false, this]
      obtain ⟨q, hq⟩ := Nat.exists_eq_succ_of_ne_zero h1
      simp [hq]

/-- What is on the stack is laid, tree by tree. -/
theorem layS_fo : ∀ (f : Fo) (u : Int) (b n : Nat) (l : List Tw) (S : List Pd), u < l.length →
    layS (f.size + n) l (f.pds u b ++ S) = layS n (addK l u (f.starts l.length) ++ f.flat l.length) S
  | .nil, u, b, n, l, S, _ => by simp [Fo.size, Fo.pds, Fo.starts, Fo.flat, addK_nil]
  | .cons d k r, u, b, n, l, S, h => by
    have e1 : (Fo.cons d k r).size + n = (k.size + (r.size + n)) + 1 := by simp [Fo.size]; omega
    rw [e1]
    simp only [Fo.pds, List.cons_append, layS]
    have e2 : b + k.size - k.size = b := by omega
    rw [e2]
    have hl : (addK l u [(l.length : Int)] ++ [d.tw []]).length = l.length + 1 := by simp [addK_len]
    rw [layS_fo k l.length b _ _ _ (by rw [hl]; omega)]
    rw [hl]
    have h3 := addK_last (addK l u [(l.length : Int)]) d (k.starts (l.length + 1))
    rw [addK_len] at h3
    rw [h3]
    have hl2 : (addK l u [(l.length : Int)] ++ [d.tw (k.starts (l.length + 1))] ++ k.flat (l.length + 1)).length = l.length + 1 + k.size := by simp [addK_len, Fo.flat_len]; omega
    rw [layS_fo r u _ n _ S (by rw [hl2]; omega), hl2]
    congr 1
    rw [List.append_assoc, addK_app _ _ _ _ (by rw [addK_len]; exact h), addK_add]
    simp [Fo.starts, Fo.flat]
theorem layS_all (d : Nd) (k : Fo) : layS (k.size + 1) [] [⟨d, k, k.size, -1⟩] = (Fo.cons d k .nil).flat 0 := by
  have h := layS_fo (.cons d k .nil) (-1) 0 0 [] [] (by simp)
  simp only [Fo.pds, Fo.size, List.append_nil, Nat.zero_add, Nat.add_zero] at h
  rw [Nat.add_comm]
  rw [h]
  simp [addK, layS]

/-- All that is still to be laid, counted. -/
def todo : List Pd → Nat
  | [] => 0
  | p :: S => p.k.size + 1 + todo S
theorem todo_app : ∀ (a b : List Pd), todo (a ++ b) = todo a + todo b
  | [], b => by simp [todo]
  | p :: a, b => by simp [todo, todo_app a b]; omega
theorem todo_pds : ∀ (f : Fo) (u : Int) (b : Nat), todo (f.pds u b) = f.size
  | .nil, _, _ => rfl
  | .cons d k r, u, b => by simp [Fo.pds, todo, Fo.size, todo_pds r]; omega
theorem pds_len : ∀ (f : Fo) (u : Int) (b : Nat), (f.pds u b).length = f.len
  | .nil, _, _ => rfl
  | .cons d k r, u, b => by simp [Fo.pds, Fo.len, Fo.nds]; exact pds_len r u _
theorem len_todo : ∀ (S : List Pd), S.length ≤ todo S
  | [] => Nat.zero_le _
  | p :: S => by have := len_todo S; simp [todo]; omega

/-- A tree that stands among twigs, at its number: its root, and its kids before it. -/
def InP (tw : List Tw) (p : Pd) : Prop := p.k.size ≤ p.i ∧ tw[p.i]? = some (p.d.tw (p.k.ids (p.i - p.k.size))) ∧ ∀ j t, (p.k.post (p.i - p.k.size))[j]? = some t → tw[p.i - p.k.size + j]? = some t
theorem inP_pds (tw : List Tw) (u : Int) : ∀ (f : Fo) (b : Nat), (∀ j t, (f.post b)[j]? = some t → tw[b + j]? = some t) → ∀ p ∈ f.pds u b, InP tw p
  | .nil, _, _, _, hp => by cases hp
  | .cons d k r, b, h, p, hp => by
    have hk : (k.post b).length = k.size := Fo.post_len k b
    simp only [Fo.pds, List.mem_cons] at hp
    rcases hp with rfl | hp
    · refine ⟨by simp, ?_, fun j t hj => ?_⟩
      · have h1 := h k.size (d.tw (k.ids b)) (by simp [Fo.post, hk])
        simpa using h1
      · have hlt : j < k.size := by rw [← hk]; exact (List.getElem?_eq_some_iff.1 (by simpa using hj)).1
        have h1 := h j t (by
          simp only [Fo.post]
          rw [List.getElem?_append, if_pos (by omega)]
          simpa using hj)
        simpa using h1
    · refine inP_pds tw u r (b + k.size + 1) (fun j t hj => ?_) p hp
      have h1 := h (k.size + 1 + j) t (by
        simp only [Fo.post]
        rw [List.getElem?_append, if_neg (by omega), hk]
        have e : k.size + 1 + j - k.size = j + 1 := by omega
        rw [e, List.getElem?_cons_succ]
        exact hj)
      have e : b + (k.size + 1 + j) = b + k.size + 1 + j := by omega
      rw [← e]; exact h1
/-- The numbers of kids are those of what is put on the stack. -/
theorem ids_pds : ∀ (f : Fo) (u : Int) (b : Nat), f.ids b = (f.pds u b).map fun p => (p.i : Int)
  | .nil, _, _ => rfl
  | .cons d k r, u, b => by simp [Fo.ids, Fo.pds]; exact ids_pds r u _
theorem ups_pds : ∀ (f : Fo) (u : Int) (b : Nat), ∀ p ∈ f.pds u b, p.up = u
  | .nil, _, _, _, h => by cases h
  | .cons d k r, u, b, p, h => by
    simp only [Fo.pds, List.mem_cons] at h
    rcases h with rfl | h
    · rfl
    · exact ups_pds r u _ p h
end Go.Proofs.YtehdljcmeimbcaaGreat

namespace Go.Proofs.YtehdljcmeimbcaaGreat
open Go.RowKit Go.Shelf
attribute [local go_sem] Oper.semAt_some

/-- What has come when all from m on have come, the last one first. -/
def bwd (zs : List Int) (m : Nat) : List (Int × Int) := ((List.range zs.length).drop m).reverse.map fun (i : Nat) => ((i : Int), zs[i]?.getD 0)
theorem bwd_succ (zs : List Int) (m : Nat) (h : m < zs.length) : bwd zs m = bwd zs (m + 1) ++ [((m : Int), zs[m])] := by
  unfold bwd
  rw [List.drop_eq_getElem_cons (by simpa using h)]
  simp [h]
theorem bwd_full (zs : List Int) : bwd zs zs.length = [] := by
  unfold bwd
  rw [List.drop_eq_nil_of_le (by simp)]
  rfl
theorem bwd_len (zs : List Int) (m : Nat) : (bwd zs m).length = zs.length - m := by simp [bwd]
theorem bwd_all (zs : List Int) : (bwd zs 0).map (·.2) = zs.reverse := by
  unfold bwd
  rw [List.drop_zero, List.map_map, List.map_reverse]
  congr 1
  apply List.ext_getElem
  · simp
  · intro i h1 h2
    simp [h2]
/-- Two blocks are as they were. -/
def Kq (g Bs : Nat) (A B : World) : Prop := B.heap[g]? = A.heap[g]? ∧ B.heap[Bs]? = A.heap[Bs]?
theorem Kq.refl (g Bs : Nat) (A : World) : Kq g Bs A A := ⟨rfl, rfl⟩
theorem Kq.trans {g Bs : Nat} {A B C : World} (h : Kq g Bs A B) (k : Kq g Bs B C) : Kq g Bs A C := ⟨k.1.trans h.1, k.2.trans h.2⟩

set_option maxRecDepth 100000 in
set_option maxHeartbeats 1000000 in
theorem backward1_in (F : Fence) (n : Nat) (hF : F.fn 77) (hro : F.round = none) (hn : 1 ≤ n) (l Bs g cap : Nat) (zs : List Int) (hreach : zs.length ≤ 2000001) (J Jx : List (Int × Int) → World → Prop)
    (hY : ∀ pre x W, J pre W → pre.length < zs.length → YieldAt F (n - 1) Tryz.prog l #[.int .i64 x.1, .int .i64 x.2] W fun e W' =>
      (e = .returned (.bool true) ∧ J (pre ++ [x]) W' ∧ Kq g Bs W W') ∨ (e = .returned (.bool false) ∧ Jx (pre ++ [x]) W'))
    (W : World) (hBs : W.cell? ⟨Bs, 0, none⟩ = some (.slice (some ⟨g, 0, none⟩) zs.length cap)) (hc : ∀ j, j < zs.length → W.cell? ⟨g, j, none⟩ = some (.int .i64 (zs[j]?.getD 0))) (h0 : J [] W) :
    CallsIn F n Tryz.prog 77 #[.func (.yield l) #[] #[], .pointer (some ⟨Bs, 0, none⟩)] W fun e W' => (∃ v, e = .returned v) ∧ ((∃ ys, ys = bwd zs 0 ∧ J ys W') ∨ (∃ pre, True ∧ Jx pre W')) := by
  refine callsIn_of_wp Tryz.func77 rfl hF ?_ hro
  simp only [Tryz.ntmps77, List.size_toArray, List.length_cons, List.length_nil, Nat.reduceAdd, Nat.reduceSub, Array.replicate_succ, Array.replicate_zero, List.push_toArray, List.append_toArray, List.nil_append, List.cons_append]
  gi_wp2
  gi_loopw [3] (fun i wr => ∃ m : Nat, m ≤ zs.length ∧ i = .int .i64 ((m : Int) - 1) ∧ J (bwd zs m) wr ∧ Kq g Bs W wr) (fun i _ => (intOf i + 1).toNat)
  case atStart => exact ⟨zs.length, Nat.le_refl _, rfl, by rw [bwd_full]; exact h0, Kq.refl _ _ _⟩
  case round =>
    obtain ⟨m, hm, rfl, hJs, hk⟩ := hrel
    have hB1 : wr.cell? ⟨Bs, 0, none⟩ = some (.slice (some ⟨g, 0, none⟩) zs.length cap) := (World.cell?_of_block (a := ⟨Bs, 0, none⟩) hk.2).trans hBs
    cases m with
    | zero =>
      have e0 : (((0 : Nat) : Int) - 1) = -1 := by omega
      rw [e0]
      gi_wp2
      go_end0
      exact ⟨⟨_, rfl⟩, .inl ⟨_, rfl, hJs⟩⟩
    | succ m =>
      have e1 : (((m + 1 : Nat) : Int) - 1) = (m : Int) := by omega
      rw [e1]
      have hlt : m < zs.length := by omega
      have hcx : wr.cell? ⟨g, m, none⟩ = some (.int .i64 zs[m]) := ((World.cell?_of_block (a := ⟨g, m, none⟩) hk.1).trans (hc m hlt)).trans (by simp [hlt])
      obtain ⟨fn, tmps, assign, body, hy, hR⟩ := hY _ ((m : Int), zs[m]) wr hJs (by rw [bwd_len]; omega)
      dsimp only at hy
      clear e1
      gi_wp2
      refine hR.mono ?_
      rintro e W3 (⟨rfl, hJ3, hk3⟩ | ⟨rfl, hJx3⟩)
      · gi_wp2
        go_roundw
        case rel => exact ⟨m, by omega, by simp, by rw [bwd_succ _ _ hlt]; exact hJ3, hk.trans hk3⟩
        case measure => simp [intOf]
      · gi_wp2
        refine bodyPost_ret (results_none rfl _ _ _) rfl ?_
        exact ⟨⟨_, rfl⟩, .inr ⟨_, trivial, hJx3⟩⟩

set_option maxRecDepth 100000 in
set_option maxHeartbeats 1000000 in
theorem backward1_nil_in (F : Fence) (n : Nat) (hF : F.fn 77) (hro : F.round = none) (l Bs : Nat) (J : List (Int × Int) → World → Prop) (A : Option Addr) (cap : Nat) (W : World) (hBs : W.cell? ⟨Bs, 0, none⟩ = some (.slice A 0 cap)) (h0 : J [] W) :
    CallsIn F n Tryz.prog 77 #[.func (.yield l) #[] #[], .pointer (some ⟨Bs, 0, none⟩)] W fun e W' => (∃ v, e = .returned v) ∧ J [] W' := by
  refine callsIn_of_wp Tryz.func77 rfl hF ?_ hro
  simp only [Tryz.ntmps77, List.size_toArray, List.length_cons, List.length_nil, Nat.reduceAdd, Nat.reduceSub, Array.replicate_succ, Array.replicate_zero, List.push_toArray, List.append_toArray, List.nil_append, List.cons_append]
  gi_wp2
  gi_loopw [3] (fun i wr => i = .int .i64 (-1) ∧ J [] wr) (fun _ _ => 0)
  case atStart => exact ⟨rfl, h0⟩
  case round =>
    obtain ⟨rfl, hJs⟩ := hrel
    gi_wp2
    go_end0
    exact ⟨⟨_, rfl⟩, hJs⟩

/-- The block in which a row of numbers lies; where there are none, one that stays anyway. -/
theorem backward_stops (F : Fence) (n : Nat) (hF : F.fn 77) (hro : F.round = none) (hn : 1 ≤ n) (Bs : Nat) (sv : Value) (zs : List Int) (X : List Nat) (hreach : zs.length ≤ 2000001) (w : World)
    (hc : w.heap[Bs]? = some (.cells #[sv] 37 (0, 0))) (hI : IntRow w X sv zs) :
    ∃ g, (∃ cs t mm, w.heap[g]? = some (.cells cs t mm) ∧ (t = 3 ∨ t = 37)) ∧ (∀ W, Kq g Bs w W → IntRow W X sv zs) ∧ SeqStopsK F n Tryz.prog 77 #[.pointer (some ⟨Bs, 0, none⟩)] (fun x : Int × Int => #[Value.int .i64 x.1, .int .i64 x.2]) (Kq g Bs) (fun ys => ys = bwd zs 0) (fun _ => True) zs.length w := by
  have hcell : ∀ W : World, W.heap[Bs]? = w.heap[Bs]? → W.cell? ⟨Bs, 0, none⟩ = some sv := fun W h => by simp [World.cell?, h, hc]
  obtain ⟨A, cap, rfl, h⟩ := hI
  have hBs := lt_of_block hc
  by_cases h0 : 0 < zs.length
  · obtain ⟨g, cs, mm, rfl, hg, hX, hcs⟩ := h h0
    refine ⟨g, ⟨cs, _, mm, hg, .inl rfl⟩, fun W hk => ⟨_, cap, rfl, fun _ => ⟨g, cs, mm, rfl, hk.1.trans hg, hX, hcs⟩⟩, fun l J Jx W hW _ _ hY hJ0 => ?_⟩
    have hgW := hW.block g (lt_of_block hg)
    exact backward1_in F n hF hro hn l Bs g cap zs hreach J Jx hY W (hcell W (hW.block Bs hBs)) (fun j hj => by
      have h1 := hcs j (zs[j]?.getD 0) (by rw [List.getElem?_eq_getElem hj]; rfl)
      simp [World.cell?, hgW, hg, h1]) hJ0
  · have hz : zs = [] := List.eq_nil_of_length_eq_zero (by omega)
    subst hz
    refine ⟨Bs, ⟨_, _, _, hc, .inr rfl⟩, fun W _ => ⟨A, cap, rfl, fun h => absurd h h0⟩, fun l J Jx W hW _ _ hY hJ0 => ?_⟩
    exact (backward1_nil_in F n hF hro l Bs J A cap W (hcell W (hW.block Bs hBs)) hJ0).mono fun e W' ⟨he, hj⟩ => ⟨he, .inl ⟨_, rfl, hj⟩⟩

set_option maxRecDepth 100000 in
set_option maxHeartbeats 1000000 in
theorem backward_ok (a : Option Addr) (len cap : Nat) (w : World) :
    Calls Tryz.prog 55 #[.slice a len cap] w fun e w' => e = .returned (.func (.func 77) #[] #[.pointer (some ⟨w.heap.size, 0, none⟩)]) ∧ w' = w.alloc (.cells #[.slice a len cap] 37) := by
  have hmf : ∀ (fn : Fn) (first cap : Array Value) (w : World), (Instr.makeFunc fn first cap).run Tryz.prog w = .ok (.func fn first cap) w := fun _ _ _ _ => rfl
  go_enter Tryz.func55, Tryz.ntmps55
  go_wp2
  go_ret
  exact ⟨rfl, rfl⟩
end Go.Proofs.YtehdljcmeimbcaaGreat
