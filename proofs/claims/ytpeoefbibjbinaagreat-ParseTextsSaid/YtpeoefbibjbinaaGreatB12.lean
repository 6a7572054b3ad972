/- Block of the document's parser (written by gen_r5.py); set, Statement of the document's parser (written by gen_r6.py). -/
import Derived.Test.YtpeoefbibjbinaaGreatB11
import Derived.Deep.AppendLies
namespace Go.Proofs.YtpeoefbibjbinaaGreat
open Go.RowKit

theorem infoW : (Tryz.prog.info? 76).map (fun i => (i.zero, i.size, i.bytes)) = some (some (.slice none 0 0), 1, 24) := by kernel_rfl
theorem own_kr {w w' : World} {p base : Nat} {e : TypeId} {size n : Nat} {v : Value} {xs : List Value} (h : w.ownsRow base e size v n xs) (hk : KR p w w') (hp : p < base) : w'.ownsRow base e size v n xs :=
  ownsRow_keep h fun g hg => hk.block g (h.lt g hg).2 (by have := (h.lt g hg).1; omega)
theorem own_after {w w' : World} {base : Nat} {e : TypeId} {size n : Nat} {v : Value} {xs : List Value} (h : w.ownsRow base e size v n xs) (hb : Below w.heap.size w w') : w'.ownsRow base e size v n xs :=
  ownsRow_keep h fun g hg => hb.block g (h.lt g hg).2
/-- A row of rows has grown. -/
theorem S3.grown {C : Rx} {w0 W w2 : World} {m : Nat} {σ : Sg} {L : List (Nat × Obj)} {V : List (Value × List Tw)} {lv : Value} {n : Nat} {xs : List Value} (h : S3 C w0 W m σ L V) (ho : W.ownsRow w0.heap.size 76 1 lv n xs) (hg : W.grownBy w2 lv.ownBlock) (hp0 : C.p < w0.heap.size) (hL : ∀ x ∈ L, ∀ cs, x.2 ≠ .cells cs 76 (0, 0)) : S3 C w0 w2 m σ L V := by
  have hlt : ∀ k, lv.ownBlock = some k → w0.heap.size ≤ k := fun k hk => (ho.lt k hk).1
  have hne : ∀ k o, W.heap[k]? = some o → (∀ cs : Array Value, o ≠ Obj.cells cs 76 (0, 0)) → w2.heap[k]? = W.heap[k]? := fun k o hk ht => hg.block k (lt_of_block hk) fun e => by
    obtain ⟨cur, hc⟩ := own_type ho k e.symm
    rw [hk] at hc
    exact ht cur (Option.some.inj hc)
  have hb : Below C.p W w2 := ⟨hg.os, hg.tape, hg.output, hg.size, fun k hk => hg.block k (by have := h.rs.lt; omega) fun e => by have := hlt k e.symm; omega⟩
  refine ⟨⟨(hne _ _ h.rs.par fun cs e => by injection e with _ e _; exact absurd e (by decide)).trans h.rs.par, h.rs.toks.below hb (Nat.le_refl _), h.rs.kle, h.rs.big, h.rs.nest⟩, ⟨hg.os.trans h.kr.os, hg.tape.trans h.kr.tape, hg.output.trans h.kr.output, Nat.le_trans h.kr.size hg.size, fun k hk hp => (hg.block k (Nat.lt_of_lt_of_le hk h.kr.size) fun e => by have := hlt k e.symm; omega).trans (h.kr.block k hk hp)⟩, fun x hx => ⟨(hne _ _ (h.loc x hx).1 (hL x hx)).trans (h.loc x hx).1, (h.loc x hx).2⟩, fun x hx => (h.row x hx).keep fun g cs t mm hi ht => hne g _ hi fun cs' e => ?_⟩
  injection e with _ e _
  rcases ht with rfl | rfl <;> exact absurd e (by decide)
/-- twig, of a row of rows. -/
theorem twig_own (kd : Int) (s : List UInt8) (n : Int) (t : Tok) (P : List (Value × List Tw)) (base : Nat) (lA : Option Addr) (lc k : Nat) (w : World) (hk : k = P.length) (ho : w.ownsRow base 76 1 (.slice lA k lc) k (P.map (·.1))) (hr : ∀ x ∈ P, R3 w x.1 x.2) (hsz : (twL (at_ t kd s n) (P.map (·.2))).length ≤ 100000000) :
    Calls Tryz.prog 35 #[.int .i64 kd, .string ⟨s.toArray⟩, .int .i64 n, tokV t, .slice lA k lc] w (Ret3T w (twL (at_ t kd s n) (P.map (·.2)))) := by
  have hc := twig_ok kd s n t lA lc (P.map (·.1)) (P.map (·.2)) w (fun i v hi => ?_) (by simp) (fun i v R h1 h2 => ?_) hsz
  · rw [List.length_map, ← hk] at hc
    refine hc.mono ?_
    rintro e w' ⟨v, rfl, h2, h3⟩
    obtain ⟨g, c, rfl, _⟩ := h2.form
    exact ⟨g, c, rfl, h2, h3⟩
  · rcases ho.2 with ⟨_, h0⟩ | ⟨g, cap, cur, e, _⟩
    · have := (List.getElem?_eq_some_iff.1 hi).1
      simp at this
      omega
    · injection e with e1 _ _
      have hc := ho.cells (g := g) (by rw [e1]; rfl) i v hi
      have ha : (⟨g, 0, none⟩ : Addr).add i = ⟨g, i, none⟩ := by unfold Addr.add; split <;> simp_all
      rw [ha] at hc
      exact ⟨g, 0, e1, by rw [Nat.zero_add]; exact hc⟩
  · rw [List.getElem?_map] at h1 h2
    cases hP : P[i]? with
    | none => rw [hP] at h1; cases h1
    | some x =>
      rw [hP] at h1 h2
      cases h1
      cases h2
      exact hr x (List.mem_of_getElem? hP)

theorem loop_yes {a b : Bool} {p q : Prop} [Decidable p] (h : (a && !b) = true) (ha : a = decide p) (hb : b = false ↔ q) : p ∧ q := by
  simp only [Bool.and_eq_true, Bool.not_eq_true'] at h
  exact ⟨by rw [ha] at h; simpa using h.1, hb.1 h.2⟩

set_option maxRecDepth 100000 in
set_option maxHeartbeats 2000000 in
theorem block3_ok (n : Nat) (HST : Hid (∀ i, i ≤ n → Ct3 81 i .stmt)) : Ct3 58 (n + 1) .block := by
  intro C w m σ x h hQ
  rw [Q] at hQ
  obtain ⟨i0, hi0, hz0, hz1, hz2⟩ := info_parts infoW
  have hm : m ≤ 1000 := by
    by_cases hm : m ≤ 1000
    · exact hm
    · rw [if_neg hm] at hQ
      cases hQ
  rw [if_pos hm] at hQ
  have HQ0 := Lib.hid hQ
  have HS0 := Lib.hid (S3.start h)
  have hpw := h.lt
  have HOP : Hid (Calls _ _ _ _ (Took3 C w (m + 1) (openS C.T m [123] σ))) := Lib.hid (open3_ok C w m σ 123 [] h (by omega))
  clear h hQ
  unfold Rx.ptr at *
  go_enter Tryz.func58, Tryz.ntmps58
  go_wp2_with fail
  refine HOP.out.mono ?_
  rintro e w1 ⟨rfl, hs, hk⟩
  have HS1 := Lib.hid ((HS0.out.call hs hk).var w1.heap.size rfl (tokO (openS C.T m [123] σ).1))
  clear hs hk HOP HS0
  unfold tokV
  go_upto_region 2 with (fail)
  change Code.wp _ _ _ _ (w1.alloc (tokO (openS C.T m [123] σ).1))
  generalize w1.alloc (tokO (openS C.T m [123] σ).1) = wA at HS1 ⊢
  generalize w1.heap.size = b at *
  go_wp2_with fail
  go_loopg [4] n (fun i v4 wr => ∃ (P : List (Value × List Tw)) (lA : Option Addr) (lc : Nat) (σ' : Sg), i ≤ n ∧ v4 = .slice lA P.length lc ∧ S3 C w wr (m + 1) σ' [(b, tokO (openS C.T m [123] σ).1)] P ∧ wr.ownsRow w.heap.size 76 1 (.slice lA P.length lc) P.length (P.map (·.1)) ∧ Q C.T i (.stmts (openS C.T m [123] σ).1 (P.map (·.2))) (m + 1) σ' = some x)
  case atStart => exact ⟨[], none, 0, _, Nat.le_refl _, rfl, HS1.out, World.ownsRow_nil _ _ _ _, HQ0.out⟩
  case round =>
    clear HS1 HQ0
    obtain ⟨P, lA, lc, σ1, hin, rfl, hS, hO, hQ⟩ := hrel
    have HS1 := Lib.hid hS
    have HO1 := Lib.hid hO
    have HQ1 := Lib.hid hQ
    clear hS hO hQ
    cases gk with
    | zero => have := HQ1.out; rw [Q] at this; cases this
    | succ i =>
    have hQ := HQ1.out
    rw [Q] at hQ
    have HQ := Lib.hid hQ
    clear hQ HQ1
    obtain ⟨_, _, _, c3, _⟩ := HS1.out.rs.cells
    have hpr := HS1.out.rs.lt
    have HI1 := Lib.hid (is3_ok C wr (m + 1) σ1 125 [] HS1.out.rs)
    unfold Rx.ptr at HI1
    go_upto_region 3 with (fail)
    go_cut [16] (fun vx wx => vx = .bool (σ1.er == 0 && !isT C.T [125] σ1) ∧ S3 C w wx (m + 1) σ1 [(b, tokO (openS C.T m [123] σ).1)] P ∧ wx.ownsRow w.heap.size 76 1 (.slice lA P.length lc) P.length (P.map (·.1)))
    case first =>
      generalize isT C.T [125] σ1 = b1 at *
      by_cases he : σ1.er = 0
      · have he1 : (σ1.er == 0) = true := by simp [he]
        have HE := Lib.hid he1
        rw [he] at c3
        clear he he1
        go_wp2_with fail
        refine HI1.out.mono ?_
        rintro e w2 ⟨rfl, hb⟩
        have HS2 := Lib.hid (HS1.out.below hb)
        have HO2 := Lib.hid (own_after HO1.out hb)
        clear hb HI1 HS1 HO1
        go_wp2_with fail
        go_meet
        exact ⟨by rw [HE.out]; simp, HS2.out, HO2.out⟩
      · have he1 : (σ1.er == 0) = false := by simpa using he
        have HE := Lib.hid he1
        clear he
        go_wp2_with fail
        go_meet
        exact ⟨by rw [HE.out]; simp, HS1.out, HO1.out⟩
    case rest =>
      obtain ⟨rfl, hS2, hO2⟩ := hcut
      have HS2 := Lib.hid hS2
      have HO2 := Lib.hid hO2
      clear hS2 hO2 HI1 HS1 HO1 c3 hpr
      by_cases hc : σ1.er = 0 ∧ isT C.T [125] σ1 = false
      · have hQ := HQ.out
        rw [if_pos hc] at hQ
        obtain ⟨⟨X1, σ2⟩, q2, hQ2⟩ := Option.bind_eq_some_iff.1 hQ
        have HC := Lib.hid (HST.out i (by omega) C wc (m + 1) σ1 _ HS2.out.rs q2)
        have HQ2 := Lib.hid hQ2
        have hb : (σ1.er == 0 && !isT C.T [125] σ1) = true := by simp [hc]
        rw [hb]
        clear hQ hQ2 q2 hc HQ hb
        unfold Rx.ptr at HC
        go_wp2_with fail
        refine HC.out.mono ?_
        rintro e w3 ⟨g1, n1, rfl, hr, hs, hk⟩
        dsimp only at hs hr ⊢
        have HS3 := Lib.hid ((HS2.out.call hs hk).add hr)
        have HO3 := Lib.hid (own_kr HO2.out hk hpw)
        have hsz3 : w.heap.size ≤ w3.heap.size := HS3.out.kr.size
        have hpl : P.length ≤ 100000000 := by
          have := stmts_len _ _ _ _ _ _ _ HQ2.out
          simp at this
          omega
        clear hr hs hk HS2 HO2 HC
        go_wp2_with (at_builtin; refine wpList_append_lies _ rfl _ _ 75 rfl w.heap.size 76 i0 (.slice none 0 0) 1 24 Tryz.underlying75 hi0 hz0 hz1 hz2 rfl (by decide) (.slice lA P.length lc) P.length _ rfl (HO3.out.alloc _) ⟨w3.heap.size, 0, none⟩ 1 1 [.slice (some ⟨g1, 0, none⟩) X1.length n1] rfl rfl (World.news_of_block (cs := #[.slice (some ⟨g1, 0, none⟩) X1.length n1]) (t := 76) (fr := (0, 0)) (heap_alloc_new w3 _)) (by simp [Value.oneCell']) (by decide) (by unfold maxLen; omega) (by omega) (by simp; omega) (w3.heap.size + 1) (by simp) ?_; intro gg cap w4 hown hgrow hat hltg)
        have HS4 := Lib.hid ((HS3.out.al _).grown (HO3.out.alloc _) hgrow hpw (by intro y hy cs; simp at hy; subst hy; intro e; injection e with _ e _; exact absurd e (by decide)))
        have HO4 := Lib.hid hown
        clear hown hgrow hat HS3 HO3
        go_wp2_with fail
        go_roundg i
        case measure => omega
        case rel =>
          refine ⟨P ++ [(.slice (some ⟨g1, 0, none⟩) X1.length n1, X1)], some ⟨gg, 0, none⟩, cap, σ2, by omega, by simp, ⟨HS4.out.rs, HS4.out.kr, HS4.out.loc, fun y hy => HS4.out.row y (by simp at hy ⊢; exact hy.symm)⟩, ?_, ?_⟩
          · rw [List.length_append, List.map_append]; exact HO4.out
          · rw [List.map_append]; exact HQ2.out
      · have hQ := HQ.out
        rw [if_neg hc] at hQ
        obtain ⟨hsz, rfl⟩ := tq_some hQ
        have HSG : Hid (Calls _ _ _ _ (Took3 C wc (m + 1) (sgn C.T [125] σ1))) := Lib.hid (sign3_ok C wc (m + 1) σ1 125 [] HS2.out.rs)
        have HSZ := Lib.hid hsz
        have hb : (σ1.er == 0 && !isT C.T [125] σ1) = false := by
          cases h1 : (σ1.er == 0 && !isT C.T [125] σ1)
          · rfl
          · exact absurd (by simpa using h1) hc
        rw [hb]
        clear hQ hc HQ hb hsz
        unfold Rx.ptr at HSG
        go_wp2_with fail
        refine HSG.out.mono ?_
        rintro e w3 ⟨rfl, hs, hk⟩
        have HS3 := Lib.hid (HS2.out.call hs hk)
        have HO3 := Lib.hid (own_kr HO2.out hk hpw)
        clear hs hk HS2 HO2 HSG
        obtain ⟨_, _, d2, _, _⟩ := HS3.out.rs.cells
        have d2' : w3.cell? ⟨C.p, 2, none⟩ = some (.int .i64 ((m : Int) + 1)) := by rw [d2]; simp
        have f2 := HS3.out.rs.free 2
        have hp7 := HS3.out.rs.lt
        have HS4 := Lib.hid HS3.out.down
        have HO4 := Lib.hid (own_kr HO3.out (.set C.p _ 2 (.int .i64 (m : Int))) hpw)
        clear HS3 HO3 d2
        unfold tokV
        go_upto_region 7 with (fail)
        clear d2' f2 hp7
        generalize w3.setCell ⟨C.p, 2, none⟩ (.int .i64 (m : Int)) = W at HS4 HO4 ⊢
        obtain ⟨a0, a1, a2, a3, a4⟩ := HS4.out.tok (.head _)
        go_wp2_with fail
        refine (twig_own 12 [] 0 (openS C.T m [123] σ).1 P _ lA lc _ _ rfl HO4.out HS4.out.row HSZ.out).mono ?_
        rintro e w5 ⟨g2, c2, rfl, hr, hb⟩
        have HR := Lib.hid ((HS4.out.below hb).ret hr)
        clear hr hb HS4 HO4
        go_wp2_with fail
        go_ret
        exact HR.out

end Go.Proofs.YtpeoefbibjbinaaGreat

namespace Go.Proofs.YtpeoefbibjbinaaGreat
open Go.RowKit

set_option maxRecDepth 100000 in
set_option maxHeartbeats 2000000 in
theorem set3_ok (n : Nat) (t : Tok) (HV : Hid (Ct3 114 n .var)) (HT : Hid (Ct3 98 n .term)) (C : Rx) (w : World) (m : Nat) (σ : Sg) (x : List Tw × Sg) (h : RS w C m σ) (hQ : Q C.T (n + 1) (.set t) m σ = some x) :
    Calls Tryz.prog 96 #[C.ptr, tokV t] w (Ret3 C w m x) := by
  rw [Q] at hQ
  obtain ⟨⟨X1, σ1⟩, q1, hQ1⟩ := Option.bind_eq_some_iff.1 hQ
  obtain ⟨⟨X2, σ2⟩, q2, hQ2⟩ := Option.bind_eq_some_iff.1 hQ1
  obtain ⟨hsz, rfl⟩ := tq_some hQ2
  dsimp only at hsz q2
  have HS0 := Lib.hid ((S3.start h).var w.heap.size rfl (tokO t))
  have HQ2 := Lib.hid q2
  have HSZ := Lib.hid hsz
  have HC := Lib.hid (HV.out C _ m σ _ HS0.out.rs q1)
  clear h hQ hQ1 hQ2 q1 q2 hsz
  unfold Rx.ptr at *
  unfold tokV
  go_enter Tryz.func96, Tryz.ntmps96
  unfold tokO at HC
  go_wp2_with fail
  refine HC.out.mono ?_
  rintro e w1 ⟨g1, n1, rfl, hr, hs, hk⟩
  dsimp only at hs hr ⊢
  have HS1 := Lib.hid ((HS0.out.call hs hk).add hr)
  have HSG : Hid (Calls _ _ _ _ (Took3 C w1 m (sgn C.T [61] σ1))) := Lib.hid (sign3_ok C w1 m σ1 61 [] HS1.out.rs)
  clear hr hs hk HS0 HC
  unfold Rx.ptr at HSG
  go_wp2_with fail
  refine HSG.out.mono ?_
  rintro e w2 ⟨rfl, hs, hk⟩
  have HS2 := Lib.hid (HS1.out.call hs hk)
  clear hs hk HSG HS1
  unfold tokV
  go_upto_region 3 with (fail)
  obtain ⟨a0, a1, a2, a3, a4⟩ := HS2.out.tok (.head _)
  have HSD := Lib.hid HS2.out.drew
  clear HS2
  generalize w.heap.size = b at *
  go_region_held3 (fun w' => w'.cell? ⟨b, 0, none⟩ = some (.int .i64 t.kind) ∧ w'.cell? ⟨b, 1, none⟩ = some (.string ⟨t.text.toArray⟩) ∧ w'.cell? ⟨b, 2, none⟩ = some (.int .i64 t.n) ∧ w'.cell? ⟨b, 3, none⟩ = some (.int .i64 t.line) ∧ w'.cell? ⟨b, 4, none⟩ = some (.int .i64 t.col)) (first | go_keep | exact HS5.out.tok (.head _) | exact HS6.out.tok (.head _)) (first | (go_at_call 98; refine (HT.out C _ m _ _ HSD.out.rs HQ2.out).mono ?_; rintro e w5 ⟨g2, n2, rfl, hr, hs, hk⟩; have HS5 := Lib.hid ((HSD.out.call hs hk).add hr); clear hr hs hk) | (go_at_call 35; refine (twig_new 14 [] 0 t [.slice (some ⟨g1, 0, none⟩) X1.length n1, .slice (some ⟨g2, 0, none⟩) X2.length n2] _ rfl _ _ [X1, X2] _ rfl rfl rfl (row2 (HS5.out.row _ (.tail _ (.head _))) (HS5.out.row _ (.head _))) HSZ.out).mono ?_; rintro e w6 ⟨g3, n3, rfl, hr, hb⟩; have HS6 := Lib.hid ((HS5.out.below hb).add hr); clear hr hb))
  clear HS5 HSD
  have HSG : Hid (Calls _ _ _ _ (Took3 C _ m (sgn C.T [59] σ2))) := Lib.hid (sign3_ok C w6 m σ2 59 [] HS6.out.rs)
  unfold Rx.ptr at HSG
  go_wp2_with fail
  refine HSG.out.mono ?_
  rintro e w9 ⟨rfl, hs, hk⟩
  have HR := Lib.hid ((HS6.out.call hs hk).ret ((HS6.out.call hs hk).row _ (.head _)))
  clear hs hk HSG HS6
  unfold tokV
  go_wp2_with fail
  go_ret
  exact HR.out

set_option maxRecDepth 100000 in
set_option maxHeartbeats 2000000 in
theorem statement3_ok (n : Nat) (HSET : Hid (∀ (t : Tok) (C : Rx) (w : World) (m : Nat) (σ : Sg) (x : List Tw × Sg), RS w C m σ → Q C.T n (.set t) m σ = some x → Calls Tryz.prog 96 #[C.ptr, tokV t] w (Ret3 C w m x))) (HT : Hid (Ct3 98 n .term)) (HB : Hid (Ct3 97 n .branch)) (HP : Hid (Ct3 99 n .post)) : Ct3 81 (n + 1) .stmt := by
  intro C w m σ x h hQ
  rw [Q, isKd_hd] at hQ
  have HS0 := Lib.hid (S3.start h)
  have HA := Lib.hid (ahead_ok C w m σ h)
  clear h
  have HLT := Lib.hid fun (h : (hd (rest C.T σ)).kind = 2) => rest_lt (T := C.T) (σ := σ) (by decide) h
  unfold Rx.ptr at *
  have HQ := Lib.hid hQ
  clear hQ
  generalize hd (rest C.T σ) = t at *
  go_enter Tryz.func81, Tryz.ntmps81
  go_wp2_with fail
  refine HA.out.mono ?_
  rintro e w1 ⟨rfl, hb⟩
  have HS1 := Lib.hid ((HS0.out.below hb).var w1.heap.size rfl (tokO t))
  clear hb HA HS0
  unfold tokV
  go_upto_region 2 with (fail)
  change Code.wp _ _ _ _ (w1.alloc (tokO t))
  generalize w1.alloc (tokO t) = wA at HS1 ⊢
  generalize w1.heap.size = b at *
  obtain ⟨a0, a1, a2, a3, a4⟩ := HS1.out.tok (.head _)
  have HST := Lib.hid fun (y : List Tw × Sg) (hq : Q C.T n (.set t) m σ = some y) => HSET.out t C wA m σ y HS1.out.rs hq
  unfold Rx.ptr at HST
  by_cases hk2 : t.kind = 2
  rotate_left
  · have hQ := HQ.out
    have hk : (t.kind == 2) = false := by simp [hk2]
    have hk' : (t.kind != 2) = true := by simp [hk2]
    rw [hk, if_pos rfl] at hQ
    have HC := Lib.hid (HST.out _ hQ)
    unfold tokV at HC
    clear hQ HQ hk2 hk HST HLT
    go_wp2_with fail
    refine HC.out.mono ?_
    rintro e w4 ⟨g1, n1, rfl, hr, hs, hk⟩
    have HR := Lib.hid ((HS1.out.call hs hk).ret hr)
    clear hr hs hk HC HS1
    go_wp2_with fail
    go_ret
    exact HR.out
  have hk' : (t.kind != 2) = false := by simp [hk2]
  have hQ := HQ.out
  rw [show (t.kind == 2) = true by simp [hk2], if_neg (by decide)] at hQ
  have HLT2 := Lib.hid (HLT.out hk2)
  clear HQ hk2 HLT
  have HQ := Lib.hid hQ
  clear hQ
  by_cases hw_if : t.text = [105, 102]
  · have hQ := HQ.out
    rw [if_pos (.inl hw_if)] at hQ
    have pb_if : (t.text == [105, 102]) = true := by simp [hw_if]
    clear hw_if
    clear HQ
    have HC := Lib.hid (HB.out C _ m σ _ HS1.out.rs hQ)
    clear hQ HST
    unfold Rx.ptr at HC
    go_wp2_with fail
    refine HC.out.mono ?_
    rintro e w4 ⟨g1, n1, rfl, hr, hs, hk⟩
    have HR := Lib.hid ((HS1.out.call hs hk).ret hr)
    clear hr hs hk HC HS1
    go_wp2_with fail
    go_ret
    exact HR.out
  have nb_if : (t.text == [105, 102]) = false := by simp [hw_if]
  by_cases hw_while : t.text = [119, 104, 105, 108, 101]
  · have hQ := HQ.out
    rw [if_pos (.inr hw_while)] at hQ
    have pb_while : (t.text == [119, 104, 105, 108, 101]) = true := by simp [hw_while]
    clear hw_while
    clear HQ
    have HC := Lib.hid (HB.out C _ m σ _ HS1.out.rs hQ)
    clear hQ HST
    unfold Rx.ptr at HC
    go_wp2_with fail
    refine HC.out.mono ?_
    rintro e w4 ⟨g1, n1, rfl, hr, hs, hk⟩
    have HR := Lib.hid ((HS1.out.call hs hk).ret hr)
    clear hr hs hk HC HS1
    go_wp2_with fail
    go_ret
    exact HR.out
  have nb_while : (t.text == [119, 104, 105, 108, 101]) = false := by simp [hw_while]
  have hQ := HQ.out
  rw [if_neg (by rintro (h | h); exact hw_if h; exact hw_while h)] at hQ
  clear HQ hw_if hw_while
  have HQ := Lib.hid hQ
  clear hQ
  by_cases hw_var : t.text = [118, 97, 114]
  · have hQ := HQ.out
    rw [if_pos (hw_var)] at hQ
    have pb_var : (t.text == [118, 97, 114]) = true := by simp [hw_var]
    clear hw_var
    clear HQ
    obtain ⟨⟨X2, σ2⟩, q2, hQ2⟩ := Option.bind_eq_some_iff.1 hQ
    obtain ⟨hsz, rfl⟩ := tq_some hQ2
    dsimp only at hsz q2
    have HQ2 := Lib.hid q2
    have HSZ := Lib.hid hsz
    clear hQ hQ2 hsz q2 HST
    obtain ⟨_, c1, _, _, _⟩ := HS1.out.rs.cells
    have f1 := HS1.out.rs.free 1
    have hp1 := HS1.out.rs.lt
    have hbig := HS1.out.rs.big
    have hlt' := HLT2.out.2
    have HS2 := Lib.hid (HS1.out.skip hlt')
    clear HS1
    go_upto_region 12 with (fail)
    clear c1 f1 hp1 hbig hlt'
    generalize wA.setCell ⟨C.p, 1, none⟩ (.int .i64 ((σ.k : Int) + 1)) = W at HS2 ⊢
    clear a0 a1 a2 a3 a4
    have HKD : Hid (Calls _ _ _ _ (Took3 C W m (knd C.T 1 (skp σ)))) := Lib.hid (kind3_ok C W m _ 1 HS2.out.rs (by decide))
    unfold Rx.ptr at HKD
    have hfd := field1
    go_wp2_with fail
    refine HKD.out.mono ?_
    rintro e w2 ⟨rfl, hs, hk⟩
    have HS3 := Lib.hid (HS2.out.call hs hk)
    have HTY := Lib.hid (typ3_ok C w2 m (knd C.T 1 (skp σ)).2 HS3.out.rs)
    clear hs hk HKD HS2
    unfold Rx.ptr at HTY
    unfold tokV
    go_wp2_with fail
    refine HTY.out.mono ?_
    rintro e w3 ⟨g1, n1, rfl, hr, hs, hk⟩
    have HS4 := Lib.hid ((HS3.out.call hs hk).add hr)
    have HSG : Hid (Calls _ _ _ _ (Took3 C w3 m (sgn C.T [61] (typQ C.T (knd C.T 1 (skp σ)).2).2))) := Lib.hid (sign3_ok C w3 m _ 61 [] HS4.out.rs)
    clear hr hs hk HTY HS3 hfd
    unfold Rx.ptr at HSG
    go_wp2_with fail
    refine HSG.out.mono ?_
    rintro e w4 ⟨rfl, hs, hk⟩
    have HS2 := Lib.hid (HS4.out.call hs hk)
    clear hs hk HSG HS4
    unfold tokV
    go_upto_region 15 with (fail)
    obtain ⟨a0, a1, a2, a3, a4⟩ := HS2.out.tok (.head _)
    have HSD := Lib.hid HS2.out.drew
    clear HS2
    generalize (typQ C.T (knd C.T 1 (skp σ)).2).1 = X1 at *
    generalize (knd C.T 1 (skp σ)).1.text = s1 at *
    go_region_held3 (fun w' => w'.cell? ⟨b, 0, none⟩ = some (.int .i64 t.kind) ∧ w'.cell? ⟨b, 1, none⟩ = some (.string ⟨t.text.toArray⟩) ∧ w'.cell? ⟨b, 2, none⟩ = some (.int .i64 t.n) ∧ w'.cell? ⟨b, 3, none⟩ = some (.int .i64 t.line) ∧ w'.cell? ⟨b, 4, none⟩ = some (.int .i64 t.col)) (first | go_keep | exact HS5.out.tok (.head _) | exact HS6.out.tok (.head _)) (first | (go_at_call 98; refine (HT.out C _ m _ _ HSD.out.rs HQ2.out).mono ?_; rintro e w5 ⟨g2, n2, rfl, hr, hs, hk⟩; have HS5 := Lib.hid ((HSD.out.call hs hk).add hr); clear hr hs hk) | (go_at_call 35; refine (twig_new 13 s1 0 t [.slice (some ⟨g1, 0, none⟩) X1.length n1, .slice (some ⟨g2, 0, none⟩) X2.length n2] _ rfl _ _ [X1, X2] _ rfl rfl rfl (row2 (HS5.out.row _ (.tail _ (.head _))) (HS5.out.row _ (.head _))) HSZ.out).mono ?_; rintro e w6 ⟨g3, n3, rfl, hr, hb⟩; have HS6 := Lib.hid ((HS5.out.below hb).add hr); clear hr hb))
    clear HS5 HSD
    have HSG : Hid (Calls _ _ _ _ (Took3 C _ m (sgn C.T [59] σ2))) := Lib.hid (sign3_ok C w6 m σ2 59 [] HS6.out.rs)
    unfold Rx.ptr at HSG
    go_wp2_with fail
    refine HSG.out.mono ?_
    rintro e w9 ⟨rfl, hs, hk⟩
    have HR := Lib.hid ((HS6.out.call hs hk).ret ((HS6.out.call hs hk).row _ (.head _)))
    clear hs hk HSG HS6
    unfold tokV
    go_wp2_with fail
    go_ret
    exact HR.out
  have nb_var : (t.text == [118, 97, 114]) = false := by simp [hw_var]
  have hQ := HQ.out
  rw [if_neg (hw_var)] at hQ
  clear HQ hw_var
  have HQ := Lib.hid hQ
  clear hQ
  by_cases hw_call : t.text = [99, 97, 108, 108]
  · have hQ := HQ.out
    rw [if_pos (hw_call)] at hQ
    have pb_call : (t.text == [99, 97, 108, 108]) = true := by simp [hw_call]
    clear hw_call
    clear HQ
    obtain ⟨⟨X2, σ2⟩, q2, hQ2⟩ := Option.bind_eq_some_iff.1 hQ
    obtain ⟨hsz, rfl⟩ := tq_some hQ2
    dsimp only at hsz q2
    have HQ2 := Lib.hid q2
    have HSZ := Lib.hid hsz
    clear hQ hQ2 hsz q2 HST
    obtain ⟨_, c1, _, _, _⟩ := HS1.out.rs.cells
    have f1 := HS1.out.rs.free 1
    have hp1 := HS1.out.rs.lt
    have hbig := HS1.out.rs.big
    have hlt' := HLT2.out.2
    have HS2 := Lib.hid (HS1.out.skip hlt')
    clear HS1
    go_upto_region 18 with (fail)
    clear c1 f1 hp1 hbig hlt'
    generalize wA.setCell ⟨C.p, 1, none⟩ (.int .i64 ((σ.k : Int) + 1)) = W at HS2 ⊢
    clear a0 a1 a2 a3 a4
    obtain ⟨a0, a1, a2, a3, a4⟩ := HS2.out.tok (.head _)
    have HSD := Lib.hid HS2.out.drew
    clear HS2
    go_region_held3 (fun w' => w'.cell? ⟨b, 0, none⟩ = some (.int .i64 t.kind) ∧ w'.cell? ⟨b, 1, none⟩ = some (.string ⟨t.text.toArray⟩) ∧ w'.cell? ⟨b, 2, none⟩ = some (.int .i64 t.n) ∧ w'.cell? ⟨b, 3, none⟩ = some (.int .i64 t.line) ∧ w'.cell? ⟨b, 4, none⟩ = some (.int .i64 t.col)) (first | go_keep | exact HS5.out.tok (.head _) | exact HS6.out.tok (.head _)) (first | (go_at_call 98; refine (HT.out C _ m _ _ HSD.out.rs HQ2.out).mono ?_; rintro e w5 ⟨g2, n2, rfl, hr, hs, hk⟩; have HS5 := Lib.hid ((HSD.out.call hs hk).add hr); clear hr hs hk) | (go_at_call 35; refine (twig_new 15 [] 0 t [.slice (some ⟨g2, 0, none⟩) X2.length n2] _ rfl _ _ [X2] _ rfl rfl rfl (row1 (HS5.out.row _ (.head _))) HSZ.out).mono ?_; rintro e w6 ⟨g3, n3, rfl, hr, hb⟩; have HS6 := Lib.hid ((HS5.out.below hb).add hr); clear hr hb))
    clear HS5 HSD
    have HSG : Hid (Calls _ _ _ _ (Took3 C _ m (sgn C.T [59] σ2))) := Lib.hid (sign3_ok C w6 m σ2 59 [] HS6.out.rs)
    unfold Rx.ptr at HSG
    go_wp2_with fail
    refine HSG.out.mono ?_
    rintro e w9 ⟨rfl, hs, hk⟩
    have HR := Lib.hid ((HS6.out.call hs hk).ret ((HS6.out.call hs hk).row _ (.head _)))
    clear hs hk HSG HS6
    unfold tokV
    go_wp2_with fail
    go_ret
    exact HR.out
  have nb_call : (t.text == [99, 97, 108, 108]) = false := by simp [hw_call]
  have hQ := HQ.out
  rw [if_neg (hw_call)] at hQ
  clear HQ hw_call
  have HQ := Lib.hid hQ
  clear hQ
  by_cases hw_cancel : t.text = [99, 97, 110, 99, 101, 108]
  · have hQ := HQ.out
    rw [if_pos (hw_cancel)] at hQ
    have pb_cancel : (t.text == [99, 97, 110, 99, 101, 108]) = true := by simp [hw_cancel]
    clear hw_cancel
    clear HQ
    obtain ⟨⟨X2, σ2⟩, q2, hQ2⟩ := Option.bind_eq_some_iff.1 hQ
    obtain ⟨hsz, rfl⟩ := tq_some hQ2
    dsimp only at hsz q2
    have HQ2 := Lib.hid q2
    have HSZ := Lib.hid hsz
    clear hQ hQ2 hsz q2 HST
    obtain ⟨_, c1, _, _, _⟩ := HS1.out.rs.cells
    have f1 := HS1.out.rs.free 1
    have hp1 := HS1.out.rs.lt
    have hbig := HS1.out.rs.big
    have hlt' := HLT2.out.2
    have HS2 := Lib.hid (HS1.out.skip hlt')
    clear HS1
    go_upto_region 21 with (fail)
    clear c1 f1 hp1 hbig hlt'
    generalize wA.setCell ⟨C.p, 1, none⟩ (.int .i64 ((σ.k : Int) + 1)) = W at HS2 ⊢
    clear a0 a1 a2 a3 a4
    obtain ⟨a0, a1, a2, a3, a4⟩ := HS2.out.tok (.head _)
    have HSD := Lib.hid HS2.out.drew
    clear HS2
    go_region_held3 (fun w' => w'.cell? ⟨b, 0, none⟩ = some (.int .i64 t.kind) ∧ w'.cell? ⟨b, 1, none⟩ = some (.string ⟨t.text.toArray⟩) ∧ w'.cell? ⟨b, 2, none⟩ = some (.int .i64 t.n) ∧ w'.cell? ⟨b, 3, none⟩ = some (.int .i64 t.line) ∧ w'.cell? ⟨b, 4, none⟩ = some (.int .i64 t.col)) (first | go_keep | exact HS5.out.tok (.head _) | exact HS6.out.tok (.head _)) (first | (go_at_call 98; refine (HT.out C _ m _ _ HSD.out.rs HQ2.out).mono ?_; rintro e w5 ⟨g2, n2, rfl, hr, hs, hk⟩; have HS5 := Lib.hid ((HSD.out.call hs hk).add hr); clear hr hs hk) | (go_at_call 35; refine (twig_new 16 [] 0 t [.slice (some ⟨g2, 0, none⟩) X2.length n2] _ rfl _ _ [X2] _ rfl rfl rfl (row1 (HS5.out.row _ (.head _))) HSZ.out).mono ?_; rintro e w6 ⟨g3, n3, rfl, hr, hb⟩; have HS6 := Lib.hid ((HS5.out.below hb).add hr); clear hr hb))
    clear HS5 HSD
    have HSG : Hid (Calls _ _ _ _ (Took3 C _ m (sgn C.T [59] σ2))) := Lib.hid (sign3_ok C w6 m σ2 59 [] HS6.out.rs)
    unfold Rx.ptr at HSG
    go_wp2_with fail
    refine HSG.out.mono ?_
    rintro e w9 ⟨rfl, hs, hk⟩
    have HR := Lib.hid ((HS6.out.call hs hk).ret ((HS6.out.call hs hk).row _ (.head _)))
    clear hs hk HSG HS6
    unfold tokV
    go_wp2_with fail
    go_ret
    exact HR.out
  have nb_cancel : (t.text == [99, 97, 110, 99, 101, 108]) = false := by simp [hw_cancel]
  have hQ := HQ.out
  rw [if_neg (hw_cancel)] at hQ
  clear HQ hw_cancel
  have HQ := Lib.hid hQ
  clear hQ
  by_cases hw_join : t.text = [106, 111, 105, 110]
  · have hQ := HQ.out
    rw [if_pos (hw_join)] at hQ
    have pb_join : (t.text == [106, 111, 105, 110]) = true := by simp [hw_join]
    clear hw_join
    clear HQ
    obtain ⟨⟨X2, σ2⟩, q2, hQ2⟩ := Option.bind_eq_some_iff.1 hQ
    obtain ⟨hsz, rfl⟩ := tq_some hQ2
    dsimp only at hsz q2
    have HQ2 := Lib.hid q2
    have HSZ := Lib.hid hsz
    clear hQ hQ2 hsz q2 HST
    obtain ⟨_, c1, _, _, _⟩ := HS1.out.rs.cells
    have f1 := HS1.out.rs.free 1
    have hp1 := HS1.out.rs.lt
    have hbig := HS1.out.rs.big
    have hlt' := HLT2.out.2
    have HS2 := Lib.hid (HS1.out.skip hlt')
    clear HS1
    go_upto_region 24 with (fail)
    clear c1 f1 hp1 hbig hlt'
    generalize wA.setCell ⟨C.p, 1, none⟩ (.int .i64 ((σ.k : Int) + 1)) = W at HS2 ⊢
    clear a0 a1 a2 a3 a4
    obtain ⟨a0, a1, a2, a3, a4⟩ := HS2.out.tok (.head _)
    have HSD := Lib.hid HS2.out.drew
    clear HS2
    go_region_held3 (fun w' => w'.cell? ⟨b, 0, none⟩ = some (.int .i64 t.kind) ∧ w'.cell? ⟨b, 1, none⟩ = some (.string ⟨t.text.toArray⟩) ∧ w'.cell? ⟨b, 2, none⟩ = some (.int .i64 t.n) ∧ w'.cell? ⟨b, 3, none⟩ = some (.int .i64 t.line) ∧ w'.cell? ⟨b, 4, none⟩ = some (.int .i64 t.col)) (first | go_keep | exact HS5.out.tok (.head _) | exact HS6.out.tok (.head _)) (first | (go_at_call 98; refine (HT.out C _ m _ _ HSD.out.rs HQ2.out).mono ?_; rintro e w5 ⟨g2, n2, rfl, hr, hs, hk⟩; have HS5 := Lib.hid ((HSD.out.call hs hk).add hr); clear hr hs hk) | (go_at_call 35; refine (twig_new 17 [] 0 t [.slice (some ⟨g2, 0, none⟩) X2.length n2] _ rfl _ _ [X2] _ rfl rfl rfl (row1 (HS5.out.row _ (.head _))) HSZ.out).mono ?_; rintro e w6 ⟨g3, n3, rfl, hr, hb⟩; have HS6 := Lib.hid ((HS5.out.below hb).add hr); clear hr hb))
    clear HS5 HSD
    have HSG : Hid (Calls _ _ _ _ (Took3 C _ m (sgn C.T [59] σ2))) := Lib.hid (sign3_ok C w6 m σ2 59 [] HS6.out.rs)
    unfold Rx.ptr at HSG
    go_wp2_with fail
    refine HSG.out.mono ?_
    rintro e w9 ⟨rfl, hs, hk⟩
    have HR := Lib.hid ((HS6.out.call hs hk).ret ((HS6.out.call hs hk).row _ (.head _)))
    clear hs hk HSG HS6
    unfold tokV
    go_wp2_with fail
    go_ret
    exact HR.out
  have nb_join : (t.text == [106, 111, 105, 110]) = false := by simp [hw_join]
  have hQ := HQ.out
  rw [if_neg (hw_join)] at hQ
  clear HQ hw_join
  have HQ := Lib.hid hQ
  clear hQ
  by_cases hw_log : t.text = [108, 111, 103]
  · have hQ := HQ.out
    rw [if_pos (hw_log)] at hQ
    have pb_log : (t.text == [108, 111, 103]) = true := by simp [hw_log]
    clear hw_log
    clear HQ
    obtain ⟨⟨X2, σ2⟩, q2, hQ2⟩ := Option.bind_eq_some_iff.1 hQ
    obtain ⟨hsz, rfl⟩ := tq_some hQ2
    dsimp only at hsz q2
    have HQ2 := Lib.hid q2
    have HSZ := Lib.hid hsz
    clear hQ hQ2 hsz q2 HST
    obtain ⟨_, c1, _, _, _⟩ := HS1.out.rs.cells
    have f1 := HS1.out.rs.free 1
    have hp1 := HS1.out.rs.lt
    have hbig := HS1.out.rs.big
    have hlt' := HLT2.out.2
    have HS2 := Lib.hid (HS1.out.skip hlt')
    clear HS1
    go_upto_region 27 with (fail)
    clear c1 f1 hp1 hbig hlt'
    generalize wA.setCell ⟨C.p, 1, none⟩ (.int .i64 ((σ.k : Int) + 1)) = W at HS2 ⊢
    clear a0 a1 a2 a3 a4
    obtain ⟨a0, a1, a2, a3, a4⟩ := HS2.out.tok (.head _)
    have HSD := Lib.hid HS2.out.drew
    clear HS2
    go_region_held3 (fun w' => w'.cell? ⟨b, 0, none⟩ = some (.int .i64 t.kind) ∧ w'.cell? ⟨b, 1, none⟩ = some (.string ⟨t.text.toArray⟩) ∧ w'.cell? ⟨b, 2, none⟩ = some (.int .i64 t.n) ∧ w'.cell? ⟨b, 3, none⟩ = some (.int .i64 t.line) ∧ w'.cell? ⟨b, 4, none⟩ = some (.int .i64 t.col)) (first | go_keep | exact HS5.out.tok (.head _) | exact HS6.out.tok (.head _)) (first | (go_at_call 98; refine (HT.out C _ m _ _ HSD.out.rs HQ2.out).mono ?_; rintro e w5 ⟨g2, n2, rfl, hr, hs, hk⟩; have HS5 := Lib.hid ((HSD.out.call hs hk).add hr); clear hr hs hk) | (go_at_call 35; refine (twig_new 18 [] 0 t [.slice (some ⟨g2, 0, none⟩) X2.length n2] _ rfl _ _ [X2] _ rfl rfl rfl (row1 (HS5.out.row _ (.head _))) HSZ.out).mono ?_; rintro e w6 ⟨g3, n3, rfl, hr, hb⟩; have HS6 := Lib.hid ((HS5.out.below hb).add hr); clear hr hb))
    clear HS5 HSD
    have HSG : Hid (Calls _ _ _ _ (Took3 C _ m (sgn C.T [59] σ2))) := Lib.hid (sign3_ok C w6 m σ2 59 [] HS6.out.rs)
    unfold Rx.ptr at HSG
    go_wp2_with fail
    refine HSG.out.mono ?_
    rintro e w9 ⟨rfl, hs, hk⟩
    have HR := Lib.hid ((HS6.out.call hs hk).ret ((HS6.out.call hs hk).row _ (.head _)))
    clear hs hk HSG HS6
    unfold tokV
    go_wp2_with fail
    go_ret
    exact HR.out
  have nb_log : (t.text == [108, 111, 103]) = false := by simp [hw_log]
  have hQ := HQ.out
  rw [if_neg (hw_log)] at hQ
  clear HQ hw_log
  have HQ := Lib.hid hQ
  clear hQ
  by_cases hw_post : t.text = [112, 111, 115, 116]
  · have hQ := HQ.out
    rw [if_pos (.inl hw_post)] at hQ
    have pb_post : (t.text == [112, 111, 115, 116]) = true := by simp [hw_post]
    clear hw_post
    clear HQ
    obtain ⟨⟨X2, σ2⟩, q2, hQ2⟩ := Option.bind_eq_some_iff.1 hQ
    have hx2 := Option.some.inj hQ2
    subst hx2
    have HC := Lib.hid (HP.out C _ m σ _ HS1.out.rs q2)
    clear hQ hQ2 q2 HST
    unfold Rx.ptr at HC
    go_wp2_with fail
    refine HC.out.mono ?_
    rintro e w4 ⟨g1, n1, rfl, hr, hs, hk⟩
    have HS6 := Lib.hid ((HS1.out.call hs hk).add hr)
    clear hr hs hk HC HS1
    dsimp only at HS6 ⊢
    have HSG : Hid (Calls _ _ _ _ (Took3 C _ m (sgn C.T [59] σ2))) := Lib.hid (sign3_ok C w4 m σ2 59 [] HS6.out.rs)
    unfold Rx.ptr at HSG
    go_wp2_with fail
    refine HSG.out.mono ?_
    rintro e w9 ⟨rfl, hs, hk⟩
    have HR := Lib.hid ((HS6.out.call hs hk).ret ((HS6.out.call hs hk).row _ (.head _)))
    clear hs hk HSG HS6
    unfold tokV
    go_wp2_with fail
    go_ret
    exact HR.out
  have nb_post : (t.text == [112, 111, 115, 116]) = false := by simp [hw_post]
  by_cases hw_spawn : t.text = [115, 112, 97, 119, 110]
  · have hQ := HQ.out
    rw [if_pos (.inr hw_spawn)] at hQ
    have pb_spawn : (t.text == [115, 112, 97, 119, 110]) = true := by simp [hw_spawn]
    clear hw_spawn
    clear HQ
    obtain ⟨⟨X2, σ2⟩, q2, hQ2⟩ := Option.bind_eq_some_iff.1 hQ
    have hx2 := Option.some.inj hQ2
    subst hx2
    have HC := Lib.hid (HP.out C _ m σ _ HS1.out.rs q2)
    clear hQ hQ2 q2 HST
    unfold Rx.ptr at HC
    go_wp2_with fail
    refine HC.out.mono ?_
    rintro e w4 ⟨g1, n1, rfl, hr, hs, hk⟩
    have HS6 := Lib.hid ((HS1.out.call hs hk).add hr)
    clear hr hs hk HC HS1
    dsimp only at HS6 ⊢
    have HSG : Hid (Calls _ _ _ _ (Took3 C _ m (sgn C.T [59] σ2))) := Lib.hid (sign3_ok C w4 m σ2 59 [] HS6.out.rs)
    unfold Rx.ptr at HSG
    go_wp2_with fail
    refine HSG.out.mono ?_
    rintro e w9 ⟨rfl, hs, hk⟩
    have HR := Lib.hid ((HS6.out.call hs hk).ret ((HS6.out.call hs hk).row _ (.head _)))
    clear hs hk HSG HS6
    unfold tokV
    go_wp2_with fail
    go_ret
    exact HR.out
  have nb_spawn : (t.text == [115, 112, 97, 119, 110]) = false := by simp [hw_spawn]
  have hQ := HQ.out
  rw [if_neg (by rintro (h | h); exact hw_post h; exact hw_spawn h)] at hQ
  clear HQ hw_post hw_spawn
  have HQ := Lib.hid hQ
  clear hQ
  by_cases hw_enable : t.text = [101, 110, 97, 98, 108, 101]
  · have hQ := HQ.out
    rw [if_pos (hw_enable)] at hQ
    have pb_enable : (t.text == [101, 110, 97, 98, 108, 101]) = true := by simp [hw_enable]
    clear hw_enable
    clear HQ
    obtain ⟨hsz, rfl⟩ := tq_some hQ
    clear hQ hsz HST
    obtain ⟨_, c1, _, _, _⟩ := HS1.out.rs.cells
    have f1 := HS1.out.rs.free 1
    have hp1 := HS1.out.rs.lt
    have hbig := HS1.out.rs.big
    have hlt' := HLT2.out.2
    have HS2 := Lib.hid (HS1.out.skip hlt')
    clear HS1
    go_upto_region 33 with (fail)
    clear c1 f1 hp1 hbig hlt'
    generalize wA.setCell ⟨C.p, 1, none⟩ (.int .i64 ((σ.k : Int) + 1)) = W at HS2 ⊢
    clear a0 a1 a2 a3 a4
    obtain ⟨a0, a1, a2, a3, a4⟩ := HS2.out.tok (.head _)
    have HSD := Lib.hid HS2.out.drew
    have HKD : Hid (Calls _ _ _ _ (Took3 C _ m (knd C.T 1 (skp σ)))) := Lib.hid (kind3_ok C _ m _ 1 HSD.out.rs (by decide))
    clear HS2
    unfold Rx.ptr at HKD
    have hfd := field1
    go_region_held3 (fun w' => w'.cell? ⟨b, 0, none⟩ = some (.int .i64 t.kind) ∧ w'.cell? ⟨b, 1, none⟩ = some (.string ⟨t.text.toArray⟩) ∧ w'.cell? ⟨b, 2, none⟩ = some (.int .i64 t.n) ∧ w'.cell? ⟨b, 3, none⟩ = some (.int .i64 t.line) ∧ w'.cell? ⟨b, 4, none⟩ = some (.int .i64 t.col)) (first | go_keep | exact HS5.out.tok (.head _) | exact HS6.out.tok (.head _)) (first | (go_at_call 59; refine HKD.out.mono ?_; rintro e w5 ⟨rfl, hs, hk⟩; have HS5 := Lib.hid (HSD.out.call hs hk); clear hs hk; unfold tokV) | (go_at_call 35; refine (twig_nil 21 (knd C.T 1 (skp σ)).1.text 0 t _).mono ?_; rintro e w6 ⟨g3, n3, rfl, hr, hb⟩; have HS6 := Lib.hid ((HS5.out.below hb).add hr); clear hr hb))
    clear HS5 HSD HKD hfd
    have HSG : Hid (Calls _ _ _ _ (Took3 C _ m (sgn C.T [59] (knd C.T 1 (skp σ)).2))) := Lib.hid (sign3_ok C w6 m (knd C.T 1 (skp σ)).2 59 [] HS6.out.rs)
    unfold Rx.ptr at HSG
    go_wp2_with fail
    refine HSG.out.mono ?_
    rintro e w9 ⟨rfl, hs, hk⟩
    have HR := Lib.hid ((HS6.out.call hs hk).ret ((HS6.out.call hs hk).row _ (.head _)))
    clear hs hk HSG HS6
    unfold tokV
    go_wp2_with fail
    go_ret
    exact HR.out
  have nb_enable : (t.text == [101, 110, 97, 98, 108, 101]) = false := by simp [hw_enable]
  have hQ := HQ.out
  rw [if_neg (hw_enable)] at hQ
  clear HQ hw_enable
  have HQ := Lib.hid hQ
  clear hQ
  by_cases hw_disable : t.text = [100, 105, 115, 97, 98, 108, 101]
  · have hQ := HQ.out
    rw [if_pos (hw_disable)] at hQ
    have pb_disable : (t.text == [100, 105, 115, 97, 98, 108, 101]) = true := by simp [hw_disable]
    clear hw_disable
    clear HQ
    obtain ⟨hsz, rfl⟩ := tq_some hQ
    clear hQ hsz HST
    obtain ⟨_, c1, _, _, _⟩ := HS1.out.rs.cells
    have f1 := HS1.out.rs.free 1
    have hp1 := HS1.out.rs.lt
    have hbig := HS1.out.rs.big
    have hlt' := HLT2.out.2
    have HS2 := Lib.hid (HS1.out.skip hlt')
    clear HS1
    go_upto_region 36 with (fail)
    clear c1 f1 hp1 hbig hlt'
    generalize wA.setCell ⟨C.p, 1, none⟩ (.int .i64 ((σ.k : Int) + 1)) = W at HS2 ⊢
    clear a0 a1 a2 a3 a4
    obtain ⟨a0, a1, a2, a3, a4⟩ := HS2.out.tok (.head _)
    have HSD := Lib.hid HS2.out.drew
    have HKD : Hid (Calls _ _ _ _ (Took3 C _ m (knd C.T 1 (skp σ)))) := Lib.hid (kind3_ok C _ m _ 1 HSD.out.rs (by decide))
    clear HS2
    unfold Rx.ptr at HKD
    have hfd := field1
    go_region_held3 (fun w' => w'.cell? ⟨b, 0, none⟩ = some (.int .i64 t.kind) ∧ w'.cell? ⟨b, 1, none⟩ = some (.string ⟨t.text.toArray⟩) ∧ w'.cell? ⟨b, 2, none⟩ = some (.int .i64 t.n) ∧ w'.cell? ⟨b, 3, none⟩ = some (.int .i64 t.line) ∧ w'.cell? ⟨b, 4, none⟩ = some (.int .i64 t.col)) (first | go_keep | exact HS5.out.tok (.head _) | exact HS6.out.tok (.head _)) (first | (go_at_call 59; refine HKD.out.mono ?_; rintro e w5 ⟨rfl, hs, hk⟩; have HS5 := Lib.hid (HSD.out.call hs hk); clear hs hk; unfold tokV) | (go_at_call 35; refine (twig_nil 22 (knd C.T 1 (skp σ)).1.text 0 t _).mono ?_; rintro e w6 ⟨g3, n3, rfl, hr, hb⟩; have HS6 := Lib.hid ((HS5.out.below hb).add hr); clear hr hb))
    clear HS5 HSD HKD hfd
    have HSG : Hid (Calls _ _ _ _ (Took3 C _ m (sgn C.T [59] (knd C.T 1 (skp σ)).2))) := Lib.hid (sign3_ok C w6 m (knd C.T 1 (skp σ)).2 59 [] HS6.out.rs)
    unfold Rx.ptr at HSG
    go_wp2_with fail
    refine HSG.out.mono ?_
    rintro e w9 ⟨rfl, hs, hk⟩
    have HR := Lib.hid ((HS6.out.call hs hk).ret ((HS6.out.call hs hk).row _ (.head _)))
    clear hs hk HSG HS6
    unfold tokV
    go_wp2_with fail
    go_ret
    exact HR.out
  have nb_disable : (t.text == [100, 105, 115, 97, 98, 108, 101]) = false := by simp [hw_disable]
  have hQ := HQ.out
  rw [if_neg (hw_disable)] at hQ
  clear HQ hw_disable
  have HQ := Lib.hid hQ
  clear hQ
  by_cases hw_return : t.text = [114, 101, 116, 117, 114, 110]
  · have hQ := HQ.out
    rw [if_pos (hw_return)] at hQ
    have pb_return : (t.text == [114, 101, 116, 117, 114, 110]) = true := by simp [hw_return]
    clear hw_return
    clear HQ
    obtain ⟨hsz, rfl⟩ := tq_some hQ
    clear hQ hsz HST
    obtain ⟨_, c1, _, _, _⟩ := HS1.out.rs.cells
    have f1 := HS1.out.rs.free 1
    have hp1 := HS1.out.rs.lt
    have hbig := HS1.out.rs.big
    have hlt' := HLT2.out.2
    have HS2 := Lib.hid (HS1.out.skip hlt')
    clear HS1
    go_upto_region 39 with (fail)
    clear c1 f1 hp1 hbig hlt'
    generalize wA.setCell ⟨C.p, 1, none⟩ (.int .i64 ((σ.k : Int) + 1)) = W at HS2 ⊢
    clear a0 a1 a2 a3 a4
    obtain ⟨a0, a1, a2, a3, a4⟩ := HS2.out.tok (.head _)
    go_wp2_with fail
    refine (twig_nil 25 [] 0 t _).mono ?_
    rintro e w6 ⟨g3, n3, rfl, hr, hb⟩
    have HS6 := Lib.hid ((HS2.out.below hb).add hr)
    clear hr hb HS2
    have HSG : Hid (Calls _ _ _ _ (Took3 C _ m (sgn C.T [59] (skp σ)))) := Lib.hid (sign3_ok C w6 m (skp σ) 59 [] HS6.out.rs)
    unfold Rx.ptr at HSG
    go_wp2_with fail
    refine HSG.out.mono ?_
    rintro e w9 ⟨rfl, hs, hk⟩
    have HR := Lib.hid ((HS6.out.call hs hk).ret ((HS6.out.call hs hk).row _ (.head _)))
    clear hs hk HSG HS6
    unfold tokV
    go_wp2_with fail
    go_ret
    exact HR.out
  have nb_return : (t.text == [114, 101, 116, 117, 114, 110]) = false := by simp [hw_return]
  have hQ := HQ.out
  rw [if_neg (hw_return)] at hQ
  clear HQ hw_return
  have HQ := Lib.hid hQ
  clear hQ
  have HC := Lib.hid (HST.out _ HQ.out)
  unfold tokV at HC
  clear HQ HST
  go_wp2_with fail
  refine HC.out.mono ?_
  rintro e w4 ⟨g1, n1, rfl, hr, hs, hk⟩
  have HR := Lib.hid ((HS1.out.call hs hk).ret hr)
  clear hr hs hk HC HS1
  go_wp2_with fail
  go_ret
  exact HR.out

end Go.Proofs.YtpeoefbibjbinaaGreat
