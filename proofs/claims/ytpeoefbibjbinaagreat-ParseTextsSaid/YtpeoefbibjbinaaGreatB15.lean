/- Each part of the document's parser, for every number of rounds; Tokens of the document's parser; parser.use, typeName, looper, global, member, onLooper. -/
import Derived.Test.YtpeoefbibjbinaaGreatB11
import Derived.Test.YtpeoefbibjbinaaGreatB12
import Derived.Test.YtpeoefbibjbinaaGreatB13
import Derived.Test.YtpeoefbibjbinaaGreatB14
import Derived.Test.YtpeoefbibjbinaaGreatB06
namespace Go.Proofs.YtpeoefbibjbinaaGreat
open Go.RowKit

def CtS (n : Nat) : Prop := ∀ (t : Tok) (C : Rx) (w : World) (m : Nat) (σ : Sg) (x : List Tw × Sg), RS w C m σ → Q C.T n (.set t) m σ = some x → Calls Tryz.prog 96 #[C.ptr, tokV t] w (Ret3 C w m x)
structure Parts3 (i : Nat) : Prop where
  term : Ct3 98 i .term
  sum : Ct3 115 i .sum
  product : Ct3 129 i .product
  unary : Ct3 136 i .unary
  unaryIf : Ct3 141 i .unaryIf
  termIf : Ct3 135 i .termIf
  blockIf : Ct3 140 i .blockIf
  tight : Ct3 128 i .tight
  first : Ct3 134 i .first
  var : Ct3 114 i .var
  block : Ct3 58 i .block
  stmt : Ct3 81 i .stmt
  branch : Ct3 97 i .branch
  post : Ct3 99 i .post
  set : CtS i
theorem ct3_zero (f : Nat) (g : Gq) : Ct3 f 0 g := fun _ _ _ _ _ _ h => by rw [Q] at h; cases h
theorem parts3_all : ∀ n i, i ≤ n → Parts3 i
  | 0, i, h => by
    obtain rfl : i = 0 := by omega
    exact ⟨ct3_zero _ _, ct3_zero _ _, ct3_zero _ _, ct3_zero _ _, ct3_zero _ _, ct3_zero _ _, ct3_zero _ _, ct3_zero _ _, ct3_zero _ _, ct3_zero _ _, ct3_zero _ _, ct3_zero _ _, ct3_zero _ _, ct3_zero _ _, fun _ _ _ _ _ _ _ h => by rw [Q] at h; cases h⟩
  | n + 1, i, h => by
    have ih := parts3_all n
    by_cases hi : i ≤ n
    · exact ih i hi
    obtain rfl : i = n + 1 := by omega
    have hn := ih n (Nat.le_refl _)
    exact ⟨term3_ok n (Lib.hid hn.sum), sum3_ok n (Lib.hid fun i hi => (ih i hi).product), product3_ok n (Lib.hid fun i hi => (ih i hi).unary), unary3_ok n (Lib.hid hn.unaryIf) (Lib.hid hn.tight), unaryIf3_ok n (Lib.hid hn.unary), termIf3_ok n (Lib.hid hn.term), blockIf3_ok n (Lib.hid hn.block), tight3_ok n (Lib.hid hn.first) (Lib.hid fun i hi => (ih i hi).termIf), first3_ok n (Lib.hid hn.blockIf) (Lib.hid hn.termIf), variable3_ok n (Lib.hid hn.tight), block3_ok n (Lib.hid fun i hi => (ih i hi).stmt), statement3_ok n (Lib.hid hn.set) (Lib.hid hn.term) (Lib.hid hn.branch) (Lib.hid hn.post), branch3_ok n (Lib.hid hn.term) (Lib.hid hn.block), post3_ok n (Lib.hid hn.term) (Lib.hid hn.var), fun t C w m σ x h hq => set3_ok n t (Lib.hid hn.var) (Lib.hid hn.term) C w m σ x h hq⟩
theorem decl3 : ∀ n, Ct3 34 n .decl
  | 0 => ct3_zero _ _
  | n + 1 => declaration3_ok n (Lib.hid fun i hi => (parts3_all n i hi).block)

/-- All declarations of tokens, as the document's parser takes them. -/
def QD (T : List Tok) : Nat → List (List Tw) → Sg → Option (List Tw × Sg)
  | 0, _, _ => none
  | n + 1, l, σ =>
    if σ.er = 0 ∧ σ.k < T.length then (Q T n .decl 0 σ).bind fun x => QD T n (l ++ [x.1]) x.2
    else if σ.er = 0 then tq ⟨1, [], 0, 1, 1⟩ l σ
    else if l.length ≤ 100000000 then some ([], σ) else none
theorem qd_len (T : List Tok) (x : List Tw × Sg) : ∀ (n : Nat) (l : List (List Tw)) (σ : Sg), QD T n l σ = some x → l.length ≤ 100000000
  | 0, _, _, h => by rw [QD] at h; cases h
  | n + 1, l, σ, h => by
    rw [QD] at h
    split at h
    · obtain ⟨y, _, h2⟩ := Option.bind_eq_some_iff.1 h
      have := qd_len T x n _ _ h2
      simp at this
      omega
    · split at h
      · exact tq_len h
      · split at h
        · assumption
        · cases h
/-- What Tokens answers: a tree, or what is wrong. -/
def RetT3 (T : List Tok) (w : World) (x : List Tw × Sg) (e : Ending) (w' : World) : Prop :=
  if x.2.er = 0 then ∃ g c, e = .returned (.tuple #[.agg #[.slice (some ⟨g, 0, none⟩) x.1.length c], .slice none 0 0]) ∧ R3 w' (.slice (some ⟨g, 0, none⟩) x.1.length c) x.1 ∧ Below w.heap.size w w'
  else ∃ g, e = .returned (.tuple #[.agg #[.slice none 0 0], .slice (some ⟨g, 0, none⟩) 1 1]) ∧ w'.heap[g]? = some (.cells #[.int .i64 (hd (T.drop x.2.wh.toNat)).line, .int .i64 (hd (T.drop x.2.wh.toNat)).col, .int .i64 x.2.er] 48 (0, 0)) ∧ w.heap.size ≤ g ∧ Below w.heap.size w w'
end Go.Proofs.YtpeoefbibjbinaaGreat

namespace Go.Proofs.YtpeoefbibjbinaaGreat
open Go.RowKit

set_option maxRecDepth 100000 in
set_option maxHeartbeats 4000000 in
theorem tokens3_ok (n : Nat) (A : Option Addr) (T : List Tok) (cap : Nat) (w : World) (hT : TkB w w.heap.size A T) (hb : T.length ≤ 1000000) (x : List Tw × Sg) (hQ : QD T n [] ⟨0, 0, 0⟩ = some x) (hwh : x.2.er ≠ 0 → 0 ≤ x.2.wh) :
    Calls Tryz.prog 18 #[.slice A T.length cap] w (RetT3 T w x) := by
  obtain ⟨i0, hi0, hz0, hz1, hz2⟩ := info_parts infoW
  obtain ⟨C, hC⟩ : ∃ C : Rx, C = ⟨w.heap.size + 1, A, cap, T⟩ := ⟨_, rfl⟩
  obtain ⟨W0, hW0⟩ : ∃ W0 : World, W0 = (w.alloc (.cells #[.slice none 0 0] 26)).alloc (.cells #[.slice A T.length cap, .int .i64 0, .int .i64 0, .int .i64 0, .int .i64 0] 74) := ⟨_, rfl⟩
  have hbe : Below w.heap.size w W0 := by rw [hW0]; exact ((Below.refl _ w).alloc (Nat.le_refl _) _).alloc (by simp) _
  have hsz : W0.heap.size = w.heap.size + 2 := by rw [hW0]; simp
  have h0 : W0.heap[w.heap.size]? = some (.cells #[.slice none 0 0] 26 (0, 0)) := by
    rw [hW0, Below.heap_alloc _ _ _ (by simp)]
    exact heap_alloc_new w _
  have h1 : W0.heap[w.heap.size + 1]? = some (.cells #[.slice A T.length cap, .int .i64 0, .int .i64 0, .int .i64 0, .int .i64 0] 74 (0, 0)) := by
    rw [hW0]
    have := heap_alloc_new (w.alloc (.cells #[.slice none 0 0] 26)) (.cells #[.slice A T.length cap, .int .i64 0, .int .i64 0, .int .i64 0, .int .i64 0] 74)
    rwa [World.size_alloc] at this
  have hrs : RS W0 C 0 ⟨0, 0, 0⟩ := by
    subst hC
    refine ⟨h1, ?_, Nat.zero_le _, hb, by decide⟩
    intro i t hi
    obtain ⟨g, off, e1, e2, e3⟩ := hT.below hbe (Nat.le_refl _) i t hi
    exact ⟨g, off, e1, Nat.lt_succ_of_lt e2, e3⟩
  have hCp : C.p = w.heap.size + 1 := by rw [hC]
  have hCT : C.T = T := by rw [hC]
  have hptr : C.ptr = .pointer (some ⟨w.heap.size + 1, 0, none⟩) := by rw [hC]; rfl
  have hpw : C.p < W0.heap.size := by omega
  have HS0 := Lib.hid (S3.start hrs)
  have HQ0 := Lib.hid hQ
  have HD : Hid (∀ (i : Nat), Ct3 34 i .decl) := Lib.hid decl3
  have HW := Lib.hid hwh
  have H0 := Lib.hid h0
  have HBE := Lib.hid hbe
  have HSZ0 := Lib.hid hsz
  have HCT := Lib.hid hCT
  have HCP := Lib.hid hCp
  have HC := Lib.hid hptr
  have hCA : C.A = A := by rw [hC]
  have HCA := Lib.hid hCA
  clear hrs hQ hwh h0 h1 hbe hCT hptr hCp hT hC hsz hCA
  go_enter Tryz.func18, Tryz.ntmps18
  go_wp2_with fail
  change Code.wp _ _ _ _ ((w.alloc (.cells #[.slice none 0 0] 26)).alloc (.cells #[.slice A T.length cap, .int .i64 0, .int .i64 0, .int .i64 0, .int .i64 0] 74))
  rw [← hW0]
  clear hW0
  go_loopg [5] n (fun i v5 wr => ∃ (P : List (Value × List Tw)) (lA : Option Addr) (lc : Nat) (σ' : Sg), i ≤ n ∧ v5 = .slice lA P.length lc ∧ S3 C W0 wr 0 σ' [] P ∧ wr.ownsRow W0.heap.size 76 1 (.slice lA P.length lc) P.length (P.map (·.1)) ∧ QD T i (P.map (·.2)) σ' = some x)
  case atStart => exact ⟨[], none, 0, _, Nat.le_refl _, rfl, HS0.out, World.ownsRow_nil _ _ _ _, HQ0.out⟩
  case round =>
    clear HS0 HQ0
    obtain ⟨P, lA, lc, σ1, hin, rfl, hS, hO, hQ⟩ := hrel
    have HS1 := Lib.hid hS
    have HO1 := Lib.hid hO
    obtain ⟨c0, c1, c2, c3, c4⟩ := hS.rs.cells
    have hpr := hS.rs.lt
    have hbig := hS.rs.big
    have hkle := hS.rs.kle
    have hcp := HCP.out
    have hct := HCT.out
    have e0 := (HS1.out.kr.block w.heap.size (by have := HSZ0.out; omega) (by omega)).trans H0.out
    rw [hcp] at c0 c1 c2 c3 c4 hpr
    rw [hct] at hbig hkle
    have HE0 := Lib.hid e0
    clear hS hO hcp hct c0 c2 e0
    cases gk with
    | zero => rw [QD] at hQ; cases hQ
    | succ i =>
    rw [QD] at hQ
    by_cases he : σ1.er = 0
    · by_cases hlt : σ1.k < T.length
      · rw [if_pos ⟨he, hlt⟩] at hQ
        obtain ⟨⟨X1, σ2⟩, q2, hQ2⟩ := Option.bind_eq_some_iff.1 hQ
        have HC1 := Lib.hid (HD.out i C wr 0 σ1 (X1, σ2) HS1.out.rs (by rw [HCT.out]; exact q2))
        have HQ2 := Lib.hid hQ2
        rw [HC.out] at HC1
        rw [he] at c3
        clear hQ hQ2 q2 he
        go_wp2_with fail
        refine HC1.out.mono ?_
        rintro e w3 ⟨g1, n1, rfl, hr, hs, hk⟩
        dsimp only at hs hr ⊢
        have HS3 := Lib.hid ((HS1.out.call hs hk).add hr)
        have HO3 := Lib.hid (own_kr HO1.out hk hpw)
        have hsz3 : W0.heap.size ≤ w3.heap.size := HS3.out.kr.size
        have hpl : P.length ≤ 100000000 := by
          have := qd_len _ _ _ _ _ HQ2.out
          simp at this
          omega
        clear hr hs hk HS1 HO1 HC1 c1 c3 c4
        go_wp2_with (at_builtin; refine wpList_append_lies _ rfl _ _ 75 rfl W0.heap.size 76 i0 (.slice none 0 0) 1 24 Tryz.underlying75 hi0 hz0 hz1 hz2 rfl (by decide) (.slice lA P.length lc) P.length _ rfl (HO3.out.alloc _) ⟨w3.heap.size, 0, none⟩ 1 1 [.slice (some ⟨g1, 0, none⟩) X1.length n1] rfl rfl (World.news_of_block (cs := #[.slice (some ⟨g1, 0, none⟩) X1.length n1]) (t := 76) (fr := (0, 0)) (heap_alloc_new w3 _)) (by simp [Value.oneCell']) (by decide) (by unfold maxLen; omega) (by omega) (by simp; omega) (w3.heap.size + 1) (by simp) ?_; intro gg cap w4 hown hgrow hat hltg)
        have HS4 := Lib.hid ((HS3.out.al _).grown (HO3.out.alloc _) hgrow hpw (by intro y hy cs; simp at hy))
        have HO4 := Lib.hid hown
        clear hown hgrow hat HS3 HO3
        go_wp2_with fail
        go_roundg i
        case measure => omega
        case rel =>
          refine ⟨P ++ [(.slice (some ⟨g1, 0, none⟩) X1.length n1, X1)], some ⟨gg, 0, none⟩, cap, σ2, by omega, by simp, ⟨HS4.out.rs, HS4.out.kr, HS4.out.loc, fun y hy => HS4.out.row y (by simp at hy ⊢; exact hy.symm)⟩, ?_, ?_⟩
          · rw [List.length_append, List.map_append]; exact HO4.out
          · rw [List.map_append]; exact HQ2.out
      · rw [if_neg (by intro h; exact hlt h.2), if_pos he] at hQ
        obtain ⟨hsz, rfl⟩ := tq_some hQ
        have HSZ := Lib.hid hsz
        have HER := Lib.hid he
        rw [he] at c3
        clear hQ hsz he
        go_wp2_with fail
        refine (twig_own 1 [] 0 ⟨0, [], 0, 1, 1⟩ P _ lA lc _ _ rfl HO1.out HS1.out.row HSZ.out).mono ?_
        rintro e w5 ⟨g2, c2, rfl, hr, hb5⟩
        have h05 := (hb5.block w.heap.size (lt_of_block HE0.out)).trans HE0.out
        have k0 := cell_of_one h05
        have f0 := free_of_one h05
        have l0 := lt_of_block h05
        have hfar := fun (u : Value) => set_other w5 w.heap.size 0 u
        have hr' : R3 (w5.setCell ⟨w.heap.size, 0, none⟩ (.slice (some ⟨g2, 0, none⟩) (twL (at_ ⟨0, [], 0, 1, 1⟩ 1 [] 0) (P.map (·.2))).length c2)) (.slice (some ⟨g2, 0, none⟩) (twL (at_ ⟨0, [], 0, 1, 1⟩ 1 [] 0) (P.map (·.2))).length c2) (twL (at_ ⟨0, [], 0, 1, 1⟩ 1 [] 0) (P.map (·.2))) := hr.keep fun g cs t m hi ht => hfar _ g (by
          rintro rfl
          rw [h05] at hi
          injection hi with hi
          injection hi with _ e _
          rcases ht with rfl | rfl <;> exact absurd e (by decide))
        have hbw : Below w.heap.size w (w5.setCell ⟨w.heap.size, 0, none⟩ (.slice (some ⟨g2, 0, none⟩) (twL (at_ ⟨0, [], 0, 1, 1⟩ 1 [] 0) (P.map (·.2))).length c2)) := by
          have h1 := (HS1.out.kr.below hpw)
          have h2 := h1.trans (hb5.mono (by have := HS1.out.kr.size; omega))
          exact (HBE.out.trans (h2.mono (by rw [HCP.out]; omega))).setCell (p := ⟨w.heap.size, 0, none⟩) (Nat.le_refl _) _
        have HR := Lib.hid hr'
        have HB := Lib.hid hbw
        clear hr hb5 h05 hfar hr' hbw HS1 HO1 HE0 c1 c3 c4
        go_wp2_with fail
        refine bodyPost_ret (v := .tuple #[.agg #[.slice (some ⟨g2, 0, none⟩) (twL (at_ ⟨0, [], 0, 1, 1⟩ 1 [] 0) (P.map (·.2))).length c2], .slice none 0 0]) (by simp [results, Tryz.results18, go_sem, k0]) rfl ?_
        unfold RetT3
        rw [if_pos HER.out]
        exact ⟨g2, c2, rfl, HR.out, HB.out⟩
    · rw [if_neg (by intro h; exact he h.1), if_neg he] at hQ
      have hl : (P.map (·.2)).length ≤ 100000000 := by
        by_cases hl : (P.map (·.2)).length ≤ 100000000
        · exact hl
        · rw [if_neg hl] at hQ
          cases hQ
      rw [if_pos hl] at hQ
      have hx := Option.some.inj hQ
      subst hx
      obtain ⟨j, hj⟩ : ∃ j : Nat, σ1.wh = j := ⟨σ1.wh.toNat, by have := HW.out he; simp only at this; omega⟩
      have HER := Lib.hid he
      have hb0 : (σ1.er == 0) = false := by simpa using he
      rw [hj] at c4
      have HJ := Lib.hid hj
      have htk := HS1.out.rs.toks
      rw [HCA.out, HCT.out] at htk
      have HTK := Lib.hid htk
      have HBW : Hid (Below w.heap.size w wr) := Lib.hid (HBE.out.trans ((HS1.out.kr.below hpw).mono (by rw [HCP.out]; omega)))
      have h0r := HE0.out
      have k0 := cell_of_one h0r
      have f0 := free_of_one h0r
      have l0 := lt_of_block h0r
      clear hQ hl hj he htk h0r HS1 HO1 HE0 HW
      by_cases hjl : j < T.length
      · obtain ⟨g, off, rfl, hg, t0, t1, t2, t3, t4⟩ := HTK.out j _ (hd_at T j hjl)
        generalize ht : hd (T.drop j) = tk at *
        have HT := Lib.hid ht
        have hgr : g < wr.heap.size := by have := HCP.out; have := HBW.out.size; omega
        clear ht t0 t1 t2
        go_wp2_with fail
        go_region
        go_wp2_with fail
        have hnew : ((((wr.setCell ⟨w.heap.size, 0, none⟩ (.slice none 0 0)).alloc (.cells #[.int .i64 tk.line, .int .i64 tk.col, .int .i64 σ1.er] 48)).alloc (.cells #[.int .i64 tk.line, .int .i64 tk.col, .int .i64 σ1.er] 48)).drew).heap[wr.heap.size + 1]? = some (.cells #[.int .i64 tk.line, .int .i64 tk.col, .int .i64 σ1.er] 48 (0, 0)) := by
          have := heap_alloc_new ((wr.setCell ⟨w.heap.size, 0, none⟩ (.slice none 0 0)).alloc (.cells #[.int .i64 tk.line, .int .i64 tk.col, .int .i64 σ1.er] 48)) (.cells #[.int .i64 tk.line, .int .i64 tk.col, .int .i64 σ1.er] 48)
          have hs : (wr.setCell ⟨w.heap.size, 0, none⟩ (.slice none 0 0)).heap.size = wr.heap.size := by simp [World.setCell]
          rw [World.size_alloc, hs] at this
          exact this
        have hbf : Below w.heap.size w ((((wr.setCell ⟨w.heap.size, 0, none⟩ (.slice none 0 0)).alloc (.cells #[.int .i64 tk.line, .int .i64 tk.col, .int .i64 σ1.er] 48)).alloc (.cells #[.int .i64 tk.line, .int .i64 tk.col, .int .i64 σ1.er] 48)).drew) :=
          (((HBW.out.setCell (p := ⟨w.heap.size, 0, none⟩) (Nat.le_refl _) _).alloc (by have := HBW.out.size; simp [World.setCell]; omega) _).alloc (by have := HBW.out.size; simp [World.setCell]; omega) _).drew
        have HN := Lib.hid hnew
        have HBF := Lib.hid hbf
        clear hnew hbf
        refine bodyPost_ret (v := .tuple #[.agg #[.slice none 0 0], .slice (some ⟨wr.heap.size + 1, 0, none⟩) 1 1]) (by simp [results, Tryz.results18, go_sem, k0, l0]) rfl ?_
        unfold RetT3
        rw [if_neg HER.out]
        refine ⟨wr.heap.size + 1, rfl, ?_, by have := HBW.out.size; omega, HBF.out⟩
        dsimp only
        rw [HJ.out, Int.toNat_natCast, HT.out]
        exact HN.out
      · have ht : hd (T.drop j) = ⟨0, [], 0, 0, 0⟩ := hd_end T j (by omega)
        have HT := Lib.hid ht
        have hjn : ¬ ((j : Int) < (T.length : Int)) := by omega
        clear ht
        go_wp2_with fail
        go_region
        go_wp2_with fail
        have hnew : ((((wr.setCell ⟨w.heap.size, 0, none⟩ (.slice none 0 0)).alloc (.cells #[.int .i64 0, .int .i64 0, .int .i64 σ1.er] 48)).alloc (.cells #[.int .i64 0, .int .i64 0, .int .i64 σ1.er] 48)).drew).heap[wr.heap.size + 1]? = some (.cells #[.int .i64 0, .int .i64 0, .int .i64 σ1.er] 48 (0, 0)) := by
          have := heap_alloc_new ((wr.setCell ⟨w.heap.size, 0, none⟩ (.slice none 0 0)).alloc (.cells #[.int .i64 0, .int .i64 0, .int .i64 σ1.er] 48)) (.cells #[.int .i64 0, .int .i64 0, .int .i64 σ1.er] 48)
          have hs : (wr.setCell ⟨w.heap.size, 0, none⟩ (.slice none 0 0)).heap.size = wr.heap.size := by simp [World.setCell]
          rw [World.size_alloc, hs] at this
          exact this
        have hbf : Below w.heap.size w ((((wr.setCell ⟨w.heap.size, 0, none⟩ (.slice none 0 0)).alloc (.cells #[.int .i64 0, .int .i64 0, .int .i64 σ1.er] 48)).alloc (.cells #[.int .i64 0, .int .i64 0, .int .i64 σ1.er] 48)).drew) :=
          (((HBW.out.setCell (p := ⟨w.heap.size, 0, none⟩) (Nat.le_refl _) _).alloc (by have := HBW.out.size; simp [World.setCell]; omega) _).alloc (by have := HBW.out.size; simp [World.setCell]; omega) _).drew
        have HN := Lib.hid hnew
        have HBF := Lib.hid hbf
        clear hnew hbf
        refine bodyPost_ret (v := .tuple #[.agg #[.slice none 0 0], .slice (some ⟨wr.heap.size + 1, 0, none⟩) 1 1]) (by simp [results, Tryz.results18, go_sem, k0, l0]) rfl ?_
        unfold RetT3
        rw [if_neg HER.out]
        refine ⟨wr.heap.size + 1, rfl, ?_, by have := HBW.out.size; omega, HBF.out⟩
        dsimp only
        rw [HJ.out, Int.toNat_natCast, HT.out]
        exact HN.out
end Go.Proofs.YtpeoefbibjbinaaGreat

namespace Go.Proofs.YtpeoefbibjbinaaGreat
open Go.RowKit

theorem twig6 {w : World} {g : Nat} {a0 a1 a2 a3 a4 a5 : Value} {t : TypeId} (h : w.heap[g]? = some (.cells #[a0, a1, a2, a3, a4, a5] t (0, 0))) :
    w.cell? ⟨g, 0, none⟩ = some a0 ∧ w.cell? ⟨g, 1, none⟩ = some a1 ∧ w.cell? ⟨g, 2, none⟩ = some a2 ∧ w.cell? ⟨g, 3, none⟩ = some a3 ∧ w.cell? ⟨g, 4, none⟩ = some a4 ∧ w.cell? ⟨g, 5, none⟩ = some a5 ∧ ∀ i, w.frozen? ⟨g, i, none⟩ = false := by
  refine ⟨?_, ?_, ?_, ?_, ?_, ?_, fun i => ?_⟩ <;> simp [World.cell?, World.frozen?, h]
/-- The contract of a part that is told by an expression of its own. -/
def CtE (f : Nat) (E : List Tok → Out) : Prop := ∀ (C : Cx) (w : World) (k m : Nat) (v : Value) (tw : List Tw), PS w C k m v tw → E (C.T.drop k) ≠ .dry → Calls Tryz.prog f #[C.ptr] w (Ret C w k m v tw (E (C.T.drop k)))

set_option maxRecDepth 100000 in
set_option maxHeartbeats 2000000 in
theorem use_ok (C : Cx) (w : World) (k m : Nat) (v : Value) (tw : List Tw) (h : PS w C k m v tw) (hnd : useO (C.T.drop k) ≠ .dry) :
    Calls Tryz.prog 118 #[C.ptr] w (Ret C w k m v tw (useO (C.T.drop k))) := by
  have HS0 := Lib.hid (St.start h)
  clear h
  generalize ho : useO (C.T.drop k) = o at hnd ⊢
  have HND := Lib.hid hnd
  clear hnd
  simp only [useO] at ho
  have HO0 := Lib.hid ho
  clear ho
  go_enter Tryz.func118, Tryz.ntmps118
  go_wp2_with fail
  cases hx : ((hd (C.T.drop k)).kind == 1)
  · have ho' := HO0.out
    rw [tkK_no hx] at ho'
    refine (takeName_no C _ _ _ _ _ HS0.out.ps hx).mono ?_
    rintro e w' ⟨rfl, hb⟩
    have HB := Lib.hid (HS0.out.bad (m0 := m) ho' hb)
    clear hb ho' hx
    go_wp2_with fail
    exact ⟨rfl, HB.out⟩
  have ho' := HO0.out
  rw [tkK_yes hx, tail_drop'] at ho'
  have HO1 := Lib.hid ho'
  refine (takeName_yes C _ _ _ _ _ HS0.out.ps hx).mono ?_
  rintro e w1 ⟨rfl, hs, hk⟩
  have HS1 := Lib.hid (HS0.out.took hs hk)
  clear hs hk HS0 ho' hx
  unfold tokV
  go_wp2_with fail
  refine (add_ok C _ _ _ _ _ (hd (C.T.drop k)) 29 (hd (C.T.drop k)).text 0 _ [] (HS1.out.var (w1.heap.size) (by simp) (.cells #[.int .i64 (hd (C.T.drop k)).kind, .string ⟨(hd (C.T.drop k)).text.toArray⟩, .int .i64 (hd (C.T.drop k)).n, .int .i64 (hd (C.T.drop k)).line, .int .i64 (hd (C.T.drop k)).col] 61)).ps (ints_nil _) HS1.out.room).mono ?_
  rintro e w2 ⟨rfl, v', hs, hk⟩
  generalize hN : (((tw ++ _ : List Tw).length : Nat) : Int) = N
  have HR := Lib.hid ((HS1.out.var (w1.heap.size) (by simp) (.cells #[.int .i64 (hd (C.T.drop k)).kind, .string ⟨(hd (C.T.drop k)).text.toArray⟩, .int .i64 (hd (C.T.drop k)).n, .int .i64 (hd (C.T.drop k)).line, .int .i64 (hd (C.T.drop k)).col] 61)).fin HO1.out hs hk hN.symm)
  clear hs hk hN HS1
  go_wp2_with fail
  go_ret
  exact HR.out

theorem useC : Hid (CtE 118 useO) := Lib.hid use_ok

set_option maxRecDepth 100000 in
set_option maxHeartbeats 2000000 in
theorem typeName_name (C : Cx) (w : World) (k m : Nat) (v : Value) (tw : List Tw) (h : PS w C k m v tw) (h1 : ((hd (C.T.drop k)).kind == 1) = true) (hnd : tyO (C.T.drop k) ≠ .dry) :
    Calls Tryz.prog 106 #[C.ptr] w (Ret C w k m v tw (tyO (C.T.drop k))) := by
  have HS0 := Lib.hid (St.start h)
  clear h
  generalize ho : tyO (C.T.drop k) = o at hnd ⊢
  have HND := Lib.hid hnd
  clear hnd
  simp only [tyO, tk, isTyT, h1, Bool.true_or, if_true, tail_drop'] at ho
  have hlt : k < C.T.length := sees_lt (x := 1) (by decide) h1
  have HO0 := Lib.hid ho
  clear ho
  have hfd := field0
  go_enter Tryz.func106, Tryz.ntmps106
  go_wp2_with fail
  refine (next_ok C _ _ _ _ _ HS0.out.ps).mono ?_
  rintro e w1 ⟨rfl, hb⟩
  have HS1 := Lib.hid (HS0.out.below hb)
  clear hb HS0
  unfold tokV
  go_wp2_with fail
  refine (takeIf_yes C _ _ _ _ _ HS1.out.ps hlt).mono ?_
  rintro e w2 ⟨rfl, hs, hk⟩
  have HS2 := Lib.hid (HS1.out.took hs hk)
  clear hs hk HS1 
  unfold tokV
  go_wp2_with fail
  refine (add_ok C _ _ _ _ _ (hd (C.T.drop k)) 5 (hd (C.T.drop k)).text 0 _ [] (HS2.out.var (w2.heap.size) (by simp) (.cells #[.int .i64 (hd (C.T.drop k)).kind, .string ⟨(hd (C.T.drop k)).text.toArray⟩, .int .i64 (hd (C.T.drop k)).n, .int .i64 (hd (C.T.drop k)).line, .int .i64 (hd (C.T.drop k)).col] 61)).ps (ints_nil _) HS2.out.room).mono ?_
  rintro e w3 ⟨rfl, v', hs, hk⟩
  generalize hN : (((tw ++ _ : List Tw).length : Nat) : Int) = N
  have HR := Lib.hid ((HS2.out.var (w2.heap.size) (by simp) (.cells #[.int .i64 (hd (C.T.drop k)).kind, .string ⟨(hd (C.T.drop k)).text.toArray⟩, .int .i64 (hd (C.T.drop k)).n, .int .i64 (hd (C.T.drop k)).line, .int .i64 (hd (C.T.drop k)).col] 61)).fin HO0.out hs hk hN.symm)
  clear hs hk hN HS2
  go_wp2_with fail
  go_ret
  exact HR.out

set_option maxRecDepth 100000 in
set_option maxHeartbeats 2000000 in
theorem typeName_yes (C : Cx) (w : World) (k m : Nat) (v : Value) (tw : List Tw) (h : PS w C k m v tw) (h1 : ((hd (C.T.drop k)).kind == 1) = false) (h2 : seesW (C.T.drop k) tyWords = true) (hnd : tyO (C.T.drop k) ≠ .dry) :
    Calls Tryz.prog 106 #[C.ptr] w (Ret C w k m v tw (tyO (C.T.drop k))) := by
  have HS0 := Lib.hid (St.start h)
  clear h
  generalize ho : tyO (C.T.drop k) = o at hnd ⊢
  have HND := Lib.hid hnd
  clear hnd
  simp only [tyO, tk, isTyT, h1, h2, Bool.false_or, if_true, tail_drop'] at ho
  have hlt : k < C.T.length := sees_lt (x := 2) (by decide) (seesK_kind h2)
  have H2 := Lib.hid h2
  clear h2
  have HO0 := Lib.hid ho
  clear ho
  have hfd := field0
  go_enter Tryz.func106, Tryz.ntmps106
  go_wp2_with fail
  refine (next_ok C _ _ _ _ _ HS0.out.ps).mono ?_
  rintro e w1 ⟨rfl, hb⟩
  have HS1 := Lib.hid (HS0.out.below hb)
  clear hb HS0
  unfold tokV
  go_wp2_with fail
  have hsee := seesWord_new C w1 _ _ _ _ tyWords w1.heap.size 5 _ HS1.out.ps rfl rfl rfl (by decide)
  rw [H2.out] at hsee
  refine hsee.mono ?_
  rintro e w2 ⟨rfl, hb⟩
  have HS2 := Lib.hid (HS1.out.below hb)
  clear hb HS1 hsee
  go_wp2_with fail
  refine (takeIf_yes C _ _ _ _ _ HS2.out.ps hlt).mono ?_
  rintro e w3 ⟨rfl, hs, hk⟩
  have HS3 := Lib.hid (HS2.out.took hs hk)
  clear hs hk HS2 
  unfold tokV
  go_wp2_with fail
  refine (add_ok C _ _ _ _ _ (hd (C.T.drop k)) 5 (hd (C.T.drop k)).text 0 _ [] (HS3.out.var (w3.heap.size) (by simp) (.cells #[.int .i64 (hd (C.T.drop k)).kind, .string ⟨(hd (C.T.drop k)).text.toArray⟩, .int .i64 (hd (C.T.drop k)).n, .int .i64 (hd (C.T.drop k)).line, .int .i64 (hd (C.T.drop k)).col] 61)).ps (ints_nil _) HS3.out.room).mono ?_
  rintro e w4 ⟨rfl, v', hs, hk⟩
  generalize hN : (((tw ++ _ : List Tw).length : Nat) : Int) = N
  have HR := Lib.hid ((HS3.out.var (w3.heap.size) (by simp) (.cells #[.int .i64 (hd (C.T.drop k)).kind, .string ⟨(hd (C.T.drop k)).text.toArray⟩, .int .i64 (hd (C.T.drop k)).n, .int .i64 (hd (C.T.drop k)).line, .int .i64 (hd (C.T.drop k)).col] 61)).fin HO0.out hs hk hN.symm)
  clear hs hk hN HS3
  go_wp2_with fail
  go_ret
  exact HR.out

set_option maxRecDepth 100000 in
set_option maxHeartbeats 2000000 in
theorem typeName_no (C : Cx) (w : World) (k m : Nat) (v : Value) (tw : List Tw) (h : PS w C k m v tw) (h1 : ((hd (C.T.drop k)).kind == 1) = false) (h2 : seesW (C.T.drop k) tyWords = false) (hnd : tyO (C.T.drop k) ≠ .dry) :
    Calls Tryz.prog 106 #[C.ptr] w (Ret C w k m v tw (tyO (C.T.drop k))) := by
  have HS0 := Lib.hid (St.start h)
  clear h
  generalize ho : tyO (C.T.drop k) = o at hnd ⊢
  have HND := Lib.hid hnd
  clear hnd
  simp only [tyO, tk, isTyT, h1, h2, Bool.false_or, Bool.false_eq_true, if_false] at ho
  have H2 := Lib.hid h2
  clear h2
  have HO0 := Lib.hid ho
  clear ho
  have hfd := field0
  go_enter Tryz.func106, Tryz.ntmps106
  go_wp2_with fail
  refine (next_ok C _ _ _ _ _ HS0.out.ps).mono ?_
  rintro e w1 ⟨rfl, hb⟩
  have HS1 := Lib.hid (HS0.out.below hb)
  clear hb HS0
  unfold tokV
  go_wp2_with fail
  have hsee := seesWord_new C w1 _ _ _ _ tyWords w1.heap.size 5 _ HS1.out.ps rfl rfl rfl (by decide)
  rw [H2.out] at hsee
  refine hsee.mono ?_
  rintro e w2 ⟨rfl, hb⟩
  have HS2 := Lib.hid (HS1.out.below hb)
  clear hb HS1 hsee
  go_wp2_with fail
  refine (takeIf_no C _ _ _ _ _ HS2.out.ps).mono ?_
  rintro e w' ⟨rfl, hb⟩
  have HB := Lib.hid (HS2.out.bad (m0 := m) HO0.out hb)
  clear hb
  go_wp2_with fail
  exact ⟨rfl, HB.out⟩

theorem tyC : Hid (CtE 106 tyO) := Lib.hid fun C w k m v tw h hnd => by
  cases h1 : ((hd (C.T.drop k)).kind == 1)
  · cases h2 : seesW (C.T.drop k) tyWords
    · exact typeName_no C w k m v tw h h1 h2 hnd
    · exact typeName_yes C w k m v tw h h1 h2 hnd
  · exact typeName_name C w k m v tw h h1 hnd

set_option maxRecDepth 100000 in
set_option maxHeartbeats 2000000 in
theorem onLooper_ok (C : Cx) (w : World) (k m : Nat) (v : Value) (tw : List Tw) (h : PS w C k m v tw) (hnd : onO (C.T.drop k) ≠ .dry) :
    Calls Tryz.prog 107 #[C.ptr] w (Ret C w k m v tw (onO (C.T.drop k))) := by
  have HS0 := Lib.hid (St.start h)
  clear h
  generalize ho : onO (C.T.drop k) = o at hnd ⊢
  have HND := Lib.hid hnd
  clear hnd
  simp only [onO] at ho
  have HO0 := Lib.hid ho
  clear ho
  go_enter Tryz.func107, Tryz.ntmps107
  go_wp2_with fail
  cases hx : seesW (C.T.drop k) [[111, 110]]
  · have ho' := HO0.out
    rw [tkW_no hx] at ho'
    refine (takeWord_new_no C _ _ _ _ _ [[111, 110]] _ _ _ HS0.out.ps (by simp) rfl rfl (by decide) hx).mono ?_
    rintro e w' ⟨rfl, hb⟩
    have HB := Lib.hid (HS0.out.bad (m0 := m) ho' hb)
    clear hb ho' hx
    go_wp2_with fail
    exact ⟨rfl, HB.out⟩
  have ho' := HO0.out
  rw [tkW_yes hx, tail_drop'] at ho'
  have HO1 := Lib.hid ho'
  refine (takeWord_new_yes C _ _ _ _ _ [[111, 110]] _ _ _ HS0.out.ps (by simp) rfl rfl (by decide) hx).mono ?_
  rintro e w1 ⟨rfl, hs, hk⟩
  have HS1 := Lib.hid (HS0.out.took hs hk)
  clear hs hk HS0 ho' hx
  unfold tokV
  go_wp2_with fail
  have h0 := HO1.out
  refine (useC.out C _ _ _ _ _ HS1.out.ps (fun h => HND.out (by rw [← h0, h]))).mono ?_
  rintro e w2 hr
  rcases hP : useO (C.T.drop (k + 1)) with _ | ⟨er, r⟩ | ⟨d, f, r⟩
  · exact absurd (h0.symm.trans hP) HND.out
  · rw [hP] at hr; have HB := Lib.hid (HS1.out.bad' (m0 := m) (hP.symm.trans h0) hr); obtain ⟨rfl, _⟩ := hr; clear hP h0; go_wp2_with fail; exact ⟨rfl, HB.out⟩
  · rw [hP] at hr h0; obtain ⟨j, v', rfl, rfl, hs⟩ := HS1.out.sub hr; generalize hN : ((tw.length + _ + f.size : Nat) : Int) = N; have HR := Lib.hid (St.same hs h0 (hN.symm.trans (by simp [Fo.size]))); clear hs hr hN hP h0; go_wp2_with fail; go_ret; exact HR.out

theorem onC : Hid (CtE 107 onO) := Lib.hid onLooper_ok

set_option maxRecDepth 100000 in
set_option maxHeartbeats 2000000 in
theorem looper_ok (n : Nat) (C : Cx) (w : World) (k m : Nat) (v : Value) (tw : List Tw) (h : PS w C k m v tw) (h1 : seesW (C.T.drop k) [[108, 111, 111, 112, 101, 114]] = true) (hnd : P (n + 1) .decl (C.T.drop k) m ≠ .dry) :
    Calls Tryz.prog 87 #[C.ptr] w (Ret C w k m v tw (P (n + 1) .decl (C.T.drop k) m)) := by
  have HS0 := Lib.hid (St.start h)
  clear h
  generalize ho : P (n + 1) .decl (C.T.drop k) m = o at hnd ⊢
  have HND := Lib.hid hnd
  clear hnd
  rw [P] at ho
  simp only [h1, if_true, tail_drop'] at ho
  have hlt : k < C.T.length := sees_lt (x := 2) (by decide) (seesK_kind h1)
  clear h1
  have HO0 := Lib.hid ho
  clear ho
  go_enter Tryz.func87, Tryz.ntmps87
  go_wp2_with fail
  refine (take_ok C _ _ _ _ _ HS0.out.ps (hlt)).mono ?_
  rintro e w1 ⟨rfl, hs, hk⟩
  have HS1 := Lib.hid (HS0.out.took hs hk)
  clear hs hk HS0 
  unfold tokV
  go_wp2_with fail
  cases hx : ((hd (C.T.drop (k + 1))).kind == 1)
  · have ho' := HO0.out
    rw [tkK_no hx] at ho'
    refine (takeName_no C _ _ _ _ _ HS1.out.ps hx).mono ?_
    rintro e w' ⟨rfl, hb⟩
    have HB := Lib.hid (HS1.out.bad (m0 := m) ho' hb)
    clear hb ho' hx
    go_wp2_with fail
    exact ⟨rfl, HB.out⟩
  have ho' := HO0.out
  rw [tkK_yes hx, tail_drop'] at ho'
  have HO1 := Lib.hid ho'
  refine (takeName_yes C _ _ _ _ _ HS1.out.ps hx).mono ?_
  rintro e w2 ⟨rfl, hs, hk⟩
  have HS2 := Lib.hid (HS1.out.took hs hk)
  clear hs hk HS1 ho' hx
  unfold tokV
  go_wp2_with fail
  cases hx : seesM (C.T.drop ((k + 1) + 1)) [[59]]
  · have ho' := HO1.out
    rw [tkM_no hx] at ho'
    refine (takeMark_new_no C _ _ _ _ _ [[59]] _ _ _ ((HS2.out.var (w2.heap.size) (by simp) (.cells #[.int .i64 (hd (C.T.drop k)).kind, .string ⟨(hd (C.T.drop k)).text.toArray⟩, .int .i64 (hd (C.T.drop k)).n, .int .i64 (hd (C.T.drop k)).line, .int .i64 (hd (C.T.drop k)).col] 61)).var (w2.heap.size + 1) (by simp) (.cells #[.int .i64 (hd (C.T.drop (k + 1))).kind, .string ⟨(hd (C.T.drop (k + 1))).text.toArray⟩, .int .i64 (hd (C.T.drop (k + 1))).n, .int .i64 (hd (C.T.drop (k + 1))).line, .int .i64 (hd (C.T.drop (k + 1))).col] 61)).ps (by simp) rfl rfl (by decide) hx).mono ?_
    rintro e w' ⟨rfl, hb⟩
    have HB := Lib.hid (((HS2.out.var (w2.heap.size) (by simp) (.cells #[.int .i64 (hd (C.T.drop k)).kind, .string ⟨(hd (C.T.drop k)).text.toArray⟩, .int .i64 (hd (C.T.drop k)).n, .int .i64 (hd (C.T.drop k)).line, .int .i64 (hd (C.T.drop k)).col] 61)).var (w2.heap.size + 1) (by simp) (.cells #[.int .i64 (hd (C.T.drop (k + 1))).kind, .string ⟨(hd (C.T.drop (k + 1))).text.toArray⟩, .int .i64 (hd (C.T.drop (k + 1))).n, .int .i64 (hd (C.T.drop (k + 1))).line, .int .i64 (hd (C.T.drop (k + 1))).col] 61)).bad (m0 := m) ho' hb)
    clear hb ho' hx
    go_wp2_with fail
    exact ⟨rfl, HB.out⟩
  have ho' := HO1.out
  rw [tkM_yes hx, tail_drop'] at ho'
  have HO2 := Lib.hid ho'
  refine (takeMark_new_yes C _ _ _ _ _ [[59]] _ _ _ ((HS2.out.var (w2.heap.size) (by simp) (.cells #[.int .i64 (hd (C.T.drop k)).kind, .string ⟨(hd (C.T.drop k)).text.toArray⟩, .int .i64 (hd (C.T.drop k)).n, .int .i64 (hd (C.T.drop k)).line, .int .i64 (hd (C.T.drop k)).col] 61)).var (w2.heap.size + 1) (by simp) (.cells #[.int .i64 (hd (C.T.drop (k + 1))).kind, .string ⟨(hd (C.T.drop (k + 1))).text.toArray⟩, .int .i64 (hd (C.T.drop (k + 1))).n, .int .i64 (hd (C.T.drop (k + 1))).line, .int .i64 (hd (C.T.drop (k + 1))).col] 61)).ps (by simp) rfl rfl (by decide) hx).mono ?_
  rintro e w3 ⟨rfl, hs, hk⟩
  have HS3 := Lib.hid (((HS2.out.var (w2.heap.size) (by simp) (.cells #[.int .i64 (hd (C.T.drop k)).kind, .string ⟨(hd (C.T.drop k)).text.toArray⟩, .int .i64 (hd (C.T.drop k)).n, .int .i64 (hd (C.T.drop k)).line, .int .i64 (hd (C.T.drop k)).col] 61)).var (w2.heap.size + 1) (by simp) (.cells #[.int .i64 (hd (C.T.drop (k + 1))).kind, .string ⟨(hd (C.T.drop (k + 1))).text.toArray⟩, .int .i64 (hd (C.T.drop (k + 1))).n, .int .i64 (hd (C.T.drop (k + 1))).line, .int .i64 (hd (C.T.drop (k + 1))).col] 61)).took hs hk)
  clear hs hk HS2 ho' hx
  unfold tokV
  obtain ⟨a3_0, a3_1, a3_2, a3_3, a3_4, a3_5⟩ := tok5 (HS3.out.loc _ (.tail _ (.head _))).is
  have a3_lt := lt_of_block (HS3.out.loc _ (.tail _ (.head _))).is
  obtain ⟨b3_0, b3_1, b3_2, b3_3, b3_4, b3_5⟩ := tok5 (HS3.out.loc _ (.head _)).is
  have b3_lt := lt_of_block (HS3.out.loc _ (.head _)).is
  go_wp2_with fail
  refine (add_ok C _ _ _ _ _ (hd (C.T.drop k)) 2 (hd (C.T.drop (k + 1))).text 0 _ [] HS3.out.ps (ints_nil _) HS3.out.room).mono ?_
  rintro e w4 ⟨rfl, v', hs, hk⟩
  generalize hN : (((tw ++ _ : List Tw).length : Nat) : Int) = N
  have HR := Lib.hid (HS3.out.fin HO2.out hs hk hN.symm)
  clear hs hk hN HS3
  go_wp2_with fail
  go_ret
  exact HR.out

set_option maxRecDepth 100000 in
set_option maxHeartbeats 2000000 in
theorem member_ok (C : Cx) (w : World) (k m : Nat) (v : Value) (tw : List Tw) (h : PS w C k m v tw) (hnd : memO (C.T.drop k) ≠ .dry) :
    Calls Tryz.prog 105 #[C.ptr] w (Ret C w k m v tw (memO (C.T.drop k))) := by
  have HS0 := Lib.hid (St.start h)
  clear h
  generalize ho : memO (C.T.drop k) = o at hnd ⊢
  have HND := Lib.hid hnd
  clear hnd
  simp only [memO] at ho
  have HO0 := Lib.hid ho
  clear ho
  go_enter Tryz.func105, Tryz.ntmps105
  go_wp2_with fail
  cases hx : ((hd (C.T.drop k)).kind == 1)
  · have ho' := HO0.out
    rw [tkK_no hx] at ho'
    refine (takeName_no C _ _ _ _ _ HS0.out.ps hx).mono ?_
    rintro e w' ⟨rfl, hb⟩
    have HB := Lib.hid (HS0.out.bad (m0 := m) ho' hb)
    clear hb ho' hx
    go_wp2_with fail
    exact ⟨rfl, HB.out⟩
  have ho' := HO0.out
  rw [tkK_yes hx, tail_drop'] at ho'
  have HO1 := Lib.hid ho'
  refine (takeName_yes C _ _ _ _ _ HS0.out.ps hx).mono ?_
  rintro e w1 ⟨rfl, hs, hk⟩
  have HS1 := Lib.hid (HS0.out.took hs hk)
  clear hs hk HS0 ho' hx
  unfold tokV
  go_wp2_with fail
  have hnd : tyO (C.T.drop (k + 1)) ≠ .dry := fun hdry => by have h1 := HO1.out; rw [hdry] at h1; exact HND.out h1.symm
  refine (tyC.out C _ _ _ _ _ (HS1.out.var (w1.heap.size) (by simp) (.cells #[.int .i64 (hd (C.T.drop k)).kind, .string ⟨(hd (C.T.drop k)).text.toArray⟩, .int .i64 (hd (C.T.drop k)).n, .int .i64 (hd (C.T.drop k)).line, .int .i64 (hd (C.T.drop k)).col] 61)).ps hnd).mono ?_
  rintro e w2 hr
  rcases hP : tyO (C.T.drop (k + 1)) with _ | ⟨er, r⟩ | ⟨d1, f1, r⟩
  · exact absurd hP hnd
  · rw [hP] at hr
    have ho' := HO1.out
    rw [hP] at ho'
    have HB := Lib.hid ((HS1.out.var (w1.heap.size) (by simp) (.cells #[.int .i64 (hd (C.T.drop k)).kind, .string ⟨(hd (C.T.drop k)).text.toArray⟩, .int .i64 (hd (C.T.drop k)).n, .int .i64 (hd (C.T.drop k)).line, .int .i64 (hd (C.T.drop k)).col] 61)).bad' (m0 := m) ho' hr)
    obtain ⟨rfl, _⟩ := hr
    clear hnd hP ho'
    go_wp2_with fail
    exact ⟨rfl, HB.out⟩
  rw [hP] at hr
  obtain ⟨j1, v1, rfl, rfl, hs⟩ := (HS1.out.var (w1.heap.size) (by simp) (.cells #[.int .i64 (hd (C.T.drop k)).kind, .string ⟨(hd (C.T.drop k)).text.toArray⟩, .int .i64 (hd (C.T.drop k)).n, .int .i64 (hd (C.T.drop k)).line, .int .i64 (hd (C.T.drop k)).col] 61)).sub hr
  have ho' := HO1.out
  rw [hP] at ho'
  dsimp only [Out.and] at ho'
  have HO2 := Lib.hid ho'
  have HS2 := Lib.hid hs
  generalize hN : ((tw.length + _ + f1.size : Nat) : Int) = N1
  have HN1 := Lib.hid hN
  clear hs hr hN hnd hP ho' HS1 
  go_wp2_with fail
  cases hx : seesM (C.T.drop j1) [[59]]
  · have ho' := HO2.out
    rw [tkM_no hx] at ho'
    refine (takeMark_new_no C _ _ _ _ _ [[59]] _ _ _ HS2.out.ps (by simp) rfl rfl (by decide) hx).mono ?_
    rintro e w' ⟨rfl, hb⟩
    have HB := Lib.hid (HS2.out.bad (m0 := m) ho' hb)
    clear hb ho' hx
    go_wp2_with fail
    exact ⟨rfl, HB.out⟩
  have ho' := HO2.out
  rw [tkM_yes hx, tail_drop'] at ho'
  have HO3 := Lib.hid ho'
  refine (takeMark_new_yes C _ _ _ _ _ [[59]] _ _ _ HS2.out.ps (by simp) rfl rfl (by decide) hx).mono ?_
  rintro e w3 ⟨rfl, hs, hk⟩
  have HS3 := Lib.hid (HS2.out.took hs hk)
  clear hs hk HS2 ho' hx
  unfold tokV
  obtain ⟨a3_0, a3_1, a3_2, a3_3, a3_4, a3_5⟩ := tok5 (HS3.out.loc _ (.head _)).is
  have a3_lt := lt_of_block (HS3.out.loc _ (.head _)).is
  go_wp2_with fail
  refine (add_ok C _ _ _ _ _ (hd (C.T.drop k)) 4 (hd (C.T.drop k)).text 0 _ _ (HS3.out.al _).ps (ints_new _ (fun b hb => by have := HS3.out.ps.xlt b hb; simp; try omega) [N1] #[.int .i64 N1] rfl _ _ (by simp) rfl) HS3.out.room).mono ?_
  rintro e w4 ⟨rfl, v', hs, hk⟩
  have hids : [N1] = (Fo.nil.app (one d1 f1)).ids tw.length := (by rw [ids_snoc, ← HN1.out]; rfl)
  rw [hids] at hs
  generalize hN : (((tw ++ _ : List Tw).length : Nat) : Int) = N
  have HR := Lib.hid ((HS3.out.al _).fin HO3.out hs hk hN.symm)
  clear hs hk hN HS3
  go_wp2_with fail
  go_ret
  exact HR.out

theorem memC : Hid (CtE 105 memO) := Lib.hid member_ok

set_option maxRecDepth 100000 in
set_option maxHeartbeats 2000000 in
theorem global_ok (n : Nat) (C : Cx) (w : World) (k m : Nat) (v : Value) (tw : List Tw) (h : PS w C k m v tw) (h2 : seesW (C.T.drop k) [[108, 111, 111, 112, 101, 114]] = false) (h3 : seesW (C.T.drop k) [[99, 108, 97, 115, 115]] = false) (h1 : seesW (C.T.drop k) [[118, 97, 114]] = true) (hnd : P (n + 1) .decl (C.T.drop k) m ≠ .dry) :
    Calls Tryz.prog 89 #[C.ptr] w (Ret C w k m v tw (P (n + 1) .decl (C.T.drop k) m)) := by
  have HS0 := Lib.hid (St.start h)
  clear h
  generalize ho : P (n + 1) .decl (C.T.drop k) m = o at hnd ⊢
  have HND := Lib.hid hnd
  clear hnd
  rw [P] at ho
  simp only [h1, h2, h3, Bool.false_eq_true, if_false, if_true, tail_drop'] at ho
  have hlt : k < C.T.length := sees_lt (x := 2) (by decide) (seesK_kind h1)
  clear h1
  have HO0 := Lib.hid ho
  clear ho
  go_enter Tryz.func89, Tryz.ntmps89
  go_wp2_with fail
  refine (take_ok C _ _ _ _ _ HS0.out.ps (hlt)).mono ?_
  rintro e w1 ⟨rfl, hs, hk⟩
  have HS1 := Lib.hid (HS0.out.took hs hk)
  clear hs hk HS0 
  unfold tokV
  go_wp2_with fail
  cases hx : ((hd (C.T.drop (k + 1))).kind == 1)
  · have ho' := HO0.out
    rw [tkK_no hx] at ho'
    refine (takeName_no C _ _ _ _ _ HS1.out.ps hx).mono ?_
    rintro e w' ⟨rfl, hb⟩
    have HB := Lib.hid (HS1.out.bad (m0 := m) ho' hb)
    clear hb ho' hx
    go_wp2_with fail
    exact ⟨rfl, HB.out⟩
  have ho' := HO0.out
  rw [tkK_yes hx, tail_drop'] at ho'
  have HO1 := Lib.hid ho'
  refine (takeName_yes C _ _ _ _ _ HS1.out.ps hx).mono ?_
  rintro e w2 ⟨rfl, hs, hk⟩
  have HS2 := Lib.hid (HS1.out.took hs hk)
  clear hs hk HS1 ho' hx
  unfold tokV
  go_wp2_with fail
  have hnd : tyO (C.T.drop ((k + 1) + 1)) ≠ .dry := fun hdry => by have h1 := HO1.out; rw [hdry] at h1; exact HND.out h1.symm
  refine (tyC.out C _ _ _ _ _ ((HS2.out.var (w2.heap.size) (by simp) (.cells #[.int .i64 (hd (C.T.drop k)).kind, .string ⟨(hd (C.T.drop k)).text.toArray⟩, .int .i64 (hd (C.T.drop k)).n, .int .i64 (hd (C.T.drop k)).line, .int .i64 (hd (C.T.drop k)).col] 61)).var (w2.heap.size + 1) (by simp) (.cells #[.int .i64 (hd (C.T.drop (k + 1))).kind, .string ⟨(hd (C.T.drop (k + 1))).text.toArray⟩, .int .i64 (hd (C.T.drop (k + 1))).n, .int .i64 (hd (C.T.drop (k + 1))).line, .int .i64 (hd (C.T.drop (k + 1))).col] 61)).ps hnd).mono ?_
  rintro e w3 hr
  rcases hP : tyO (C.T.drop ((k + 1) + 1)) with _ | ⟨er, r⟩ | ⟨d1, f1, r⟩
  · exact absurd hP hnd
  · rw [hP] at hr
    have ho' := HO1.out
    rw [hP] at ho'
    have HB := Lib.hid (((HS2.out.var (w2.heap.size) (by simp) (.cells #[.int .i64 (hd (C.T.drop k)).kind, .string ⟨(hd (C.T.drop k)).text.toArray⟩, .int .i64 (hd (C.T.drop k)).n, .int .i64 (hd (C.T.drop k)).line, .int .i64 (hd (C.T.drop k)).col] 61)).var (w2.heap.size + 1) (by simp) (.cells #[.int .i64 (hd (C.T.drop (k + 1))).kind, .string ⟨(hd (C.T.drop (k + 1))).text.toArray⟩, .int .i64 (hd (C.T.drop (k + 1))).n, .int .i64 (hd (C.T.drop (k + 1))).line, .int .i64 (hd (C.T.drop (k + 1))).col] 61)).bad' (m0 := m) ho' hr)
    obtain ⟨rfl, _⟩ := hr
    clear hnd hP ho'
    go_wp2_with fail
    exact ⟨rfl, HB.out⟩
  rw [hP] at hr
  obtain ⟨j1, v1, rfl, rfl, hs⟩ := ((HS2.out.var (w2.heap.size) (by simp) (.cells #[.int .i64 (hd (C.T.drop k)).kind, .string ⟨(hd (C.T.drop k)).text.toArray⟩, .int .i64 (hd (C.T.drop k)).n, .int .i64 (hd (C.T.drop k)).line, .int .i64 (hd (C.T.drop k)).col] 61)).var (w2.heap.size + 1) (by simp) (.cells #[.int .i64 (hd (C.T.drop (k + 1))).kind, .string ⟨(hd (C.T.drop (k + 1))).text.toArray⟩, .int .i64 (hd (C.T.drop (k + 1))).n, .int .i64 (hd (C.T.drop (k + 1))).line, .int .i64 (hd (C.T.drop (k + 1))).col] 61)).sub hr
  have ho' := HO1.out
  rw [hP] at ho'
  dsimp only [Out.and] at ho'
  have HO2 := Lib.hid ho'
  have HS3 := Lib.hid hs
  generalize hN : ((tw.length + _ + f1.size : Nat) : Int) = N1
  have HN1 := Lib.hid hN
  clear hs hr hN hnd hP ho' HS2 
  go_wp2_with fail
  cases hx : seesM (C.T.drop j1) [[59]]
  · have ho' := HO2.out
    rw [tkM_no hx] at ho'
    refine (takeMark_new_no C _ _ _ _ _ [[59]] _ _ _ HS3.out.ps (by simp) rfl rfl (by decide) hx).mono ?_
    rintro e w' ⟨rfl, hb⟩
    have HB := Lib.hid (HS3.out.bad (m0 := m) ho' hb)
    clear hb ho' hx
    go_wp2_with fail
    exact ⟨rfl, HB.out⟩
  have ho' := HO2.out
  rw [tkM_yes hx, tail_drop'] at ho'
  have HO3 := Lib.hid ho'
  refine (takeMark_new_yes C _ _ _ _ _ [[59]] _ _ _ HS3.out.ps (by simp) rfl rfl (by decide) hx).mono ?_
  rintro e w4 ⟨rfl, hs, hk⟩
  have HS4 := Lib.hid (HS3.out.took hs hk)
  clear hs hk HS3 ho' hx
  unfold tokV
  obtain ⟨a4_0, a4_1, a4_2, a4_3, a4_4, a4_5⟩ := tok5 (HS4.out.loc _ (.tail _ (.head _))).is
  have a4_lt := lt_of_block (HS4.out.loc _ (.tail _ (.head _))).is
  obtain ⟨b4_0, b4_1, b4_2, b4_3, b4_4, b4_5⟩ := tok5 (HS4.out.loc _ (.head _)).is
  have b4_lt := lt_of_block (HS4.out.loc _ (.head _)).is
  go_wp2_with fail
  refine (add_ok C _ _ _ _ _ (hd (C.T.drop k)) 6 (hd (C.T.drop (k + 1))).text 0 _ _ (HS4.out.al _).ps (ints_new _ (fun b hb => by have := HS4.out.ps.xlt b hb; simp; try omega) [N1] #[.int .i64 N1] rfl _ _ (by simp) rfl) HS4.out.room).mono ?_
  rintro e w5 ⟨rfl, v', hs, hk⟩
  have hids : [N1] = (Fo.nil.app (one d1 f1)).ids tw.length := (by rw [ids_snoc, ← HN1.out]; rfl)
  rw [hids] at hs
  generalize hN : (((tw ++ _ : List Tw).length : Nat) : Int) = N
  have HR := Lib.hid ((HS4.out.al _).fin HO3.out hs hk hN.symm)
  clear hs hk hN HS4
  go_wp2_with fail
  go_ret
  exact HR.out

end Go.Proofs.YtpeoefbibjbinaaGreat
