/- The reference's Scan: its walk. -/
import Derived.Test.YtpeoefbibjbinaaGreatB34
import Derived.Deep.CutBlock
namespace Go.Proofs.YtpeoefbibjbinaaGreat
open Go.RowKit

/-- What the switch of the reference's Scan leaves: where the token, or what is passed over, ends; the token's kind and number; what is wrong so far. -/
def SwR (l : List UInt8) (b off : Nat) (w : World) (v4 : Value) (T : List Tok) (D : List Dg) (p g : Nat) (v5 v6 v7 v10 : Value) (wx : World) : Prop :=
  ∃ (k n : Int) (D' : List Dg) (q : Nat), p < q ∧ q ≤ l.length ∧ v6 = .int .i64 (lineOf l q) ∧ v7 = .int .i64 (fromOf l q) ∧ v10 = .int .i64 q ∧ D' ++ dgs l (nxt l q) = D ++ dgs l (nxt l p) ∧
    RI l b off w v4 v5 T D' wx ∧ wx.heap[g]? = some (.cells #[.int .i64 k, .string ⟨#[]⟩, .int .i64 n, .int .i64 (lineOf l p), .int .i64 ((p : Int) - fromOf l p + 1)] 61 (0, 0)) ∧
    ((k = 0 ∧ toks l (nxt l q) = toks l (nxt l p)) ∨ (0 < k ∧ (⟨k, (l.drop p).take (q - p), n, lineOf l p, (p : Int) - fromOf l p + 1⟩ : Tok) :: toks l (nxt l q) = toks l (nxt l p)))

def tW (w : World) (ln col : Int) : World := w.alloc (.cells #[.int .i64 0, .string ⟨#[]⟩, .int .i64 0, .int .i64 ln, .int .i64 col] 61)
theorem cells5 {w : World} {g : Nat} {a0 a1 a2 a3 a4 : Value} {t : TypeId} (h : w.heap[g]? = some (.cells #[a0, a1, a2, a3, a4] t (0, 0))) :
    w.cell? ⟨g, 0, none⟩ = some a0 ∧ w.cell? ⟨g, 1, none⟩ = some a1 ∧ w.cell? ⟨g, 2, none⟩ = some a2 ∧ w.cell? ⟨g, 3, none⟩ = some a3 ∧ w.cell? ⟨g, 4, none⟩ = some a4 ∧ ∀ i, w.frozen? ⟨g, i, none⟩ = false := by
  refine ⟨?_, ?_, ?_, ?_, ?_, fun i => by simp [World.frozen?, h]⟩
  · exact (cell_of_row w g 0 _ t (0, 0) h)
  · exact (cell_of_row w g 1 _ t (0, 0) h)
  · exact (cell_of_row w g 2 _ t (0, 0) h)
  · exact (cell_of_row w g 3 _ t (0, 0) h)
  · exact (cell_of_row w g 4 _ t (0, 0) h)

theorem row_set {w : World} {g : Nat} {cs : Array Value} {t : TypeId} (h : w.heap[g]? = some (.cells cs t (0, 0))) (i : Nat) (u : Value) : (w.setCell ⟨g, i, none⟩ u).heap[g]? = some (.cells (cs.setIfInBounds i u) t (0, 0)) := by
  simp [World.setCell, Array.getElem?_modify, h]
theorem RI.set {l : List UInt8} {b off : Nat} {w wr : World} {v4 v5 : Value} {T : List Tok} {D : List Dg} (h : RI l b off w v4 v5 T D wr) {g : Nat} {cs : Array Value} (hg : wr.heap[g]? = some (.cells cs 61 (0, 0))) (h4 : v4.ownBlock ≠ some g) (hwg : w.heap.size ≤ g) (hb : b < w.heap.size) (i : Nat) (u : Value) :
    RI l b off w v4 v5 T D (wr.setCell ⟨g, i, none⟩ u) := by
  have h5 : v5.ownBlock ≠ some g := by
    rcases h.own5.2 with ⟨rfl, _⟩ | ⟨g', cap, cur, rfl, _, hg', _⟩
    · simp [Value.ownBlock]
    · intro e
      have : g' = g := by simpa [Value.ownBlock] using e
      subst this
      rw [hg] at hg'
      injection hg' with hg'
      injection hg' with _ ht
      exact absurd ht (by decide)
  exact ⟨h.below.setCell (p := ⟨g, i, none⟩) hwg u, h.text.keep fun k _ => World.cell?_setCell_other _ _ _ _ (fun e => by injection e; omega), ownsRow_setCell_other h.own4 (a := ⟨g, i, none⟩) h4 u, ownsRow_setCell_other h.own5 (a := ⟨g, i, none⟩) h5 u⟩

theorem RI.ne5 {l : List UInt8} {b off : Nat} {w wr : World} {v4 v5 : Value} {T : List Tok} {D : List Dg} (h : RI l b off w v4 v5 T D wr) {g : Nat} {cs : Array Value} (hg : wr.heap[g]? = some (.cells cs 61 (0, 0))) : some g ≠ v5.ownBlock := by
  rcases h.own5.2 with ⟨rfl, _⟩ | ⟨g', cap, cur, rfl, _, hg', _⟩
  · simp [Value.ownBlock]
  · intro e
    have : g = g' := by simpa [Value.ownBlock] using e
    subst this
    rw [hg] at hg'
    injection hg' with hg'
    injection hg' with _ ht
    exact absurd ht (by decide)
theorem RI.drewN {l : List UInt8} {b off : Nat} {w wr : World} {v4 v5 : Value} {T : List Tok} {D : List Dg} (h : RI l b off w v4 v5 T D wr) (n : Nat) : RI l b off w v4 v5 T D (wr.drewN n) :=
  ⟨⟨h.below.os, h.below.tape, h.below.output, h.below.size, h.below.block⟩, h.text, h.own4, h.own5⟩
theorem conv_part {w : World} {b off : Nat} {l : List UInt8} (h : Bs w b off l) (p q cap : Nat) (hq : q ≤ l.length) :
    (convert 22 9 (.slice (some ⟨b, off + p, none⟩) (q - p) (cap - p))).run Tryz.prog w = .ok (.string ⟨((l.drop p).take (q - p)).toArray⟩) w := by
  have := conv_bs (h.part p (q - p)) (cap - p)
  rw [List.length_take, List.length_drop, Nat.min_eq_left (by omega)] at this
  exact this

set_option maxRecDepth 100000 in
set_option maxHeartbeats 10000000 in
theorem refScan_some (l : List UInt8) (b off cap : Nat) (w : World) (hb : Bs w b off l) (hn : l.length ≤ 1000000) (hc : l.length ≤ cap) (h0 : 0 < l.length) :
    Calls Tryz.prog 17 #[.slice (some ⟨b, off, none⟩) l.length cap] w (Scanned w.heap.size l w) := by
  have hbw := hb.lt h0
  have HB := Lib.hid hb
  clear hb
  go_enter Tryz.func17, Tryz.ntmps17
  go_wp2_with fail
  go_loopg [4, 5, 6, 7, 8] l.length (fun k v4 v5 v6 v7 v8 wr => RefR l b off w k v4 v5 v6 v7 v8 wr)
  case atStart => exact ⟨[], [], 0, by omega, by omega, rfl, rfl, rfl, rfl, rfl, Below.refl _ _, HB.out, World.ownsRow_nil _ _ _ _, World.ownsRow_nil _ _ _ _⟩
  case round =>
    obtain ⟨T, D, p, hp, hk, rfl, rfl, rfl, hT, hD, hI⟩ := hrel
    have HK := Lib.hid hk
    have HT := Lib.hid hT
    have HD := Lib.hid hD
    have HI := Lib.hid hI
    clear hk hT hD hI HB
    have hl1 := lineOf_le l p
    have hf1 := fromOf_le l p
    by_cases hlt : p < l.length
    · have hcell := HI.out.text p hlt
      have hz := HI.out.text.lt h0
      have h0c := chr_ge l p
      have h1c := chr_le l p
      have hcell1 : ∀ o, (wr.alloc o).cell? ⟨b, off + p, none⟩ = some (.int .u8 (chr l p)) := fun o => (HI.out.text.alloc o) p hlt
      clear hcell
      go_upto_block 2 with (fail)
      change Code.wp _ _ _ _ (tW wr (lineOf l p) ((p : Int) - fromOf l p + 1))
      have hg1 : (tW wr (lineOf l p) ((p : Int) - fromOf l p + 1)).heap[wr.heap.size]? = some (.cells #[.int .i64 0, .string ⟨#[]⟩, .int .i64 0, .int .i64 (lineOf l p), .int .i64 ((p : Int) - fromOf l p + 1)] 61 (0, 0)) := heap_alloc_new wr _
      have HI1 := Lib.hid (HI.out.after (w2 := tW wr (lineOf l p) ((p : Int) - fromOf l p + 1)) ((Below.refl _ _).alloc (Nat.le_refl _) _) h0)
      have HG1 := Lib.hid hg1
      have hcell := HI1.out.text p hlt
      have hwz := HI.out.below.size
      have hne4 : u4.ownBlock ≠ some wr.heap.size := fun e => by have := (HI.out.own4.lt _ e).2; omega
      have HNE4 := Lib.hid hne4
      clear hg1 hcell1 HI hne4
      generalize tW wr (lineOf l p) ((p : Int) - fromOf l p + 1) = w1 at HI1 HG1 hcell ⊢
      generalize wr.heap.size = g at HG1 hwz HNE4 ⊢
      go_cut [5, 6, 7, 10] from 14 to 177 (fun v5 v6 v7 v10 wx => SwR l b off w u4 T D p g v5 v6 v7 v10 wx)
      case first =>
        by_cases h10 : chr l p = 10
        · as_aux_lemma =>
          have h10b : (chr l p == 10) = true := by simp [h10]
          have H10 := Lib.hid h10
          clear h10
          go_wp2_with fail
          go_meet
          have hB : isB (chr l p) = true := by rw [H10.out]; rfl
          have e := nxt_blank l p hlt (by have := H10.out; omega) hB
          have e1 : lineOf l (p + 1) = lineOf l p + 1 := by simp [lineOf, H10.out]
          have e2 : fromOf l (p + 1) = p + 1 := by simp [fromOf, H10.out]
          exact ⟨0, 0, D, p + 1, by omega, by omega, by rw [e1]; go_num, by rw [e2]; go_num, by go_num, by rw [← e], HI1.out, HG1.out, .inl ⟨rfl, by rw [← e]⟩⟩
        have h10b : (chr l p == 10) = false := by simp [h10]
        have HST := Lib.hid (line_step l p h10)
        have H10 := Lib.hid h10
        clear h10
        by_cases hbl : (chr l p == 32 || chr l p == 9 || chr l p == 13) = true
        · as_aux_lemma =>
          have hB : isB (chr l p) = true := by rw [isB_iff _ h0c h1c, h10b, Bool.false_or]; exact hbl
          have h35 : ¬ chr l p = 35 := fun e => by rw [e] at hbl; exact absurd hbl (by decide)
          have HN := Lib.hid (nxt_blank l p hlt h35 hB)
          clear hB h35
          cases h32 : (chr l p == 32)
          · cases h9 : (chr l p == 9)
            · have h13 : (chr l p == 13) = true := by simpa [h32, h9] using hbl
              clear hbl
              go_wp2_with fail
              go_meet
              exact ⟨0, 0, D, p + 1, by omega, by omega, by rw [HST.out.1], by rw [HST.out.2], by go_num, by rw [← HN.out], HI1.out, HG1.out, .inl ⟨rfl, by rw [← HN.out]⟩⟩
            · clear hbl
              go_wp2_with fail
              go_meet
              exact ⟨0, 0, D, p + 1, by omega, by omega, by rw [HST.out.1], by rw [HST.out.2], by go_num, by rw [← HN.out], HI1.out, HG1.out, .inl ⟨rfl, by rw [← HN.out]⟩⟩
          · clear hbl
            go_wp2_with fail
            go_meet
            exact ⟨0, 0, D, p + 1, by omega, by omega, by rw [HST.out.1], by rw [HST.out.2], by go_num, by rw [← HN.out], HI1.out, HG1.out, .inl ⟨rfl, by rw [← HN.out]⟩⟩
        obtain ⟨h32, h9, h13⟩ := bl_false hbl
        have hB : isB (chr l p) = false := by rw [isB_iff _ h0c h1c, h10b, h32, h9, h13]; rfl
        clear hbl
        by_cases h35 : chr l p = 35
        · as_aux_lemma =>
          have h35b : (chr l p == 35) = true := by simp [h35]
          have HN := Lib.hid (nxt_hash l p hlt h35)
          have HC1 := Lib.hid (nxc_more l p hlt H10.out)
          clear h35 hB
          go_wp2_with fail
          go_loop [10] (fun v => ∃ j : Nat, p + 1 ≤ j ∧ j ≤ l.length ∧ v = .int .i64 j ∧ Hid (nxc l j = nxt l p ∧ lineOf l j = lineOf l p ∧ fromOf l j = fromOf l p)) (fun v => l.length - (intOf v).toNat)
          case atStart => exact ⟨p + 1, Nat.le_refl _, by omega, by go_num, Lib.hid ⟨by rw [HN.out, HC1.out], HST.out.1, HST.out.2⟩⟩
          case round =>
            obtain ⟨j, hj1, hj2, rfl, HJ⟩ := hrel
            by_cases hlj : j < l.length
            · have hcj := HI1.out.text j hlj
              by_cases hj10 : chr l j = 10
              · have hjb : (chr l j != 10) = false := by simp [hj10]
                have HJ10 := Lib.hid hj10
                clear hj10
                go_wp2_with fail
                go_meet
                have e : nxt l j = nxt l p := (nxc_line l j hlj HJ10.out).symm.trans HJ.out.1
                exact ⟨0, 0, D, j, by omega, by omega, by rw [HJ.out.2.1], by rw [HJ.out.2.2], rfl, by rw [e], HI1.out, HG1.out, .inl ⟨rfl, by rw [e]⟩⟩
              · have hjb : (chr l j != 10) = true := by simp [hj10]
                have HJ10 := Lib.hid hj10
                clear hj10
                go_wp2_with fail
                go_round
                case rel =>
                  have hs := line_step l j HJ10.out
                  exact ⟨j + 1, by omega, by omega, by go_num, Lib.hid ⟨(nxc_more l j hlj HJ10.out).symm.trans HJ.out.1, hs.1.trans HJ.out.2.1, hs.2.trans HJ.out.2.2⟩⟩
                case measure => simp [intOf]; omega
            · have hjl : decide (j < l.length) = false := by simpa using hlj
              go_wp2_with fail
              go_meet
              have e : nxt l j = nxt l p := by rw [nxt_end l j (by omega), ← HJ.out.1, nxc_end l j (by omega)]
              exact ⟨0, 0, D, j, by omega, by omega, by rw [HJ.out.2.1], by rw [HJ.out.2.2], rfl, by rw [e], HI1.out, HG1.out, .inl ⟨rfl, by rw [e]⟩⟩
        have h35b : (chr l p == 35) = false := by simp [h35]
        have hnn := nxt_stop l p hlt h35 hB
        have HLT := Lib.hid (line_tok l p hlt hnn)
        have HNN := Lib.hid hnn
        have hle := endA_le l p hlt
        have hgt := endA_gt l p
        clear h35 hB hnn
        have hcp : ¬ cap = p := by omega
        have hlenD : D.length ≤ 1000000 := by
          have h1 := congrArg List.length HD.out
          have h2 := len_dgs l.length l (nxt l 0) (by omega)
          rw [List.length_append] at h1
          omega
        cases hL : isL (chr l p)
        · cases hDg : isD (chr l p)
          · have hcl := letter_ok (chr l p)
            have hcd := digit_ok (chr l p)
            rw [hL] at hcl
            rw [hDg] at hcd
            have HCL := Lib.hid hcl
            have HCD := Lib.hid hcd
            have hm := fun n => mark_ok l b off cap p (w1.drewN n) HI1.out.text (by omega) hlt
            have hm0 := mark_ok l b off cap p w1 HI1.out.text (by omega) hlt
            clear hcl hcd
            cases hM : isM (chr l p)
            · as_aux_lemma =>
              have hk0 := kindA_0 l p hL hDg hM
              have he3 : errA l p = 3 := by simp [errA, hk0]
              have hend : endA l p = p + 1 := by simp [endA, hk0]
              rw [mk_none l p hM] at hm0
              have HM0 := Lib.hid hm0
              have HK0 := Lib.hid hk0
              have HE3 := Lib.hid he3
              have HEND := Lib.hid hend
              obtain ⟨c0, c1, c2, c3, c4, f⟩ := cells5 HG1.out
              have hgl := lt_of_block HG1.out
              clear hM hL hDg hm0 hm hk0 he3 hend
              go_wp2_with (first
                | (go_at_call 29; refine (HCL.out _).mono ?_; rintro e w' ⟨rfl, rfl⟩)
                | (go_at_call 30; refine (HCD.out _).mono ?_; rintro e w' ⟨rfl, rfl⟩))
              refine HM0.out.mono ?_
              rintro e w2 ⟨rfl, m1, rfl⟩
              have HI2 := Lib.hid (HI1.out.drewN m1)
              go_wp2_with (at_builtin; refine wpList_app5 _ rfl _ _ rfl w.heap.size _ D rfl (HI2.out.own5.alloc _) ⟨w1.heap.size, 0, none⟩ ⟨lineOf l p, (p : Int) - fromOf l p + 1, 3⟩ rfl ?newd hlenD ?based ?_)
              case newd => exact new_cells (w1.drewN m1) _ _
              case based => have := HI1.out.below.size; simp; omega
              intro v' w5 hown5 hgrow5
              have HI3 := Lib.hid ((HI2.out.after (w2 := (w1.drewN m1).alloc (.cells #[.int .i64 (lineOf l p), .int .i64 ((p : Int) - fromOf l p + 1), .int .i64 3] 48)) ((Below.refl _ _).alloc (Nat.le_refl _) _) h0).app5 hgrow5 hown5 hbw)
              have hg5 : w5.heap[g]? = some (.cells #[.int .i64 0, .string ⟨#[]⟩, .int .i64 0, .int .i64 (lineOf l p), .int .i64 ((p : Int) - fromOf l p + 1)] 61 (0, 0)) :=
                (hgrow5.block g (by simp; omega) (HI2.out.ne5 HG1.out)).trans ((Below.heap_alloc (w1.drewN m1) _ g hgl).trans HG1.out)
              have HG5 := Lib.hid hg5
              clear hown5 hgrow5 hg5
              go_wp2_with fail
              go_meet
              have e := toks_skip l p hlt HK0.out
              rw [HEND.out] at e
              exact ⟨0, 0, D ++ [⟨lineOf l p, (p : Int) - fromOf l p + 1, 3⟩], p + 1, by omega, by omega, by rw [HST.out.1], by rw [HST.out.2], by go_num, dgs_meet1 l p (p + 1) D 3 hlt HNN.out HEND.out HE3.out (by decide), HI3.out, HG5.out, .inl ⟨rfl, by rw [HNN.out, ← e]⟩⟩
            · as_aux_lemma =>
              have hk4 := kindA_M l p hL hDg hM
              have hme := mk_end l p hlt hk4
              have HK4 := Lib.hid hk4
              have HME := Lib.hid hme.1
              have hmv := hme.2
              have hmb : mk l p ≤ 1000000 := by have := hme.1; omega
              have HM0 := Lib.hid hm0
              have HM := Lib.hid hm
              obtain ⟨c0, c1, c2, c3, c4, f⟩ := cells5 HG1.out
              have hgl := lt_of_block HG1.out
              clear hM hL hDg hm0 hm hk4 hme
              generalize mk l p = mv at HME hmv hmb HM0 HM
              go_wp2_with (first
                | (go_at_call 29; refine (HCL.out _).mono ?_; rintro e w' ⟨rfl, rfl⟩)
                | (go_at_call 30; refine (HCD.out _).mono ?_; rintro e w' ⟨rfl, rfl⟩))
              refine HM0.out.mono ?_
              rintro e w2 ⟨rfl, m1, rfl⟩
              go_wp2_with fail
              refine (HM.out m1).mono ?_
              rintro e w2 ⟨rfl, m2, rfl⟩
              rw [World.drewN_drewN]
              generalize m1 + m2 = m3
              go_wp2_with fail
              go_meet
              have HI2 := (HI1.out.drewN m3).set (g := g) HG1.out HNE4.out hwz hbw 0 (.int .i64 4)
              have hg2 := row_set (w := w1.drewN m3) (g := g) HG1.out 0 (.int .i64 4)
              have hend : endA l p = (p + mv).toNat := by have := HME.out; omega
              refine ⟨4, 0, D, endA l p, hgt, hle, by rw [HLT.out.1], by rw [HLT.out.2], by rw [HME.out], dgs_meet0 l p _ D hlt HNN.out rfl (by simp [errA, HK4.out, terr]), HI2, hg2, .inr ⟨by decide, tok_meet l p _ 4 0 hlt HNN.out (by rw [HK4.out]; decide) rfl (by simp [HK4.out, tkind]) (by simp [HK4.out, tnum])⟩⟩
          · as_aux_lemma =>
            have hk3 := kindA_D l p hL hDg
            have hend := endA_run l p 3 hk3 (by decide) (isD_ne _ hDg)
            have hcl := letter_ok (chr l p)
            have hcd := digit_ok (chr l p)
            rw [hL] at hcl
            rw [hDg] at hcd
            have HCL := Lib.hid hcl
            have HCD := Lib.hid hcd
            have HK3 := Lib.hid hk3
            have HEND := Lib.hid hend
            clear hcl hcd hk3 hend hL hDg
            go_upto_block 7 with (first
              | (go_at_call 29; refine (HCL.out _).mono ?_; rintro e w' ⟨rfl, rfl⟩)
              | (go_at_call 30; refine (HCD.out _).mono ?_; rintro e w' ⟨rfl, rfl⟩))
            go_cut [10] from 14 to 177 (fun v10 wx => v10 = .int .i64 (endA l p) ∧ w1 = wx)
            case first => as_aux_lemma =>
              clear HCL HCD
              go_wp2_with fail
              go_loop [10] (fun v => ∃ j : Nat, p + 1 ≤ j ∧ j ≤ l.length ∧ v = .int .i64 j ∧ Hid (ends l 3 j = endA l p)) (fun v => l.length - (intOf v).toNat)
              case atStart => exact ⟨p + 1, Nat.le_refl _, by omega, by go_num, Lib.hid HEND.out.symm⟩
              case round =>
                obtain ⟨j, hj1, hj2, rfl, HJ⟩ := hrel
                by_cases hlj : j < l.length
                · have hcj := HI1.out.text j hlj
                  have hcd := digit_ok (chr l j)
                  cases hd : isD (chr l j)
                  · rw [hd] at hcd
                    have HCD := Lib.hid hcd
                    have HG := Lib.hid (show goes 3 (chr l j) = false by simp [goes, hd])
                    clear hcd hd
                    go_wp2_with (go_at_call 30; refine (HCD.out _).mono ?_; rintro e w' ⟨rfl, rfl⟩)
                    go_meet
                    exact ⟨by rw [← HJ.out, ends_stop l 3 j hlj HG.out], rfl⟩
                  · rw [hd] at hcd
                    have HCD := Lib.hid hcd
                    have HG := Lib.hid (show goes 3 (chr l j) = true by simp [goes, hd])
                    clear hcd hd
                    go_wp2_with (go_at_call 30; refine (HCD.out _).mono ?_; rintro e w' ⟨rfl, rfl⟩)
                    go_round
                    case rel => exact ⟨j + 1, by omega, by omega, by go_num, Lib.hid ((ends_more l 3 j hlj HG.out).symm.trans HJ.out)⟩
                    case measure => simp [intOf]; omega
                · have hjl : decide (j < l.length) = false := by simpa using hlj
                  go_wp2_with fail
                  go_meet
                  exact ⟨by rw [← HJ.out, ends_end l 3 j (by omega)], rfl⟩
            case rest => as_aux_lemma =>
              obtain ⟨rfl, rfl⟩ := hcut
              clear HCL HCD HEND
              generalize hqE : endA l p = q at hle hgt HLT ⊢
              have HQE := Lib.hid hqE
              clear hqE
              have hcq : q ≤ cap := by omega
              have hg2 := row_set HG1.out 0 (.int .i64 3)
              have HI2 := Lib.hid (HI1.out.set HG1.out HNE4.out hwz hbw 0 (.int .i64 3))
              have hcv := conv_part HI2.out.text p q cap hle
              have htl : ((l.drop p).take (q - p)).length = q - p := by simp; omega
              have hnu := fun W => refNumber_ok ((l.drop p).take (q - p)) W (by rw [htl]; omega)
              obtain ⟨c0, c1, c2, c3, c4, f⟩ := cells5 HG1.out
              have hgl := lt_of_block HG1.out
              go_upto_region 29 with (fail)
              clear c0 c1 c2 c3 c4 f hcell HG1 HI1
              generalize htE : (l.drop p).take (q - p) = tx at hcv hnu
              have HTE := Lib.hid htE
              clear htE htl
              obtain ⟨c0, c1, c2, c3, c4, f⟩ := cells5 hg2
              have HG2 := Lib.hid hg2
              clear hg2
              generalize w1.setCell ⟨g, 0, none⟩ (.int .i64 3) = w2 at HI2 hcv c0 c1 c2 c3 c4 f HG2 ⊢
              generalize hnE : numT tx = nn at hnu
              obtain ⟨n1, n2⟩ := nn
              have HNE := Lib.hid hnE
              have HNU := Lib.hid hnu
              clear hnE hnu
              have hg3 := row_set HG2.out 2 (.int .i64 n1)
              have HI3 := Lib.hid (HI2.out.set HG2.out HNE4.out hwz hbw 2 (.int .i64 n1))
              have HTK := Lib.hid (tok_meet l p q 3 n1 hlt HNN.out (by rw [HK3.out]; decide) HQE.out (by rw [HTE.out, HK3.out]; simp [tkind]) (by rw [HTE.out, HK3.out]; simp [tnum, HNE.out]))
              have HER := Lib.hid (show errA l p = if n2 = true then 0 else 9 by
                have ht : textA l p = tx := by unfold textA; rw [HQE.out]; exact HTE.out
                simp [errA, HK3.out, ht, terr, HNE.out])
              cases n2
              · go_upto_region 32 with (go_at_call 32; refine (HNU.out _).mono ?_; rintro e w' ⟨rfl, rfl⟩)
                clear c0 c1 c2 c3 c4 f hcv HNU HG2 HI2
                obtain ⟨c0, c1, c2, c3, c4, f⟩ := cells5 hg3
                have HG3 := Lib.hid hg3
                clear hg3
                generalize w2.setCell ⟨g, 2, none⟩ (.int .i64 n1) = w3 at HI3 c0 c1 c2 c3 c4 f HG3 ⊢
                go_wp2_with (at_builtin; refine wpList_app5 _ rfl _ _ rfl w.heap.size _ D rfl (HI3.out.own5.alloc _) ⟨w3.heap.size, 0, none⟩ ⟨lineOf l p, (p : Int) - fromOf l p + 1, 9⟩ rfl ?newn hlenD ?basen ?_)
                case newn => exact new_cells w3 _ _
                case basen => have := HI3.out.below.size; simp; omega
                intro v' w5 hown5 hgrow5
                have HI5 := Lib.hid ((HI3.out.after ((Below.refl _ _).alloc (Nat.le_refl _) _) h0).app5 hgrow5 hown5 hbw)
                have hg5 := (hgrow5.block g (by have := lt_of_block HG3.out; simp; omega) (HI3.out.ne5 HG3.out)).trans ((Below.heap_alloc w3 _ g (lt_of_block HG3.out)).trans HG3.out)
                have HG5 := Lib.hid hg5
                clear hown5 hgrow5 hg5 c0 c1 c2 c3 c4 f
                go_wp2_with fail
                go_meet
                exact ⟨3, n1, D ++ [⟨lineOf l p, (p : Int) - fromOf l p + 1, 9⟩], q, hgt, hle, by rw [HLT.out.1], by rw [HLT.out.2], rfl, dgs_meet1 l p q D 9 hlt HNN.out HQE.out HER.out (by decide), HI5.out, HG5.out, .inr ⟨by decide, HTK.out⟩⟩
              · have HG3 := Lib.hid hg3
                clear hg3
                go_wp2_with (go_at_call 32; refine (HNU.out _).mono ?_; rintro e w' ⟨rfl, rfl⟩)
                go_meet
                exact ⟨3, n1, D, q, hgt, hle, by rw [HLT.out.1], by rw [HLT.out.2], rfl, dgs_meet0 l p q D hlt HNN.out HQE.out HER.out, HI3.out, HG3.out, .inr ⟨by decide, HTK.out⟩⟩
        · as_aux_lemma =>
          have hk1 := kindA_L l p hL
          have hend := endA_run l p 1 hk1 (by decide) (isL_ne _ hL)
          have hcl := letter_ok (chr l p)
          rw [hL] at hcl
          have HCL := Lib.hid hcl
          have HK1 := Lib.hid hk1
          have HEND := Lib.hid hend
          clear hcl hk1 hend hL
          go_upto_block 5 with (go_at_call 29; refine (HCL.out _).mono ?_; rintro e w' ⟨rfl, rfl⟩)
          go_cut [10] from 14 to 177 (fun v10 wx => v10 = .int .i64 (endA l p) ∧ w1 = wx)
          case first => as_aux_lemma =>
            clear HCL
            go_wp2_with fail
            go_loop [10] (fun v => ∃ j : Nat, p + 1 ≤ j ∧ j ≤ l.length ∧ v = .int .i64 j ∧ Hid (ends l 1 j = endA l p)) (fun v => l.length - (intOf v).toNat)
            case atStart => exact ⟨p + 1, Nat.le_refl _, by omega, by go_num, Lib.hid HEND.out.symm⟩
            case round =>
              obtain ⟨j, hj1, hj2, rfl, HJ⟩ := hrel
              by_cases hlj : j < l.length
              · have hcj := HI1.out.text j hlj
                have hcl := letter_ok (chr l j)
                have hcd := digit_ok (chr l j)
                cases hl' : isL (chr l j)
                · cases hd : isD (chr l j)
                  · rw [hd] at hcd
                    rw [hl'] at hcl
                    have HCD := Lib.hid hcd
                    have HCL := Lib.hid hcl
                    have HG := Lib.hid (show goes 1 (chr l j) = false by simp [goes, hd, hl'])
                    clear hcd hcl hd hl'
                    go_wp2_with (first
                      | (go_at_call 29; refine (HCL.out _).mono ?_; rintro e w' ⟨rfl, rfl⟩)
                      | (go_at_call 30; refine (HCD.out _).mono ?_; rintro e w' ⟨rfl, rfl⟩))
                    go_meet
                    exact ⟨by rw [← HJ.out, ends_stop l 1 j hlj HG.out], rfl⟩
                  · rw [hd] at hcd
                    rw [hl'] at hcl
                    have HCD := Lib.hid hcd
                    have HCL := Lib.hid hcl
                    have HG := Lib.hid (show goes 1 (chr l j) = true by simp [goes, hd])
                    clear hcd hcl hd hl'
                    go_wp2_with (first
                      | (go_at_call 29; refine (HCL.out _).mono ?_; rintro e w' ⟨rfl, rfl⟩)
                      | (go_at_call 30; refine (HCD.out _).mono ?_; rintro e w' ⟨rfl, rfl⟩))
                    go_round
                    case rel => exact ⟨j + 1, by omega, by omega, by go_num, Lib.hid ((ends_more l 1 j hlj HG.out).symm.trans HJ.out)⟩
                    case measure => simp [intOf]; omega
                · rw [hl'] at hcl
                  have HCL := Lib.hid hcl
                  have HG := Lib.hid (show goes 1 (chr l j) = true by simp [goes, hl'])
                  clear hcd hcl hl'
                  go_wp2_with (go_at_call 29; refine (HCL.out _).mono ?_; rintro e w' ⟨rfl, rfl⟩)
                  go_round
                  case rel => exact ⟨j + 1, by omega, by omega, by go_num, Lib.hid ((ends_more l 1 j hlj HG.out).symm.trans HJ.out)⟩
                  case measure => simp [intOf]; omega
              · have hjl : decide (j < l.length) = false := by simpa using hlj
                go_wp2_with fail
                go_meet
                exact ⟨by rw [← HJ.out, ends_end l 1 j (by omega)], rfl⟩
          case rest => as_aux_lemma =>
            obtain ⟨rfl, rfl⟩ := hcut
            clear HCL HEND
            generalize hqE : endA l p = q at hle hgt HLT ⊢
            have HQE := Lib.hid hqE
            clear hqE
            have hcq : q ≤ cap := by omega
            have hg2 := row_set HG1.out 0 (.int .i64 1)
            have HI2 := Lib.hid (HI1.out.set HG1.out HNE4.out hwz hbw 0 (.int .i64 1))
            have hcv := conv_part HI2.out.text p q cap hle
            have htl : ((l.drop p).take (q - p)).length = q - p := by simp; omega
            obtain ⟨c0, c1, c2, c3, c4, f⟩ := cells5 HG1.out
            have hgl := lt_of_block HG1.out
            go_upto_region 21 with (fail)
            clear c0 c1 c2 c3 c4 f hcell HG1 HI1 hgl
            generalize htE : (l.drop p).take (q - p) = tx at hcv htl
            have HTE := Lib.hid htE
            have HTL := Lib.hid htl
            clear htE htl
            have HG2 := Lib.hid hg2
            clear hg2
            generalize w1.setCell ⟨g, 0, none⟩ (.int .i64 1) = w2 at HI2 hcv HG2 ⊢
            have HXT := Lib.hid (show textA l p = tx by unfold textA; rw [HQE.out]; exact HTE.out)
            have HIW := Lib.hid (refIsWord_ok tx w2)
            go_wp2_with fail
            refine HIW.out.mono ?_
            rintro e w3 ⟨rfl, hb3⟩
            have HI3 := Lib.hid (HI2.out.after hb3 h0)
            have hg3 := heap_below hb3 (lt_of_block HG2.out) HG2.out
            clear hb3 HI2 HG2 HIW hcv
            obtain ⟨c0, c1, c2, c3, c4, f⟩ := cells5 hg3
            have hgl := lt_of_block hg3
            have HG3 := Lib.hid hg3
            clear hg3
            cases hW : isW tx
            · have HTK := Lib.hid (tok_meet l p q 1 0 hlt HNN.out (by rw [HK1.out]; decide) HQE.out (by rw [HTE.out, HK1.out]; simp [tkind, hW]) (by rw [HK1.out]; simp [tnum]))
              by_cases h32 : 32 < q - p
              · have HER := Lib.hid (show errA l p = 9 by simp [errA, HK1.out, HXT.out, terr, HTL.out, h32])
                clear hW
                go_wp2_with (at_builtin; refine wpList_app5 _ rfl _ _ rfl w.heap.size _ D rfl (HI3.out.own5.alloc _) ⟨w3.heap.size, 0, none⟩ ⟨lineOf l p, (p : Int) - fromOf l p + 1, 9⟩ rfl ?newl hlenD ?basel ?_)
                case newl => exact new_cells w3 _ _
                case basel => have := HI3.out.below.size; simp; omega
                intro v' w5 hown5 hgrow5
                have HI5 := Lib.hid ((HI3.out.after ((Below.refl _ _).alloc (Nat.le_refl _) _) h0).app5 hgrow5 hown5 hbw)
                have hg5 := (hgrow5.block g (by have := lt_of_block HG3.out; simp; omega) (HI3.out.ne5 HG3.out)).trans ((Below.heap_alloc w3 _ g (lt_of_block HG3.out)).trans HG3.out)
                have HG5 := Lib.hid hg5
                clear hown5 hgrow5 hg5 c0 c1 c2 c3 c4 f
                go_wp2_with fail
                go_meet
                exact ⟨1, 0, D ++ [⟨lineOf l p, (p : Int) - fromOf l p + 1, 9⟩], q, hgt, hle, by rw [HLT.out.1], by rw [HLT.out.2], rfl, dgs_meet1 l p q D 9 hlt HNN.out HQE.out HER.out (by decide), HI5.out, HG5.out, .inr ⟨by decide, HTK.out⟩⟩
              · have HER := Lib.hid (show errA l p = 0 by simp [errA, HK1.out, HXT.out, terr, HTL.out, h32])
                clear hW
                go_wp2_with fail
                go_meet
                exact ⟨1, 0, D, q, hgt, hle, by rw [HLT.out.1], by rw [HLT.out.2], rfl, dgs_meet0 l p q D hlt HNN.out HQE.out HER.out, HI3.out, HG3.out, .inr ⟨by decide, HTK.out⟩⟩
            · have HTK := Lib.hid (tok_meet l p q 2 0 hlt HNN.out (by rw [HK1.out]; decide) HQE.out (by rw [HTE.out, HK1.out]; simp [tkind, hW]) (by rw [HK1.out]; simp [tnum]))
              have hw32 := isW_len tx hW
              have HER := Lib.hid (show errA l p = 0 by simp [errA, HK1.out, HXT.out, terr]; omega)
              have HI4 := Lib.hid (HI3.out.set HG3.out HNE4.out hwz hbw 0 (.int .i64 2))
              have hg4 := row_set HG3.out 0 (.int .i64 2)
              have HG4 := Lib.hid hg4
              clear hW hg4 hw32
              go_wp2_with fail
              go_meet
              exact ⟨2, 0, D, q, hgt, hle, by rw [HLT.out.1], by rw [HLT.out.2], rfl, dgs_meet0 l p q D hlt HNN.out HQE.out HER.out, HI4.out, HG4.out, .inr ⟨by decide, HTK.out⟩⟩
      case rest =>
        obtain ⟨k, n, D', q, hpq, hql, rfl, rfl, rfl, hD', hI', hg, hor⟩ := hcut
        clear HI1 HG1 hcell
        have HD' := Lib.hid hD'
        have HI' := Lib.hid hI'
        obtain ⟨c0, c1, c2, c3, c4, f⟩ := cells5 hg
        have hgl := lt_of_block hg
        rcases hor with ⟨rfl, ht⟩ | ⟨hk, ht⟩
        · as_aux_lemma =>
          have HTE := Lib.hid ht
          clear hD' hI' ht hg c1 c2 c3 c4 f
          go_wp2_with fail
          go_roundg (l.length - q)
          case measure => have := HK.out; omega
          case rel => exact ⟨T, D', q, hql, rfl, rfl, rfl, rfl, by rw [HTE.out]; exact HT.out, by rw [HD'.out]; exact HD.out, HI'.out⟩
        · as_aux_lemma =>
          have HTE := Lib.hid ht
          have hcv : (convert 22 9 (.slice (some ⟨b, off + p, none⟩) (q - p) (cap - p))).run Tryz.prog wc = .ok (.string ⟨((l.drop p).take (q - p)).toArray⟩) wc := by
            have := conv_bs (HI'.out.text.part p (q - p)) (cap - p)
            rw [List.length_take, List.length_drop, Nat.min_eq_left (by omega)] at this
            exact this
          have hlenT : T.length ≤ 1000000 := by
            have h1 := congrArg List.length HT.out
            have h2 := len_toks l.length l (nxt l 0) (by omega)
            rw [List.length_append] at h1
            omega
          have hcp : ¬ cap = p := by omega
          have hcq : q ≤ cap := by omega
          clear hD' hI' ht
          generalize (l.drop p).take (q - p) = tx at HTE hcv
          have HI2 := Lib.hid (HI'.out.set hg HNE4.out hwz hbw 1 (.string ⟨tx.toArray⟩))
          have hg2 := row_set hg 1 (.string ⟨tx.toArray⟩)
          obtain ⟨d0, d1, d2, d3, d4, _⟩ := cells5 hg2
          clear hg
          go_upto_region 38 with (fail)
          clear c0 c1 c2 c3 c4 f hcv HI' hgl hg2
          generalize wc.setCell ⟨g, 1, none⟩ (.string ⟨tx.toArray⟩) = w3 at HI2 d0 d1 d2 d3 d4 ⊢
          go_wp2_with (at_builtin; refine wpList_app4 _ rfl _ _ rfl w.heap.size _ T rfl (HI2.out.own4.alloc _) ⟨w3.heap.size, 0, none⟩ ⟨k, tx, n, lineOf l p, (p : Int) - fromOf l p + 1⟩ rfl ?new hlenT ?base ?_)
          case new => exact new_cells w3 _ _
          case base => have := HI2.out.below.size; simp; omega
          intro v' w4 hown4 hgrow4
          have HI3 := Lib.hid ((HI2.out.after ((Below.refl _ _).alloc (Nat.le_refl _) _) h0).app4 hgrow4 hown4 hbw)
          clear hown4 hgrow4 HI2 d0 d1 d2 d3 d4
          go_wp2_with fail
          go_roundg (l.length - q)
          case measure => have := HK.out; omega
          case rel => exact ⟨_, D', q, hql, rfl, rfl, rfl, rfl, by rw [← HT.out, ← HTE.out]; simp, by rw [HD'.out]; exact HD.out, HI3.out⟩
    · go_wp2_with fail
      go_ret2
      have e1 := toks_end l (nxt l p) (by have := nxt_ge l p; omega)
      have e2 := dgs_end l (nxt l p) (by have := nxt_ge l p; omega)
      have h1 := HT.out
      have h2 := HD.out
      rw [e1, List.append_nil] at h1
      rw [e2, List.append_nil] at h2
      exact ⟨_, _, rfl, HI.out.below, by rw [← h1]; exact HI.out.own4, by rw [← h2]; exact HI.out.own5⟩

set_option maxRecDepth 100000 in
set_option maxHeartbeats 1000000 in
theorem refScan_none (A : Option Addr) (cap : Nat) (w : World) :
    Calls Tryz.prog 17 #[.slice A 0 cap] w fun e w' => e = .returned (.tuple #[.slice none 0 0, .slice none 0 0]) ∧ w = w' := by
  go_enter Tryz.func17, Tryz.ntmps17
  go_wp2_with fail
  go_loopw [4, 5, 6, 7, 8] (fun v4 v5 v6 v7 v8 wr => v4 = .slice none 0 0 ∧ v5 = .slice none 0 0 ∧ v6 = .int .i64 1 ∧ v7 = .int .i64 0 ∧ v8 = .int .i64 0 ∧ w = wr) (fun _ _ _ _ _ _ => 0)
  case atStart => exact ⟨rfl, rfl, rfl, rfl, rfl, rfl⟩
  case round =>
    obtain ⟨rfl, rfl, rfl, rfl, rfl, rfl⟩ := hrel
    go_wp2_with fail
    go_ret2
    exact ⟨rfl, rfl⟩

theorem refScan_ok (l : List UInt8) (v : Value) (w : World) (hv : Holds w v l) (hn : l.length ≤ 1000000) :
    Calls Tryz.prog 17 #[v] w (Scanned w.heap.size l w) := by
  obtain ⟨A, cap, rfl, hc, hA⟩ := hv
  by_cases h0 : 0 < l.length
  · obtain ⟨b, off, rfl, hb⟩ := hA h0
    exact refScan_some l b off cap w hb hn hc h0
  · have : l = [] := List.eq_nil_of_length_eq_zero (by omega)
    subst this
    refine (refScan_none A cap w).mono ?_
    rintro e w' ⟨rfl, rfl⟩
    exact ⟨_, _, rfl, Below.refl _ _, World.ownsRow_nil _ _ _ _, World.ownsRow_nil _ _ _ _⟩
end Go.Proofs.YtpeoefbibjbinaaGreat
