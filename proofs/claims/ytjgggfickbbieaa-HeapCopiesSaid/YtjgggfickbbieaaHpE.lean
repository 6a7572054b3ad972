/- The program's heap: add. -/
import Derived.Test.YtjgggfickbbieaaHpD
namespace Go.Proofs.Ytjgggfickbbieaa
open Go.RowKit Go.Shelf
attribute [local go_sem] Oper.semAt_some
@[go_sem] theorem eqmap_none (w : World) : (binOp .eql 60 (.map none) (.map none)).run Try.prog w = .ok (.bool true) w := by kernel_rfl
@[go_sem] theorem eqmap_some (b : Nat) (w : World) : (binOp .eql 60 (.map (some b)) (.map none)).run Try.prog w = .ok (.bool false) w := by kernel_rfl
theorem infoP : (Try.prog.info? 75).map (fun i => (i.zero, i.size, i.bytes)) = some (some (.pointer none), 1, 8) := by kernel_rfl
/-- A heap with a map, an object in its box. -/
def Pre (own : Nat → Bool) (bh : Nat) (ps : List Nat) (L : List Ob) (W : World) (A : Option Addr) (c : Nat) (x : Ob) (n : Int) (w : World) : Prop := ∃ (own1 : Nat → Bool) (bm : Nat) (D : DM), PH own1 bh ps L w ∧ w.heap[bh]? = some (.cells #[.slice A L.length c, .map (some bm)] 62 (0, 0)) ∧ own1 bm = true ∧
  w.ownsMap Try.prog 3 (plainElem Try.prog 3) bm (Maps.size D) D ∧ MD L D ∧ w.heap[W.heap.size]? = some (obo x n) ∧ own1 W.heap.size = false ∧ Kept (pQ own) W w ∧ ∀ b, own1 b = true → own b = true ∨ W.heap.size ≤ b
/-- What was there at W, seen from a later world. -/
theorem kept_old {p : Nat → Option TypeId → Bool} {W w w' : World} (h : Kept p W w) (k : Kept (fun b t => decide (b < W.heap.size) && p b t) w w') : Kept p W w' :=
  (Kept.trans (h.mono (q := fun b t => decide (b < W.heap.size) && p b t) fun b t _ hp => by simp at hp; exact hp.2) k).mono fun b t hb hp => by simp [hb, hp]
/-- What is left of add. -/
def Fin1 (own : Nat → Bool) (bh : Nat) (L : List Ob) (W : World) (x : Ob) (W' : World) : Prop := ∃ own' ps', PH own' bh ps' (L ++ [x]) W' ∧ Kept (pQ own) W W' ∧ ∀ b, own' b = true → own b = true ∨ x.v.ownBlock = some b ∨ W.heap.size ≤ b
theorem wf_of {a : Int} (h : 0 ≤ a ∧ a ≤ 9223372036854775807) : (Lit.int .i64 a).wf = true := by
  have h1 : IntKind.min .i64 = -9223372036854775808 := by decide
  have h2 : IntKind.max .i64 = 9223372036854775807 := by decide
  simp [Lit.wf, h1, h2]; omega
section
variable {own : Nat → Bool} {bh : Nat} {ps : List Nat} {L : List Ob} {W : World}
set_option maxHeartbeats 1000000 in
set_option maxRecDepth 100000 in
theorem add_full (h : PH own bh ps L W) (hn : L.length = 1024) (x : Ob) (n : Int) :
    Calls Try.prog 39 #[.pointer (some ⟨bh, 0, none⟩), .agg #[.int .i64 x.kind, .int .i64 x.of, x.v, .int .i64 x.site, .int .i64 x.by', .int .i64 n]] W fun e W' => e = .returned (.tuple #[.int .i64 0, .int .i64 11]) ∧ Ext W W' := by
  obtain ⟨W1, hW1⟩ : ∃ W1, W1 = W.alloc (obo x n) := ⟨_, rfl⟩
  have hE1 : Ext W W1 := by rw [hW1]; exact Ext.one _ _
  have h1 := h.ext hE1
  obtain ⟨A, c, mv, e1, c0, _⟩ := h1.list
  have hbh := h1.bl
  have hl : (1024 : Int) ≤ (L.length : Int) := by omega
  have HE1 := Lib.hid hE1
  have HW := Lib.hid hW1
  clear h h1 e1 hE1 hW1 hn
  go_enter Try.func39, Try.ntmps39
  go_upto_region 1 with (fail)
  change Code.wp _ _ _ _ (W.alloc (obo x n))
  rw [← HW.out]
  go_wp2_with fail
  go_ret2
  exact ⟨rfl, HE1.out⟩
set_option maxHeartbeats 2000000 in
set_option maxRecDepth 100000 in
theorem add_ok (h : PH own bh ps L W) (hn : L.length < 1024) (x : Ob) (n : Int) (hwf : (Lit.int .i64 x.by').wf = true) (hxo : W.ownsRow 0 2 1 x.v x.vals.length (rowI x.vals)) (hno : ∀ g, x.v.ownBlock = some g → own g = false) (hwd : x.vals.length ≤ 256) :
    Calls Try.prog 39 #[.pointer (some ⟨bh, 0, none⟩), .agg #[.int .i64 x.kind, .int .i64 x.of, x.v, .int .i64 x.site, .int .i64 x.by', .int .i64 n]] W fun e W' => e = .returned (.tuple #[.int .i64 ((L.length : Int) + 1), .int .i64 0]) ∧ ∃ own' ps', PH own' bh ps' (L ++ [{ x with nth := (cntO L x.by' : Int) }]) W' ∧ Kept (pQ own) W W' ∧ ∀ b, own' b = true → own b = true ∨ x.v.ownBlock = some b ∨ W.heap.size ≤ b := by
  obtain ⟨A0, c0', hxv⟩ := own_slice3 hxo
  have HKEY := Lib.hid (key_wf hwf)
  obtain ⟨W1, hW1⟩ : ∃ W1, W1 = W.alloc (obo x n) := ⟨_, rfl⟩
  have hE1 : Ext W W1 := by rw [hW1]; exact Ext.one _ _
  have hr0 : W1.heap[W.heap.size]? = some (obo x n) := by rw [hW1]; exact World.alloc_heap_new _ _
  have h1 := h.ext hE1
  obtain ⟨v, mv, e1, e2, e3, e4⟩ := h1.ex
  obtain ⟨A, c, rfl⟩ := own_slice3 e2
  have b0 : W1.cell? ⟨bh, 0, none⟩ = some (.slice A L.length c) := by simp [World.cell?, e1]
  have b1 : W1.cell? ⟨bh, 1, none⟩ = some mv := by simp [World.cell?, e1]
  have hbh := h1.bl
  have hfz := frozen_of_row W1 bh 1 _ _ e1
  have hl : ¬ (1024 : Int) ≤ (L.length : Int) := by omega
  have hnew : own W.heap.size = false := by
    cases hc : own W.heap.size with
    | false => rfl
    | true => have := h.lt _ hc; omega
  have hno1 : ∀ g, x.v.ownBlock = some g → own g = false ∧ g < W.heap.size := fun g hg => ⟨hno g hg, by
    obtain ⟨o, k1, _⟩ := own_is hxo g hg
    exact (Array.getElem?_eq_some_iff.1 k1).1⟩
  have HE1 := Lib.hid hE1
  have HW := Lib.hid hW1
  have HH := Lib.hid h1
  have HR0 := Lib.hid hr0
  have HXO := Lib.hid hxo
  have HNO := Lib.hid hno1
  have HXV := Lib.hid hxv
  have HNEW := Lib.hid hnew
  have H1 := Lib.hid e1
  have hmm := @run_makeMap Try.prog
  clear h h1 hE1 hW1 hr0 hxo hno hno1 hxv hwf hnew e1 e2 e3
  go_enter Try.func39, Try.ntmps39
  go_upto_region 1 with (fail)
  change Code.wp _ _ _ _ (W.alloc (obo x n))
  rw [← HW.out]
  rcases e4 with ⟨rfl, hL0⟩ | ⟨bm, D, rfl, hob, hm, hmd⟩
  case' inl =>
    have HL0 := Lib.hid hL0
    clear hL0
    go_upto_region 5 with (fail)
    have hpre : Pre own bh ps L W A c x n ((W1.setCell ⟨bh, 1, none⟩ (.map (some W1.heap.size))).alloc (.map #[] 0)) := by
      obtain ⟨m1, m2, m3, m4⟩ := HH.out.mapped HL0.out H1.out
      have hz : W1.heap.size = W.heap.size + 1 := by rw [HW.out]; simp
      refine ⟨_, W1.heap.size, D0, m1, m2, by simp, m3, by rw [HL0.out]; exact MD.nil, m4.same _ _ HR0.out (by have := HH.out.lt _ HH.out.ob; have h7 := HNEW.out; simp; intro e; rw [e] at h7; rw [HH.out.ob] at h7; cases h7), by simp [HNEW.out, hz], (HE1.out.kept _).trans (m4.mono fun b t _ hp => ?_), fun b hb => ?_⟩
      · simp [pQ] at hp; simp; intro e; subst e; rw [HH.out.ob] at hp; cases hp
      · simp only [Bool.or_eq_true, beq_iff_eq] at hb
        rcases hb with hb | hb
        · exact .inl hb
        · exact .inr (by omega)
    generalize (W1.setCell ⟨bh, 1, none⟩ (.map (some W1.heap.size))).alloc (.map #[] 0) = w3 at *
    have HPRE := Lib.hid hpre
    clear hpre hfz b0 b1 HL0 H1 HR0 HW HE1 HH
  case' inr =>
    have HM := Lib.hid hm
    have HMD := Lib.hid hmd
    clear hm hmd
    go_upto_region 5 with (fail)
    have hpre : Pre own bh ps L W A c x n W1 := ⟨own, bm, D, HH.out, H1.out, hob, HM.out, HMD.out, HR0.out, HNEW.out, HE1.out.kept _, fun b hb => .inl hb⟩
    have HPRE := Lib.hid hpre
    clear hpre hfz b0 b1 H1 HR0 HW HE1 HH HM HMD hob
    obtain ⟨w3, rfl⟩ : ∃ w3, w3 = W1 := ⟨_, rfl⟩
  all_goals
    obtain ⟨own1, bm1, D1, g1, g2, g3, g4, g5, g6, g7, g8, g9⟩ := HPRE.out
    obtain ⟨y, hlk, hat, _⟩ := g4.drew.lookup_int law3 Try.underlying60 Try.underlying3 (zeroI _) HKEY.out
    have b0 : w3.cell? ⟨bh, 0, none⟩ = some (.slice A L.length c) := by simp [World.cell?, g2]
    have b1 : w3.cell? ⟨bh, 1, none⟩ = some (.map (some bm1)) := by simp [World.cell?, g2]
    have hbl := (Array.getElem?_eq_some_iff.1 g2).1
    obtain ⟨⟨_, _, _, _, x4, x5⟩, xf, xl⟩ := obo_cells g6
    have G1 := Lib.hid g1
    have G2 := Lib.hid g2
    have G3 := Lib.hid g3
    have G4 := Lib.hid g4
    have G5 := Lib.hid g5
    have G6 := Lib.hid g6
    have G7 := Lib.hid g7
    have G8 := Lib.hid g8
    have G9 := Lib.hid g9
    have HAT := Lib.hid hat
    clear g1 g2 g3 g4 g5 g6 g7 g8 g9 hat
    go_still_tail 8, (by kernel_rfl)
    change wpList _ _ _ _ _ w3.drew
    go_wp2_with fail
    obtain ⟨w4, hw4⟩ : ∃ w4, w4 = (w3.setCell ⟨W.heap.size, 5, none⟩ (.int .i64 y)).drew := ⟨_, rfl⟩
    rw [← hw4]
    obtain ⟨s1, s2⟩ := obo_set G6.out y
    have k4 : Kept (fun k _ => k != W.heap.size) w3 w4 := by rw [hw4]; exact s2.trans (Kept.drew _ _)
    have hb4 : w4.heap[W.heap.size]? = some (obo x y) := by rw [hw4]; exact s1
    have hv4 := k4.same _ _ G2.out (by have h1 := G1.out.ob; simp; intro e; rw [e, G7.out] at h1; cases h1)
    have hm4 := k4.map G4.out (by have h1 := G3.out; simp; intro e; rw [e, G7.out] at h1; cases h1)
    obtain ⟨y2, hlk2, hat2, _⟩ := hm4.drew.lookup_int law3 Try.underlying60 Try.underlying3 (zeroI _) HKEY.out
    have b0 : w4.cell? ⟨bh, 0, none⟩ = some (.slice A L.length c) := by simp [World.cell?, hv4]
    have b1 : w4.cell? ⟨bh, 1, none⟩ = some (.map (some bm1)) := by simp [World.cell?, hv4]
    have hbl4 := (Array.getElem?_eq_some_iff.1 hv4).1
    obtain ⟨⟨_, _, _, _, x4, x5⟩, xf, xl⟩ := obo_cells hb4
    have hy : y = (cntO L x.by' : Int) := by
      have h1 := G5.out.at' x.by'
      rw [at0, show tk 0 = .int .i64 0 from rfl, HAT.out] at h1
      simpa [tk] using h1
    have hy2 : y2 = (cntO L x.by' : Int) := by
      have h1 := G5.out.at' x.by'
      rw [at0, show tk 0 = .int .i64 0 from rfl, hat2] at h1
      simpa [tk] using h1
    have hcl := cntO_le L x.by'
    subst hy2
    have hwr : IntKind.i64.wrap ((cntO L x.by' : Int) + 1) = (cntO L x.by' : Int) + 1 := by rw [IntKind.wrap_i64]; omega
    have K4 := Lib.hid k4
    have HB4 := Lib.hid hb4
    have HV4 := Lib.hid hv4
    have HM4 := Lib.hid hm4
    have HY := Lib.hid hy
    clear hw4 s1 s2 k4 hb4 hv4 hm4 hy hat2 hlk
    go_still_tail 8, (by kernel_rfl)
    change wpList _ _ _ _ _ w4.drew

    at_mapUpdate
    refine wpList_mapUpdate_own _ rfl _ _ _ 60 rfl 3 3 law3 Try.underlying60 (plainElem Try.prog 3) bm1 _ D1 rfl HM4.out.drew (Nat.lt_of_le_of_lt G5.out.size (by unfold maxLen; omega)) (.int .i64 x.by') (.int .i64 ((cntO L x.by' : Int) + 1)) (tk x.by') rfl rfl HKEY.out (.lit (tk ((cntO L x.by' : Int) + 1))) [] (Go.plainElem_int Try.underlying3 (wf_of ⟨by omega, by omega⟩)) ?_
    intro w5 hown5 hgrow5
    have k5 : Kept (fun b _ => b != bm1) w4 w5 := Kept.trans (Kept.drew _ _) (Kept.grown hgrow5 fun j o e ho => by injection e with e; subst e; simp)
    have hnb : bh ≠ bm1 := fun e => by
      obtain ⟨es, clock, q1, _⟩ := HM4.out
      have q2 := HV4.out
      rw [← e] at q1; rw [q1] at q2; cases q2
    have hnx : W.heap.size ≠ bm1 := fun e => by
      have q1 := G3.out
      rw [← e, G7.out] at q1; cases q1
    have hv5 := k5.same _ _ HV4.out (by simpa using hnb)
    have hb5 := k5.same _ _ HB4.out (by simpa using hnx)
    have b0 : w5.cell? ⟨bh, 0, none⟩ = some (.slice A L.length c) := by simp [World.cell?, hv5]
    have hbl5 := (Array.getElem?_eq_some_iff.1 hv5).1
    have hxl5 := (Array.getElem?_eq_some_iff.1 hb5).1
    obtain ⟨i0, hi0, hz0, hz1, hz2⟩ := infoParts infoP
    have hk35 : Kept (fun b _ => b != W.heap.size && b != bm1) w3 w5 := (K4.out.mono fun b t _ hp => by simp at hp; simp [hp.1]).trans (k5.mono fun b t _ hp => by simp at hp; simp [hp.2])
    have hrow5 : w5.ownsRow 0 75 1 (.slice A L.length c) L.length (rowP ps) := by
      obtain ⟨v9, mv9, q1, q2, q3, _⟩ := G1.out.ex
      rw [G2.out] at q1
      obtain rfl : Value.slice A L.length c = v9 := by
        simp only [Option.some.injEq, Obj.cells.injEq, and_true] at q1
        have := congrArg Array.toList q1; simp at this; exact this.1
      refine hk35.row q2 fun g hg => ?_
      have h1 := q3 g hg
      have n1 : g ≠ W.heap.size := fun e => by rw [e, G7.out] at h1; cases h1
      have n2 : g ≠ bm1 := fun e => by
        obtain ⟨o, r1, r2⟩ := own_is q2 g hg
        obtain ⟨es, clock, r3, _⟩ := G4.out
        rw [e, r3] at r1; cases r1; simp [tag] at r2
      simp [n1, n2]
    have HM5 := Lib.hid hown5
    have HV5 := Lib.hid hv5
    have HB5 := Lib.hid hb5
    have HK35 := Lib.hid hk35
    have HR5 := Lib.hid hrow5
    clear hown5 hgrow5 k5 hnb hnx hv5 hb5 hk35 hrow5 hlk2 x4 x5 b1
    go_wp2_with (at_builtin; refine wpList_append_any rfl _ _ 59 rfl 0 75 i0 (.pointer none) 1 8 Try.underlying59 hi0 hz0 hz1 hz2 rfl (by decide) (.slice A L.length c) L.length (rowP ps) rfl (HR5.out.alloc _) (.slice (some ⟨w5.heap.size, 0, none⟩) 1 1) 1 [.pointer (some ⟨W.heap.size, 0, none⟩)] rfl rfl (.inr ⟨_, _, rfl, World.news_of_block (heap_alloc_new w5 _)⟩) (by simp [Value.oneCell']) (by unfold maxLen; omega) (by omega) (by simp) (L.length + 1) rfl (rowP (ps ++ [W.heap.size])) (by simp [rowP]) ?_; intro A2 c2 w6 hown6 hgrow6 hat6; have hk6 : Kept (fun _ t => t != some 75) w5 w6 := (Kept.alloc _ _ _).trans (Kept.grown hgrow6 fun j o e ho => (by rw [(own_tag (HR5.out.alloc _) j o e ho).1]; rfl)); have hv6 := hk6.same _ _ HV5.out rfl; have d0 : w6.cell? ⟨bh, 0, none⟩ = some (.slice A L.length c) := (by simp [World.cell?, hv6]); have f6 := frozen_of_row w6 bh 0 _ _ hv6; have hl6 := (Array.getElem?_eq_some_iff.1 hv6).1; have HOWN6 := Lib.hid hown6; have HGROW6 := Lib.hid hgrow6; have HAT6 := Lib.hid hat6; clear hown6 hgrow6 hat6 hk6 hv6)
    have hmd' : MD (L ++ [{ x with nth := (cntO L x.by' : Int) }]) (putD D1 x.by' ((cntO L x.by' : Int) + 1)) := G5.out.add { x with nth := (cntO L x.by' : Int) }
    have hadd := G1.out.add G2.out G3.out G4.out { x with nth := (cntO L x.by' : Int) } G7.out (Array.getElem?_eq_some_iff.1 G6.out).1 HK35.out (by have := HB5.out; rw [HY.out] at this; exact this) (own_size HM5.out) hmd' (G8.out.row HXO.out fun g hg => by simp [pQ, (HNO.out g hg).1]) (fun g hg => by
        obtain ⟨q1, q2⟩ := HNO.out g hg
        refine ⟨?_, by omega⟩
        cases hc : own1 g with
        | false => rfl
        | true =>
          rcases G9.out g hc with r | r
          · rw [q1] at r; cases r
          · omega) hwd hn (Ext.one _ _) HGROW6.out HAT6.out HOWN6.out rfl
    obtain ⟨own2, r1, r2, r3⟩ := hadd
    have hret : Fin1 own bh L W { x with nth := (cntO L x.by' : Int) } (w6.setCell ⟨bh, 0, none⟩ (.slice A2 (L.length + 1) c2)) := by
      refine ⟨own2, _, r1, kept_old G8.out (r2.mono fun b t hb hp => ?_), fun b hb => ?_⟩
      · obtain ⟨hp0, hp⟩ : b < W.heap.size ∧ own b = false := by simpa [pQ] using hp
        have n1 : own1 b = false := by
          cases hc : own1 b with
          | false => rfl
          | true =>
            rcases G9.out b hc with r | r
            · rw [hp] at r; cases r
            · omega
        have n2 : b ≠ W.heap.size := by omega
        simp [n1, n2]
      · have z1 := HK35.out.size
        have z2 := G8.out.size
        rcases r3 b hb with r | r | r | r
        · rcases G9.out b r with q | q
          · exact .inl q
          · exact .inr (.inr q)
        · exact .inr (.inr (by omega))
        · exact .inr (.inl r)
        · exact .inr (.inr (by simp at r; omega))
    have HRET := Lib.hid hret
    clear r1 r2 r3 hret hmd'
    go_wp2_with fail
    go_ret2
    exact ⟨rfl, HRET.out⟩
end
end Go.Proofs.Ytjgggfickbbieaa
