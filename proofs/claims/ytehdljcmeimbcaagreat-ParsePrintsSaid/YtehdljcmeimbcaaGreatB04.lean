/- token.Scan; detentlaw01.known; A parser in memory; parser.next; parser.refuse, sees, seesWord, seesMark; slices.Index, slices.Contains. -/
import Derived.Test.YtehdljcmeimbcaaGreatB03
import Derived.Lib.SmallJoins
import Derived.Deep.DeepCutAuto
import Derived.Deep.Cut
import Derived.Deep.QuietTactic
import Derived.BigQuiet
import Derived.RegionTactic
import Derived.ChangeAlike
import Derived.Outline
import Derived.WalkLawsBesides
import Derived.Test.YtehdljcmeimbcaaGreatB02
import Derived.Deep.LoopGhost
namespace Go.Proofs.YtehdljcmeimbcaaGreat
open Go.RowKit

/-- The relation of Scan's loop. -/
def ScanR (l : List UInt8) (b off cap : Nat) (w : World) (a0 : Nat) (v4 v5 v8 : Value) (wr : World) : Prop :=
  ∃ (T : List Tok) (D : List Dg) (s a : Nat), s ≤ a ∧ a ≤ l.length ∧ v8 = .int .i64 a ∧ T ++ toks l a = toks l a0 ∧ D ++ dgs l a = dgs l a0 ∧ SI l b off cap w v4 v5 T D s wr

/-- The world behind the stores of a token into its variable. -/
def stW (w : World) (g : Nat) (t : Tok) : World :=
  ((((((w.setCell ⟨g, 0, none⟩ (.int .i64 t.kind)).setCell ⟨g, 1, none⟩ (.string ⟨t.text.toArray⟩)).setCell ⟨g, 2, none⟩ (.int .i64 t.n)).setCell ⟨g, 3, none⟩ (.int .i64 0)).setCell ⟨g, 4, none⟩ (.int .i64 0)).setCell
    ⟨g, 3, none⟩ (.int .i64 t.line)).setCell ⟨g, 4, none⟩ (.int .i64 t.col)
theorem stW_below {B : Nat} {a w : World} (h : Below B a w) (g : Nat) (hg : B ≤ g) (t : Tok) : Below B a (stW w g t) :=
  ((((((h.setCell (p := ⟨g, 0, none⟩) hg _).setCell (p := ⟨g, 1, none⟩) hg _).setCell (p := ⟨g, 2, none⟩) hg _).setCell (p := ⟨g, 3, none⟩) hg _).setCell (p := ⟨g, 4, none⟩) hg _).setCell (p := ⟨g, 3, none⟩) hg _).setCell (p := ⟨g, 4, none⟩) hg _
theorem stW_size (w : World) (g : Nat) (t : Tok) : (stW w g t).heap.size = w.heap.size := by simp [stW, World.setCell]
theorem set_far (w : World) (g i j : Nat) (v : Value) (h : i ≠ j) : (w.setCell ⟨g, i, none⟩ v).cell? ⟨g, j, none⟩ = w.cell? ⟨g, j, none⟩ := World.cell?_setCell_other _ _ _ _ (fun e => h (by injection e))
theorem set_here {w : World} {g i : Nat} {u : Value} (v : Value) (h : w.cell? ⟨g, i, none⟩ = some u) : (w.setCell ⟨g, i, none⟩ v).cell? ⟨g, i, none⟩ = some v := World.cell?_setCell_same _ _ _ h
theorem stW_cells {w : World} {g : Nat} {u0 u1 u2 u3 u4 : Value} (t : Tok) (h0 : w.cell? ⟨g, 0, none⟩ = some u0) (h1 : w.cell? ⟨g, 1, none⟩ = some u1) (h2 : w.cell? ⟨g, 2, none⟩ = some u2) (h3 : w.cell? ⟨g, 3, none⟩ = some u3) (h4 : w.cell? ⟨g, 4, none⟩ = some u4) :
    (stW w g t).cell? ⟨g, 0, none⟩ = some (.int .i64 t.kind) ∧ (stW w g t).cell? ⟨g, 1, none⟩ = some (.string ⟨t.text.toArray⟩) ∧ (stW w g t).cell? ⟨g, 2, none⟩ = some (.int .i64 t.n) ∧
    (stW w g t).cell? ⟨g, 3, none⟩ = some (.int .i64 t.line) ∧ (stW w g t).cell? ⟨g, 4, none⟩ = some (.int .i64 t.col) := by
  unfold stW
  refine ⟨?_, ?_, ?_, ?_, ?_⟩
  · rw [set_far _ _ 4 0 _ (by decide), set_far _ _ 3 0 _ (by decide), set_far _ _ 4 0 _ (by decide), set_far _ _ 3 0 _ (by decide), set_far _ _ 2 0 _ (by decide), set_far _ _ 1 0 _ (by decide)]
    exact set_here _ h0
  · rw [set_far _ _ 4 1 _ (by decide), set_far _ _ 3 1 _ (by decide), set_far _ _ 4 1 _ (by decide), set_far _ _ 3 1 _ (by decide), set_far _ _ 2 1 _ (by decide)]
    exact set_here _ ((set_far _ _ 0 1 _ (by decide)).trans h1)
  · rw [set_far _ _ 4 2 _ (by decide), set_far _ _ 3 2 _ (by decide), set_far _ _ 4 2 _ (by decide), set_far _ _ 3 2 _ (by decide)]
    exact set_here _ ((set_far _ _ 1 2 _ (by decide)).trans ((set_far _ _ 0 2 _ (by decide)).trans h2))
  · rw [set_far _ _ 4 3 _ (by decide)]
    exact set_here _ ((set_far _ _ 4 3 _ (by decide)).trans (set_here _ ((set_far _ _ 2 3 _ (by decide)).trans ((set_far _ _ 1 3 _ (by decide)).trans ((set_far _ _ 0 3 _ (by decide)).trans h3)))))
  · exact set_here _ ((set_far _ _ 3 4 _ (by decide)).trans (set_here _ ((set_far _ _ 3 4 _ (by decide)).trans ((set_far _ _ 2 4 _ (by decide)).trans ((set_far _ _ 1 4 _ (by decide)).trans ((set_far _ _ 0 4 _ (by decide)).trans h4))))))

set_option maxRecDepth 100000 in
set_option maxHeartbeats 1000000 in
theorem scan_some (l : List UInt8) (b off cap : Nat) (w : World) (hb : Bs w b off l) (hn : l.length ≤ 1000000) (hc : l.length ≤ cap) (h0 : 0 < l.length) :
    Calls Tryz.prog 15 #[.slice (some ⟨b, off, none⟩) l.length cap] w fun e w' =>
      ∃ v4 v5, e = .returned (.tuple #[v4, v5]) ∧ Below w.heap.size w w' ∧ w'.ownsRow w.heap.size 61 5 v4 (toks l (nxt l 0)).length (tcs (toks l (nxt l 0))) ∧ w'.ownsRow w.heap.size 48 3 v5 (dgs l (nxt l 0)).length (dcs (dgs l (nxt l 0))) := by
  have hbw := hb.lt h0
  have HB := Lib.hid hb
  clear hb
  go_enter Tryz.func15, Tryz.ntmps15
  go_wp2_with fail
  refine (wordSet_ok _).mono ?_
  rintro e w1 ⟨rfl, rfl⟩
  go_wp2_with fail
  refine (placesOf_ok _ _ _ _).mono ?_
  rintro e w2 ⟨rfl, hb2, hpl2, hsz2⟩
  have HB2 := Lib.hid hb2
  have HPL2 := Lib.hid hpl2
  have HSZ2 := Lib.hid hsz2
  clear hb2 hpl2 hsz2
  unfold plv
  have hsz : (w.alloc (wobj (wk 36))).heap.size = w.heap.size + 1 := by simp
  have hsi : SI l b off cap w (.slice none 0 0) (.slice none 0 0) [] [] 0 w2 := by
    have h2 := HB2.out
    have hp2 := HPL2.out
    rw [hsz] at h2 hp2
    refine ⟨((Below.refl _ _).alloc (Nat.le_refl _) _).trans (h2.mono (by omega)), (HB.out.alloc _).below h2 (by omega), heap_below h2 (by omega) (heap_alloc_new w _), hp2, World.ownsRow_nil _ _ _ _, World.ownsRow_nil _ _ _ _⟩
  have HSI := Lib.hid hsi
  clear hsi hsz
  go_wp2_with fail
  refine (nextAt_ok l b off cap 0 w2 HSI.out.text (by omega) (by omega)).mono ?_
  rintro e w3 ⟨rfl, rfl⟩
  have ha0 := nxt_le l 0 (by omega)
  go_wp2_with fail
  go_loopw [4, 5, 8] (fun v4 v5 v8 wr => ScanR l b off cap w (nxt l 0) v4 v5 v8 wr) (fun _ _ v8 _ => l.length - (intOf v8).toNat)
  case atStart => exact ⟨[], [], 0, nxt l 0, by omega, ha0, rfl, rfl, rfl, HSI.out⟩
  case round =>
    obtain ⟨T, D, s, a, hsa, hal, rfl, hT, hD, hI⟩ := hrel
    clear HSI HB2 HPL2 HSZ2 HB
    have HT := Lib.hid hT
    have HD := Lib.hid hD
    have HI := Lib.hid hI
    clear hT hD hI
    by_cases hlt : a < l.length
    · go_wp2_with fail
      refine (place_ok l b off cap (w.heap.size + 1) s a wr HI.out.text (by omega) hal hsa (by omega) HI.out.pl).mono ?_
      rintro e w4 ⟨rfl, hpl, hpt⟩
      have HI2 := Lib.hid (HI.out.place hpt hpl hbw)
      clear HI hpl hpt
      have hcell := HI2.out.text a hlt
      have hfl := fromOf_le l a
      have hll := lineOf_le l a
      have hcon := kindAt_ok (chr l a)
      by_cases hk0 : kindA l a = 0
      · have hk : kindI (chr l a) = 0 := hk0
        have he3 : errA l a = 3 := by simp [errA, hk0]
        have hend : endA l a = a + 1 := by simp [endA, hk0]
        have HK0 := Lib.hid hk0
        have HE3 := Lib.hid he3
        have HEND := Lib.hid hend
        rw [hk] at hcon
        have HC := Lib.hid hcon
        clear hcon hk hk0 he3 hend
        have hlenD : D.length ≤ 1000000 := by
          have h1 := congrArg List.length HD.out
          have h2 := len_dgs l.length l (nxt l 0) (by omega)
          rw [List.length_append] at h1
          omega
        go_wp2_with (first
          | (go_at_call 24; refine (HC.out _).mono ?_; rintro e w' ⟨rfl, rfl⟩)
          | (at_builtin; refine wpList_app5 _ rfl _ _ rfl (w.heap.size + 5) _ D rfl (HI2.out.own5.alloc _) ⟨w4.heap.size, 0, none⟩ ⟨lineOf l a, (a : Int) - fromOf l a + 1, 3⟩ rfl ?c1 hlenD ?c2 ?_))
        case c1 => exact new_cells w4 _ _
        case c2 => have := lt_of_block HI2.out.pl.seen; simp; omega
        intro v' w5 hown5 hgrow5
        have HI3 := Lib.hid ((HI2.out.after ((Below.refl _ _).alloc (Nat.le_refl _) _) h0).app5 hgrow5 hown5 hbw)
        clear hown5 hgrow5 HI2 hcell
        go_wp2_with (go_at_call 23; refine (nextAt_int l b off cap (a + 1) _ _ (by omega) HI3.out.text (by omega) (by omega)).mono ?_; rintro e w' ⟨rfl, rfl⟩)
        go_roundw
        case rel =>
          have e1 := toks_skip l a hlt HK0.out
          have e2 := dgs_one l a hlt (by rw [HE3.out]; decide)
          rw [HEND.out] at e1 e2
          refine ⟨T, D ++ [⟨lineOf l a, (a : Int) - fromOf l a + 1, 3⟩], a, nxt l (a + 1), ?_, nxt_le l (a + 1) (by omega), rfl, ?_, ?_, HI3.out⟩
          · have := nxt_ge l (a + 1); omega
          · rw [← e1]; exact HT.out
          · have := HD.out
            rw [e2] at this
            rw [← this, List.append_assoc]
            simp [dgA, HE3.out]
        case measure => have := nxt_ge l (a + 1); simp [intOf]; omega
      · have hk : kindI (chr l a) = kindA l a := rfl
        have hkc : kindA l a = 1 ∨ kindA l a = 3 ∨ kindA l a = 4 := (kind_cases (chr l a)).resolve_left hk0
        have hkb : (kindA l a != 0) = true := by simp [hk0]
        have hend : endA l a = endT l (kindA l a) a := by simp [endA, hk0]
        have herr : errA l a = terr (kindA l a) (textA l a) := by simp [errA, hk0]
        have htok : tokA l a = ⟨tkind (kindA l a) (textA l a), textA l a, tnum (kindA l a) (textA l a), lineOf l a, (a : Int) - fromOf l a + 1⟩ := rfl
        have hcon2 := endOf_ok l b off cap (kindA l a) a w4 HI2.out.text (by omega) hc hlt
        rw [← hend] at hcon2
        rw [hk] at hcon
        have hle := endA_le l a hlt
        have hgt := endA_gt l a
        have hlenT : (textA l a).length = endA l a - a := by unfold textA; simp; omega
        have HK0 := Lib.hid hk0
        have HERR := Lib.hid herr
        have HC := Lib.hid hcon
        have HC2 := Lib.hid hcon2
        have HLT := Lib.hid hlenT
        have HKC := Lib.hid hkc
        clear hcon hk hk0 hkc herr hcon2 hend htok hlenT
        have htx : textA l a = (l.drop a).take (endA l a - a) := rfl
        generalize hkE : kindA l a = k at *
        generalize hxE : textA l a = tx at *
        generalize heE : endA l a = en at *
        have HKE := Lib.hid hkE
        have HXE := Lib.hid hxE
        have HEE := Lib.hid heE
        have HTX := Lib.hid htx
        clear hkE hxE heE htx
        go_wp2_with (go_at_call 24; refine (HC.out _).mono ?_; rintro e w' ⟨rfl, rfl⟩)
        refine HC2.out.mono ?_
        rintro e w5 ⟨rfl, hb5⟩
        have HI3 := Lib.hid (HI2.out.after hb5 h0)
        have hcv : ∀ o, (convert 22 9 (.slice (some ⟨b, off + a, none⟩) (en - a) (cap - a))).run Tryz.prog (w5.alloc o) = .ok (.string ⟨tx.toArray⟩) (w5.alloc o) := fun o => by
          have := conv_bs ((HI3.out.text.part a (en - a)).alloc o) (cap - a)
          rw [← HTX.out, HLT.out] at this
          exact this
        have hto := fun o => tokenOf_ok tx k w.heap.size (w5.alloc o) HKC.out (by rw [Below.heap_alloc _ _ _ (by have := lt_of_block HI3.out.pl.seen; omega)]; exact HI3.out.map) (by rw [HLT.out]; omega)
        have HTO := Lib.hid hto
        clear hto hb5 HI2 hcell HC HC2
        have hac : ¬ cap = a := by omega
        go_wp2_with fail
        refine (HTO.out _).mono ?_
        rintro e w6 ⟨rfl, hb6⟩
        have HB6 := Lib.hid hb6
        have hz6 : w5.heap.size < w6.heap.size := by have := hb6.size; simp at this; omega
        obtain ⟨hc6, hf6⟩ := below_cells hb6
        have c0 : w6.cell? ⟨w5.heap.size, 0, none⟩ = some (.int .i64 0) := by rw [hc6 _ _ (by simp)]; simp [go_sem]
        have c1 : w6.cell? ⟨w5.heap.size, 1, none⟩ = some (.string ⟨#[]⟩) := by rw [hc6 _ _ (by simp)]; simp [go_sem]
        have c2 : w6.cell? ⟨w5.heap.size, 2, none⟩ = some (.int .i64 0) := by rw [hc6 _ _ (by simp)]; simp [go_sem]
        have c3 : w6.cell? ⟨w5.heap.size, 3, none⟩ = some (.int .i64 0) := by rw [hc6 _ _ (by simp)]; simp [go_sem]
        have c4 : w6.cell? ⟨w5.heap.size, 4, none⟩ = some (.int .i64 0) := by rw [hc6 _ _ (by simp)]; simp [go_sem]
        have f0 : ∀ i, w6.frozen? ⟨w5.heap.size, i, none⟩ = false := fun i => by rw [hf6 _ _ (by simp)]; simp [go_sem]
        clear hb6 hc6 hf6 hcv HTO
        have hlenT : T.length ≤ 1000000 := by
          have h1 := congrArg List.length HT.out
          have h2 := len_toks l.length l (nxt l 0) (by omega)
          rw [List.length_append] at h1
          omega
        have hlenD : D.length ≤ 1000000 := by
          have h1 := congrArg List.length HD.out
          have h2 := len_dgs l.length l (nxt l 0) (by omega)
          rw [List.length_append] at h1
          omega
        by_cases herr0 : terr k tx = 0
        · have HE0 := Lib.hid herr0
          have herrb : (terr k tx != 0) = false := by simp [herr0]
          clear herr0
          go_upto_region 16 with (fail)
          change Code.wp _ _ _ _ (stW w6 w5.heap.size ⟨tkind k tx, tx, tnum k tx, lineOf l a, (a : Int) - fromOf l a + 1⟩)
          have hst := stW_cells (w := w6) (g := w5.heap.size) ⟨tkind k tx, tx, tnum k tx, lineOf l a, (a : Int) - fromOf l a + 1⟩ c0 c1 c2 c3 c4
          have hbe : Below w5.heap.size w5 (stW w6 w5.heap.size ⟨tkind k tx, tx, tnum k tx, lineOf l a, (a : Int) - fromOf l a + 1⟩) := stW_below (((Below.refl _ _).alloc (Nat.le_refl _) _).trans (HB6.out.mono (by simp))) _ (Nat.le_refl _) _
          clear c0 c1 c2 c3 c4 f0 HB6 hz6
          generalize stW w6 w5.heap.size ⟨tkind k tx, tx, tnum k tx, lineOf l a, (a : Int) - fromOf l a + 1⟩ = w7 at hst hbe ⊢
          obtain ⟨c0, c1, c2, c3, c4⟩ := hst
          have HI4 := Lib.hid (HI3.out.after hbe h0)
          clear hbe HI3
          go_wp2_with (at_builtin; refine wpList_app4 _ rfl _ _ rfl (w.heap.size + 5) _ T rfl (HI4.out.own4.alloc _) ⟨w7.heap.size, 0, none⟩ ⟨tkind k tx, tx, tnum k tx, lineOf l a, (a : Int) - fromOf l a + 1⟩ rfl ?new hlenT ?base ?_)
          case new => exact fun _ _ h => h
          case base => have := lt_of_block HI4.out.pl.seen; simp; omega
          intro v' w8 hown8 hgrow8
          have HI5 := Lib.hid ((HI4.out.after ((Below.refl _ _).alloc (Nat.le_refl _) _) h0).app4 hgrow8 hown8 hbw)
          clear hown8 hgrow8 HI4 c0 c1 c2 c3 c4
          go_wp2_with (go_at_call 23; refine (nextAt_int l b off cap en _ _ rfl HI5.out.text (by omega) (by omega)).mono ?_; rintro e w' ⟨rfl, rfl⟩)
          go_roundw
          case rel =>
            have e1 := toks_one l a hlt (by rw [HKE.out]; exact HK0.out)
            have e2 := dgs_skip l a hlt (by rw [HERR.out]; exact HE0.out)
            rw [HEE.out] at e1 e2
            refine ⟨T ++ [⟨tkind k tx, tx, tnum k tx, lineOf l a, (a : Int) - fromOf l a + 1⟩], D, a, nxt l en, ?_, nxt_le l en (by omega), rfl, ?_, ?_, HI5.out⟩
            · have := nxt_ge l en; omega
            · have := HT.out
              rw [e1] at this
              rw [← this, List.append_assoc]
              simp [tokA, HKE.out, HXE.out]
            · rw [← e2]; exact HD.out
          case measure => have := nxt_ge l en; simp [intOf]; omega
        · have HE0 := Lib.hid herr0
          have herrb : (terr k tx != 0) = true := by simp [herr0]
          clear herr0
          go_upto_region 16 with (fail)
          change Code.wp _ _ _ _ (stW w6 w5.heap.size ⟨tkind k tx, tx, tnum k tx, lineOf l a, (a : Int) - fromOf l a + 1⟩)
          have hst := stW_cells (w := w6) (g := w5.heap.size) ⟨tkind k tx, tx, tnum k tx, lineOf l a, (a : Int) - fromOf l a + 1⟩ c0 c1 c2 c3 c4
          have hbe : Below w5.heap.size w5 (stW w6 w5.heap.size ⟨tkind k tx, tx, tnum k tx, lineOf l a, (a : Int) - fromOf l a + 1⟩) := stW_below (((Below.refl _ _).alloc (Nat.le_refl _) _).trans (HB6.out.mono (by simp))) _ (Nat.le_refl _) _
          clear c0 c1 c2 c3 c4 f0 HB6 hz6
          generalize stW w6 w5.heap.size ⟨tkind k tx, tx, tnum k tx, lineOf l a, (a : Int) - fromOf l a + 1⟩ = w7 at hst hbe ⊢
          obtain ⟨c0, c1, c2, c3, c4⟩ := hst
          have HI4 := Lib.hid (HI3.out.after hbe h0)
          clear hbe HI3
          go_wp2_with (at_builtin; refine wpList_app4 _ rfl _ _ rfl (w.heap.size + 5) _ T rfl (HI4.out.own4.alloc _) ⟨w7.heap.size, 0, none⟩ ⟨tkind k tx, tx, tnum k tx, lineOf l a, (a : Int) - fromOf l a + 1⟩ rfl ?new hlenT ?base ?_)
          case new => exact fun _ _ h => h
          case base => have := lt_of_block HI4.out.pl.seen; simp; omega
          intro v' w8 hown8 hgrow8
          have HI5 := Lib.hid ((HI4.out.after ((Below.refl _ _).alloc (Nat.le_refl _) _) h0).app4 hgrow8 hown8 hbw)
          clear hown8 hgrow8 HI4 c0 c1 c2 c3 c4
          go_wp2_with (at_builtin; refine wpList_app5 _ rfl _ _ rfl (w.heap.size + 5) _ D rfl (HI5.out.own5.alloc _) ⟨w8.heap.size, 0, none⟩ ⟨lineOf l a, (a : Int) - fromOf l a + 1, terr k tx⟩ rfl ?new5 hlenD ?base5 ?_)
          case new5 => exact new_cells w8 _ _
          case base5 => have := lt_of_block HI5.out.pl.seen; simp; omega
          intro v'' w9 hown9 hgrow9
          have HI6 := Lib.hid ((HI5.out.after ((Below.refl _ _).alloc (Nat.le_refl _) _) h0).app5 hgrow9 hown9 hbw)
          clear hown9 hgrow9 HI5
          go_wp2_with (go_at_call 23; refine (nextAt_int l b off cap en _ _ rfl HI6.out.text (by omega) (by omega)).mono ?_; rintro e w' ⟨rfl, rfl⟩)
          go_roundw
          case rel =>
            have e1 := toks_one l a hlt (by rw [HKE.out]; exact HK0.out)
            have e2 := dgs_one l a hlt (by rw [HERR.out]; exact HE0.out)
            rw [HEE.out] at e1 e2
            refine ⟨T ++ [⟨tkind k tx, tx, tnum k tx, lineOf l a, (a : Int) - fromOf l a + 1⟩], D ++ [⟨lineOf l a, (a : Int) - fromOf l a + 1, terr k tx⟩], a, nxt l en, ?_, nxt_le l en (by omega), rfl, ?_, ?_, HI6.out⟩
            · have := nxt_ge l en; omega
            · have := HT.out
              rw [e1] at this
              rw [← this, List.append_assoc]
              simp [tokA, HKE.out, HXE.out]
            · have := HD.out
              rw [e2] at this
              rw [← this, List.append_assoc]
              simp [dgA, HERR.out]
          case measure => have := nxt_ge l en; simp [intOf]; omega
    · go_wp2_with fail
      go_ret2
      have e1 := toks_end l a hlt
      have e2 := dgs_end l a hlt
      have h1 := HT.out
      have h2 := HD.out
      rw [e1, List.append_nil] at h1
      rw [e2, List.append_nil] at h2
      rw [← h1, ← h2]
      exact ⟨_, _, rfl, HI.out.below, Joins.ownsRow_le HI.out.own4 (by omega), Joins.ownsRow_le HI.out.own5 (by omega)⟩

set_option maxRecDepth 100000 in
theorem nextAt_none (A : Option Addr) (cap : Nat) (w : World) :
    Calls Tryz.prog 23 #[.slice A 0 cap, .int .i64 0] w fun e w' => e = .returned (.int .i64 0) ∧ w = w' := by
  go_enter Tryz.func23, Tryz.ntmps23
  go_wp2
  go_loop [1] (fun i => i = .int .i64 0) (fun _ => 0)
  case atStart => exact rfl
  case round =>
    obtain rfl := hrel
    go_wp2
    go_ret
    exact ⟨rfl, rfl⟩

set_option maxRecDepth 100000 in
set_option maxHeartbeats 1000000 in
/-- Scan of a text of no bytes. -/
theorem scan_none (A : Option Addr) (cap : Nat) (w : World) :
    Calls Tryz.prog 15 #[.slice A 0 cap] w fun e w' => e = .returned (.tuple #[.slice none 0 0, .slice none 0 0]) ∧ Below w.heap.size w w' := by
  go_enter Tryz.func15, Tryz.ntmps15
  go_wp2_with fail
  refine (wordSet_ok _).mono ?_
  rintro e w1 ⟨rfl, rfl⟩
  go_wp2_with fail
  refine (placesOf_ok _ _ _ _).mono ?_
  rintro e w2 ⟨rfl, hb2, _, _⟩
  have HB2 := Lib.hid hb2
  clear hb2
  go_wp2_with fail
  refine (nextAt_none _ _ _).mono ?_
  rintro e w3 ⟨rfl, rfl⟩
  go_wp2_with fail
  go_loopw [4, 5, 8] (fun v4 v5 v8 wr => v4 = .slice none 0 0 ∧ v5 = .slice none 0 0 ∧ v8 = .int .i64 0 ∧ wr = w2) (fun _ _ _ _ => 0)
  case atStart => exact ⟨rfl, rfl, rfl, rfl⟩
  case round =>
    obtain ⟨rfl, rfl, rfl, rfl⟩ := hrel
    go_wp2_with fail
    go_ret2
    exact ⟨rfl, ((Below.refl _ _).alloc (Nat.le_refl _) _).trans (HB2.out.mono (by simp))⟩

/-- Whether a slice value holds a text. -/
def Holds (w : World) (v : Value) (l : List UInt8) : Prop := ∃ A cap, v = .slice A l.length cap ∧ l.length ≤ cap ∧ (0 < l.length → ∃ b off, A = some ⟨b, off, none⟩ ∧ Bs w b off l)

/-- What Scan answers. -/
def Scanned (base : Nat) (l : List UInt8) (w : World) (e : Ending) (w' : World) : Prop :=
  ∃ v4 v5, e = .returned (.tuple #[v4, v5]) ∧ Below w.heap.size w w' ∧ w'.ownsRow base 61 5 v4 (toks l (nxt l 0)).length (tcs (toks l (nxt l 0))) ∧ w'.ownsRow base 48 3 v5 (dgs l (nxt l 0)).length (dcs (dgs l (nxt l 0)))

theorem scan_ok (l : List UInt8) (v : Value) (w : World) (hv : Holds w v l) (hn : l.length ≤ 1000000) :
    Calls Tryz.prog 15 #[v] w (Scanned w.heap.size l w) := by
  obtain ⟨A, cap, rfl, hc, hA⟩ := hv
  by_cases h0 : 0 < l.length
  · obtain ⟨b, off, rfl, hb⟩ := hA h0
    exact scan_some l b off cap w hb hn hc h0
  · have : l = [] := List.eq_nil_of_length_eq_zero (by omega)
    subst this
    refine (scan_none A cap w).mono ?_
    rintro e w' ⟨rfl, hb⟩
    exact ⟨_, _, rfl, hb, World.ownsRow_nil _ _ _ _, World.ownsRow_nil _ _ _ _⟩
end Go.Proofs.YtehdljcmeimbcaaGreat

namespace Go.Proofs.YtehdljcmeimbcaaGreat
open Go.RowKit

theorem own_form {w : World} {base : Nat} {e : TypeId} {size n : Nat} {v : Value} {xs : List Value} (h : w.ownsRow base e size v n xs) : ∃ A cap, v = .slice A n cap := by
  rcases h.2 with ⟨rfl, rfl⟩ | ⟨g, cap, cur, rfl, _⟩
  · exact ⟨_, _, rfl⟩
  · exact ⟨_, _, rfl⟩
theorem own_some {w : World} {base : Nat} {e : TypeId} {size n : Nat} {v : Value} {xs : List Value} (h : w.ownsRow base e size v n xs) (hn : 0 < n) : ∃ g cap, v = .slice (some ⟨g, 0, none⟩) n cap ∧ base ≤ g ∧ g < w.heap.size ∧ ∀ j u, xs[j]? = some u → w.cell? ⟨g, j, none⟩ = some u := by
  rcases h.2 with ⟨rfl, rfl⟩ | ⟨g, cap, cur, rfl, hb, hg, _⟩
  · omega
  · refine ⟨g, cap, rfl, hb, lt_of_block hg, fun j u hu => ?_⟩
    have := h.cells (g := g) rfl j u hu
    have hadd : (⟨g, 0, none⟩ : Addr).add j = ⟨g, j, none⟩ := by unfold Addr.add; split <;> simp_all
    rwa [hadd] at this

def ka : List UInt8 := [97, 61, 61, 98, 49, 32, 35, 99]
def kb : List UInt8 := [49, 50, 120]
def kc : List UInt8 := [33]
theorem toks_ka : toks ka (nxt ka 0) = [⟨1, [97], 0, 1, 1⟩, ⟨4, [61, 61], 0, 1, 2⟩, ⟨1, [98, 49], 0, 1, 4⟩] := by rfl
theorem dgs_ka : dgs ka (nxt ka 0) = [] := by rfl
theorem toks_kb : toks kb (nxt kb 0) = [⟨3, [49, 50], 12, 1, 1⟩, ⟨1, [120], 0, 1, 3⟩] := by rfl
theorem dgs_kb : dgs kb (nxt kb 0) = [] := by rfl
theorem toks_kc : toks kc (nxt kc 0) = [] := by rfl
theorem dgs_kc : dgs kc (nxt kc 0) = [⟨1, 1, 3⟩] := by rfl

theorem holds_const (w : World) (l : List UInt8) (cs : Array Value) (hcs : cs = (l.map fun x => Value.int .u8 (x.toNat : Int)).toArray) (n : Nat) (hn : n = l.length) (m : Nat × Nat) :
    Holds (w.alloc (.cells cs 5 m)) (.slice (some ⟨w.heap.size, 0, none⟩) n n) l := by
  subst hcs
  subst hn
  refine ⟨_, _, rfl, Nat.le_refl _, fun _ => ⟨_, _, rfl, fun k hk => ?_⟩⟩
  rw [World.cell?_alloc_mark]
  unfold chr
  simp [hk]

end Go.Proofs.YtehdljcmeimbcaaGreat

namespace Go.Proofs.YtehdljcmeimbcaaGreat
open Go.RowKit

/-- Where a parser lies, and its tokens. -/
structure Cx where
  p : Nat
  A : Option Addr
  cap : Nat
  T : List Tok
  X : List Nat

def Cx.ptr (C : Cx) : Value := .pointer (some ⟨C.p, 0, none⟩)
/-- Tokens in memory, below a block. -/
def TkB (w : World) (B : Nat) (A : Option Addr) (T : List Tok) : Prop := ∀ i t, T[i]? = some t → ∃ g off, A = some ⟨g, off, none⟩ ∧ g < B ∧ w.cell? ⟨g, off + i * 5, none⟩ = some (.int .i64 t.kind) ∧ w.cell? ⟨g, off + i * 5 + 1, none⟩ = some (.string ⟨t.text.toArray⟩) ∧ w.cell? ⟨g, off + i * 5 + 2, none⟩ = some (.int .i64 t.n) ∧ w.cell? ⟨g, off + i * 5 + 3, none⟩ = some (.int .i64 t.line) ∧ w.cell? ⟨g, off + i * 5 + 4, none⟩ = some (.int .i64 t.col)
/-- A row of numbers in memory, in none of some blocks. -/
def IntRow (w : World) (X : List Nat) (v : Value) (l : List Int) : Prop := ∃ A cap, v = .slice A l.length cap ∧ (0 < l.length → ∃ g cs m, A = some ⟨g, 0, none⟩ ∧ w.heap[g]? = some (.cells cs 3 m) ∧ g ∉ X ∧ ∀ (i : Nat) (x : Int), l[i]? = some x → cs[i]? = some (Value.int .i64 x))
def twCells (t : Tw) (kv : Value) : List Value := [.int .i64 t.kind, .string ⟨t.text.toArray⟩, .int .i64 t.n, .int .i64 t.line, .int .i64 t.col, kv]
/-- Twigs in memory. -/
def Tws (w : World) (X : List Nat) : List Tw → List Value → Prop
  | [], xs => xs = []
  | t :: r, xs => ∃ kv ys, xs = twCells t kv ++ ys ∧ IntRow w X kv t.kids ∧ Tws w X r ys

structure PS (w : World) (C : Cx) (k m : Nat) (v : Value) (tw : List Tw) : Prop where
  par : w.heap[C.p]? = some (.cells #[.slice C.A C.T.length C.cap, .int .i64 k, .int .i64 m, v] 65 (0, 0))
  toks : TkB w C.p C.A C.T
  own : ∃ xs, w.ownsRow (C.p + 1) 39 6 v tw.length xs ∧ Tws w C.X tw xs
  kle : k ≤ C.T.length
  big : C.T.length ≤ 1000000
  few : tw.length ≤ 2 * k + 1
  nest : m ≤ 64
  xlt : ∀ b ∈ C.X, b < w.heap.size

/-- All but the parser and its twigs is as it was. -/
structure Kp (p : Nat) (v : Value) (w : World) (v' : Value) (w' : World) : Prop where
  os : w'.os = w.os
  tape : w'.tape = w.tape
  output : w'.output = w.output
  size : w.heap.size ≤ w'.heap.size
  block : ∀ k, k < w.heap.size → k ≠ p → v.ownBlock ≠ some k → w'.heap[k]? = w.heap[k]?
  own : ∀ k, v'.ownBlock = some k → v.ownBlock = some k ∨ w.heap.size ≤ k

theorem Kp.of {p : Nat} {v : Value} {w w' : World} (h : Below w.heap.size w w') : Kp p v w v w' := ⟨h.os, h.tape, h.output, h.size, fun k hk _ _ => h.block k hk, fun _ hk => .inl hk⟩
theorem Kp.refl (p : Nat) (v : Value) (w : World) : Kp p v w v w := .of (Below.refl _ _)
theorem Kp.trans {p : Nat} {v v' v'' : Value} {w w' w'' : World} (h : Kp p v w v' w') (g : Kp p v' w' v'' w'') : Kp p v w v'' w'' :=
  ⟨g.os.trans h.os, g.tape.trans h.tape, g.output.trans h.output, Nat.le_trans h.size g.size,
   fun k hk hp hv => (g.block k (Nat.lt_of_lt_of_le hk h.size) hp (fun e => (h.own k e).elim hv (by omega))).trans (h.block k hk hp hv),
   fun k hk => (g.own k hk).elim (fun e => h.own k e) (fun e => .inr (Nat.le_trans h.size e))⟩

/-- The same, whatever has become of the twigs. -/
def KpB (p : Nat) (v : Value) (w w' : World) : Prop := ∃ v', Kp p v w v' w'
theorem Kp.transB {p : Nat} {v v' : Value} {w w' w'' : World} (h : Kp p v w v' w') (g : KpB p v' w' w'') : KpB p v w w'' := let ⟨v'', g⟩ := g; ⟨v'', h.trans g⟩
theorem KpB.of {p : Nat} {v : Value} {w w' : World} (h : Below w.heap.size w w') : KpB p v w w' := ⟨v, .of h⟩
theorem PS.lt {w : World} {C : Cx} {k m : Nat} {v : Value} {tw : List Tw} (h : PS w C k m v tw) : C.p < w.heap.size := lt_of_block h.par
/-- What is below the parser stays. -/
theorem Kp.below {C : Cx} {k m : Nat} {v v' : Value} {tw : List Tw} {w w' : World} (h : Kp C.p v w v' w') (hs : PS w C k m v tw) : Below C.p w w' := by
  refine ⟨h.os, h.tape, h.output, h.size, fun b hb => h.block b (by have := hs.lt; omega) (by omega) fun e => ?_⟩
  obtain ⟨xs, ho, _⟩ := hs.own
  have := (ho.lt b e).1
  omega

theorem IntRow.keep {w w' : World} {X : List Nat} {v : Value} {l : List Int} (h : IntRow w X v l) (hk : ∀ (g : Nat) (cs : Array Value) (m : Nat × Nat), w.heap[g]? = some (Obj.cells cs 3 m) → w'.heap[g]? = w.heap[g]?) : IntRow w' X v l := by
  obtain ⟨A, cap, rfl, h⟩ := h
  refine ⟨A, cap, rfl, fun h0 => ?_⟩
  obtain ⟨g, cs, m, h1, h2, h3⟩ := h h0
  exact ⟨g, cs, m, h1, (hk g cs m h2).trans h2, h3⟩
theorem Tws.keep {w w' : World} {X : List Nat} (hk : ∀ (g : Nat) (cs : Array Value) (m : Nat × Nat), w.heap[g]? = some (Obj.cells cs 3 m) → w'.heap[g]? = w.heap[g]?) : ∀ {tw : List Tw} {xs : List Value}, Tws w X tw xs → Tws w' X tw xs
  | [], _, h => h
  | _ :: _, _, ⟨kv, ys, e, h1, h2⟩ => ⟨kv, ys, e, h1.keep hk, Tws.keep hk h2⟩
theorem TkB.below {w w' : World} {B B' : Nat} {A : Option Addr} {T : List Tok} (h : TkB w B A T) (hb : Below B' w w') (hB : B ≤ B') : TkB w' B A T := by
  intro i t hi
  obtain ⟨g, off, h1, h2, h3, h4, h5, h6, h7⟩ := h i t hi
  have hc := fun o => hb.cell (p := ⟨g, o, none⟩) (show g < B' by omega)
  exact ⟨g, off, h1, h2, (hc _).trans h3, (hc _).trans h4, (hc _).trans h5, (hc _).trans h6, (hc _).trans h7⟩
/-- A parser is as it was where nothing that lay there has turned. -/
theorem PS.after {w w' : World} {C : Cx} {k m : Nat} {v : Value} {tw : List Tw} (h : PS w C k m v tw) (hb : Below w.heap.size w w') : PS w' C k m v tw := by
  have hp := h.lt
  obtain ⟨xs, ho, ht⟩ := h.own
  refine ⟨(hb.block _ hp).trans h.par, h.toks.below hb (by omega), ⟨xs, ?_, ht.keep fun g cs m hg => hb.block g (lt_of_block hg)⟩, h.kle, h.big, h.few, h.nest, fun b hx => Nat.lt_of_lt_of_le (h.xlt b hx) hb.size⟩
  exact ho.kept (row := none) (w' := w') ⟨hb.os, hb.tape, hb.output, hb.size, fun k hk _ => hb.block k hk⟩ (by cases hv : v.ownBlock <;> simp)

def tokV (t : Tok) : Value := .agg #[.int .i64 t.kind, .string ⟨t.text.toArray⟩, .int .i64 t.n, .int .i64 t.line, .int .i64 t.col]
theorem hd_at (T : List Tok) (k : Nat) (h : k < T.length) : T[k]? = some (hd (T.drop k)) := by
  rw [List.getElem?_eq_getElem h, List.drop_eq_getElem_cons h]; rfl
theorem hd_end (T : List Tok) (k : Nat) (h : T.length ≤ k) : hd (T.drop k) = ⟨0, [], 0, 0, 0⟩ := by
  rw [List.drop_eq_nil_of_le h]; rfl
theorem PS.cells {w : World} {C : Cx} {k m : Nat} {v : Value} {tw : List Tw} (h : PS w C k m v tw) :
    w.cell? ⟨C.p, 0, none⟩ = some (.slice C.A C.T.length C.cap) ∧ w.cell? ⟨C.p, 1, none⟩ = some (.int .i64 k) ∧ w.cell? ⟨C.p, 2, none⟩ = some (.int .i64 m) ∧ w.cell? ⟨C.p, 3, none⟩ = some v := by
  have := h.par
  refine ⟨?_, ?_, ?_, ?_⟩ <;> simp [World.cell?, this]
theorem PS.free {w : World} {C : Cx} {k m : Nat} {v : Value} {tw : List Tw} (h : PS w C k m v tw) (i : Nat) : w.frozen? ⟨C.p, i, none⟩ = false := by
  have := h.par
  simp [World.frozen?, this]

theorem bdrew {B : Nat} {a b : World} (h : Below B a b) (n : Nat) : Below B a (b.drewN n) := ⟨h.os, h.tape, h.output, h.size, h.block⟩
/-- Below, behind stores into a block of five cells. -/
theorem bset5 {B : Nat} {a b : World} (h : Below B a b) (g : Nat) (hg : B ≤ g) (u0 u1 u2 u3 u4 : Value) :
    Below B a (((((b.setCell ⟨g, 0, none⟩ u0).setCell ⟨g, 1, none⟩ u1).setCell ⟨g, 2, none⟩ u2).setCell ⟨g, 3, none⟩ u3).setCell ⟨g, 4, none⟩ u4) :=
  ((((h.setCell (p := ⟨g, 0, none⟩) hg _).setCell (p := ⟨g, 1, none⟩) hg _).setCell (p := ⟨g, 2, none⟩) hg _).setCell (p := ⟨g, 3, none⟩) hg _).setCell (p := ⟨g, 4, none⟩) hg _

set_option maxRecDepth 100000 in
set_option maxHeartbeats 1000000 in
theorem next_ok (C : Cx) (w : World) (k m : Nat) (v : Value) (tw : List Tw) (h : PS w C k m v tw) :
    Calls Tryz.prog 116 #[C.ptr] w fun e w' => e = .returned (tokV (hd (C.T.drop k))) ∧ Below w.heap.size w w' := by
  obtain ⟨c0, c1, c2, c3⟩ := h.cells
  have hp := h.lt
  have hk := h.kle
  have hbig := h.big
  have HS := Lib.hid h
  clear h
  unfold Cx.ptr
  by_cases hlt : k < C.T.length
  · obtain ⟨g, off, hA, hg, t0, t1, t2, t3, t4⟩ := HS.out.toks k _ (hd_at C.T k hlt)
    rw [hA] at c0
    generalize hd (C.T.drop k) = t at *
    have HA := Lib.hid hA
    clear hA
    have hgw : g < w.heap.size := by omega
    go_enter Tryz.func116, Tryz.ntmps116
    go_wp2
    go_quiet (fail)
    go_wp2
    go_region
    go_wp2
    exact bodyPost_ret (v := tokV t) (by simp [results, Tryz.results116, go_sem, tokV]) rfl ⟨rfl, bset5 (bdrew ((Below.refl _ _).alloc (Nat.le_refl _) _) _) _ (Nat.le_refl _) _ _ _ _ _⟩
  · have he := hd_end C.T k (by omega)
    rw [he]
    have hkk : k = C.T.length := by omega
    subst hkk
    clear he
    go_enter Tryz.func116, Tryz.ntmps116
    go_wp2
    go_quiet (fail)
    go_wp2
    exact bodyPost_ret (v := tokV ⟨0, [], 0, 0, 0⟩) (by simp [results, Tryz.results116, go_sem, tokV]) rfl ⟨rfl, bset5 (bdrew ((Below.refl _ _).alloc (Nat.le_refl _) _) _) _ (Nat.le_refl _) _ _ _ _ _⟩
end Go.Proofs.YtehdljcmeimbcaaGreat

namespace Go.Proofs.YtehdljcmeimbcaaGreat
open Go.RowKit

def diagV (t : Tok) (er : Int) : Value := .iface 48 (.agg #[.int .i64 t.line, .int .i64 t.col, .int .i64 er])

set_option maxRecDepth 100000 in
set_option maxHeartbeats 1000000 in
theorem refuse_ok (C : Cx) (w : World) (k m : Nat) (v : Value) (tw : List Tw) (er : Int) (h : PS w C k m v tw) :
    Calls Tryz.prog 110 #[C.ptr, .int .i64 er] w fun e w' => e = .panicked [{ v := diagV (hd (C.T.drop k)) er, recovered := false }] ∧ Below w.heap.size w w' := by
  have HN := Lib.hid (next_ok C w k m v tw h)
  clear h
  generalize hd (C.T.drop k) = t at *
  unfold Cx.ptr at *
  go_enter Tryz.func110, Tryz.ntmps110
  go_wp2_with fail
  refine HN.out.mono ?_
  rintro e w1 ⟨rfl, hb⟩
  have HB := Lib.hid hb
  clear hb HN
  unfold tokV
  go_wp2_with fail
  exact ⟨rfl, rfl, HB.out.trans (((Below.refl _ _).alloc (Nat.le_refl _) _).mono HB.out.size)⟩

/-- A row of texts in memory. -/
def Strs (w : World) (g : Nat) (l : List (List UInt8)) : Prop := ∀ i s, l[i]? = some s → w.cell? ⟨g, i, none⟩ = some (.string ⟨s.toArray⟩)
theorem Strs.below {w w' : World} {g B : Nat} {l : List (List UInt8)} (h : Strs w g l) (hb : Below B w w') (hg : g < B) : Strs w' g l := fun i s hi => (hb.cell (p := ⟨g, i, none⟩) hg).trans (h i s hi)
def idx (l : List (List UInt8)) (s : List UInt8) : Int := if l.contains s = true then (l.idxOf s : Int) else -1

theorem idx_hit (l : List (List UInt8)) (s : List UInt8) (k : Nat) (hlt : k < l.length) (h : (l.take k).contains s = false) (he : s = l[k]) : idx l s = k := by
  have hc : l.contains s = true := by simp [he]
  unfold idx
  rw [if_pos hc]
  have hn : s ∉ l.take k := by simpa using h
  have hs : l = l.take k ++ l[k] :: l.drop (k + 1) := by rw [← List.drop_eq_getElem_cons hlt, List.take_append_drop]
  have : List.idxOf s l = k := by
    rw [hs, List.idxOf_append, if_neg hn, ← he]
    simp; omega
  rw [this]
theorem take_miss (l : List (List UInt8)) (s : List UInt8) (k : Nat) (hlt : k < l.length) (h : (l.take k).contains s = false) (he : ¬ s = l[k]) : (l.take (k + 1)).contains s = false := by
  rw [List.take_succ_eq_append_getElem hlt]
  simp only [List.contains_append, h, Bool.false_or]
  simp [he]

set_option maxRecDepth 100000 in
set_option maxHeartbeats 1000000 in
theorem index_ok (l : List (List UInt8)) (g c : Nat) (s : List UInt8) (w : World) (h : Strs w g l) (hl : l.length ≤ 1000) :
    Calls Tryz.prog 119 #[.slice (some ⟨g, 0, none⟩) l.length c, .string ⟨s.toArray⟩] w fun e w' => e = .returned (.int .i64 (idx l s)) ∧ w = w' := by
  have HS := Lib.hid h
  clear h
  go_enter Tryz.func119, Tryz.ntmps119
  go_wp2_with fail
  go_loopg [5, 8] l.length (fun n v5 v8 wr => ∃ k : Nat, k + n = l.length ∧ v8 = .int .i64 k ∧ (l.take k).contains s = false ∧ wr = w)
  case atStart => exact ⟨0, by omega, rfl, by simp, rfl⟩
  case round =>
    obtain ⟨k, hk, rfl, hc, rfl⟩ := hrel
    have HC := Lib.hid hc
    have HK := Lib.hid hk
    clear hc hk
    by_cases hlt : k < l.length
    · have hcell := HS.out k _ (List.getElem?_eq_getElem hlt)
      have HI := Lib.hid (idx_hit l s k hlt HC.out)
      have HM := Lib.hid (take_miss l s k hlt HC.out)
      clear HC
      generalize hx : l[k] = x at hcell HI HM
      clear hx
      by_cases he : s = x
      · subst he
        have H1 := Lib.hid (HI.out rfl)
        clear HI HM
        go_wp2_with fail
        go_ret
        exact ⟨ret_int H1.out.symm, rfl⟩
      · have hb1 : (s == x) = false := by simp [he]
        have hm := HM.out he
        have HMM := Lib.hid hm
        clear he hm HI HM
        go_wp2_with fail
        go_roundg (gk - 1)
        case measure => have := HK.out; omega
        case rel => exact ⟨k + 1, by have := HK.out; omega, by go_num, HMM.out, rfl⟩
    · have h1 : idx l s = -1 := by
        have := HC.out
        rw [List.take_of_length_le (by omega)] at this
        unfold idx
        rw [if_neg (by simpa using this)]
      have H1 := Lib.hid h1
      clear h1
      go_wp2_with fail
      go_ret
      exact ⟨ret_int H1.out.symm, rfl⟩

set_option maxRecDepth 100000 in
set_option maxHeartbeats 1000000 in
theorem contains_ok (l : List (List UInt8)) (g c : Nat) (s : List UInt8) (w : World) (h : Strs w g l) (hl : l.length ≤ 1000) :
    Calls Tryz.prog 117 #[.slice (some ⟨g, 0, none⟩) l.length c, .string ⟨s.toArray⟩] w fun e w' => e = .returned (.bool (l.contains s)) ∧ w = w' := by
  have HI := Lib.hid (index_ok l g c s w h hl)
  have hd : decide (0 ≤ idx l s) = l.contains s := by
    unfold idx
    by_cases hc : l.contains s = true
    · rw [if_pos hc, hc]; simp
    · rw [if_neg hc]; simp at hc ⊢; exact hc
  have HD := Lib.hid hd
  clear h hd
  go_enter Tryz.func117, Tryz.ntmps117
  go_wp2_with (go_at_call 119; refine HI.out.mono ?_; rintro e w' ⟨rfl, rfl⟩)
  go_ret
  exact ⟨ret_bool HD.out, rfl⟩

set_option maxRecDepth 100000 in
set_option maxHeartbeats 1000000 in
theorem sees_ok (C : Cx) (w : World) (k m : Nat) (v : Value) (tw : List Tw) (kk : Int) (l : List (List UInt8)) (g c : Nat) (h : PS w C k m v tw) (hs : Strs w g l) (hg : g < w.heap.size) (hl : l.length ≤ 1000) :
    Calls Tryz.prog 100 #[C.ptr, .int .i64 kk, .slice (some ⟨g, 0, none⟩) l.length c] w fun e w' => e = .returned (.bool (seesK kk (C.T.drop k) l)) ∧ Below w.heap.size w w' := by
  have HN := Lib.hid (next_ok C w k m v tw h)
  have HS := Lib.hid hs
  unfold seesK
  clear h hs
  generalize hd (C.T.drop k) = t at *
  unfold Cx.ptr at *
  by_cases hk : t.kind = kk
  · have hk1 : (t.kind == kk) = true := by simp [hk]
    clear hk
    go_enter Tryz.func100, Tryz.ntmps100
    go_wp2_with fail
    refine HN.out.mono ?_
    rintro e w1 ⟨rfl, hb⟩
    have HC := fun o => Lib.hid (contains_ok l g c t.text (w1.alloc o) ((HS.out.below hb hg).below ((Below.refl _ _).alloc (Nat.le_refl _) o) (by have := hb.size; omega)) hl)
    have HB := Lib.hid hb
    clear hb HN
    unfold tokV
    go_wp2_with (go_at_call 117; refine (HC _).out.mono ?_; rintro e w' ⟨rfl, rfl⟩)
    go_ret
    exact ⟨ret_bool (by simp [hk1]), HB.out.trans (((Below.refl _ _).alloc (Nat.le_refl _) _).mono HB.out.size)⟩
  · have hk1 : (t.kind == kk) = false := by simp [hk]
    clear hk
    go_enter Tryz.func100, Tryz.ntmps100
    go_wp2_with fail
    refine HN.out.mono ?_
    rintro e w1 ⟨rfl, hb⟩
    have HB := Lib.hid hb
    clear hb HN
    unfold tokV
    go_wp2_with fail
    go_ret
    exact ⟨ret_bool (by simp [hk1]), HB.out.trans (((Below.refl _ _).alloc (Nat.le_refl _) _).mono HB.out.size)⟩

set_option maxRecDepth 100000 in
theorem seesWord_ok (C : Cx) (w : World) (k m : Nat) (v : Value) (tw : List Tw) (l : List (List UInt8)) (g c : Nat) (h : PS w C k m v tw) (hs : Strs w g l) (hg : g < w.heap.size) (hl : l.length ≤ 1000) :
    Calls Tryz.prog 86 #[C.ptr, .slice (some ⟨g, 0, none⟩) l.length c] w fun e w' => e = .returned (.bool (seesW (C.T.drop k) l)) ∧ Below w.heap.size w w' := by
  have HN := Lib.hid (sees_ok C w k m v tw 2 l g c h hs hg hl)
  clear h hs
  unfold seesW
  unfold Cx.ptr at *
  go_enter Tryz.func86, Tryz.ntmps86
  go_wp2_with (go_at_call 100; refine HN.out.mono ?_; rintro e w' ⟨rfl, hb⟩)
  go_ret
  exact ⟨rfl, hb⟩
set_option maxRecDepth 100000 in
theorem seesMark_ok (C : Cx) (w : World) (k m : Nat) (v : Value) (tw : List Tw) (l : List (List UInt8)) (g c : Nat) (h : PS w C k m v tw) (hs : Strs w g l) (hg : g < w.heap.size) (hl : l.length ≤ 1000) :
    Calls Tryz.prog 104 #[C.ptr, .slice (some ⟨g, 0, none⟩) l.length c] w fun e w' => e = .returned (.bool (seesM (C.T.drop k) l)) ∧ Below w.heap.size w w' := by
  have HN := Lib.hid (sees_ok C w k m v tw 4 l g c h hs hg hl)
  clear h hs
  unfold seesM
  unfold Cx.ptr at *
  go_enter Tryz.func104, Tryz.ntmps104
  go_wp2_with (go_at_call 100; refine HN.out.mono ?_; rintro e w' ⟨rfl, hb⟩)
  go_ret
  exact ⟨rfl, hb⟩
end Go.Proofs.YtehdljcmeimbcaaGreat
