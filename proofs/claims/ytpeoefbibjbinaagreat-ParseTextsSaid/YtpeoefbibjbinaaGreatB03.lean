/- token.Scan; detentlaw01.known; Plain facts on the tokens of a text: where the first one stands, places, ends; The reference's Words, IsWord, Number, mark; The reference's Number and mark: their walks. -/
import Derived.Test.YtpeoefbibjbinaaGreatB02
import Derived.Lib.SmallJoins
import Derived.Deep.DeepCutAuto
import Derived.Deep.Cut
import Derived.WalkLawsBesides
import Derived.Deep.CutRange
namespace Go.Proofs.YtpeoefbibjbinaaGreat
open Go.RowKit

/-- The relation of Scan's loop. -/
def ScanR (l : List UInt8) (b off cap : Nat) (w : World) (a0 : Nat) (v4 v5 v8 : Value) (wr : World) : Prop :=
  ∃ (T : List Tok) (D : List Dg) (s a : Nat), s ≤ a ∧ a ≤ l.length ∧ v8 = .int .i64 a ∧ T ++ toks l a = toks l a0 ∧ D ++ dgs l a = dgs l a0 ∧ SI l b off cap w v4 v5 T D s wr

/-- The world behind the stores of a token into its variable. -/
def stW (w : World) (g : Nat) (t : Tok) : World :=
  ((((((w.setCell ⟨g, 0, none⟩ (.int .i64 t.kind)).setCell ⟨g, 1, none⟩ (.string ⟨t.text.toArray⟩)).setCell ⟨g, 2, none⟩ (.int .i64 t.n)).setCell ⟨g, 3, none⟩ (.int .i64 0)).setCell ⟨g, 4, none⟩ (.int .i64 0)).setCell
    ⟨g, 3, none⟩ (.int .i64 t.line)).setCell ⟨g, 4, none⟩ (.int .i64 t.col)
theorem stW_below {B : Nat} {a w : World} (h : Below B a w) (g : Nat) (hg : B ≤ g) (t : Tok) : Below B a (stW w g t) :=
  ((((((h.setCell (p := ⟨g, 0, none⟩) hg _).setCell (p := ⟨g, 1, none⟩) hg _).setCell (p := ⟨g, 2, none⟩) hg _).setCell (p := ⟨g, 3, none⟩) hg _).setCell (p := ⟨g, 4, none⟩) hg _).setCell (p := ⟨g, 3, none⟩) hg _).setCell (p := ⟨g, 4, none⟩) hg _
theorem stW_size (w : World) (g : Nat) (t : Tok) : (stW w g t).heap.size = w.heap.size := by simp [stW, World.setCell]
theorem set_far (w : World) (g i j : Nat) (v : Value) (h : i ≠ j) : (w.setCell ⟨g, i, none⟩ v).cell? ⟨g, j, none⟩ = w.cell? ⟨g, j, none⟩ := World.cell?_setCell_other _ _ _ _ (fun e => h (by injection e))
theorem set_here {w : World} {g i : Nat} {u : Value} (v : Value) (h : w.cell? ⟨g, i, none⟩ = some u) : (w.setCell ⟨g, i, none⟩ v).cell? ⟨g, i, none⟩ = some v := World.cell?_setCell_same _ _ _ h
theorem stW_cells {w : World} {g : Nat} {u0 u1 u2 u3 u4 : Value} (t : Tok) (h0 : w.cell? ⟨g, 0, none⟩ = some u0) (h1 : w.cell? ⟨g, 1, none⟩ = some u1) (h2 : w.cell? ⟨g, 2, none⟩ = some u2) (h3 : w.cell? ⟨g, 3, none⟩ = some u3) (h4 : w.cell? ⟨g, 4, none⟩ = some u4) :
    (stW w g t).cell? ⟨g, 0, none⟩ = some (.int .i64 t.kind) ∧ (stW w g t).cell? ⟨g, 1, none⟩ = some (.string ⟨t.text.toArray⟩) ∧ (stW w g t).cell? ⟨g, 2, none⟩ = some (.int .i64 t.n) ∧
    (stW w g t).cell? ⟨g, 3, none⟩ = some (.int .i64 t.line) ∧ (stW w g t).cell? ⟨g, 4, none⟩ = some (.int .i64 t.col) := by
  unfold stW
  refine ⟨?_, ?_, ?_, ?_, ?_⟩
  · rw [set_far _ _ 4 0 _ (by decide), set_far _ _ 3 0 _ (by decide), set_far _ _ 4 0 _ (by decide), set_far _ _ 3 0 _ (by decide), set_far _ _ 2 0 _ (by decide), set_far _ _ 1 0 _ (by decide)]
    exact set_here _ h0
  · rw [set_far _ _ 4 1 _ (by decide), set_far _ _ 3 1 _ (by decide), set_far _ _ 4 1 _ (by decide), set_far _ _ 3 1 _ (by decide), set_far _ _ 2 1 _ (by decide)]
    exact set_here _ ((set_far _ _ 0 1 _ (by decide)).trans h1)
  · rw [set_far _ _ 4 2 _ (by decide), set_far _ _ 3 2 _ (by decide), set_far _ _ 4 2 _ (by decide), set_far _ _ 3 2 _ (by decide)]
    exact set_here _ ((set_far _ _ 1 2 _ (by decide)).trans ((set_far _ _ 0 2 _ (by decide)).trans h2))
  · rw [set_far _ _ 4 3 _ (by decide)]
    exact set_here _ ((set_far _ _ 4 3 _ (by decide)).trans (set_here _ ((set_far _ _ 2 3 _ (by decide)).trans ((set_far _ _ 1 3 _ (by decide)).trans ((set_far _ _ 0 3 _ (by decide)).trans h3)))))
  · exact set_here _ ((set_far _ _ 3 4 _ (by decide)).trans (set_here _ ((set_far _ _ 3 4 _ (by decide)).trans ((set_far _ _ 2 4 _ (by decide)).trans ((set_far _ _ 1 4 _ (by decide)).trans ((set_far _ _ 0 4 _ (by decide)).trans h4))))))

set_option maxRecDepth 100000 in
set_option maxHeartbeats 1000000 in
theorem scan_some (l : List UInt8) (b off cap : Nat) (w : World) (hb : Bs w b off l) (hn : l.length ≤ 1000000) (hc : l.length ≤ cap) (h0 : 0 < l.length) :
    Calls Tryz.prog 15 #[.slice (some ⟨b, off, none⟩) l.length cap] w fun e w' =>
      ∃ v4 v5, e = .returned (.tuple #[v4, v5]) ∧ Below w.heap.size w w' ∧ w'.ownsRow w.heap.size 61 5 v4 (toks l (nxt l 0)).length (tcs (toks l (nxt l 0))) ∧ w'.ownsRow w.heap.size 48 3 v5 (dgs l (nxt l 0)).length (dcs (dgs l (nxt l 0))) := by
  have hbw := hb.lt h0
  have HB := Lib.hid hb
  clear hb
  go_enter Tryz.func15, Tryz.ntmps15
  go_wp2_with fail
  refine (wordSet_ok _).mono ?_
  rintro e w1 ⟨rfl, rfl⟩
  go_wp2_with fail
  refine (placesOf_ok _ _ _ _).mono ?_
  rintro e w2 ⟨rfl, hb2, hpl2, hsz2⟩
  have HB2 := Lib.hid hb2
  have HPL2 := Lib.hid hpl2
  have HSZ2 := Lib.hid hsz2
  clear hb2 hpl2 hsz2
  unfold plv
  have hsz : (w.alloc (wobj (wk 36))).heap.size = w.heap.size + 1 := by simp
  have hsi : SI l b off cap w (.slice none 0 0) (.slice none 0 0) [] [] 0 w2 := by
    have h2 := HB2.out
    have hp2 := HPL2.out
    rw [hsz] at h2 hp2
    refine ⟨((Below.refl _ _).alloc (Nat.le_refl _) _).trans (h2.mono (by omega)), (HB.out.alloc _).below h2 (by omega), heap_below h2 (by omega) (heap_alloc_new w _), hp2, World.ownsRow_nil _ _ _ _, World.ownsRow_nil _ _ _ _⟩
  have HSI := Lib.hid hsi
  clear hsi hsz
  go_wp2_with fail
  refine (nextAt_ok l b off cap 0 w2 HSI.out.text (by omega) (by omega)).mono ?_
  rintro e w3 ⟨rfl, rfl⟩
  have ha0 := nxt_le l 0 (by omega)
  go_wp2_with fail
  go_loopw [4, 5, 8] (fun v4 v5 v8 wr => ScanR l b off cap w (nxt l 0) v4 v5 v8 wr) (fun _ _ v8 _ => l.length - (intOf v8).toNat)
  case atStart => exact ⟨[], [], 0, nxt l 0, by omega, ha0, rfl, rfl, rfl, HSI.out⟩
  case round =>
    obtain ⟨T, D, s, a, hsa, hal, rfl, hT, hD, hI⟩ := hrel
    clear HSI HB2 HPL2 HSZ2 HB
    have HT := Lib.hid hT
    have HD := Lib.hid hD
    have HI := Lib.hid hI
    clear hT hD hI
    by_cases hlt : a < l.length
    · go_wp2_with fail
      refine (place_ok l b off cap (w.heap.size + 1) s a wr HI.out.text (by omega) hal hsa (by omega) HI.out.pl).mono ?_
      rintro e w4 ⟨rfl, hpl, hpt⟩
      have HI2 := Lib.hid (HI.out.place hpt hpl hbw)
      clear HI hpl hpt
      have hcell := HI2.out.text a hlt
      have hfl := fromOf_le l a
      have hll := lineOf_le l a
      have hcon := kindAt_ok (chr l a)
      by_cases hk0 : kindA l a = 0
      · have hk : kindI (chr l a) = 0 := hk0
        have he3 : errA l a = 3 := by simp [errA, hk0]
        have hend : endA l a = a + 1 := by simp [endA, hk0]
        have HK0 := Lib.hid hk0
        have HE3 := Lib.hid he3
        have HEND := Lib.hid hend
        rw [hk] at hcon
        have HC := Lib.hid hcon
        clear hcon hk hk0 he3 hend
        have hlenD : D.length ≤ 1000000 := by
          have h1 := congrArg List.length HD.out
          have h2 := len_dgs l.length l (nxt l 0) (by omega)
          rw [List.length_append] at h1
          omega
        go_wp2_with (first
          | (go_at_call 24; refine (HC.out _).mono ?_; rintro e w' ⟨rfl, rfl⟩)
          | (at_builtin; refine wpList_app5 _ rfl _ _ rfl (w.heap.size + 5) _ D rfl (HI2.out.own5.alloc _) ⟨w4.heap.size, 0, none⟩ ⟨lineOf l a, (a : Int) - fromOf l a + 1, 3⟩ rfl ?c1 hlenD ?c2 ?_))
        case c1 => exact new_cells w4 _ _
        case c2 => have := lt_of_block HI2.out.pl.seen; simp; omega
        intro v' w5 hown5 hgrow5
        have HI3 := Lib.hid ((HI2.out.after ((Below.refl _ _).alloc (Nat.le_refl _) _) h0).app5 hgrow5 hown5 hbw)
        clear hown5 hgrow5 HI2 hcell
        go_wp2_with (go_at_call 23; refine (nextAt_int l b off cap (a + 1) _ _ (by omega) HI3.out.text (by omega) (by omega)).mono ?_; rintro e w' ⟨rfl, rfl⟩)
        go_roundw
        case rel =>
          have e1 := toks_skip l a hlt HK0.out
          have e2 := dgs_one l a hlt (by rw [HE3.out]; decide)
          rw [HEND.out] at e1 e2
          refine ⟨T, D ++ [⟨lineOf l a, (a : Int) - fromOf l a + 1, 3⟩], a, nxt l (a + 1), ?_, nxt_le l (a + 1) (by omega), rfl, ?_, ?_, HI3.out⟩
          · have := nxt_ge l (a + 1); omega
          · rw [← e1]; exact HT.out
          · have := HD.out
            rw [e2] at this
            rw [← this, List.append_assoc]
            simp [dgA, HE3.out]
        case measure => have := nxt_ge l (a + 1); simp [intOf]; omega
      · have hk : kindI (chr l a) = kindA l a := rfl
        have hkc : kindA l a = 1 ∨ kindA l a = 3 ∨ kindA l a = 4 := (kind_cases (chr l a)).resolve_left hk0
        have hkb : (kindA l a != 0) = true := by simp [hk0]
        have hend : endA l a = endT l (kindA l a) a := by simp [endA, hk0]
        have herr : errA l a = terr (kindA l a) (textA l a) := by simp [errA, hk0]
        have htok : tokA l a = ⟨tkind (kindA l a) (textA l a), textA l a, tnum (kindA l a) (textA l a), lineOf l a, (a : Int) - fromOf l a + 1⟩ := rfl
        have hcon2 := endOf_ok l b off cap (kindA l a) a w4 HI2.out.text (by omega) hc hlt
        rw [← hend] at hcon2
        rw [hk] at hcon
        have hle := endA_le l a hlt
        have hgt := endA_gt l a
        have hlenT : (textA l a).length = endA l a - a := by unfold textA; simp; omega
        have HK0 := Lib.hid hk0
        have HERR := Lib.hid herr
        have HC := Lib.hid hcon
        have HC2 := Lib.hid hcon2
        have HLT := Lib.hid hlenT
        have HKC := Lib.hid hkc
        clear hcon hk hk0 hkc herr hcon2 hend htok hlenT
        have htx : textA l a = (l.drop a).take (endA l a - a) := rfl
        generalize hkE : kindA l a = k at *
        generalize hxE : textA l a = tx at *
        generalize heE : endA l a = en at *
        have HKE := Lib.hid hkE
        have HXE := Lib.hid hxE
        have HEE := Lib.hid heE
        have HTX := Lib.hid htx
        clear hkE hxE heE htx
        go_wp2_with (go_at_call 24; refine (HC.out _).mono ?_; rintro e w' ⟨rfl, rfl⟩)
        refine HC2.out.mono ?_
        rintro e w5 ⟨rfl, hb5⟩
        have HI3 := Lib.hid (HI2.out.after hb5 h0)
        have hcv : ∀ o, (convert 22 9 (.slice (some ⟨b, off + a, none⟩) (en - a) (cap - a))).run Tryz.prog (w5.alloc o) = .ok (.string ⟨tx.toArray⟩) (w5.alloc o) := fun o => by
          have := conv_bs ((HI3.out.text.part a (en - a)).alloc o) (cap - a)
          rw [← HTX.out, HLT.out] at this
          exact this
        have hto := fun o => tokenOf_ok tx k w.heap.size (w5.alloc o) HKC.out (by rw [Below.heap_alloc _ _ _ (by have := lt_of_block HI3.out.pl.seen; omega)]; exact HI3.out.map) (by rw [HLT.out]; omega)
        have HTO := Lib.hid hto
        clear hto hb5 HI2 hcell HC HC2
        have hac : ¬ cap = a := by omega
        go_wp2_with fail
        refine (HTO.out _).mono ?_
        rintro e w6 ⟨rfl, hb6⟩
        have HB6 := Lib.hid hb6
        have hz6 : w5.heap.size < w6.heap.size := by have := hb6.size; simp at this; omega
        obtain ⟨hc6, hf6⟩ := below_cells hb6
        have c0 : w6.cell? ⟨w5.heap.size, 0, none⟩ = some (.int .i64 0) := by rw [hc6 _ _ (by simp)]; simp [go_sem]
        have c1 : w6.cell? ⟨w5.heap.size, 1, none⟩ = some (.string ⟨#[]⟩) := by rw [hc6 _ _ (by simp)]; simp [go_sem]
        have c2 : w6.cell? ⟨w5.heap.size, 2, none⟩ = some (.int .i64 0) := by rw [hc6 _ _ (by simp)]; simp [go_sem]
        have c3 : w6.cell? ⟨w5.heap.size, 3, none⟩ = some (.int .i64 0) := by rw [hc6 _ _ (by simp)]; simp [go_sem]
        have c4 : w6.cell? ⟨w5.heap.size, 4, none⟩ = some (.int .i64 0) := by rw [hc6 _ _ (by simp)]; simp [go_sem]
        have f0 : ∀ i, w6.frozen? ⟨w5.heap.size, i, none⟩ = false := fun i => by rw [hf6 _ _ (by simp)]; simp [go_sem]
        clear hb6 hc6 hf6 hcv HTO
        have hlenT : T.length ≤ 1000000 := by
          have h1 := congrArg List.length HT.out
          have h2 := len_toks l.length l (nxt l 0) (by omega)
          rw [List.length_append] at h1
          omega
        have hlenD : D.length ≤ 1000000 := by
          have h1 := congrArg List.length HD.out
          have h2 := len_dgs l.length l (nxt l 0) (by omega)
          rw [List.length_append] at h1
          omega
        by_cases herr0 : terr k tx = 0
        · have HE0 := Lib.hid herr0
          have herrb : (terr k tx != 0) = false := by simp [herr0]
          clear herr0
          go_upto_region 16 with (fail)
          change Code.wp _ _ _ _ (stW w6 w5.heap.size ⟨tkind k tx, tx, tnum k tx, lineOf l a, (a : Int) - fromOf l a + 1⟩)
          have hst := stW_cells (w := w6) (g := w5.heap.size) ⟨tkind k tx, tx, tnum k tx, lineOf l a, (a : Int) - fromOf l a + 1⟩ c0 c1 c2 c3 c4
          have hbe : Below w5.heap.size w5 (stW w6 w5.heap.size ⟨tkind k tx, tx, tnum k tx, lineOf l a, (a : Int) - fromOf l a + 1⟩) := stW_below (((Below.refl _ _).alloc (Nat.le_refl _) _).trans (HB6.out.mono (by simp))) _ (Nat.le_refl _) _
          clear c0 c1 c2 c3 c4 f0 HB6 hz6
          generalize stW w6 w5.heap.size ⟨tkind k tx, tx, tnum k tx, lineOf l a, (a : Int) - fromOf l a + 1⟩ = w7 at hst hbe ⊢
          obtain ⟨c0, c1, c2, c3, c4⟩ := hst
          have HI4 := Lib.hid (HI3.out.after hbe h0)
          clear hbe HI3
          go_wp2_with (at_builtin; refine wpList_app4 _ rfl _ _ rfl (w.heap.size + 5) _ T rfl (HI4.out.own4.alloc _) ⟨w7.heap.size, 0, none⟩ ⟨tkind k tx, tx, tnum k tx, lineOf l a, (a : Int) - fromOf l a + 1⟩ rfl ?new hlenT ?base ?_)
          case new => exact fun _ _ h => h
          case base => have := lt_of_block HI4.out.pl.seen; simp; omega
          intro v' w8 hown8 hgrow8
          have HI5 := Lib.hid ((HI4.out.after ((Below.refl _ _).alloc (Nat.le_refl _) _) h0).app4 hgrow8 hown8 hbw)
          clear hown8 hgrow8 HI4 c0 c1 c2 c3 c4
          go_wp2_with (go_at_call 23; refine (nextAt_int l b off cap en _ _ rfl HI5.out.text (by omega) (by omega)).mono ?_; rintro e w' ⟨rfl, rfl⟩)
          go_roundw
          case rel =>
            have e1 := toks_one l a hlt (by rw [HKE.out]; exact HK0.out)
            have e2 := dgs_skip l a hlt (by rw [HERR.out]; exact HE0.out)
            rw [HEE.out] at e1 e2
            refine ⟨T ++ [⟨tkind k tx, tx, tnum k tx, lineOf l a, (a : Int) - fromOf l a + 1⟩], D, a, nxt l en, ?_, nxt_le l en (by omega), rfl, ?_, ?_, HI5.out⟩
            · have := nxt_ge l en; omega
            · have := HT.out
              rw [e1] at this
              rw [← this, List.append_assoc]
              simp [tokA, HKE.out, HXE.out]
            · rw [← e2]; exact HD.out
          case measure => have := nxt_ge l en; simp [intOf]; omega
        · have HE0 := Lib.hid herr0
          have herrb : (terr k tx != 0) = true := by simp [herr0]
          clear herr0
          go_upto_region 16 with (fail)
          change Code.wp _ _ _ _ (stW w6 w5.heap.size ⟨tkind k tx, tx, tnum k tx, lineOf l a, (a : Int) - fromOf l a + 1⟩)
          have hst := stW_cells (w := w6) (g := w5.heap.size) ⟨tkind k tx, tx, tnum k tx, lineOf l a, (a : Int) - fromOf l a + 1⟩ c0 c1 c2 c3 c4
          have hbe : Below w5.heap.size w5 (stW w6 w5.heap.size ⟨tkind k tx, tx, tnum k tx, lineOf l a, (a : Int) - fromOf l a + 1⟩) := stW_below (((Below.refl _ _).alloc (Nat.le_refl _) _).trans (HB6.out.mono (by simp))) _ (Nat.le_refl _) _
          clear c0 c1 c2 c3 c4 f0 HB6 hz6
          generalize stW w6 w5.heap.size ⟨tkind k tx, tx, tnum k tx, lineOf l a, (a : Int) - fromOf l a + 1⟩ = w7 at hst hbe ⊢
          obtain ⟨c0, c1, c2, c3, c4⟩ := hst
          have HI4 := Lib.hid (HI3.out.after hbe h0)
          clear hbe HI3
          go_wp2_with (at_builtin; refine wpList_app4 _ rfl _ _ rfl (w.heap.size + 5) _ T rfl (HI4.out.own4.alloc _) ⟨w7.heap.size, 0, none⟩ ⟨tkind k tx, tx, tnum k tx, lineOf l a, (a : Int) - fromOf l a + 1⟩ rfl ?new hlenT ?base ?_)
          case new => exact fun _ _ h => h
          case base => have := lt_of_block HI4.out.pl.seen; simp; omega
          intro v' w8 hown8 hgrow8
          have HI5 := Lib.hid ((HI4.out.after ((Below.refl _ _).alloc (Nat.le_refl _) _) h0).app4 hgrow8 hown8 hbw)
          clear hown8 hgrow8 HI4 c0 c1 c2 c3 c4
          go_wp2_with (at_builtin; refine wpList_app5 _ rfl _ _ rfl (w.heap.size + 5) _ D rfl (HI5.out.own5.alloc _) ⟨w8.heap.size, 0, none⟩ ⟨lineOf l a, (a : Int) - fromOf l a + 1, terr k tx⟩ rfl ?new5 hlenD ?base5 ?_)
          case new5 => exact new_cells w8 _ _
          case base5 => have := lt_of_block HI5.out.pl.seen; simp; omega
          intro v'' w9 hown9 hgrow9
          have HI6 := Lib.hid ((HI5.out.after ((Below.refl _ _).alloc (Nat.le_refl _) _) h0).app5 hgrow9 hown9 hbw)
          clear hown9 hgrow9 HI5
          go_wp2_with (go_at_call 23; refine (nextAt_int l b off cap en _ _ rfl HI6.out.text (by omega) (by omega)).mono ?_; rintro e w' ⟨rfl, rfl⟩)
          go_roundw
          case rel =>
            have e1 := toks_one l a hlt (by rw [HKE.out]; exact HK0.out)
            have e2 := dgs_one l a hlt (by rw [HERR.out]; exact HE0.out)
            rw [HEE.out] at e1 e2
            refine ⟨T ++ [⟨tkind k tx, tx, tnum k tx, lineOf l a, (a : Int) - fromOf l a + 1⟩], D ++ [⟨lineOf l a, (a : Int) - fromOf l a + 1, terr k tx⟩], a, nxt l en, ?_, nxt_le l en (by omega), rfl, ?_, ?_, HI6.out⟩
            · have := nxt_ge l en; omega
            · have := HT.out
              rw [e1] at this
              rw [← this, List.append_assoc]
              simp [tokA, HKE.out, HXE.out]
            · have := HD.out
              rw [e2] at this
              rw [← this, List.append_assoc]
              simp [dgA, HERR.out]
          case measure => have := nxt_ge l en; simp [intOf]; omega
    · go_wp2_with fail
      go_ret2
      have e1 := toks_end l a hlt
      have e2 := dgs_end l a hlt
      have h1 := HT.out
      have h2 := HD.out
      rw [e1, List.append_nil] at h1
      rw [e2, List.append_nil] at h2
      rw [← h1, ← h2]
      exact ⟨_, _, rfl, HI.out.below, Joins.ownsRow_le HI.out.own4 (by omega), Joins.ownsRow_le HI.out.own5 (by omega)⟩

set_option maxRecDepth 100000 in
theorem nextAt_none (A : Option Addr) (cap : Nat) (w : World) :
    Calls Tryz.prog 23 #[.slice A 0 cap, .int .i64 0] w fun e w' => e = .returned (.int .i64 0) ∧ w = w' := by
  go_enter Tryz.func23, Tryz.ntmps23
  go_wp2
  go_loop [1] (fun i => i = .int .i64 0) (fun _ => 0)
  case atStart => exact rfl
  case round =>
    obtain rfl := hrel
    go_wp2
    go_ret
    exact ⟨rfl, rfl⟩

set_option maxRecDepth 100000 in
set_option maxHeartbeats 1000000 in
/-- Scan of a text of no bytes. -/
theorem scan_none (A : Option Addr) (cap : Nat) (w : World) :
    Calls Tryz.prog 15 #[.slice A 0 cap] w fun e w' => e = .returned (.tuple #[.slice none 0 0, .slice none 0 0]) ∧ Below w.heap.size w w' := by
  go_enter Tryz.func15, Tryz.ntmps15
  go_wp2_with fail
  refine (wordSet_ok _).mono ?_
  rintro e w1 ⟨rfl, rfl⟩
  go_wp2_with fail
  refine (placesOf_ok _ _ _ _).mono ?_
  rintro e w2 ⟨rfl, hb2, _, _⟩
  have HB2 := Lib.hid hb2
  clear hb2
  go_wp2_with fail
  refine (nextAt_none _ _ _).mono ?_
  rintro e w3 ⟨rfl, rfl⟩
  go_wp2_with fail
  go_loopw [4, 5, 8] (fun v4 v5 v8 wr => v4 = .slice none 0 0 ∧ v5 = .slice none 0 0 ∧ v8 = .int .i64 0 ∧ wr = w2) (fun _ _ _ _ => 0)
  case atStart => exact ⟨rfl, rfl, rfl, rfl⟩
  case round =>
    obtain ⟨rfl, rfl, rfl, rfl⟩ := hrel
    go_wp2_with fail
    go_ret2
    exact ⟨rfl, ((Below.refl _ _).alloc (Nat.le_refl _) _).trans (HB2.out.mono (by simp))⟩

/-- Whether a slice value holds a text. -/
def Holds (w : World) (v : Value) (l : List UInt8) : Prop := ∃ A cap, v = .slice A l.length cap ∧ l.length ≤ cap ∧ (0 < l.length → ∃ b off, A = some ⟨b, off, none⟩ ∧ Bs w b off l)

/-- What Scan answers. -/
def Scanned (base : Nat) (l : List UInt8) (w : World) (e : Ending) (w' : World) : Prop :=
  ∃ v4 v5, e = .returned (.tuple #[v4, v5]) ∧ Below w.heap.size w w' ∧ w'.ownsRow base 61 5 v4 (toks l (nxt l 0)).length (tcs (toks l (nxt l 0))) ∧ w'.ownsRow base 48 3 v5 (dgs l (nxt l 0)).length (dcs (dgs l (nxt l 0)))

theorem scan_ok (l : List UInt8) (v : Value) (w : World) (hv : Holds w v l) (hn : l.length ≤ 1000000) :
    Calls Tryz.prog 15 #[v] w (Scanned w.heap.size l w) := by
  obtain ⟨A, cap, rfl, hc, hA⟩ := hv
  by_cases h0 : 0 < l.length
  · obtain ⟨b, off, rfl, hb⟩ := hA h0
    exact scan_some l b off cap w hb hn hc h0
  · have : l = [] := List.eq_nil_of_length_eq_zero (by omega)
    subst this
    refine (scan_none A cap w).mono ?_
    rintro e w' ⟨rfl, hb⟩
    exact ⟨_, _, rfl, hb, World.ownsRow_nil _ _ _ _, World.ownsRow_nil _ _ _ _⟩
end Go.Proofs.YtpeoefbibjbinaaGreat

namespace Go.Proofs.YtpeoefbibjbinaaGreat
open Go.RowKit

theorem own_form {w : World} {base : Nat} {e : TypeId} {size n : Nat} {v : Value} {xs : List Value} (h : w.ownsRow base e size v n xs) : ∃ A cap, v = .slice A n cap := by
  rcases h.2 with ⟨rfl, rfl⟩ | ⟨g, cap, cur, rfl, _⟩
  · exact ⟨_, _, rfl⟩
  · exact ⟨_, _, rfl⟩
theorem own_some {w : World} {base : Nat} {e : TypeId} {size n : Nat} {v : Value} {xs : List Value} (h : w.ownsRow base e size v n xs) (hn : 0 < n) : ∃ g cap, v = .slice (some ⟨g, 0, none⟩) n cap ∧ base ≤ g ∧ g < w.heap.size ∧ ∀ j u, xs[j]? = some u → w.cell? ⟨g, j, none⟩ = some u := by
  rcases h.2 with ⟨rfl, rfl⟩ | ⟨g, cap, cur, rfl, hb, hg, _⟩
  · omega
  · refine ⟨g, cap, rfl, hb, lt_of_block hg, fun j u hu => ?_⟩
    have := h.cells (g := g) rfl j u hu
    have hadd : (⟨g, 0, none⟩ : Addr).add j = ⟨g, j, none⟩ := by unfold Addr.add; split <;> simp_all
    rwa [hadd] at this

def ka : List UInt8 := [97, 61, 61, 98, 49, 32, 35, 99]
def kb : List UInt8 := [49, 50, 120]
def kc : List UInt8 := [33]
theorem toks_ka : toks ka (nxt ka 0) = [⟨1, [97], 0, 1, 1⟩, ⟨4, [61, 61], 0, 1, 2⟩, ⟨1, [98, 49], 0, 1, 4⟩] := by rfl
theorem dgs_ka : dgs ka (nxt ka 0) = [] := by rfl
theorem toks_kb : toks kb (nxt kb 0) = [⟨3, [49, 50], 12, 1, 1⟩, ⟨1, [120], 0, 1, 3⟩] := by rfl
theorem dgs_kb : dgs kb (nxt kb 0) = [] := by rfl
theorem toks_kc : toks kc (nxt kc 0) = [] := by rfl
theorem dgs_kc : dgs kc (nxt kc 0) = [⟨1, 1, 3⟩] := by rfl

theorem holds_const (w : World) (l : List UInt8) (cs : Array Value) (hcs : cs = (l.map fun x => Value.int .u8 (x.toNat : Int)).toArray) (n : Nat) (hn : n = l.length) (m : Nat × Nat) :
    Holds (w.alloc (.cells cs 5 m)) (.slice (some ⟨w.heap.size, 0, none⟩) n n) l := by
  subst hcs
  subst hn
  refine ⟨_, _, rfl, Nat.le_refl _, fun _ => ⟨_, _, rfl, fun k hk => ?_⟩⟩
  rw [World.cell?_alloc_mark]
  unfold chr
  simp [hk]

end Go.Proofs.YtpeoefbibjbinaaGreat

namespace Go.Proofs.YtpeoefbibjbinaaGreat
open Go.RowKit

theorem line_le (l : List UInt8) (p : Nat) : ∀ k, lineOf l p ≤ lineOf l (p + k)
  | 0 => Nat.le_refl _
  | k + 1 => by
    have := line_le l p k
    rw [← Nat.add_assoc]
    simp only [lineOf]; split <;> omega
theorem line_from (l : List UInt8) (p : Nat) : ∀ k, lineOf l p = lineOf l (p + k) → fromOf l p = fromOf l (p + k)
  | 0, _ => rfl
  | k + 1, h => by
    have hm := line_le l p k
    rw [← Nat.add_assoc] at h ⊢
    simp only [lineOf] at h
    simp only [fromOf]
    split at h
    · omega
    · rename_i hc
      rw [if_neg hc]
      exact line_from l p k h
theorem place_ne_lt (l : List UInt8) (p q : Nat) (h : p < q) (h1 : lineOf l p = lineOf l q) : ¬ ((p : Int) - fromOf l p + 1 = (q : Int) - fromOf l q + 1) := by
  obtain ⟨k, rfl⟩ : ∃ k, q = p + k := ⟨q - p, by omega⟩
  have := line_from l p k h1
  omega

theorem nx_idem : ∀ (t : Bool) (l : List UInt8), nx false (l.drop (nx t l)) = 0
  | _, [] => by cases ‹Bool› <;> simp [nx]
  | true, x :: r => by
    have h1 := nx_idem false r
    have h2 := nx_idem true r
    simp only [nx]
    split
    · simpa using h1
    · simpa using h2
  | false, x :: r => by
    have h1 := nx_idem false r
    have h2 := nx_idem true r
    simp only [nx]
    split
    · simpa using h2
    · rename_i hc
      split
      · simpa using h1
      · rename_i hb
        rw [List.drop_zero]
        simp only [nx]
        rw [if_neg hc, if_neg hb]
theorem nxt_idem (l : List UInt8) (p : Nat) : nxt l (nxt l p) = nxt l p := by
  unfold nxt
  have := nx_idem false (l.drop p)
  rw [List.drop_drop] at this
  rw [this]; rfl
/-- At a place where no blank stands there is no end of a line. -/
theorem at_nb (l : List UInt8) (a : Nat) (ha : a < l.length) (h : nxt l a = a) : ¬ chr l a = 35 ∧ isB (chr l a) = false := by
  by_cases h35 : chr l a = 35
  · have h1 := nxt_hash l a ha h35
    have h2 := nxc_more l a ha (by omega)
    have h3 : a + 1 ≤ nxc l (a + 1) := by unfold nxc; omega
    omega
  · refine ⟨h35, ?_⟩
    cases hb : isB (chr l a)
    · rfl
    · have h1 := nxt_blank l a ha h35 hb
      have := nxt_ge l (a + 1)
      omega
theorem at_nl (l : List UInt8) (a : Nat) (ha : a < l.length) (h : nxt l a = a) : ¬ chr l a = 10 := by
  have := (at_nb l a ha h).2
  intro e
  rw [e] at this
  exact absurd this (by decide)

theorem toks_head : ∀ (n : Nat) (l : List UInt8) (a : Nat) (t : Tok) (r : List Tok), l.length - a ≤ n → toks l a = t :: r → ∃ q, a ≤ q ∧ q < l.length ∧ t = tokA l q
  | 0, l, a, t, r, hn, h => by rw [toks_end l a (by omega)] at h; cases h
  | n + 1, l, a, t, r, hn, h => by
    by_cases ha : a < l.length
    · by_cases hk : kindA l a = 0
      · rw [toks_skip l a ha hk] at h
        have h1 := endA_gt l a
        have h2 := nxt_ge l (endA l a)
        obtain ⟨q, h3, h4, h5⟩ := toks_head n l _ t r (by omega) h
        exact ⟨q, by omega, h4, h5⟩
      · rw [toks_one l a ha hk] at h
        injection h with h _
        exact ⟨a, Nat.le_refl _, ha, h.symm⟩
    · rw [toks_end l a ha] at h; cases h
theorem dgs_head : ∀ (n : Nat) (l : List UInt8) (a : Nat) (t : Dg) (r : List Dg), l.length - a ≤ n → dgs l a = t :: r → ∃ q, a ≤ q ∧ q < l.length ∧ t = dgA l q
  | 0, l, a, t, r, hn, h => by rw [dgs_end l a (by omega)] at h; cases h
  | n + 1, l, a, t, r, hn, h => by
    by_cases ha : a < l.length
    · by_cases hk : errA l a = 0
      · rw [dgs_skip l a ha hk] at h
        have h1 := endA_gt l a
        have h2 := nxt_ge l (endA l a)
        obtain ⟨q, h3, h4, h5⟩ := dgs_head n l _ t r (by omega) h
        exact ⟨q, by omega, h4, h5⟩
      · rw [dgs_one l a ha hk] at h
        injection h with h _
        exact ⟨a, Nat.le_refl _, ha, h.symm⟩
    · rw [dgs_end l a ha] at h; cases h
theorem textA_len (l : List UInt8) (a : Nat) (h : a < l.length) : (textA l a).length = endA l a - a := by
  have := endA_le l a h
  have := endA_gt l a
  unfold textA; simp; omega
end Go.Proofs.YtpeoefbibjbinaaGreat

namespace Go.Proofs.YtpeoefbibjbinaaGreat
open Go.RowKit

def scs (ws : List (List UInt8)) : List Value := ws.map fun s => Value.string ⟨s.toArray⟩

set_option maxRecDepth 100000 in
theorem refWords_ok (w : World) :
    Calls Tryz.prog 56 #[] w fun e w' => e = .returned (.slice (some ⟨w.heap.size, 0, none⟩) 36 36) ∧ w' = w.alloc (.cells (scs wordsL).toArray 9) := by
  go_enter Tryz.func56, Tryz.ntmps56
  go_wp2
  go_ret
  exact ⟨rfl, rfl⟩

theorem words_at (w : World) (k : Nat) (h : k < 36) : (w.alloc (.cells (scs wordsL).toArray 9)).cell? ⟨w.heap.size, k, none⟩ = some (.string ⟨(wordsL.getD k []).toArray⟩) := by
  rw [cell_of_row _ w.heap.size k _ 9 (0, 0) (heap_alloc_new w _)]
  have hl : k < wordsL.length := h
  unfold scs
  simp [List.getD, List.getElem?_eq_getElem hl]

theorem isW_take (l : List UInt8) (k : Nat) (h : k < 36) (hn : (wordsL.take k).contains l = false) (hne : ¬ wordsL.getD k [] = l) : (wordsL.take (k + 1)).contains l = false := by
  have hl : k < wordsL.length := h
  rw [List.take_succ_eq_append_getElem hl]
  simp only [List.getD, List.getElem?_eq_getElem hl, Option.getD_some] at hne
  rw [Bool.eq_false_iff] at hn ⊢
  intro hc
  rw [List.contains_iff_mem, List.mem_append] at hc
  rcases hc with hc | hc
  · exact hn (by rw [List.contains_iff_mem]; exact hc)
  · simp at hc; exact hne hc.symm
theorem isW_hit (l : List UInt8) (k : Nat) (h : k < 36) (he : wordsL.getD k [] = l) : isW l = true := by
  have hl : k < wordsL.length := h
  simp only [List.getD, List.getElem?_eq_getElem hl, Option.getD_some] at he
  unfold isW
  rw [List.contains_iff_mem, ← he]
  exact List.getElem_mem hl

set_option maxRecDepth 100000 in
set_option maxHeartbeats 1000000 in
theorem refIsWord_ok (l : List UInt8) (w : World) :
    Calls Tryz.prog 31 #[.string ⟨l.toArray⟩] w fun e w' => e = .returned (.bool (isW l)) ∧ Below w.heap.size w w' := by
  have HW := Lib.hid (words_at w)
  have HB := Lib.hid ((Below.refl w.heap.size w).alloc (Nat.le_refl _) (.cells (scs wordsL).toArray 9))
  go_enter Tryz.func31, Tryz.ntmps31
  go_wp2_with (go_at_call 56; refine (refWords_ok _).mono ?_; rintro e w' ⟨rfl, rfl⟩)
  generalize w.alloc (.cells (scs wordsL).toArray 9) = w1 at HW HB ⊢
  go_loop [4] (fun i => ∃ k : Nat, k ≤ 36 ∧ i = .int .i64 k ∧ Hid ((wordsL.take k).contains l = false)) (fun i => 36 - (intOf i).toNat)
  case atStart => exact ⟨0, by omega, rfl, Lib.hid rfl⟩
  case round =>
    obtain ⟨k, hk, rfl, HK⟩ := hrel
    by_cases hlt : k < 36
    · have hcell := HW.out k hlt
      generalize hx : wordsL.getD k [] = x at hcell
      by_cases hxl : x = l
      · have HXL := Lib.hid hxl
        have hb : (x == l) = true := by simp [hxl]
        have HX := Lib.hid hx
        clear hxl hx
        go_wp2
        go_ret
        exact ⟨ret_bool (isW_hit l k hlt (HX.out.trans HXL.out)).symm, HB.out⟩
      · have HXL := Lib.hid hxl
        have hb : (x == l) = false := by simp [hxl]
        have HX := Lib.hid hx
        clear hxl hx
        go_wp2
        go_round
        case rel => exact ⟨k + 1, by omega, by go_num, Lib.hid (isW_take l k hlt HK.out (fun e => HXL.out (HX.out.symm.trans e)))⟩
        case measure => simp [intOf]; omega
    · obtain rfl : k = 36 := by omega
      go_wp2
      go_ret
      exact ⟨ret_bool (show false = isW l from HK.out.symm), HB.out⟩

/-- The reference's number: digits gone through, held at a bound. -/
def rnF : Int → List UInt8 → Option Int
  | n, [] => some n
  | n, x :: r => if isD x.toNat = true then rnF (min (10 * n + ((x.toNat : Int) - 48)) 1099511627776) r else none
def rnA (l : List UInt8) (n : Int) (j : Nat) : Option Int := rnF n (l.drop j)
theorem rnA_end (l : List UInt8) (n : Int) (j : Nat) (h : l.length ≤ j) : rnA l n j = some n := by
  unfold rnA; rw [List.drop_of_length_le h]; rfl
theorem rnA_not (l : List UInt8) (n : Int) (j : Nat) (h : j < l.length) (hd : isD (chr l j) = false) : rnA l n j = none := by
  obtain ⟨x, hx, hc⟩ := drop_chr l j h
  rw [hc] at hd
  unfold rnA; rw [hx]; simp only [rnF]; rw [hd]; rfl
theorem rnA_more (l : List UInt8) (n : Int) (j : Nat) (h : j < l.length) (hd : isD (chr l j) = true) : rnA l n j = rnA l (min (10 * n + (chr l j - 48)) 1099511627776) (j + 1) := by
  obtain ⟨x, hx, hc⟩ := drop_chr l j h
  rw [hc] at hd ⊢
  unfold rnA; rw [hx]; simp only [rnF]; rw [if_pos hd]
def rnT (l : List UInt8) : Int × Bool := match rnA l 0 0 with | some n => if l = [] ∨ 2147483647 < n then (0, false) else (n, true) | none => (0, false)

theorem rnF_big : ∀ (l : List UInt8) (n m : Int), 2147483647 < n → rnF n l = some m → 2147483647 < m
  | [], n, m, hn, h => by simp [rnF] at h; omega
  | x :: r, n, m, hn, h => by
    simp only [rnF] at h
    split at h
    · rename_i hd
      refine rnF_big r _ m ?_ h
      simp [isD] at hd
      omega
    · cases h
theorem rnF_num : ∀ (l : List UInt8) (n : Int), 0 ≤ n → n ≤ 2147483647 → (∀ x ∈ l, isD x.toNat = true) →
    (∃ m, numF n l = some m ∧ rnF n l = some m ∧ m ≤ 2147483647) ∨ (numF n l = none ∧ ∃ m, rnF n l = some m ∧ 2147483647 < m)
  | [], n, h0, h1, _ => .inl ⟨n, rfl, rfl, h1⟩
  | x :: r, n, h0, h1, hd => by
    have hx := hd x (List.mem_cons_self ..)
    have hx' := hx
    simp [isD] at hx'
    have hr : ∀ y ∈ r, isD y.toNat = true := fun y hy => hd y (List.mem_cons_of_mem _ hy)
    have e : min (10 * n + ((x.toNat : Int) - 48)) 1099511627776 = n * 10 + ((x.toNat : Int) - 48) := by omega
    simp only [numF, rnF]
    rw [if_pos hx, e]
    by_cases hb : 2147483647 < n * 10 + ((x.toNat : Int) - 48)
    · rw [if_pos hb]
      refine .inr ⟨rfl, ?_⟩
      have hs : ∀ (k : List UInt8) (q : Int), (∀ y ∈ k, isD y.toNat = true) → ∃ m, rnF q k = some m := by
        intro k
        induction k with
        | nil => exact fun q _ => ⟨q, rfl⟩
        | cons y k ih =>
          intro q hk
          simp only [rnF]
          rw [if_pos (hk y (List.mem_cons_self ..))]
          exact ih _ (fun z hz => hk z (List.mem_cons_of_mem _ hz))
      obtain ⟨m, hm⟩ := hs r (n * 10 + ((x.toNat : Int) - 48)) hr
      exact ⟨m, hm, rnF_big r _ m hb hm⟩
    · rw [if_neg hb]
      exact rnF_num r _ (by omega) (by omega) hr
theorem rnF_digits : ∀ (l : List UInt8) (n m : Int), rnF n l = some m → ∀ x ∈ l, isD x.toNat = true
  | [], _, _, _, x, hx => by cases hx
  | y :: r, n, m, h, x, hx => by
    simp only [rnF] at h
    split at h
    · rename_i hd
      rcases List.mem_cons.1 hx with rfl | hx
      · exact hd
      · exact rnF_digits r _ m h x hx
    · cases h
theorem run_of_all (k : Int) : ∀ l : List UInt8, (∀ x ∈ l, goes k x.toNat = true) → run k l = l.length
  | [], _ => rfl
  | x :: r, h => by
    simp only [run]
    rw [if_pos (h x (List.mem_cons_self ..)), run_of_all k r (fun y hy => h y (List.mem_cons_of_mem _ hy))]
    rfl
theorem mem_chr (l : List UInt8) (x : UInt8) (h : x ∈ l) : ∃ j, j < l.length ∧ chr l j = (x.toNat : Int) := by
  obtain ⟨j, hj, e⟩ := List.getElem_of_mem h
  refine ⟨j, hj, ?_⟩
  unfold chr
  rw [List.getElem?_eq_getElem hj, e]; rfl
theorem digits_whole (l : List UInt8) (hne : l ≠ []) (h : ∀ x ∈ l, isD x.toNat = true) : whole l 3 = true := by
  rcases l with _ | ⟨x, r⟩
  · exact absurd rfl hne
  · have hx := h x (List.mem_cons_self ..)
    have hc : chr (x :: r) 0 = (x.toNat : Int) := rfl
    have hnl : isL (x.toNat : Int) = false := by
      simp [isD] at hx
      rw [Bool.eq_false_iff]
      simp [isL]
      omega
    have hk : kindI (chr (x :: r) 0) = 3 := by rw [hc]; simp [kindI, hnl, hx]
    have hp : pre2 ((x :: r).drop 0) = false := by
      rw [Bool.eq_false_iff]
      intro hp
      have := (chr_pre2 _ hp).1
      rw [List.drop_zero, hc] at this
      simp [isD] at hx
      omega
    have hr : run 3 r = r.length := run_of_all 3 r (fun y hy => by simp [goes, h y (List.mem_cons_of_mem _ hy)])
    unfold whole endT ends
    rw [hk, hp]
    simp [hr]
    omega
theorem rnT_eq (l : List UInt8) : rnT l = numT l := by
  unfold rnT numT
  by_cases hw : whole l 3 = true
  · rw [if_pos hw]
    have hd := whole_digits l hw
    have hne : l ≠ [] := fun e => by subst e; exact absurd hw (by decide)
    have hall : ∀ x ∈ l, isD x.toNat = true := fun x hx => by
      obtain ⟨j, hj, e⟩ := mem_chr l x hx
      rw [← e]; exact hd j hj
    have hr := rnF_num l 0 (by omega) (by omega) hall
    unfold rnA numA
    rw [List.drop_zero]
    rcases hr with ⟨m, h1, h2, h3⟩ | ⟨h1, m, h2, h3⟩
    · rw [h1, h2]
      have : ¬ (l = [] ∨ 2147483647 < m) := by
        rintro (h | h)
        · exact hne h
        · omega
      simp only [if_neg this]
    · rw [h1, h2]
      simp only [if_pos (Or.inr h3 : l = [] ∨ 2147483647 < m)]
  · rw [if_neg hw]
    cases hr : rnA l 0 0 with
    | none => rfl
    | some m =>
      have hd := rnF_digits _ _ _ hr
      rw [List.drop_zero] at hd
      have hl : l = [] := by
        by_cases hne : l = []
        · exact hne
        · exact absurd (digits_whole l hne hd) hw
      simp [hl]
end Go.Proofs.YtpeoefbibjbinaaGreat

namespace Go.Proofs.YtpeoefbibjbinaaGreat
open Go.RowKit
attribute [local go_sem] str_at

set_option maxRecDepth 100000 in
set_option maxHeartbeats 1000000 in
theorem refNumber_ok (l : List UInt8) (w : World) (hn : l.length ≤ 1000000000) :
    Calls Tryz.prog 32 #[.string ⟨l.toArray⟩] w fun e w' => e = .returned (.tuple #[.int .i64 (numT l).1, .bool (numT l).2]) ∧ w = w' := by
  have HN := Lib.hid (rnT_eq l)
  go_enter Tryz.func32, Tryz.ntmps32
  go_wp2_with fail
  go_loop [4, 5] (fun n i => ∃ (m : Int) (j : Nat), 0 ≤ m ∧ m ≤ 1099511627776 ∧ j ≤ l.length ∧ n = .int .i64 m ∧ i = .int .i64 j ∧ Hid (rnA l m j = rnA l 0 0)) (fun _ i => l.length - (intOf i).toNat)
  case atStart => exact ⟨0, 0, by omega, by omega, by omega, rfl, rfl, Lib.hid rfl⟩
  case round =>
    obtain ⟨m, j, hm0, hm1, hj, rfl, rfl, HJ⟩ := hrel
    have h0 := chr_ge l j
    have h1 := chr_le l j
    by_cases hlj : j < l.length
    · cases hd : isD (chr l j)
      · have HD := Lib.hid hd
        have hcon := digit_ok (chr l j)
        rw [hd] at hcon
        have HC := Lib.hid hcon
        clear hd hcon
        go_wp2_with (go_at_call 30; refine (HC.out _).mono ?_; rintro e w' ⟨rfl, rfl⟩)
        go_ret2
        have hx : rnT l = (0, false) := by unfold rnT; rw [← HJ.out, rnA_not l m j hlj HD.out]
        exact ⟨by rw [← HN.out, hx]; rfl, rfl⟩
      · have HD := Lib.hid hd
        have hcon := digit_ok (chr l j)
        rw [hd] at hcon
        have HC := Lib.hid hcon
        have hd1 : 48 ≤ chr l j := by simp [isD] at hd; omega
        have hd2 : chr l j ≤ 57 := by simp [isD] at hd; omega
        clear hd hcon
        go_wp2_with (go_at_call 30; refine (HC.out _).mono ?_; rintro e w' ⟨rfl, rfl⟩)
        go_round
        case rel =>
          have e : (if 1099511627776 < 10 * m + (chr l j - 48) then (1099511627776 : Int) else 10 * m + (chr l j - 48)) = min (10 * m + (chr l j - 48)) 1099511627776 := by split <;> omega
          rw [e]
          exact ⟨_, j + 1, by omega, by omega, by omega, rfl, by go_num, Lib.hid ((rnA_more l m j hlj HD.out).symm.trans HJ.out)⟩
        case measure => simp [intOf]; omega
    · have hx : rnA l 0 0 = some m := by rw [← HJ.out, rnA_end l m j (by omega)]
      by_cases hl : l = []
      · have hy : rnT l = (0, false) := by unfold rnT; rw [hx]; simp [hl]
        have HY := Lib.hid hy
        have hle : l.isEmpty = true := by simp [hl]
        have hlb : (l == []) = true := by simp [hl]
        clear hx hy hl
        go_wp2_with fail
        go_ret2
        exact ⟨by rw [← HN.out, HY.out]; rfl, rfl⟩
      · have hle : l.isEmpty = false := by cases l <;> simp_all
        have hlb : (l == []) = false := by simp [hl]
        by_cases hb : 2147483647 < m
        · have hy : rnT l = (0, false) := by unfold rnT; rw [hx]; simp [hb]
          have HY := Lib.hid hy
          clear hx hy hl
          go_wp2_with fail
          go_ret2
          exact ⟨by rw [← HN.out, HY.out]; rfl, rfl⟩
        · have hy : rnT l = (m, true) := by unfold rnT; rw [hx]; simp [hb, hl]
          have HY := Lib.hid hy
          clear hx hy hl
          go_wp2_with fail
          go_ret2
          exact ⟨by rw [← HN.out, HY.out]; rfl, rfl⟩

/-- How many bytes the mark at a place has. -/
def mk (l : List UInt8) (p : Nat) : Int := if pre2 (l.drop p) = true then 2 else if isM (chr l p) = true then 1 else 0
theorem pre2_at (l : List UInt8) (p : Nat) : pre2 (l.drop p) = (decide (p + 1 < l.length) && (chr l p == 61) && (chr l (p + 1) == 61)) := by
  by_cases h : p + 1 < l.length
  · obtain ⟨x, hx, hc⟩ := drop_chr l p (by omega)
    obtain ⟨y, hy, hd⟩ := drop_chr l (p + 1) h
    rw [hx, hy, hc, hd]
    unfold pre2
    rw [Bool.eq_iff_iff]
    simp [h]
    constructor
    · rintro ⟨rfl, rfl⟩; exact ⟨rfl, rfl⟩
    · rintro ⟨h1, h2⟩
      refine ⟨UInt8.toNat_inj.1 ?_, UInt8.toNat_inj.1 ?_⟩
      · show x.toNat = 61; omega
      · show y.toNat = 61; omega
  · rw [Bool.eq_iff_iff]
    simp only [h, decide_false, Bool.false_and, Bool.false_eq_true, iff_false]
    intro hp
    have := pre2_len _ hp
    rw [List.length_drop] at this
    omega

theorem isM_take (l : List UInt8) (p k : Nat) (h : k < 13) (hn : (marksL.take k).contains (UInt8.ofNat (chr l p).toNat) = false) (hne : ¬ chr l p = chr marksL k) : (marksL.take (k + 1)).contains (UInt8.ofNat (chr l p).toNat) = false := by
  have hl : k < marksL.length := h
  rw [List.take_succ_eq_append_getElem hl]
  rw [Bool.eq_false_iff] at hn ⊢
  intro hc
  rw [List.contains_iff_mem, List.mem_append] at hc
  rcases hc with hc | hc
  · exact hn (by rw [List.contains_iff_mem]; exact hc)
  · simp at hc
    apply hne
    have h0 := chr_ge l p
    have h1 := chr_le l p
    have e : chr marksL k = (marksL[k].toNat : Int) := by unfold chr; rw [List.getElem?_eq_getElem hl]; rfl
    rw [e, ← hc]
    simp
    omega
theorem isM_hit (l : List UInt8) (p k : Nat) (h : k < 13) (he : chr l p = chr marksL k) : isM (chr l p) = true := by
  have hl : k < marksL.length := h
  have e : chr marksL k = (marksL[k].toNat : Int) := by unfold chr; rw [List.getElem?_eq_getElem hl]; rfl
  unfold isM
  rw [List.contains_iff_mem, he, e]
  have : UInt8.ofNat ((marksL[k].toNat : Int)).toNat = marksL[k] := by simp
  rw [this]
  exact List.getElem_mem hl

set_option maxRecDepth 100000 in
set_option maxHeartbeats 1000000 in
theorem mark_ok (l : List UInt8) (b off cap p : Nat) (w : World) (hb : Bs w b off l) (hn : l.length ≤ 1000000000) (hp : p < l.length) :
    Calls Tryz.prog 33 #[.slice (some ⟨b, off, none⟩) l.length cap, .int .i64 p] w fun e w' => e = .returned (.int .i64 (mk l p)) ∧ ∃ n, w' = w.drewN n := by
  have hcell := hb p hp
  have HPRE := Lib.hid (pre2_at l p)
  have HB := Lib.hid hb
  clear hb
  have h0 := chr_ge l p
  have h1 := chr_le l p
  generalize hq : pre2 (l.drop p) = q at HPRE
  have HQ := Lib.hid hq
  clear hq
  go_enter Tryz.func33, Tryz.ntmps33
  go_upto_region 1 with (fail)
  go_cut [26] from 7 to 40 (fun s26 wx => s26 = .bool q ∧ w = wx)
  case first =>
    by_cases h2 : p + 1 < l.length
    · have hcell2 : w.cell? ⟨b, off + (p + 1), none⟩ = some (.int .u8 (chr l (p + 1))) := HB.out (p + 1) h2
      cases h61 : (chr l p == 61)
      · have hqf : q = false := by rw [HPRE.out, h61]; simp
        subst hqf
        clear HPRE
        go_wp2_with fail
        go_meet
        exact ⟨rfl, rfl⟩
      · have hqe : q = (chr l (p + 1) == 61) := by rw [HPRE.out, h61]; simp [h2]
        have HQE := Lib.hid hqe
        clear hqe HPRE
        go_wp2_with fail
        go_meet
        exact ⟨by rw [HQE.out], rfl⟩
    · have hqf : q = false := by rw [HPRE.out]; simp [h2]
      have hlf : decide (p + 1 < l.length) = false := by simpa using h2
      have hlf' : decide ((p : Int) + 1 < (l.length : Int)) = false := by simp; omega
      subst hqf
      clear HPRE
      go_wp2_with fail
      go_meet
      exact ⟨rfl, rfl⟩
  case rest =>
    obtain ⟨rfl, rfl⟩ := hcut
    clear HPRE
    cases q
    · go_wp2_with fail
      go_loopg [6] 13 (fun k v6 wr => ∃ i nq : Nat, i + k = 13 ∧ v6 = .int .i64 i ∧ wr = w.drewN nq ∧ Hid ((marksL.take i).contains (UInt8.ofNat (chr l p).toNat) = false))
      case atStart => exact ⟨0, 0, rfl, rfl, rfl, Lib.hid rfl⟩
      case round =>
        obtain ⟨i, m0, hik, rfl, rfl, HI⟩ := hrel
        have HIK := Lib.hid hik
        have hi : i ≤ 13 := by omega
        clear hik
        by_cases hlt : i < 13
        · go_upto_region 7 with (fail)
          go_quiet (fail)
          rw [World.drewN_drewN]
          generalize m0 + nq = m1
          generalize hc : chr [123, 125, 40, 41, 91, 93, 59, 46, 61, 43, 45, 42, 60] i = c
          have HC : Hid (chr marksL i = c) := Lib.hid hc
          clear hc hcell
          cases he : (chr l p == c)
          · have HNE : Hid (¬ chr l p = c) := Lib.hid (beq_eq_false_iff_ne.1 he)
            go_wp2_with fail
            go_roundg (gk - 1)
            case measure => have := HIK.out; omega
            case rel => exact ⟨i + 1, m1, by have := HIK.out; omega, by go_num, rfl, Lib.hid (isM_take l p i hlt HI.out (by rw [HC.out]; exact HNE.out))⟩
          · have HEQ : Hid (chr l p = c) := Lib.hid (beq_iff_eq.1 he)
            go_wp2_with fail
            go_ret
            exact ⟨ret_int (by simp [mk, HQ.out, isM_hit l p i hlt (HEQ.out.trans HC.out.symm)]), _, rfl⟩
        · obtain rfl : i = 13 := by omega
          go_wp2_with fail
          go_ret
          exact ⟨ret_int (by have h := HI.out; have hm : isM (chr l p) = false := h; simp [mk, HQ.out, hm]), _, rfl⟩
    · go_wp2_with fail
      go_ret
      exact ⟨ret_int (by simp [mk, HQ.out]), 0, rfl⟩
end Go.Proofs.YtpeoefbibjbinaaGreat
