/- token.Scan. -/
import Derived.Test.YthgpepkcjjimlaaTokI
import Derived.Lib.SmallJoins
import Derived.Deep.DeepCutAuto
import Derived.Deep.Cut
namespace Go.Proofs.Ythgpepkcjjimlaa
open Go.RowKit

/-- The relation of Scan's loop. -/
def ScanR (l : List UInt8) (b off cap : Nat) (w : World) (a0 : Nat) (v4 v5 v8 : Value) (wr : World) : Prop :=
  ∃ (T : List Tok) (D : List Dg) (s a : Nat), s ≤ a ∧ a ≤ l.length ∧ v8 = .int .i64 a ∧ T ++ toks l a = toks l a0 ∧ D ++ dgs l a = dgs l a0 ∧ SI l b off cap w v4 v5 T D s wr

/-- The world behind the stores of a token into its variable. -/
def stW (w : World) (g : Nat) (t : Tok) : World :=
  ((((((w.setCell ⟨g, 0, none⟩ (.int .i64 t.kind)).setCell ⟨g, 1, none⟩ (.string ⟨t.text.toArray⟩)).setCell ⟨g, 2, none⟩ (.int .i64 t.n)).setCell ⟨g, 3, none⟩ (.int .i64 0)).setCell ⟨g, 4, none⟩ (.int .i64 0)).setCell
    ⟨g, 3, none⟩ (.int .i64 t.line)).setCell ⟨g, 4, none⟩ (.int .i64 t.col)
theorem stW_below {B : Nat} {a w : World} (h : Below B a w) (g : Nat) (hg : B ≤ g) (t : Tok) : Below B a (stW w g t) :=
  ((((((h.setCell (p := ⟨g, 0, none⟩) hg _).setCell (p := ⟨g, 1, none⟩) hg _).setCell (p := ⟨g, 2, none⟩) hg _).setCell (p := ⟨g, 3, none⟩) hg _).setCell (p := ⟨g, 4, none⟩) hg _).setCell (p := ⟨g, 3, none⟩) hg _).setCell (p := ⟨g, 4, none⟩) hg _
theorem stW_size (w : World) (g : Nat) (t : Tok) : (stW w g t).heap.size = w.heap.size := by simp [stW, World.setCell]
theorem set_far (w : World) (g i j : Nat) (v : Value) (h : i ≠ j) : (w.setCell ⟨g, i, none⟩ v).cell? ⟨g, j, none⟩ = w.cell? ⟨g, j, none⟩ := World.cell?_setCell_other _ _ _ _ (fun e => h (by injection e))
theorem set_here {w : World} {g i : Nat} {u : Value} (v : Value) (h : w.cell? ⟨g, i, none⟩ = some u) : (w.setCell ⟨g, i, none⟩ v).cell? ⟨g, i, none⟩ = some v := World.cell?_setCell_same _ _ _ h
theorem stW_cells {w : World} {g : Nat} {u0 u1 u2 u3 u4 : Value} (t : Tok) (h0 : w.cell? ⟨g, 0, none⟩ = some u0) (h1 : w.cell? ⟨g, 1, none⟩ = some u1) (h2 : w.cell? ⟨g, 2, none⟩ = some u2) (h3 : w.cell? ⟨g, 3, none⟩ = some u3) (h4 : w.cell? ⟨g, 4, none⟩ = some u4) :
    (stW w g t).cell? ⟨g, 0, none⟩ = some (.int .i64 t.kind) ∧ (stW w g t).cell? ⟨g, 1, none⟩ = some (.string ⟨t.text.toArray⟩) ∧ (stW w g t).cell? ⟨g, 2, none⟩ = some (.int .i64 t.n) ∧
    (stW w g t).cell? ⟨g, 3, none⟩ = some (.int .i64 t.line) ∧ (stW w g t).cell? ⟨g, 4, none⟩ = some (.int .i64 t.col) := by
  unfold stW
  refine ⟨?_, ?_, ?_, ?_, ?_⟩
  · rw [set_far _ _ 4 0 _ (by decide), set_far _ _ 3 0 _ (by decide), set_far _ _ 4 0 _ (by decide), set_far _ _ 3 0 _ (by decide), set_far _ _ 2 0 _ (by decide), set_far _ _ 1 0 _ (by decide)]
    exact set_here _ h0
  · rw [set_far _ _ 4 1 _ (by decide), set_far _ _ 3 1 _ (by decide), set_far _ _ 4 1 _ (by decide), set_far _ _ 3 1 _ (by decide), set_far _ _ 2 1 _ (by decide)]
    exact set_here _ ((set_far _ _ 0 1 _ (by decide)).trans h1)
  · rw [set_far _ _ 4 2 _ (by decide), set_far _ _ 3 2 _ (by decide), set_far _ _ 4 2 _ (by decide), set_far _ _ 3 2 _ (by decide)]
    exact set_here _ ((set_far _ _ 1 2 _ (by decide)).trans ((set_far _ _ 0 2 _ (by decide)).trans h2))
  · rw [set_far _ _ 4 3 _ (by decide)]
    exact set_here _ ((set_far _ _ 4 3 _ (by decide)).trans (set_here _ ((set_far _ _ 2 3 _ (by decide)).trans ((set_far _ _ 1 3 _ (by decide)).trans ((set_far _ _ 0 3 _ (by decide)).trans h3)))))
  · exact set_here _ ((set_far _ _ 3 4 _ (by decide)).trans (set_here _ ((set_far _ _ 3 4 _ (by decide)).trans ((set_far _ _ 2 4 _ (by decide)).trans ((set_far _ _ 1 4 _ (by decide)).trans ((set_far _ _ 0 4 _ (by decide)).trans h4))))))

set_option maxRecDepth 100000 in
set_option maxHeartbeats 1000000 in
theorem scan_some (l : List UInt8) (b off cap : Nat) (w : World) (hb : Bs w b off l) (hn : l.length ≤ 1000000) (hc : l.length ≤ cap) (h0 : 0 < l.length) :
    Calls Try.prog 18 #[.slice (some ⟨b, off, none⟩) l.length cap] w fun e w' =>
      ∃ v4 v5, e = .returned (.tuple #[v4, v5]) ∧ Below w.heap.size w w' ∧ w'.ownsRow w.heap.size 38 5 v4 (toks l (nxt l 0)).length (tcs (toks l (nxt l 0))) ∧ w'.ownsRow w.heap.size 35 3 v5 (dgs l (nxt l 0)).length (dcs (dgs l (nxt l 0))) := by
  have hbw := hb.lt h0
  have HB := Lib.hid hb
  clear hb
  go_enter Try.func18, Try.ntmps18
  go_wp2_with fail
  refine (wordSet_ok _).mono ?_
  rintro e w1 ⟨rfl, rfl⟩
  go_wp2_with fail
  refine (placesOf_ok _ _ _ _).mono ?_
  rintro e w2 ⟨rfl, hb2, hpl2, hsz2⟩
  have HB2 := Lib.hid hb2
  have HPL2 := Lib.hid hpl2
  have HSZ2 := Lib.hid hsz2
  clear hb2 hpl2 hsz2
  unfold plv
  have hsz : (w.alloc (wobj (wk 36))).heap.size = w.heap.size + 1 := by simp
  have hsi : SI l b off cap w (.slice none 0 0) (.slice none 0 0) [] [] 0 w2 := by
    have h2 := HB2.out
    have hp2 := HPL2.out
    rw [hsz] at h2 hp2
    refine ⟨((Below.refl _ _).alloc (Nat.le_refl _) _).trans (h2.mono (by omega)), (HB.out.alloc _).below h2 (by omega), heap_below h2 (by omega) (heap_alloc_new w _), hp2, World.ownsRow_nil _ _ _ _, World.ownsRow_nil _ _ _ _⟩
  have HSI := Lib.hid hsi
  clear hsi hsz
  go_wp2_with fail
  refine (nextAt_ok l b off cap 0 w2 HSI.out.text (by omega) (by omega)).mono ?_
  rintro e w3 ⟨rfl, rfl⟩
  have ha0 := nxt_le l 0 (by omega)
  go_wp2_with fail
  go_loopw [4, 5, 8] (fun v4 v5 v8 wr => ScanR l b off cap w (nxt l 0) v4 v5 v8 wr) (fun _ _ v8 _ => l.length - (intOf v8).toNat)
  case atStart => exact ⟨[], [], 0, nxt l 0, by omega, ha0, rfl, rfl, rfl, HSI.out⟩
  case round =>
    obtain ⟨T, D, s, a, hsa, hal, rfl, hT, hD, hI⟩ := hrel
    clear HSI HB2 HPL2 HSZ2 HB
    have HT := Lib.hid hT
    have HD := Lib.hid hD
    have HI := Lib.hid hI
    clear hT hD hI
    by_cases hlt : a < l.length
    · go_wp2_with fail
      refine (place_ok l b off cap (w.heap.size + 1) s a wr HI.out.text (by omega) hal hsa (by omega) HI.out.pl).mono ?_
      rintro e w4 ⟨rfl, hpl, hpt⟩
      have HI2 := Lib.hid (HI.out.place hpt hpl hbw)
      clear HI hpl hpt
      have hcell := HI2.out.text a hlt
      have hfl := fromOf_le l a
      have hll := lineOf_le l a
      have hcon := kindAt_ok (chr l a)
      by_cases hk0 : kindA l a = 0
      · have hk : kindI (chr l a) = 0 := hk0
        have he3 : errA l a = 3 := by simp [errA, hk0]
        have hend : endA l a = a + 1 := by simp [endA, hk0]
        have HK0 := Lib.hid hk0
        have HE3 := Lib.hid he3
        have HEND := Lib.hid hend
        rw [hk] at hcon
        have HC := Lib.hid hcon
        clear hcon hk hk0 he3 hend
        have hlenD : D.length ≤ 1000000 := by
          have h1 := congrArg List.length HD.out
          have h2 := len_dgs l.length l (nxt l 0) (by omega)
          rw [List.length_append] at h1
          omega
        go_wp2_with (first
          | (go_at_call 26; refine (HC.out _).mono ?_; rintro e w' ⟨rfl, rfl⟩)
          | (at_builtin; refine wpList_app5 _ rfl _ _ rfl (w.heap.size + 5) _ D rfl (HI2.out.own5.alloc _) ⟨w4.heap.size, 0, none⟩ ⟨lineOf l a, (a : Int) - fromOf l a + 1, 3⟩ rfl ?c1 hlenD ?c2 ?_))
        case c1 => exact new_cells w4 _ _
        case c2 => have := lt_of_block HI2.out.pl.seen; simp; omega
        intro v' w5 hown5 hgrow5
        have HI3 := Lib.hid ((HI2.out.after ((Below.refl _ _).alloc (Nat.le_refl _) _) h0).app5 hgrow5 hown5 hbw)
        clear hown5 hgrow5 HI2 hcell
        go_wp2_with (go_at_call 25; refine (nextAt_int l b off cap (a + 1) _ _ (by omega) HI3.out.text (by omega) (by omega)).mono ?_; rintro e w' ⟨rfl, rfl⟩)
        go_roundw
        case rel =>
          have e1 := toks_skip l a hlt HK0.out
          have e2 := dgs_one l a hlt (by rw [HE3.out]; decide)
          rw [HEND.out] at e1 e2
          refine ⟨T, D ++ [⟨lineOf l a, (a : Int) - fromOf l a + 1, 3⟩], a, nxt l (a + 1), ?_, nxt_le l (a + 1) (by omega), rfl, ?_, ?_, HI3.out⟩
          · have := nxt_ge l (a + 1); omega
          · rw [← e1]; exact HT.out
          · have := HD.out
            rw [e2] at this
            rw [← this, List.append_assoc]
            simp [dgA, HE3.out]
        case measure => have := nxt_ge l (a + 1); simp [intOf]; omega
      · have hk : kindI (chr l a) = kindA l a := rfl
        have hkc : kindA l a = 1 ∨ kindA l a = 3 ∨ kindA l a = 4 := (kind_cases (chr l a)).resolve_left hk0
        have hkb : (kindA l a != 0) = true := by simp [hk0]
        have hend : endA l a = endT l (kindA l a) a := by simp [endA, hk0]
        have herr : errA l a = terr (kindA l a) (textA l a) := by simp [errA, hk0]
        have htok : tokA l a = ⟨tkind (kindA l a) (textA l a), textA l a, tnum (kindA l a) (textA l a), lineOf l a, (a : Int) - fromOf l a + 1⟩ := rfl
        have hcon2 := endOf_ok l b off cap (kindA l a) a w4 HI2.out.text (by omega) hc hlt
        rw [← hend] at hcon2
        rw [hk] at hcon
        have hle := endA_le l a hlt
        have hgt := endA_gt l a
        have hlenT : (textA l a).length = endA l a - a := by unfold textA; simp; omega
        have HK0 := Lib.hid hk0
        have HERR := Lib.hid herr
        have HC := Lib.hid hcon
        have HC2 := Lib.hid hcon2
        have HLT := Lib.hid hlenT
        have HKC := Lib.hid hkc
        clear hcon hk hk0 hkc herr hcon2 hend htok hlenT
        have htx : textA l a = (l.drop a).take (endA l a - a) := rfl
        generalize hkE : kindA l a = k at *
        generalize hxE : textA l a = tx at *
        generalize heE : endA l a = en at *
        have HKE := Lib.hid hkE
        have HXE := Lib.hid hxE
        have HEE := Lib.hid heE
        have HTX := Lib.hid htx
        clear hkE hxE heE htx
        go_wp2_with (go_at_call 26; refine (HC.out _).mono ?_; rintro e w' ⟨rfl, rfl⟩)
        refine HC2.out.mono ?_
        rintro e w5 ⟨rfl, hb5⟩
        have HI3 := Lib.hid (HI2.out.after hb5 h0)
        have hcv : ∀ o, (convert 22 9 (.slice (some ⟨b, off + a, none⟩) (en - a) (cap - a))).run Try.prog (w5.alloc o) = .ok (.string ⟨tx.toArray⟩) (w5.alloc o) := fun o => by
          have := conv_bs ((HI3.out.text.part a (en - a)).alloc o) (cap - a)
          rw [← HTX.out, HLT.out] at this
          exact this
        have hto := fun o => tokenOf_ok tx k w.heap.size (w5.alloc o) HKC.out (by rw [Below.heap_alloc _ _ _ (by have := lt_of_block HI3.out.pl.seen; omega)]; exact HI3.out.map) (by rw [HLT.out]; omega)
        have HTO := Lib.hid hto
        clear hto hb5 HI2 hcell HC HC2
        have hac : ¬ cap = a := by omega
        go_wp2_with fail
        refine (HTO.out _).mono ?_
        rintro e w6 ⟨rfl, hb6⟩
        have HB6 := Lib.hid hb6
        have hz6 : w5.heap.size < w6.heap.size := by have := hb6.size; simp at this; omega
        obtain ⟨hc6, hf6⟩ := below_cells hb6
        have c0 : w6.cell? ⟨w5.heap.size, 0, none⟩ = some (.int .i64 0) := by rw [hc6 _ _ (by simp)]; simp [go_sem]
        have c1 : w6.cell? ⟨w5.heap.size, 1, none⟩ = some (.string ⟨#[]⟩) := by rw [hc6 _ _ (by simp)]; simp [go_sem]
        have c2 : w6.cell? ⟨w5.heap.size, 2, none⟩ = some (.int .i64 0) := by rw [hc6 _ _ (by simp)]; simp [go_sem]
        have c3 : w6.cell? ⟨w5.heap.size, 3, none⟩ = some (.int .i64 0) := by rw [hc6 _ _ (by simp)]; simp [go_sem]
        have c4 : w6.cell? ⟨w5.heap.size, 4, none⟩ = some (.int .i64 0) := by rw [hc6 _ _ (by simp)]; simp [go_sem]
        have f0 : ∀ i, w6.frozen? ⟨w5.heap.size, i, none⟩ = false := fun i => by rw [hf6 _ _ (by simp)]; simp [go_sem]
        clear hb6 hc6 hf6 hcv HTO
        have hlenT : T.length ≤ 1000000 := by
          have h1 := congrArg List.length HT.out
          have h2 := len_toks l.length l (nxt l 0) (by omega)
          rw [List.length_append] at h1
          omega
        have hlenD : D.length ≤ 1000000 := by
          have h1 := congrArg List.length HD.out
          have h2 := len_dgs l.length l (nxt l 0) (by omega)
          rw [List.length_append] at h1
          omega
        by_cases herr0 : terr k tx = 0
        · have HE0 := Lib.hid herr0
          have herrb : (terr k tx != 0) = false := by simp [herr0]
          clear herr0
          go_upto_region 16 with (fail)
          change Code.wp _ _ _ _ (stW w6 w5.heap.size ⟨tkind k tx, tx, tnum k tx, lineOf l a, (a : Int) - fromOf l a + 1⟩)
          have hst := stW_cells (w := w6) (g := w5.heap.size) ⟨tkind k tx, tx, tnum k tx, lineOf l a, (a : Int) - fromOf l a + 1⟩ c0 c1 c2 c3 c4
          have hbe : Below w5.heap.size w5 (stW w6 w5.heap.size ⟨tkind k tx, tx, tnum k tx, lineOf l a, (a : Int) - fromOf l a + 1⟩) := stW_below (((Below.refl _ _).alloc (Nat.le_refl _) _).trans (HB6.out.mono (by simp))) _ (Nat.le_refl _) _
          clear c0 c1 c2 c3 c4 f0 HB6 hz6
          generalize stW w6 w5.heap.size ⟨tkind k tx, tx, tnum k tx, lineOf l a, (a : Int) - fromOf l a + 1⟩ = w7 at hst hbe ⊢
          obtain ⟨c0, c1, c2, c3, c4⟩ := hst
          have HI4 := Lib.hid (HI3.out.after hbe h0)
          clear hbe HI3
          go_wp2_with (at_builtin; refine wpList_app4 _ rfl _ _ rfl (w.heap.size + 5) _ T rfl (HI4.out.own4.alloc _) ⟨w7.heap.size, 0, none⟩ ⟨tkind k tx, tx, tnum k tx, lineOf l a, (a : Int) - fromOf l a + 1⟩ rfl ?new hlenT ?base ?_)
          case new => exact fun _ _ h => h
          case base => have := lt_of_block HI4.out.pl.seen; simp; omega
          intro v' w8 hown8 hgrow8
          have HI5 := Lib.hid ((HI4.out.after ((Below.refl _ _).alloc (Nat.le_refl _) _) h0).app4 hgrow8 hown8 hbw)
          clear hown8 hgrow8 HI4 c0 c1 c2 c3 c4
          go_wp2_with (go_at_call 25; refine (nextAt_int l b off cap en _ _ rfl HI5.out.text (by omega) (by omega)).mono ?_; rintro e w' ⟨rfl, rfl⟩)
          go_roundw
          case rel =>
            have e1 := toks_one l a hlt (by rw [HKE.out]; exact HK0.out)
            have e2 := dgs_skip l a hlt (by rw [HERR.out]; exact HE0.out)
            rw [HEE.out] at e1 e2
            refine ⟨T ++ [⟨tkind k tx, tx, tnum k tx, lineOf l a, (a : Int) - fromOf l a + 1⟩], D, a, nxt l en, ?_, nxt_le l en (by omega), rfl, ?_, ?_, HI5.out⟩
            · have := nxt_ge l en; omega
            · have := HT.out
              rw [e1] at this
              rw [← this, List.append_assoc]
              simp [tokA, HKE.out, HXE.out]
            · rw [← e2]; exact HD.out
          case measure => have := nxt_ge l en; simp [intOf]; omega
        · have HE0 := Lib.hid herr0
          have herrb : (terr k tx != 0) = true := by simp [herr0]
          clear herr0
          go_upto_region 16 with (fail)
          change Code.wp _ _ _ _ (stW w6 w5.heap.size ⟨tkind k tx, tx, tnum k tx, lineOf l a, (a : Int) - fromOf l a + 1⟩)
          have hst := stW_cells (w := w6) (g := w5.heap.size) ⟨tkind k tx, tx, tnum k tx, lineOf l a, (a : Int) - fromOf l a + 1⟩ c0 c1 c2 c3 c4
          have hbe : Below w5.heap.size w5 (stW w6 w5.heap.size ⟨tkind k tx, tx, tnum k tx, lineOf l a, (a : Int) - fromOf l a + 1⟩) := stW_below (((Below.refl _ _).alloc (Nat.le_refl _) _).trans (HB6.out.mono (by simp))) _ (Nat.le_refl _) _
          clear c0 c1 c2 c3 c4 f0 HB6 hz6
          generalize stW w6 w5.heap.size ⟨tkind k tx, tx, tnum k tx, lineOf l a, (a : Int) - fromOf l a + 1⟩ = w7 at hst hbe ⊢
          obtain ⟨c0, c1, c2, c3, c4⟩ := hst
          have HI4 := Lib.hid (HI3.out.after hbe h0)
          clear hbe HI3
          go_wp2_with (at_builtin; refine wpList_app4 _ rfl _ _ rfl (w.heap.size + 5) _ T rfl (HI4.out.own4.alloc _) ⟨w7.heap.size, 0, none⟩ ⟨tkind k tx, tx, tnum k tx, lineOf l a, (a : Int) - fromOf l a + 1⟩ rfl ?new hlenT ?base ?_)
          case new => exact fun _ _ h => h
          case base => have := lt_of_block HI4.out.pl.seen; simp; omega
          intro v' w8 hown8 hgrow8
          have HI5 := Lib.hid ((HI4.out.after ((Below.refl _ _).alloc (Nat.le_refl _) _) h0).app4 hgrow8 hown8 hbw)
          clear hown8 hgrow8 HI4 c0 c1 c2 c3 c4
          go_wp2_with (at_builtin; refine wpList_app5 _ rfl _ _ rfl (w.heap.size + 5) _ D rfl (HI5.out.own5.alloc _) ⟨w8.heap.size, 0, none⟩ ⟨lineOf l a, (a : Int) - fromOf l a + 1, terr k tx⟩ rfl ?new5 hlenD ?base5 ?_)
          case new5 => exact new_cells w8 _ _
          case base5 => have := lt_of_block HI5.out.pl.seen; simp; omega
          intro v'' w9 hown9 hgrow9
          have HI6 := Lib.hid ((HI5.out.after ((Below.refl _ _).alloc (Nat.le_refl _) _) h0).app5 hgrow9 hown9 hbw)
          clear hown9 hgrow9 HI5
          go_wp2_with (go_at_call 25; refine (nextAt_int l b off cap en _ _ rfl HI6.out.text (by omega) (by omega)).mono ?_; rintro e w' ⟨rfl, rfl⟩)
          go_roundw
          case rel =>
            have e1 := toks_one l a hlt (by rw [HKE.out]; exact HK0.out)
            have e2 := dgs_one l a hlt (by rw [HERR.out]; exact HE0.out)
            rw [HEE.out] at e1 e2
            refine ⟨T ++ [⟨tkind k tx, tx, tnum k tx, lineOf l a, (a : Int) - fromOf l a + 1⟩], D ++ [⟨lineOf l a, (a : Int) - fromOf l a + 1, terr k tx⟩], a, nxt l en, ?_, nxt_le l en (by omega), rfl, ?_, ?_, HI6.out⟩
            · have := nxt_ge l en; omega
            · have := HT.out
              rw [e1] at this
              rw [← this, List.append_assoc]
              simp [tokA, HKE.out, HXE.out]
            · have := HD.out
              rw [e2] at this
              rw [← this, List.append_assoc]
              simp [dgA, HERR.out]
          case measure => have := nxt_ge l en; simp [intOf]; omega
    · go_wp2_with fail
      go_ret2
      have e1 := toks_end l a hlt
      have e2 := dgs_end l a hlt
      have h1 := HT.out
      have h2 := HD.out
      rw [e1, List.append_nil] at h1
      rw [e2, List.append_nil] at h2
      rw [← h1, ← h2]
      exact ⟨_, _, rfl, HI.out.below, Joins.ownsRow_le HI.out.own4 (by omega), Joins.ownsRow_le HI.out.own5 (by omega)⟩

set_option maxRecDepth 100000 in
theorem nextAt_none (A : Option Addr) (cap : Nat) (w : World) :
    Calls Try.prog 25 #[.slice A 0 cap, .int .i64 0] w fun e w' => e = .returned (.int .i64 0) ∧ w = w' := by
  go_enter Try.func25, Try.ntmps25
  go_wp2
  go_loop [1] (fun i => i = .int .i64 0) (fun _ => 0)
  case atStart => exact rfl
  case round =>
    obtain rfl := hrel
    go_wp2
    go_ret
    exact ⟨rfl, rfl⟩

set_option maxRecDepth 100000 in
set_option maxHeartbeats 1000000 in
/-- Scan of a text of no bytes. -/
theorem scan_none (A : Option Addr) (cap : Nat) (w : World) :
    Calls Try.prog 18 #[.slice A 0 cap] w fun e w' => e = .returned (.tuple #[.slice none 0 0, .slice none 0 0]) ∧ Below w.heap.size w w' := by
  go_enter Try.func18, Try.ntmps18
  go_wp2_with fail
  refine (wordSet_ok _).mono ?_
  rintro e w1 ⟨rfl, rfl⟩
  go_wp2_with fail
  refine (placesOf_ok _ _ _ _).mono ?_
  rintro e w2 ⟨rfl, hb2, _, _⟩
  have HB2 := Lib.hid hb2
  clear hb2
  go_wp2_with fail
  refine (nextAt_none _ _ _).mono ?_
  rintro e w3 ⟨rfl, rfl⟩
  go_wp2_with fail
  go_loopw [4, 5, 8] (fun v4 v5 v8 wr => v4 = .slice none 0 0 ∧ v5 = .slice none 0 0 ∧ v8 = .int .i64 0 ∧ wr = w2) (fun _ _ _ _ => 0)
  case atStart => exact ⟨rfl, rfl, rfl, rfl⟩
  case round =>
    obtain ⟨rfl, rfl, rfl, rfl⟩ := hrel
    go_wp2_with fail
    go_ret2
    exact ⟨rfl, ((Below.refl _ _).alloc (Nat.le_refl _) _).trans (HB2.out.mono (by simp))⟩

/-- Whether a slice value holds a text. -/
def Holds (w : World) (v : Value) (l : List UInt8) : Prop := ∃ A cap, v = .slice A l.length cap ∧ l.length ≤ cap ∧ (0 < l.length → ∃ b off, A = some ⟨b, off, none⟩ ∧ Bs w b off l)

/-- What Scan answers. -/
def Scanned (base : Nat) (l : List UInt8) (w : World) (e : Ending) (w' : World) : Prop :=
  ∃ v4 v5, e = .returned (.tuple #[v4, v5]) ∧ Below w.heap.size w w' ∧ w'.ownsRow base 38 5 v4 (toks l (nxt l 0)).length (tcs (toks l (nxt l 0))) ∧ w'.ownsRow base 35 3 v5 (dgs l (nxt l 0)).length (dcs (dgs l (nxt l 0)))

theorem scan_ok (l : List UInt8) (v : Value) (w : World) (hv : Holds w v l) (hn : l.length ≤ 1000000) :
    Calls Try.prog 18 #[v] w (Scanned w.heap.size l w) := by
  obtain ⟨A, cap, rfl, hc, hA⟩ := hv
  by_cases h0 : 0 < l.length
  · obtain ⟨b, off, rfl, hb⟩ := hA h0
    exact scan_some l b off cap w hb hn hc h0
  · have : l = [] := List.eq_nil_of_length_eq_zero (by omega)
    subst this
    refine (scan_none A cap w).mono ?_
    rintro e w' ⟨rfl, hb⟩
    exact ⟨_, _, rfl, hb, World.ownsRow_nil _ _ _ _, World.ownsRow_nil _ _ _ _⟩
end Go.Proofs.Ythgpepkcjjimlaa
