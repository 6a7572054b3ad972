/- What the document reads of a text. -/
import Derived.Test.YtkljdpjdlccidaaDoorSaQ
import Derived.Test.YtkljdpjdlccidaaDoorSaK
namespace Go.Proofs.YtkljdpjdlccidaaDoor
open Go.RowKit Go.Shelf
attribute [local go_sem] Oper.semAt_some str_at
theorem seg_none (s : List UInt8) (a : Nat) : (10 : UInt8) ∉ seg s a a := by simp [seg]
theorem drop_seg {s : List UInt8} {fr i : Nat} {c : UInt8} (h : s[i]? = some c) (hf : fr ≤ i) : s.drop fr = seg s fr i ++ c :: s.drop (i + 1) := by
  have h1 : s.drop fr = (s.drop fr).take (i - fr) ++ (s.drop fr).drop (i - fr) := (List.take_append_drop _ _).symm
  rw [List.drop_drop, show fr + (i - fr) = i by omega, drop_at h] at h1
  exact h1
theorem seg_len (s : List UInt8) (a b : Nat) : (seg s a b).length ≤ s.length := by
  unfold seg
  simp
  omega
set_option maxRecDepth 100000 in
set_option maxHeartbeats 4000000 in
theorem refOf_ok {w : World} (s : List UInt8) (hl : s.length ≤ 5000) : Calls Tryd.prog 11 #[.string ⟨s.toArray⟩] w fun e w' => OfQ w s e w' := by
  obtain ⟨i0, hi0, hz0, hz1, hz2⟩ := infoParts infoEn
  have hsz := str_size s
  have HL := Lib.hid hl
  go_enter Tryd.func11, Tryd.ntmps11
  go_upto_region 4 with (fail)
  go_loopg [4, 5, 6, 7, 8] s.length (fun k v4 v5 v6 v7 v8 wr => ∃ (i fr : Nat) (L : List En) (A : Option Addr) (c : Nat), i + k = s.length ∧ fr ≤ i ∧ L.length ≤ fr ∧ v4 = .slice A L.length c ∧ v5 = .int .i64 fr ∧ v6 = .int .i64 i ∧ Left s (s.drop fr) L ∧ (10 : UInt8) ∉ seg s fr i ∧ Ext w wr ∧ wr.ownsRow w.heap.size 42 3 (.slice A L.length c) L.length (L.flatMap En.cells))
  case atStart => exact ⟨0, 0, [], none, 0, by omega, Nat.le_refl _, Nat.le_refl _, rfl, rfl, rfl, by unfold Left; simp, seg_none _ _, Ext.refl _, World.ownsRow_nil _ _ _ _⟩
  case round =>
    obtain ⟨i, fr, L, A, c, hik, hfi, hLi, rfl, rfl, rfl, hlf, hno, hx, ho⟩ := hrel
    have HX := Lib.hid hx
    have HO := Lib.hid ho
    have HLF := Lib.hid hlf
    have HNO := Lib.hid hno
    have HIK := Lib.hid (And.intro hik (And.intro hfi hLi))
    have hEL := En.flat_len L
    have HEL := Lib.hid hEL
    clear hx ho hlf hno hEL
    by_cases hlt : i < s.length
    · obtain ⟨ch, hc⟩ : ∃ ch, s[i]? = some ch := ⟨s[i], List.getElem?_eq_getElem hlt⟩
      obtain ⟨y, hy0⟩ : ∃ y : Nat, y = ch.toNat := ⟨_, rfl⟩
      have hg : chr s i = y := by unfold chr; rw [hc, hy0]; rfl
      have HY := Lib.hid hy0
      have HC := Lib.hid hc
      have z : (i : Int) < (s.length : Int) := by omega
      clear hc hy0
      by_cases hh : y = 10
      · subst hh
        have HCH := Lib.hid (show ch = 10 from UInt8.toNat_inj.1 (by rw [← HY.out]; rfl))
        have hlL : L.length ≤ 5000 := by omega
        have hfz : (fr : Int) ≤ (i : Int) + 1 := by omega
        have hiz : (i : Int) + 1 ≤ (s.length : Int) := by omega
        obtain ⟨x, hx0⟩ : ∃ x, x = seg s fr i := ⟨_, rfl⟩
        have hsl : (Instr.slice 9 (.string ⟨s.toArray⟩) (some (.int .i64 fr)) (some (.int .i64 ((i : Int) + 1))) none).run Tryd.prog wr = .ok (.string ⟨(x ++ [10]).toArray⟩) wr := by
          have := slice_ok s fr (i + 1) (by omega) (by omega) wr
          rw [seg_snoc HC.out hfi, HCH.out, ← hx0] at this
          exact this
        have HDR := Lib.hid (show s.drop fr = x ++ 10 :: s.drop (i + 1) by rw [drop_seg HC.out hfi, HCH.out, hx0])
        have HX10 := Lib.hid (show (10 : UInt8) ∉ x by rw [hx0]; exact HNO.out)
        have hxl : (x ++ [10]).length ≤ 6000 := by
          have := seg_len s fr i
          rw [← hx0] at this
          simp
          omega
        have HR := Lib.hid (oneR x)
        have HON := Lib.hid (one_ok (w := wr) (x ++ [10]) hxl)
        unfold OneQ at HON
        obtain ⟨e, he⟩ : ∃ e, e = enR (wdR [] (x ++ [10])) := ⟨_, rfl⟩
        rw [← he] at HR HON
        have HLLL := Lib.hid hlL
        clear he hx0 hxl hik hfi hLi hlL
        have HB := Lib.hid (show (lnE e ++ [10] == x ++ [10]) = (lnE e == x) by
          by_cases h : lnE e = x
          · rw [h]; simp
          · have h2 : ¬ lnE e ++ [10] = x ++ [10] := fun q => h (List.append_cancel_right q)
            rw [beq_eq_false_iff_ne.2 h, beq_eq_false_iff_ne.2 h2])
        rw [HB.out] at HON
        obtain ⟨k, a, m⟩ := e
        unfold En.v at HON
        dsimp only at HON
        go_upto_region 8 with (go_at_call 24; refine HON.out.mono ?_; rintro e2 v ⟨b, rfl, hx, hb⟩; have HXv := Lib.hid (HX.out.trans hx); have HOv := Lib.hid ((hx.kept (fun _ _ => true)).row HO.out fun _ _ => rfl); have HBJ := Lib.hid hb; clear hx hb)
        obtain ⟨u, hu⟩ : ∃ u, u = v.alloc (En.o ⟨k, a, m⟩) := ⟨_, rfl⟩
        change Code.wp _ _ _ _ (v.alloc (En.o ⟨k, a, m⟩))
        rw [← hu]
        have hx : Ext v u := by rw [hu]; exact Ext.one _ _
        have hb : u.heap[v.heap.size]? = some (En.o ⟨k, a, m⟩) := by rw [hu]; exact World.alloc_heap_new _ _
        obtain ⟨x0, x1, x2, xl⟩ := En.o_cells hb
        dsimp only at x0 x1 x2
        have HXu := Lib.hid (HXv.out.trans hx)
        have HOu := Lib.hid ((hx.kept (fun _ _ => true)).row HOv.out fun _ _ => rfl)
        have HSZ := Lib.hid (show w.heap.size ≤ u.heap.size from HXu.out.size)
        clear hu hx hb HXv HOv HON HX HO
        generalize v.heap.size = bj' at *
        cases b with
        | false =>
          have HN := Lib.hid (show scrE s = none by
            have h := HLF.out
            rw [HDR.out] at h
            refine h.bad HX10.out ?_
            rw [HR.out, if_neg]
            rintro ⟨h1, h2⟩
            have := HBJ.out
            rw [h1, h2] at this
            simp at this)
          clear HBJ x0 x1 x2 xl
          go_wp2_with fail
          go_ret2
          exact ⟨HXu.out, .inl ⟨HN.out, rfl⟩⟩
        | true =>
          have HE := Lib.hid (show rdE x = some ⟨k, a, m⟩ by
            have := HBJ.out
            have h2 := Bool.and_eq_true_iff.1 this.symm
            rw [HR.out, if_pos ⟨h2.1, by simpa using h2.2⟩])
          clear HBJ
          have HNEW := Lib.hid (show Src (u.alloc (En.o ⟨k, a, m⟩)) (.slice (some ⟨u.heap.size, 0, none⟩) 1 1) 1 (En.cells ⟨k, a, m⟩) from .inr ⟨_, _, rfl, World.news_of_block (World.alloc_heap_new u (En.o ⟨k, a, m⟩))⟩)
          have HAPP := Lib.hid (show L.flatMap En.cells ++ En.cells ⟨k, a, m⟩ = (L ++ [(⟨k, a, m⟩ : En)]).flatMap En.cells by simp)
          go_wp2_with (at_builtin; refine wpList_append_any rfl _ _ 22 rfl w.heap.size 42 i0 (.agg #[.int .i64 0, .int .i64 0, .int .i64 0]) 3 24 Tryd.underlying22 hi0 hz0 hz1 hz2 rfl (by decide) (.slice A L.length c) L.length (L.flatMap En.cells) rfl (((Ext.one u (En.o ⟨k, a, m⟩)).kept (fun _ _ => true)).row HOu.out fun _ _ => rfl) (.slice (some ⟨u.heap.size, 0, none⟩) 1 1) 1 (En.cells ⟨k, a, m⟩) rfl (by simp [En.cells]) HNEW.out (by simp [En.cells, Value.oneCell']) (by unfold maxLen; have := HLLL.out; omega) (by have := HLLL.out; omega) (by have := HSZ.out; simp; omega) (L.length + 1) rfl ((L ++ [(⟨k, a, m⟩ : En)]).flatMap En.cells) HAPP.out ?_; intro A5 c5 w5 hown hgrow hat; have HX5 := Lib.hid (grown_ext (HXu.out.trans (Ext.one u (En.o ⟨k, a, m⟩))) hgrow fun b hb => own_base HOu.out b hb); have HO5 := Lib.hid hown; clear hown hgrow hat x0 x1 x2 xl)
          go_roundg (gk - 1)
          case measure => have := HIK.out; omega
          case rel => exact ⟨i + 1, i + 1, L ++ [(⟨k, a, m⟩ : En)], A5, c5, by have := HIK.out; omega, Nat.le_refl _, by have := HIK.out; simp; omega, by simp, by go_num, by go_num, by have h := HLF.out; rw [HDR.out] at h; exact h.line HX10.out HE.out, seg_none _ _, HX5.out, by simpa using HO5.out⟩
      · have z1 : ((y : Int) != 10) = true := by simp; omega
        have HNN := Lib.hid (show (10 : UInt8) ∉ seg s fr (i + 1) by
          rw [seg_snoc HC.out hfi]
          intro h
          rcases List.mem_append.1 h with h | h
          · exact HNO.out h
          · obtain rfl : (10 : UInt8) = ch := by simpa using h
            exact hh HY.out)
        clear hh hik hfi hLi
        go_wp2_with fail
        go_roundg (gk - 1)
        case measure => have := HIK.out; omega
        case rel => exact ⟨i + 1, fr, L, A, c, by have := HIK.out; omega, by have := HIK.out; omega, HIK.out.2.2, rfl, rfl, by go_num, HLF.out, HNN.out, HX.out, HO.out⟩
    · obtain rfl : i = s.length := by omega
      clear hlt hik
      have hseg : seg s fr s.length = s.drop fr := by unfold seg; rw [List.take_of_length_le (by simp)]
      have hno := HNO.out
      rw [hseg] at hno
      by_cases hfr : fr = s.length
      · subst hfr
        have HD := Lib.hid (show scrE s = some L by have h := HLF.out; rw [List.drop_length] at h; exact h.done)
        clear hno hseg hfi hLi
        go_wp2_with fail
        go_ret2
        exact ⟨HX.out, .inr ⟨L, A, c, HD.out, rfl, HO.out⟩⟩
      · have HD := Lib.hid (show scrE s = none from HLF.out.none hno (by
          intro h
          have := congrArg List.length h
          simp at this
          omega))
        have z : (fr : Int) < (s.length : Int) := by omega
        clear hno hseg hfi hLi hfr
        go_wp2_with fail
        go_ret2
        exact ⟨HX.out, .inl ⟨HD.out, rfl⟩⟩
set_option maxRecDepth 100000 in
set_option maxHeartbeats 4000000 in
theorem reads_walk {w : World} (hT : TabR w) (s : List UInt8) (hl : s.length ≤ 2000) : Calls Tryd.prog 4 #[.string ⟨s.toArray⟩] w fun e w' => e = .returned (.bool true) ∧ Ext w w' := by
  have HT := Lib.hid (fun v (k : Ext w v) => hT.ext k)
  have HKN := Lib.hid (fun v (k : Ext w v) => known12_ok (HT.out v k).a)
  have HOF0 := Lib.hid (Of_ok (w := w) hT s (by omega))
  have HRO0 := Lib.hid (fun v => refOf_ok (w := v) s (by omega))
  unfold OfQ at HOF0 HRO0
  have hsz := str_size s
  have hlz : ¬ (2000 : Int) < (s.length : Int) := by omega
  clear hT
  cases hs : scrE s with
  | none =>
    rw [hs] at HOF0 HRO0
    have HOF := Lib.hid (HOF0.out.mono fun e w' (h : _ ∧ _) => (show e = .returned (.tuple #[.slice none 0 0, .int .i64 12]) ∧ Ext w w' from ⟨h.2.elim (fun h => h.2) (fun ⟨_, _, _, h, _⟩ => by cases h), h.1⟩))
    have HRO := Lib.hid (fun v => (HRO0.out v).mono fun e w' (h : _ ∧ _) => (show e = .returned (.tuple #[.slice none 0 0, .int .i64 12]) ∧ Ext v w' from ⟨h.2.elim (fun h => h.2) (fun ⟨_, _, _, h, _⟩ => by cases h), h.1⟩))
    have HSM := Lib.hid (fun v => refSame_ok (w := v) (A := none) (B := none) (c := 0) (d := 0) (l := []) (fun i x h => by simp at h) (fun i x h => by simp at h) (by simp))
    simp only [List.length_nil] at HSM
    clear HOF0 HRO0 hs
    go_enter Tryd.func4, Tryd.ntmps4
    go_wp2_with (first
      | (go_at_call 10; refine HOF.out.mono ?_; rintro e w2 ⟨rfl, hx⟩; have HX2 := Lib.hid hx; clear hx)
      | (go_at_call 11; refine (HRO.out _).mono ?_; rintro e w3 ⟨rfl, hx⟩; have HX3 := Lib.hid (HX2.out.trans hx); clear hx)
      | (go_at_call 8; refine (HSM.out _).mono ?_; rintro e w4 ⟨rfl, hx⟩; have HX4 := Lib.hid (HX3.out.trans hx); clear hx)
      | (go_at_call 6; refine (HKN.out _ HX4.out).mono ?_; rintro e w5 ⟨rfl, hx⟩; have HX5 := Lib.hid (HX4.out.trans hx); clear hx))
    go_ret
    exact ⟨rfl, HX5.out⟩
  | some L =>
    obtain ⟨hok, hte⟩ := scrE_some s.length s L (Nat.le_refl _) hs
    have hLl : L.length ≤ 2000 := by
      have h : ∀ L : List En, L.length ≤ (L.flatMap fun e => lnE e ++ [10]).length := fun L => by
        induction L with
        | nil => simp
        | cons e L ih => simp only [List.flatMap_cons, List.length_append, List.length_cons]; omega
      have := h L
      rw [hte] at this
      omega
    have hte2 := textE_of hs
    rw [hs] at HOF0 HRO0
    have HOF := Lib.hid (HOF0.out.mono fun e w' (h : _ ∧ _) => (show ∃ A c, e = .returned (.tuple #[.slice A L.length c, .int .i64 0]) ∧ Ext w w' ∧ RowsE w' A L from h.2.elim (fun h => by cases h.1) (fun ⟨L', A, c, h1, h2, h3⟩ => by
      obtain rfl := Option.some.inj h1
      exact ⟨A, c, h2, h.1, own_rowsE h3 fun x hx => (hok x hx).1⟩)))
    have HRO := Lib.hid (fun v => (HRO0.out v).mono fun e w' (h : _ ∧ _) => (show ∃ A c, e = .returned (.tuple #[.slice A L.length c, .int .i64 0]) ∧ Ext v w' ∧ RowsE w' A L from h.2.elim (fun h => by cases h.1) (fun ⟨L', A, c, h1, h2, h3⟩ => by
      obtain rfl := Option.some.inj h1
      exact ⟨A, c, h2, h.1, own_rowsE h3 fun x hx => (hok x hx).1⟩)))
    have HSM := Lib.hid (fun v A B c d (h1 : RowsE v A L) (h2 : RowsE v B L) => refSame_ok (w := v) (A := A) (B := B) (c := c) (d := d) h1 h2 (by omega))
    have HTX := Lib.hid (fun v A c (h1 : RowsE v A L) => refText_ok (w := v) (A := A) (c := c) h1 (by omega))
    rw [hte2] at HTX
    clear HOF0 HRO0 hs hok hte hte2
    go_enter Tryd.func4, Tryd.ntmps4
    go_wp2_with (first
      | (go_at_call 10; refine HOF.out.mono ?_; rintro e w2 ⟨A, c, rfl, hx, hr⟩; have HX2 := Lib.hid hx; have HA := Lib.hid (fun v (k : Ext w2 v) => Rows3.kept hr k); clear hx hr)
      | (go_at_call 11; refine (HRO.out _).mono ?_; rintro e w3 ⟨B, d, rfl, hx, hr⟩; have HX3 := Lib.hid (HX2.out.trans hx); have HX23 := Lib.hid hx; have HB := Lib.hid hr; clear hx hr)
      | (go_at_call 8; refine (HSM.out _ _ _ _ _ (HA.out _ HX23.out) HB.out).mono ?_; rintro e w4 ⟨rfl, hx⟩; have HX4 := Lib.hid (HX3.out.trans hx); have HX24 := Lib.hid (HX23.out.trans hx); clear hx)
      | (go_at_call 12; refine (HTX.out _ _ _ (HA.out _ HX24.out)).mono ?_; rintro e w5 ⟨rfl, hx⟩; have HX5 := Lib.hid (HX4.out.trans hx); clear hx)
      | (go_at_call 6; refine (HKN.out _ HX5.out).mono ?_; rintro e w6 ⟨rfl, hx⟩; have HX6 := Lib.hid (HX5.out.trans hx); clear hx))
    go_ret
    exact ⟨rfl, HX6.out⟩
end Go.Proofs.YtkljdpjdlccidaaDoor
