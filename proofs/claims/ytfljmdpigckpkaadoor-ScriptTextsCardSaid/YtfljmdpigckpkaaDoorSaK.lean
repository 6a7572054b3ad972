/- ScriptTexts: its walk. -/
import Derived.Test.YtfljmdpigckpkaaDoorSaI
import Derived.Test.YtfljmdpigckpkaaDoorSaJ
import Derived.Test.YtfljmdpigckpkaaDoorQtA
namespace Go.Proofs.YtfljmdpigckpkaaDoor
open Go.RowKit Go.Shelf
attribute [local go_sem] Oper.semAt_some
def knL : List En := [⟨1, 0, 0⟩, ⟨3, 0, 5⟩, ⟨4, 1, -7⟩]
theorem it0 : Lib.itoa 0 = [48] := by
  unfold Lib.itoa
  rw [if_neg (by decide), Lib.decDigits]
  rfl
theorem it1 : Lib.itoa 1 = [49] := by
  unfold Lib.itoa
  rw [if_neg (by decide), Lib.decDigits]
  rfl
theorem it5 : Lib.itoa 5 = [53] := by
  unfold Lib.itoa
  rw [if_neg (by decide), Lib.decDigits]
  rfl
theorem it7 : Lib.itoa (-7) = [45, 55] := by
  unfold Lib.itoa
  rw [if_pos (by decide), Lib.decDigits]
  rfl
theorem knT : textE knL = [114, 117, 110, 32, 48, 10, 116, 105, 99, 107, 32, 53, 10, 105, 110, 106, 101, 99, 116, 32, 49, 32, 45, 55, 10] := by
  unfold textE
  rw [if_pos (by decide)]
  simp [knL, lnE, wsE, wdE, Lib.join_cons, Lib.joinTail, it0, it1, it5, it7]
theorem rows_blockE {l : List En} {w : World} {g : Nat} (h : w.heap[g]? = some (.cells (l.flatMap En.cells).toArray 31 (0, 0))) (hi : ∀ x ∈ l, x.ok) (hl : l.length ≤ 1000) : RowsE w (some ⟨g, 0, none⟩) l := by
  have hlen := En.flat_len l
  refine own_rowsE (B := 0) (c := l.length) ⟨hlen, .inr ⟨g, l.length, _, rfl, Nat.zero_le _, h, Nat.le_refl _, by unfold maxLen; omega, by simpa using hlen, ?_⟩⟩ hi
  rw [List.take_of_length_le (by simp [hlen])]
def knO : Obj := .cells (knL.flatMap En.cells).toArray 31 (0, 0)
set_option maxRecDepth 100000 in
set_option maxHeartbeats 2000000 in
theorem known12_ok {w : World} (hT : TabA w) : Calls Tryd.prog 6 #[] w fun e w' => e = .returned (.bool true) ∧ Ext w w' := by
  obtain ⟨W1, hW1⟩ : ∃ W1, W1 = w.alloc knO := ⟨_, rfl⟩
  have hx1 : Ext w W1 := by rw [hW1]; exact Ext.one _ _
  have hb1 : W1.heap[w.heap.size]? = some knO := by rw [hW1]; exact World.alloc_heap_new _ _
  have hr : RowsE W1 (some ⟨w.heap.size, 0, none⟩) knL := rows_blockE hb1 (fun x hx => by
    simp only [knL, List.mem_cons, List.not_mem_nil, or_false] at hx
    rcases hx with rfl | rfl | rfl <;> exact ⟨⟨by decide, by decide⟩, ⟨by decide, by decide⟩, by decide, by decide⟩) (by decide)
  have HTX := Lib.hid (Text_ok (c := 3) (hT.ext hx1) hr (by decide))
  rw [knT] at HTX
  have HX1 := Lib.hid hx1
  have HW := Lib.hid hW1
  clear hx1 hb1 hW1 hT hr
  go_enter Tryd.func6, Tryd.ntmps6
  go_wp2_with (go_at_call 12; (change Calls _ _ #[Value.slice (some ⟨w.heap.size, 0, none⟩) 3 3] (w.alloc knO) _); rw [← HW.out]; refine HTX.out.mono ?_; rintro e w2 ⟨rfl, hx⟩; have HX2 := Lib.hid (HX1.out.trans hx); clear hx)
  go_ret
  exact ⟨rfl, HX2.out⟩
theorem textE_len {l : List En} (ok : ∀ e ∈ l, e.ok) : (textE l).length ≤ 51 * l.length := by
  unfold textE
  split
  · exact tx_len l ok
  · simp
theorem Of_text {w : World} (hT : TabR w) {l : List En} (hm : l.all mayE = true) (ok : ∀ e ∈ l, e.ok) (hl : l.length ≤ 100) : Calls Tryd.prog 14 #[.string ⟨(textE l).toArray⟩] w fun e w' => ∃ A c, e = .returned (.tuple #[.slice A l.length c, .int .i64 0]) ∧ Ext w w' ∧ RowsE w' A l := by
  have hlen := textE_len ok
  refine (Of_ok hT (textE l) (by omega)).mono ?_
  rintro e w' ⟨hx, ⟨h, -⟩ | ⟨L, A, c, h, rfl, ho⟩⟩
  · rw [scrE_of hm ok] at h
    cases h
  · rw [scrE_of hm ok] at h
    obtain rfl := Option.some.inj h
    exact ⟨A, c, rfl, hx, own_rowsE ho ok⟩
set_option maxRecDepth 100000 in
set_option maxHeartbeats 4000000 in
theorem texts_walk {w : World} {A : Option Addr} {c : Nat} {l : List En} (hT : TabR w) (h : RowsE w A l) (hl : l.length ≤ 100) : Calls Tryd.prog 4 #[.slice A l.length c] w fun e w' => e = .returned (.bool true) ∧ Ext w w' := by
  have HT := Lib.hid (fun v (k : Ext w v) => hT.ext k)
  have HR := Lib.hid (fun v (k : Ext w v) => Rows3.kept h k)
  have HOK := Lib.hid (RowsE.ok h)
  have HL := Lib.hid hl
  have d0 : decide ((100 : Int) < (l.length : Int)) = false := by simp; omega
  clear hT h
  go_enter Tryd.func4, Tryd.ntmps4
  go_upto_region 5 with (fail)
  clear d0
  go_loopg [3, 4] l.length (fun k v3 v4 wr => ∃ i : Nat, i + k = l.length ∧ v4 = .int .i64 i ∧ v3 = .bool ((l.take i).all mayE) ∧ Ext w wr)
  case atStart => exact ⟨0, by omega, rfl, rfl, Ext.refl _⟩
  case round =>
    obtain ⟨i, hik, rfl, rfl, hx⟩ := hrel
    have HIK := Lib.hid hik
    have HX := Lib.hid hx
    clear hik hx
    by_cases hlt : i < l.length
    · obtain ⟨e, hti⟩ : ∃ e, l[i]? = some e := ⟨l[i], List.getElem?_eq_getElem hlt⟩
      obtain ⟨g, off, rfl, gl, c0, c1, c2⟩ := RowsE.at (HR.out wr HX.out) hti
      have z : (i : Int) < (l.length : Int) := by omega
      have HTI := Lib.hid hti
      have HLT := Lib.hid hlt
      have HM := Lib.hid (fun (p : ExtBy wr) => May_ok (HT.out p.w (HX.out.trans p.x)).a.s e)
      have HRM := Lib.hid (fun (p : ExtBy wr) => refMay_ok e p.w)
      have HRG := Lib.hid (fun v => refMay_ok e v)
      unfold En.v at HM HRM HRG
      have HC := Lib.hid (And.intro c0 (And.intro c1 (And.intro c2 gl)))
      have HME := Lib.hid (show (l.take (i + 1)).all mayE = ((l.take i).all mayE && mayE e) by rw [List.take_add_one, HTI.out]; simp)
      clear hti
      go_upto_region 7 with (fail)
      clear c0 c1 c2 gl
      have c0 := fun (p : ExtBy wr) => (p.x.kept (fun _ _ => true)).cell HC.out.1 fun _ _ => rfl
      have c1 := fun (p : ExtBy wr) => (p.x.kept (fun _ _ => true)).cell HC.out.2.1 fun _ _ => rfl
      have c2 := fun (p : ExtBy wr) => (p.x.kept (fun _ _ => true)).cell HC.out.2.2.1 fun _ _ => rfl
      have gl := fun (p : ExtBy wr) => Nat.lt_of_lt_of_le HC.out.2.2.2 p.x.size
      generalize hme : mayE e = me at *
      clear hme
      refine region_quiet_ext (by kernel_rfl) (by kernel_rfl) ?_
      repeat (quiet_step (first
        | (go_at_call 10; exact ExtBy.call (HM.out _))
        | (go_at_call 11; exact ExtBy.call (HRM.out _))))
      refine wpQuiet_nil ?_
      rintro w' ⟨p, rfl⟩
      have hxp := HX.out.trans p.x
      have HXP := Lib.hid hxp
      have c0' := c0 p
      have c1' := c1 p
      have c2' := c2 p
      have gl' := gl p
      clear c0 c1 c2 gl hxp
      generalize p.w = wp at *
      generalize hal : (l.take i).all mayE = al at *
      clear hal
      cases me <;> cases al
      all_goals
        go_wp2_with (go_at_call 11; refine (HRG.out wp).mono ?_; rintro e2 w2 ⟨rfl, hx2⟩; have HX2 := Lib.hid (HXP.out.trans hx2); clear hx2)
        go_roundg (gk - 1)
        case measure => have := HIK.out; have := HLT.out; omega
        case rel => exact ⟨i + 1, by have := HIK.out; have := HLT.out; omega, by go_num, by rw [HME.out]; rfl, by first | exact HX2.out | exact HXP.out⟩
    · have hi : i = l.length := by have := HIK.out; omega
      subst hi
      rw [List.take_length]
      have HTX := Lib.hid (Text_ok (c := c) (HT.out wr HX.out).a (HR.out wr HX.out) HL.out)
      have HRT := Lib.hid (fun v (k : Ext w v) => refText_ok (c := c) (HR.out v k) (by have := HL.out; omega))
      have HKN := Lib.hid (fun v (k : Ext w v) => known12_ok (HT.out v k).a)
      cases hall : l.all mayE with
      | false =>
        have hte : textE l = [] := by unfold textE; rw [hall]; rfl
        rw [hte] at HTX HRT
        clear hall hte hlt
        go_wp2_with (first
          | (go_at_call 12; refine HTX.out.mono ?_; rintro e w2 ⟨rfl, hx⟩; have HX2 := Lib.hid (HX.out.trans hx); clear hx)
          | (go_at_call 13; refine (HRT.out _ HX2.out).mono ?_; rintro e w3 ⟨rfl, hx⟩; have HX3 := Lib.hid (HX2.out.trans hx); clear hx)
          | (go_at_call 6; refine (HKN.out _ HX3.out).mono ?_; rintro e w4 ⟨rfl, hx⟩; have HX4 := Lib.hid (HX3.out.trans hx); clear hx))
        go_ret
        exact ⟨rfl, HX4.out⟩
      | true =>
        have HOF := Lib.hid (fun v (k : Ext w v) => Of_text (HT.out v k) hall HOK.out HL.out)
        have HSM := Lib.hid (fun v (k : Ext w v) (B : Option Addr) (d : Nat) (hb : RowsE v B l) => refSame_ok (c := d) (d := c) hb (HR.out v k) (by have := HL.out; omega))
        generalize textE l = tx at *
        clear hall hlt
        go_wp2_with (first
          | (go_at_call 12; refine HTX.out.mono ?_; rintro e w2 ⟨rfl, hx⟩; have HX2 := Lib.hid (HX.out.trans hx); clear hx)
          | (go_at_call 13; refine (HRT.out _ HX2.out).mono ?_; rintro e w3 ⟨rfl, hx⟩; have HX3 := Lib.hid (HX2.out.trans hx); clear hx)
          | (go_at_call 14; refine (HOF.out _ HX3.out).mono ?_; rintro e w4 ⟨B, d, rfl, hx, hb⟩; have HX4 := Lib.hid (HX3.out.trans hx); have HSS := Lib.hid (HSM.out _ (HX3.out.trans hx) B d hb); clear hx hb)
          | (go_at_call 8; refine HSS.out.mono ?_; rintro e w5 ⟨rfl, hx⟩; have HX5 := Lib.hid (HX4.out.trans hx); clear hx)
          | (go_at_call 6; refine (HKN.out _ HX5.out).mono ?_; rintro e w6 ⟨rfl, hx⟩; have HX6 := Lib.hid (HX5.out.trans hx); clear hx))
        go_ret
        exact ⟨rfl, HX6.out⟩
end Go.Proofs.YtfljmdpigckpkaaDoor
