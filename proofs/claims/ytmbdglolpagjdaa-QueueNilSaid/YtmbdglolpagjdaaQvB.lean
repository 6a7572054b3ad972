/- What comes first of the document's queue. -/
import Derived.Test.YtmbdglolpagjdaaQvA
namespace Go.Proofs.Ytmbdglolpagjdaa
open Go.RowKit Go.Shelf
attribute [local go_sem] Oper.semAt_some

/-- Items in the order in which they were put. -/
def Ord (E : List Ent) : Prop := E.Pairwise fun a b => a.nth < b.nth
theorem Ord.lt {E : List Ent} (h : Ord E) {i j : Nat} (hi : i < j) (hj : j < E.length) : (nth E i).nth < (nth E j).nth := by
  rw [nth_lt hj, nth_lt (Nat.lt_trans hi hj)]
  exact List.pairwise_iff_getElem.1 h i j (Nat.lt_trans hi hj) hj hi
theorem first_new {x f : Ent} (h : (x.front || (!f.front && decide (x.due < f.due))) = true) (hn : f.nth < x.nth) : eLt f x = false := by
  unfold eLt
  cases hx : x.front <;> cases hf : f.front <;> simp [hx, hf] at h ⊢ <;> (try split) <;> omega
theorem first_old {x f : Ent} (h : (x.front || (!f.front && decide (x.due < f.due))) = false) (hn : f.nth < x.nth) : eLt x f = false := by
  unfold eLt
  cases hx : x.front <;> cases hf : f.front <;> simp [hx, hf] at h ⊢ <;> (try split) <;> omega
/-- What comes first, as the document's queue tells it. -/
def FirE (E : List Ent) (e : Ending) : Prop := (E = [] ∧ e = .returned (.int .i64 (-1))) ∨ ∃ i : Nat, i < E.length ∧ e = .returned (.int .i64 i) ∧ ∀ k, k < E.length → eLt (nth E k) (nth E i) = false
def FirI (E : List Ent) (i : Nat) (v : Value) : Prop := (i = 0 ∧ v = .int .i64 (-1)) ∨ ∃ f : Nat, f < i ∧ v = .int .i64 f ∧ ∀ k, k < i → eLt (nth E k) (nth E f) = false
section
variable {E : List Ent} {bw : Nat} {W : World}
theorem RQ.cells {W : World} (h : RQ bw E W) {i : Nat} (hi : i < E.length) : ∃ g c, W.cell? ⟨bw, 0, none⟩ = some (.slice (some ⟨g, 0, none⟩) E.length c) ∧ W.cell? ⟨g, i * 3, none⟩ = some (.int .i64 (nth E i).task) ∧ W.cell? ⟨g, i * 3 + 1, none⟩ = some (.bool (nth E i).front) ∧ W.cell? ⟨g, i * 3 + 2, none⟩ = some (.int .i64 (nth E i).due) := by
  obtain ⟨v, h1, h2⟩ := h
  obtain ⟨A, c, rfl⟩ := own_slice3 h2
  obtain ⟨g, rfl, a⟩ := own3_cells h2 hi
  exact ⟨g, c, by simp [World.cell?, h1], a⟩
theorem RQ.slice {W : World} (h : RQ bw E W) : ∃ A c, W.cell? ⟨bw, 0, none⟩ = some (.slice A E.length c) := by
  obtain ⟨v, h1, h2⟩ := h
  obtain ⟨A, c, rfl⟩ := own_slice3 h2
  exact ⟨A, c, by simp [World.cell?, h1]⟩
def ito (x : Ent) : Obj := .cells #[.int .i64 x.task, .bool x.front, .int .i64 x.due] 32 (0, 0)
theorem ito_cells {W : World} {b : Nat} {x : Ent} (h : W.heap[b]? = some (ito x)) : W.cell? ⟨b, 0, none⟩ = some (.int .i64 x.task) ∧ W.cell? ⟨b, 1, none⟩ = some (.bool x.front) ∧ W.cell? ⟨b, 2, none⟩ = some (.int .i64 x.due) := by
  simp [World.cell?, h, ito]
set_option maxHeartbeats 2000000 in
set_option maxRecDepth 100000 in
theorem first_ok (h : RQ bw E W) (ho : Ord E) (hn : E.length ≤ 1000000) :
    Calls Try.prog 34 #[.pointer (some ⟨bw, 0, none⟩)] W fun e W' => FirE E e ∧ Ext W W' := by
  have HR := Lib.hid h
  have HO := Lib.hid ho
  clear h ho
  go_enter Try.func34, Try.ntmps34
  go_wp2
  go_loopw [3, 4] (fun v3 v4 wr => ∃ i : Nat, v4 = .int .i64 i ∧ i ≤ E.length ∧ FirI E i v3 ∧ Ext W wr) (fun _ v4 _ => E.length - (intOf v4).toNat)
  case atStart => exact ⟨0, rfl, by omega, .inl ⟨rfl, rfl⟩, Ext.refl _⟩
  case round =>
    obtain ⟨i, rfl, hi, hf, hx⟩ := hrel
    have HX := Lib.hid hx
    have hr := HR.out.ext hx
    have hlt := hr.lt
    clear hx
    rcases Nat.lt_or_ge i E.length with hl | hl
    · have hl' : (i : Int) < (E.length : Int) := by omega
      obtain ⟨g, c, c0, a0, a1, a2⟩ := hr.cells hl
      rcases hf with ⟨rfl, rfl⟩ | ⟨f, hfi, rfl, hfm⟩
      · generalize nth E 0 = x at a0 a1 a2
        clear hr
        go_wp2
        go_roundw
        case rel => exact ⟨1, rfl, by omega, .inr ⟨0, by omega, rfl, fun k hk => by
          have : k = 0 := by omega
          subst this; exact eLt_swo.irr _⟩, HX.out.trans (Ext.one _ _)⟩
        case measure => simp [intOf]; omega
      · obtain ⟨W1, hW1⟩ : ∃ W1, W1 = wr.alloc (ito (nth E i)) := ⟨_, rfl⟩
        have hE1 : Ext wr W1 := by rw [hW1]; exact Ext.one _ _
        have hx1 : W1.heap[wr.heap.size]? = some (ito (nth E i)) := by rw [hW1]; exact World.alloc_heap_new _ _
        have hs1 : W1.heap.size = wr.heap.size + 1 := by rw [hW1]; simp
        obtain ⟨x0, x1, x2⟩ := ito_cells hx1
        obtain ⟨g', c', c0', b0, b1, b2⟩ := (hr.ext hE1).cells (show f < E.length by omega)
        have hn1 := first_new (x := nth E i) (f := nth E f) (hn := HO.out.lt hfi hl)
        have hn2 := first_old (x := nth E i) (f := nth E f) (hn := HO.out.lt hfi hl)
        have HN1 := Lib.hid hn1
        have HN2 := Lib.hid hn2
        have HM := Lib.hid hfm
        have HW := Lib.hid hW1
        have HE1 := Lib.hid hE1
        have hf0 : ¬ (f : Int) < 0 := by omega
        have hf1 : (f : Int) < (E.length : Int) := by omega
        have fin : ∀ b, ((nth E i).front || (!(nth E f).front && decide ((nth E i).due < (nth E f).due))) = b → ∀ W2 : World, Ext W1 W2 → ∃ j : Nat, (Value.int .i64 ((i : Int) + 1)) = .int .i64 j ∧ j ≤ E.length ∧ FirI E j (if b then .int .i64 i else .int .i64 f) ∧ Ext W W2 := fun b hb W2 h2 => by
          refine ⟨i + 1, by go_num, by omega, .inr ?_, (HX.out.trans HE1.out).trans h2⟩
          cases b with
          | true => exact ⟨i, by omega, rfl, fun k hk => by
              rcases Nat.lt_or_ge k i with h | h
              · exact eLt_swo.ntr _ _ _ (HM.out k h) (HN1.out hb)
              · have : k = i := by omega
                subst this; exact eLt_swo.irr _⟩
          | false => exact ⟨f, by omega, rfl, fun k hk => by
              rcases Nat.lt_or_ge k i with h | h
              · exact HM.out k h
              · have : k = i := by omega
                subst this; exact HN2.out hb⟩
        have FIN := Lib.hid fin
        clear hfm hn1 hn2 hr hE1 hx1 fin hW1
        unfold ito at HW
        cases hxf : (nth E i).front with
        | true =>
          rw [hxf] at x1 a1 HW
          have F := Lib.hid (FIN.out true (by simp [hxf]))
          clear hxf
          generalize nth E i = x at *
          generalize nth E f = y at *
          go_upto_region 6 with (fail)
          change Code.wp _ _ _ _ (wr.alloc (.cells #[.int .i64 x.task, .bool true, .int .i64 x.due] 32 (0, 0)))
          rw [← HW.out]
          go_wp2
          go_roundw
          case rel => exact F.out _ (Ext.one _ _)
          case measure => simp [intOf]; omega
        | false =>
          rw [hxf] at x1 a1 HW
          cases hyf : (nth E f).front with
          | true =>
            rw [hyf] at b1
            have F := Lib.hid (FIN.out false (by simp [hxf, hyf]))
            clear hxf hyf
            generalize nth E i = x at *
            generalize nth E f = y at *
            go_upto_region 6 with (fail)
            change Code.wp _ _ _ _ (wr.alloc (.cells #[.int .i64 x.task, .bool false, .int .i64 x.due] 32 (0, 0)))
            rw [← HW.out]
            go_wp2
            go_roundw
            case rel => exact F.out _ (Ext.one _ _)
            case measure => simp [intOf]; omega
          | false =>
            rw [hyf] at b1
            by_cases hd : (nth E i).due < (nth E f).due
            · have F := Lib.hid (FIN.out true (by simp [hxf, hyf, hd]))
              clear hxf hyf
              generalize nth E i = x at *
              generalize nth E f = y at *
              go_upto_region 6 with (fail)
              change Code.wp _ _ _ _ (wr.alloc (.cells #[.int .i64 x.task, .bool false, .int .i64 x.due] 32 (0, 0)))
              rw [← HW.out]
              go_wp2
              go_roundw
              case rel => exact F.out _ (Ext.one _ _)
              case measure => simp [intOf]; omega
            · have F := Lib.hid (FIN.out false (by simp [hxf, hyf, hd]))
              clear hxf hyf
              generalize nth E i = x at *
              generalize nth E f = y at *
              go_upto_region 6 with (fail)
              change Code.wp _ _ _ _ (wr.alloc (.cells #[.int .i64 x.task, .bool false, .int .i64 x.due] 32 (0, 0)))
              rw [← HW.out]
              go_wp2
              go_roundw
              case rel => exact F.out _ (Ext.one _ _)
              case measure => simp [intOf]; omega
    · have hl' : ¬ (i : Int) < (E.length : Int) := by omega
      have e : i = E.length := by omega
      obtain ⟨A, c, c0⟩ := hr.slice
      have HF := Lib.hid hf
      clear hf hr
      go_wp2
      go_ret
      refine ⟨?_, HX.out⟩
      rcases HF.out with ⟨h1, rfl⟩ | ⟨f, h1, rfl, h2⟩
      · exact .inl ⟨List.eq_nil_of_length_eq_zero (by omega), rfl⟩
      · exact .inr ⟨f, by omega, rfl, by rw [← e]; exact h2⟩
end
end Go.Proofs.Ytmbdglolpagjdaa
