/- ScriptTexts: its walk. -/
import Derived.Test.YtkljdpjdlccidaaDoorSaI
import Derived.Test.YtkljdpjdlccidaaDoorSaJ
import Derived.Test.YtkljdpjdlccidaaDoorQtA
namespace Go.Proofs.YtkljdpjdlccidaaDoor
open Go.RowKit Go.Shelf
attribute [local go_sem] Oper.semAt_some
def knL : List En := [⟨1, 0, 0⟩, ⟨3, 0, 5⟩, ⟨4, 1, -7⟩]
theorem it0 : Lib.itoa 0 = [48] := by
  unfold Lib.itoa
  rw [if_neg (by decide), Lib.decDigits]
  rfl
theorem it1 : Lib.itoa 1 = [49] := by
  unfold Lib.itoa
  rw [if_neg (by decide), Lib.decDigits]
  rfl
theorem it5 : Lib.itoa 5 = [53] := by
  unfold Lib.itoa
  rw [if_neg (by decide), Lib.decDigits]
  rfl
theorem it7 : Lib.itoa (-7) = [45, 55] := by
  unfold Lib.itoa
  rw [if_pos (by decide), Lib.decDigits]
  rfl
theorem knT : textE knL = [114, 117, 110, 32, 48, 10, 116, 105, 99, 107, 32, 53, 10, 105, 110, 106, 101, 99, 116, 32, 49, 32, 45, 55, 10] := by
  unfold textE
  rw [if_pos (by decide)]
  simp [knL, lnE, wsE, wdE, Lib.join_cons, Lib.joinTail, it0, it1, it5, it7]
theorem rows_blockE {l : List En} {w : World} {g : Nat} (h : w.heap[g]? = some (.cells (l.flatMap En.cells).toArray 42 (0, 0))) (hi : ∀ x ∈ l, x.ok) (hl : l.length ≤ 1000) : RowsE w (some ⟨g, 0, none⟩) l := by
  have hlen := En.flat_len l
  refine own_rowsE (B := 0) (c := l.length) ⟨hlen, .inr ⟨g, l.length, _, rfl, Nat.zero_le _, h, Nat.le_refl _, by unfold maxLen; omega, by simpa using hlen, ?_⟩⟩ hi
  rw [List.take_of_length_le (by simp [hlen])]
def knO : Obj := .cells (knL.flatMap En.cells).toArray 42 (0, 0)
set_option maxRecDepth 100000 in
set_option maxHeartbeats 2000000 in
theorem known12_ok {w : World} (hT : TabA w) : Calls Tryd.prog 6 #[] w fun e w' => e = .returned (.bool true) ∧ Ext w w' := by
  obtain ⟨W1, hW1⟩ : ∃ W1, W1 = w.alloc knO := ⟨_, rfl⟩
  have hx1 : Ext w W1 := by rw [hW1]; exact Ext.one _ _
  have hb1 : W1.heap[w.heap.size]? = some knO := by rw [hW1]; exact World.alloc_heap_new _ _
  have hr : RowsE W1 (some ⟨w.heap.size, 0, none⟩) knL := rows_blockE hb1 (fun x hx => by
    simp only [knL, List.mem_cons, List.not_mem_nil, or_false] at hx
    rcases hx with rfl | rfl | rfl <;> exact ⟨⟨by decide, by decide⟩, ⟨by decide, by decide⟩, by decide, by decide⟩) (by decide)
  have HTX := Lib.hid (Text_ok (c := 3) (hT.ext hx1) hr (by decide))
  rw [knT] at HTX
  have HX1 := Lib.hid hx1
  have HW := Lib.hid hW1
  clear hx1 hb1 hW1 hT hr
  go_enter Tryd.func6, Tryd.ntmps6
  go_wp2_with (go_at_call 16; (change Calls _ _ #[Value.slice (some ⟨w.heap.size, 0, none⟩) 3 3] (w.alloc knO) _); rw [← HW.out]; refine HTX.out.mono ?_; rintro e w2 ⟨rfl, hx⟩; have HX2 := Lib.hid (HX1.out.trans hx); clear hx)
  go_ret
  exact ⟨rfl, HX2.out⟩
theorem textE_len {l : List En} (ok : ∀ e ∈ l, e.ok) : (textE l).length ≤ 51 * l.length := by
  unfold textE
  split
  · exact tx_len l ok
  · simp
theorem Of_text {w : World} (hT : TabR w) {l : List En} (hm : l.all mayE = true) (ok : ∀ e ∈ l, e.ok) (hl : l.length ≤ 100) : Calls Tryd.prog 10 #[.string ⟨(textE l).toArray⟩] w fun e w' => ∃ A c, e = .returned (.tuple #[.slice A l.length c, .int .i64 0]) ∧ Ext w w' ∧ RowsE w' A l := by
  have hlen := textE_len ok
  refine (Of_ok hT (textE l) (by omega)).mono ?_
  rintro e w' ⟨hx, ⟨h, -⟩ | ⟨L, A, c, h, rfl, ho⟩⟩
  · rw [scrE_of hm ok] at h
    cases h
  · rw [scrE_of hm ok] at h
    obtain rfl := Option.some.inj h
    exact ⟨A, c, rfl, hx, own_rowsE ho ok⟩
end Go.Proofs.YtkljdpjdlccidaaDoor
