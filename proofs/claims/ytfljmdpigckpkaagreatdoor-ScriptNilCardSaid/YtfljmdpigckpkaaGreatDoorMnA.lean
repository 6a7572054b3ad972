/- What the program answers of a machine that is not there, and of a zero one. -/
import Derived.Test.YtfljmdpigckpkaaGreatDoorMcA
import Derived.Test.YtfljmdpigckpkaaGreatDoorRwA
namespace Go.Proofs.YtfljmdpigckpkaaGreatDoor
open Go.RowKit Go.Shelf
attribute [local go_sem] Oper.semAt_some
def zMo : Obj := .cells #[.pointer none, .slice none 0 0, .slice none 0 0, .slice none 0 0, .slice none 0 0, .slice none 0 0, .slice none 0 0, .int .i64 0, .slice none 0 0, .map none, .pointer none, .slice none 0 0, .slice none 0 0, .pointer none, .slice none 0 0, .slice none 0 0, .slice none 0 0, .slice none 0 0, .int .i64 0, .int .i64 0, .bool false] 70 (0, 0)
theorem zMo_cells {w : World} {b : Nat} (h : w.heap[b]? = some zMo) : w.cell? ⟨b, 0, none⟩ = some (.pointer none) ∧ w.cell? ⟨b, 10, none⟩ = some (.pointer none) ∧ w.cell? ⟨b, 11, none⟩ = some (.slice none 0 0) ∧ w.cell? ⟨b, 12, none⟩ = some (.slice none 0 0) ∧ w.cell? ⟨b, 15, none⟩ = some (.slice none 0 0) ∧ w.cell? ⟨b, 16, none⟩ = some (.slice none 0 0) ∧ w.cell? ⟨b, 17, none⟩ = some (.slice none 0 0) ∧ w.cell? ⟨b, 18, none⟩ = some (.int .i64 0) ∧ w.cell? ⟨b, 20, none⟩ = some (.bool false) ∧ b < w.heap.size := by
  refine ⟨?_, ?_, ?_, ?_, ?_, ?_, ?_, ?_, ?_, (Array.getElem?_eq_some_iff.1 h).1⟩
  all_goals simp [World.cell?, h, zMo]
/-- No machine: nil, or a zero one. -/
def NoM (v : Value) (w : World) : Prop := v = .pointer none ∨ ∃ b, v = .pointer (some ⟨b, 0, none⟩) ∧ w.heap[b]? = some zMo
theorem NoM.ext {v : Value} {w w' : World} (h : NoM v w) (k : Ext w w') : NoM v w' := h.imp id fun ⟨b, h1, h2⟩ => ⟨b, h1, (k.kept (fun _ _ => true)).same _ _ h2 rfl⟩
section
variable {v u : Value} {w : World}
set_option maxHeartbeats 1000000
set_option maxRecDepth 100000
theorem isNone_no (h : NoM v w) : Calls Tryz.prog 51 #[v] w fun e w' => e = .returned (.bool true) ∧ w' = w := by
  rcases h with rfl | ⟨b, rfl, h⟩
  · go_enter Tryz.func51, Tryz.ntmps51
    go_wp2_with fail
    go_ret
    exact ⟨rfl, rfl⟩
  · obtain ⟨c0, c10, c11, c12, c15, c16, c17, c18, c20, cl⟩ := zMo_cells h
    clear h
    go_enter Tryz.func51, Tryz.ntmps51
    go_wp2_with fail
    go_ret
    exact ⟨rfl, rfl⟩
theorem there_no (h : NoM v w) : Calls Tryz.prog 48 #[v] w fun e w' => ∃ b, e = .returned (.pointer (some ⟨b, 0, none⟩)) ∧ w'.heap[b]? = some zMo ∧ Ext w w' := by
  rcases h with rfl | ⟨b, rfl, h⟩
  · have h1 : (w.alloc zMo).heap[w.heap.size]? = some zMo := World.alloc_heap_new _ _
    have h2 : Ext w (w.alloc zMo) := Ext.one _ _
    unfold zMo at h1 h2
    go_enter Tryz.func48, Tryz.ntmps48
    go_wp2_with fail
    go_ret
    exact ⟨_, rfl, h1, h2⟩
  · obtain ⟨c0, c10, c11, c12, c15, c16, c17, c18, c20, cl⟩ := zMo_cells h
    go_enter Tryz.func48, Tryz.ntmps48
    go_wp2_with fail
    go_ret
    exact ⟨_, rfl, h, Ext.refl _⟩
theorem enter_no (h : NoM v w) : Calls Tryz.prog 38 #[v, u] w fun e w' => e = .returned (.int .i64 1) ∧ w' = w := by
  have H := Lib.hid (isNone_no h)
  clear h
  go_enter Tryz.func38, Tryz.ntmps38
  go_wp2_with (go_at_call 51; refine H.out.mono ?_; rintro e w2 ⟨rfl, hw⟩; rw [hw]; clear hw)
  go_ret
  exact ⟨rfl, rfl⟩
end
end Go.Proofs.YtfljmdpigckpkaaGreatDoor
