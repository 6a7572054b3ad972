/- ScriptNil: what is answered of a program and of a machine that are none; the chapter's row; the walk (SaN, SdA, SdB, SdC put together for the claim). -/
import Derived.Test.YtfljmdpigckpkaaGreatDoorSaF
import Derived.Test.YtfljmdpigckpkaaGreatDoorMnC
namespace Go.Proofs.YtfljmdpigckpkaaGreatDoor
open Go.RowKit Go.Shelf
attribute [local go_sem] Oper.semAt_some
theorem flatE_at : ∀ (T : List En) (i r : Nat) (x : En) (u : Value), T[i]? = some x → (En.cells x)[r]? = some u → (T.flatMap En.cells)[i * 3 + r]? = some u
  | [], i, r, x, u, h, _ => by simp at h
  | y :: T, 0, r, x, u, h, h2 => by
    obtain rfl : y = x := by simpa using h
    have hr : r < (En.cells y).length := (List.getElem?_eq_some_iff.1 h2).1
    rw [List.flatMap_cons, Nat.zero_mul, Nat.zero_add, List.getElem?_append_left hr]
    exact h2
  | y :: T, i + 1, r, x, u, h, h2 => by
    have ih := flatE_at T i r x u (by simpa using h) h2
    have hl : (En.cells y).length = 3 := rfl
    rw [List.flatMap_cons, List.getElem?_append_right (by rw [hl, Nat.succ_mul]; omega), hl]
    rw [show (i + 1) * 3 + r - 3 = i * 3 + r by rw [Nat.succ_mul]; omega]
    exact ih
theorem own_rowsE {W : World} {B : Nat} {A : Option Addr} {c : Nat} {T : List En} (h : W.ownsRow B 84 3 (.slice A T.length c) T.length (T.flatMap En.cells)) (hP : ∀ x ∈ T, x.ok) : RowsE W A T := fun i x hi => by
  have hlt := (List.getElem?_eq_some_iff.1 hi).1
  rcases h.2 with ⟨e, h0⟩ | ⟨g, cap, cur, e, h2⟩
  · omega
  · have hA : A = some ⟨g, 0, none⟩ := by injection e
    refine ⟨g, 0, hA, (Array.getElem?_eq_some_iff.1 h2.2.1).1, hP x (List.mem_of_getElem? hi), fun j u hj => ?_⟩
    have := h.cells (g := g) (by rw [hA]; rfl) _ u (flatE_at T i j x u hi hj)
    simpa [add_none] using this
theorem En.flat_len (l : List En) : (l.flatMap En.cells).length = l.length * 3 := by
  induction l with
  | nil => rfl
  | cons e l ih => simp only [List.flatMap_cons, List.length_append, List.length_cons, ih]; simp [En.cells]; omega
def knL : List En := [⟨1, 0, 0⟩, ⟨3, 0, 5⟩, ⟨4, 1, -7⟩]
theorem it0 : Lib.itoa 0 = [48] := by
  unfold Lib.itoa
  rw [if_neg (by decide), Lib.decDigits]
  rfl
theorem it1 : Lib.itoa 1 = [49] := by
  unfold Lib.itoa
  rw [if_neg (by decide), Lib.decDigits]
  rfl
theorem it5 : Lib.itoa 5 = [53] := by
  unfold Lib.itoa
  rw [if_neg (by decide), Lib.decDigits]
  rfl
theorem it7 : Lib.itoa (-7) = [45, 55] := by
  unfold Lib.itoa
  rw [if_pos (by decide), Lib.decDigits]
  rfl
theorem knT : textE knL = [114, 117, 110, 32, 48, 10, 116, 105, 99, 107, 32, 53, 10, 105, 110, 106, 101, 99, 116, 32, 49, 32, 45, 55, 10] := by
  unfold textE
  rw [if_pos (by decide)]
  simp [knL, lnE, wsE, wdE, Lib.join_cons, Lib.joinTail, it0, it1, it5, it7]
theorem rows_blockE {l : List En} {w : World} {g : Nat} (h : w.heap[g]? = some (.cells (l.flatMap En.cells).toArray 84 (0, 0))) (hi : ∀ x ∈ l, x.ok) (hl : l.length ≤ 1000) : RowsE w (some ⟨g, 0, none⟩) l := by
  have hlen := En.flat_len l
  refine own_rowsE (B := 0) (c := l.length) ⟨hlen, .inr ⟨g, l.length, _, rfl, Nat.zero_le _, h, Nat.le_refl _, by unfold maxLen; omega, by simpa using hlen, ?_⟩⟩ hi
  rw [List.take_of_length_le (by simp [hlen])]
def knO : Obj := .cells (knL.flatMap En.cells).toArray 84 (0, 0)
set_option maxRecDepth 100000 in
set_option maxHeartbeats 2000000 in
theorem known12_ok {w : World} (hT : TabA w) : Calls Tryz.prog 35 #[] w fun e w' => e = .returned (.bool true) ∧ Ext w w' := by
  obtain ⟨W1, hW1⟩ : ∃ W1, W1 = w.alloc knO := ⟨_, rfl⟩
  have hx1 : Ext w W1 := by rw [hW1]; exact Ext.one _ _
  have hb1 : W1.heap[w.heap.size]? = some knO := by rw [hW1]; exact World.alloc_heap_new _ _
  have hr : RowsE W1 (some ⟨w.heap.size, 0, none⟩) knL := rows_blockE hb1 (fun x hx => by
    simp only [knL, List.mem_cons, List.not_mem_nil, or_false] at hx
    rcases hx with rfl | rfl | rfl <;> exact ⟨⟨by decide, by decide⟩, ⟨by decide, by decide⟩, by decide, by decide⟩) (by decide)
  have HTX := Lib.hid (Text_ok (c := 3) (hT.ext hx1) hr (by decide))
  rw [knT] at HTX
  have HX1 := Lib.hid hx1
  have HW := Lib.hid hW1
  clear hx1 hb1 hW1 hT hr
  go_enter Tryz.func35, Tryz.ntmps35
  go_wp2_with (go_at_call 34; (change Calls _ _ #[Value.slice (some ⟨w.heap.size, 0, none⟩) 3 3] (w.alloc knO) _); rw [← HW.out]; refine HTX.out.mono ?_; rintro e w2 ⟨rfl, hx⟩; have HX2 := Lib.hid (HX1.out.trans hx); clear hx)
  go_ret
  exact ⟨rfl, HX2.out⟩
end Go.Proofs.YtfljmdpigckpkaaGreatDoor

namespace Go.Proofs.YtfljmdpigckpkaaGreatDoor
open Go.RowKit Go.Shelf Go.Maps Go.ChangeMaps
attribute [local go_sem] Oper.semAt_some
section
set_option maxRecDepth 100000
set_option maxHeartbeats 2000000
theorem counts_no (w : World) : Calls Tryz.prog 197 #[.agg #[.slice none 0 0, .slice none 0 0, .slice none 0 0, .slice none 0 0, .slice none 0 0, .slice none 0 0, .int .i64 0, .slice none 0 0]] w fun e w' => e = .returned (.bool false) ∧ Ext w w' := by
  go_enter Tryz.func197, Tryz.ntmps197
  go_wp2_with fail
  go_ret
  exact ⟨rfl, Ext.one _ _⟩
theorem mayBe_no (w : World) : Calls Tryz.prog 135 #[.agg #[.slice none 0 0, .slice none 0 0, .slice none 0 0, .slice none 0 0, .slice none 0 0, .slice none 0 0, .int .i64 0, .slice none 0 0]] w fun e w' => e = .returned (.bool false) ∧ Ext w w' := by
  go_enter Tryz.func135, Tryz.ntmps135
  go_wp2_with (go_at_call 197; refine (counts_no _).mono ?_; rintro e w2 ⟨rfl, hx⟩; have HX := Lib.hid ((Ext.one w _).trans hx); clear hx)
  go_ret
  exact ⟨rfl, HX.out⟩
theorem stepNew_no (w : World) : Calls Tryz.prog 86 #[.agg #[.slice none 0 0, .slice none 0 0, .slice none 0 0, .slice none 0 0, .slice none 0 0, .slice none 0 0, .int .i64 0, .slice none 0 0]] w fun e w' => e = .returned (.tuple #[.pointer none, .int .i64 2]) ∧ Ext w w' := by
  go_enter Tryz.func86, Tryz.ntmps86
  go_wp2_with (go_at_call 135; refine (mayBe_no _).mono ?_; rintro e w2 ⟨rfl, hx⟩; have HX := Lib.hid ((Ext.one w _).trans hx); clear hx)
  go_ret2
  exact ⟨rfl, HX.out⟩
theorem machNew_no (w : World) : Calls Tryz.prog 31 #[.agg #[.slice none 0 0, .slice none 0 0, .slice none 0 0, .slice none 0 0, .slice none 0 0, .slice none 0 0, .int .i64 0, .slice none 0 0]] w fun e w' => e = .returned (.tuple #[.pointer none, .int .i64 2]) ∧ Ext w w' := by
  go_enter Tryz.func31, Tryz.ntmps31
  go_wp2_with (go_at_call 86; refine (stepNew_no _).mono ?_; rintro e w2 ⟨rfl, hx⟩; have HX := Lib.hid ((Ext.one w _).trans hx); clear hx)
  go_ret2
  exact ⟨rfl, HX.out⟩
theorem scrRun_no (A : Option Addr) (n c : Nat) (w : World) : Calls Tryz.prog 32 #[.agg #[.slice none 0 0, .slice none 0 0, .slice none 0 0, .slice none 0 0, .slice none 0 0, .slice none 0 0, .int .i64 0, .slice none 0 0], .slice A n c] w fun e w' => e = .returned (.tuple #[.pointer none, .slice none 0 0, .int .i64 2]) ∧ Ext w w' := by
  go_enter Tryz.func32, Tryz.ntmps32
  go_wp2_with (go_at_call 31; refine (machNew_no _).mono ?_; rintro e w2 ⟨rfl, hx⟩; have HX := Lib.hid ((Ext.one w _).trans hx); clear hx)
  refine bodyPost_ret (v := .tuple #[.pointer none, .slice none 0 0, .int .i64 2]) (by simp [results, Tryz.results32, go_sem]) rfl ⟨rfl, HX.out⟩
end
/-! ### The deeds: a map of functions that capture -/
def entV : Nat → List (Int × Value) → List MapEntry
  | _, [] => []
  | n, s :: r => ⟨.int .i64 s.1, s.2, n⟩ :: entV (n + 1) r
theorem entV_snoc : ∀ (ws : List (Int × Value)) (n : Nat) (s : Int × Value), entV n (ws ++ [s]) = entV n ws ++ [⟨.int .i64 s.1, s.2, n + ws.length⟩]
  | [], n, s => by simp [entV]
  | x :: r, n, s => by
    simp only [List.cons_append, entV, entV_snoc r (n + 1) s, List.length_cons]
    congr 4
    omega
theorem find_entV (k : Int) : ∀ (ws : List (Int × Value)) (n i : Nat), (∀ s ∈ ws, k ≠ s.1) → Instr.findNow (.int .i64) (.int .i64 k) (entV n ws) i = some none
  | [], n, i, _ => by simp [entV, Instr.findNow]
  | s :: r, n, i, h => by
    have ih := find_entV k r (n + 1) (i + 1) fun x hx => h x (List.mem_cons_of_mem _ hx)
    have h1 : (k == s.1) = false := by simpa using h s (List.mem_cons_self ..)
    simp only [entV, Instr.findNow, Instr.sameNow, h1, ih, if_true]
def dobV (ws : List (Int × Value)) : Obj := .map (entV 0 ws).toArray ws.length
theorem vput {w : World} {b : Nat} {ws : List (Int × Value)} (hb : w.heap[b]? = some (dobV ws)) (k : Int) (v : Value) (h : ∀ s ∈ ws, k ≠ s.1) :
    ∃ w', (Instr.mapUpdate 178 (.map (some b)) (.int .i64 k) v).run Tryz.prog w = .ok () w' ∧ w'.heap[b]? = some (dobV (ws ++ [(k, v)])) ∧ Kept (ne' b) w w' := by
  have hj := find_entV k ws 0 0 h
  have hlt := (Array.getElem?_eq_some_iff.1 hb).1
  have hb' : w.heap[b]? = some (.map (entV 0 ws).toArray ws.length) := hb
  have hc : ∀ m W, (Instr.checkKey false (m + 1) 82 (.int .i64 k)).run Tryz.prog W = .ok () W := fun m W => MapKept.run_checkKey (k := .int .i64 k) Tryz.underlying82 rfl false m
  have he : dobV (ws ++ [(k, v)]) = .map ((entV 0 ws).toArray.push ⟨.int .i64 k, v, ws.length⟩) (ws.length + 1) := by
    unfold dobV
    rw [entV_snoc]
    simp
  refine ⟨{ w with heap := w.heap.setIfInBounds b (dobV (ws ++ [(k, v)])) }, ?_, by simp [hlt], ⟨rfl, rfl, rfl, by simp, fun i o hi hp => ?_⟩⟩
  · have hset : ∀ o, (setObj b o).run Tryz.prog w = .ok () { w with heap := w.heap.setIfInBounds b o } := fun o => MapKept.run_setObj_map o hb'
    rw [he]
    simp [Instr.mapUpdate, run_underlying Tryz.underlying178, MapKept.run_getObj_map hb', hc, Instr.findKey, run_underlying Tryz.underlying82, hj, Result.andThen, hset]
  · have hne : i ≠ b := by
      intro e
      simp [ne', e] at hp
    show (w.heap.setIfInBounds b _)[i]? = some o
    rw [Array.getElem?_setIfInBounds, if_neg (fun e => hne e.symm)]
    exact hi
theorem look_noV {w : World} {b : Nat} {ws : List (Int × Value)} (hb : w.heap[b]? = some (dobV ws)) (k : Int) (h : ∀ s ∈ ws, k ≠ s.1) :
    (Instr.lookup 178 (.map (some b)) (.int .i64 k) true).run Tryz.prog w = .ok (.tuple #[.nilFunc, .bool false]) w := by
  have hc : ∀ e m W, (Instr.checkKey e (m + 1) 82 (.int .i64 k)).run Tryz.prog W = .ok () W := fun e m W => MapKept.run_checkKey (k := .int .i64 k) Tryz.underlying82 rfl e m
  have hj := find_entV k ws 0 0 h
  unfold dobV at hb
  simp [Instr.lookup, run_underlying Tryz.underlying178, MapKept.run_getObj_map hb, hc, Instr.findKey, run_underlying Tryz.underlying82, hj, Result.andThen]
end Go.Proofs.YtfljmdpigckpkaaGreatDoor

namespace Go.Proofs.YtfljmdpigckpkaaGreatDoor
open Go.RowKit Go.Shelf Go.Maps Go.ChangeMaps
attribute [local go_sem] Oper.semAt_some
set_option maxRecDepth 100000
set_option maxHeartbeats 2000000
theorem at_no (f : FuncId) (w : World) : Calls Tryz.prog 148 #[.func (.func f) #[] #[]] w fun e w' => ∃ b, e = .returned (.func (.func 252) #[] #[.pointer (some ⟨b, 0, none⟩)]) ∧ Ext w w' := by
  go_enter Tryz.func148, Tryz.ntmps148
  go_wp2_with fail
  go_ret
  exact ⟨_, rfl, Ext.one _ _⟩
theorem sdeeds_ok (w : World) : Calls Tryz.prog 92 #[] w fun e w' => ∃ b ws, e = .returned (.map (some b)) ∧ w'.heap[b]? = some (dobV ws) ∧ (∀ s ∈ ws, (9 : Int) ≠ s.1) ∧ Ext w w' := by
  have hmm : ∀ u : World, (Instr.makeMap 178 none).run Tryz.prog u = .ok (.map (some u.heap.size)) (u.alloc (dobV [])) := fun u => rfl
  have hb1 : (w.alloc (dobV [])).heap[w.heap.size]? = some (dobV []) := World.alloc_heap_new _ _
  have hx1 : Ext w (w.alloc (dobV [])) := Ext.one _ _
  have HB1 := Lib.hid hb1
  have HX1 := Lib.hid hx1
  clear hb1 hx1
  go_enter Tryz.func92, Tryz.ntmps92
  go_wp2_with (first
    | (go_at_call 148; refine (at_no _ _).mono ?_; rintro e w4 ⟨b4, rfl, hx4⟩; obtain ⟨w5, i2, hb5, k5⟩ := vput ((hx4.kept (fun _ _ => true)).same _ _ HB3.out rfl) 2 (.func (.func 252) #[] #[.pointer (some ⟨b4, 0, none⟩)]) (by simp); obtain ⟨w6, i3, hb6, k6⟩ := vput hb5 3 (.func (.func 149) #[] #[]) (by simp); obtain ⟨w7, i4, hb7, k7⟩ := vput hb6 4 (.func (.func 150) #[] #[]) (by simp); obtain ⟨w8, i5, hb8, k8⟩ := vput hb7 5 (.func (.func 151) #[] #[]) (by simp); have HX8 := Lib.hid (ext_ne (ext_ne (ext_ne (ext_ne (HX3.out.trans hx4) k5 (Nat.le_refl _)) k6 (Nat.le_refl _)) k7 (Nat.le_refl _)) k8 (Nat.le_refl _)); have HB8 := Lib.hid hb8; clear hx4 hb5 k5 hb6 k6 hb7 k7 hb8 k8)
    | (go_at_call 148; refine (at_no _ _).mono ?_; rintro e w2 ⟨b2, rfl, hx2⟩; obtain ⟨w3, i1, hb3, k3⟩ := vput ((hx2.kept (fun _ _ => true)).same _ _ HB1.out rfl) 1 (.func (.func 252) #[] #[.pointer (some ⟨b2, 0, none⟩)]) (by simp); have HX3 := Lib.hid (ext_ne (HX1.out.trans hx2) k3 (Nat.le_refl _)); have HB3 := Lib.hid hb3; clear hx2 hb3 k3))
  go_ret
  exact ⟨_, _, rfl, HB8.out, by simp, HX8.out⟩
theorem Do_no (w : World) : Calls Tryz.prog 33 #[.pointer none, .agg #[.int .i64 9, .int .i64 0, .int .i64 0]] w fun e w' => e = .returned (.int .i64 1) ∧ Ext w w' := by
  obtain ⟨W1, hW1⟩ : ∃ W1, W1 = w.alloc (En.o ⟨9, 0, 0⟩) := ⟨_, rfl⟩
  have hx1 : Ext w W1 := by rw [hW1]; exact Ext.one _ _
  have hb1 : W1.heap[w.heap.size]? = some (En.o ⟨9, 0, 0⟩) := by rw [hW1]; exact World.alloc_heap_new _ _
  have HF := Lib.hid (fun v (k : Ext W1 v) => En.o_cells ((k.kept (fun _ _ => true)).same _ _ hb1 rfl))
  have HX1 := Lib.hid hx1
  have HW := Lib.hid hW1
  clear hx1 hb1 hW1
  go_enter Tryz.func33, Tryz.ntmps33
  go_upto_region 1 with (fail)
  change Code.wp _ _ _ _ (w.alloc (En.o ⟨9, 0, 0⟩))
  rw [← HW.out]
  generalize w.heap.size = bx at *
  clear HW
  obtain ⟨x0, x1, x2, xl⟩ := HF.out W1 (Ext.refl _)
  dsimp only at x0 x1 x2
  first | (go_region_with (go_at_call 92; refine (sdeeds_ok _).mono ?_; rintro e w2 ⟨b, ws, rfl, hb, hn, hx⟩; have hlk := look_noV hb 9 hn; have HX2 := Lib.hid ((Ext.drew W1).trans hx); clear hx hb hn x0 x1 x2 xl; obtain ⟨x0, x1, x2, xl⟩ := HF.out _ HX2.out; try dsimp only at x0 x1 x2)) | fail
  all_goals
    clear x0 x1 x2 xl
    go_wp2_with (go_at_call 30; refine (Same_no (.inl rfl) (.inl rfl)).mono ?_; rintro e y ⟨rfl, hw⟩; rw [hw]; clear hw)
    go_ret
    exact ⟨rfl, HX1.out.trans HX2.out⟩
end Go.Proofs.YtfljmdpigckpkaaGreatDoor

namespace Go.Proofs.YtfljmdpigckpkaaGreatDoor
open Go.RowKit Go.Shelf
attribute [local go_sem] Oper.semAt_some
set_option maxRecDepth 100000 in
set_option maxHeartbeats 2000000 in
theorem ScriptNil_ok {W : World} (hT : TabA W) : Calls Tryz.prog 5 #[] W fun e W' => e = .returned (.bool true) ∧ Ext W W' := by
  have HT := Lib.hid (fun v (k : Ext W v) => hT.ext k)
  have HTX := Lib.hid (fun v (k : Ext W v) => show Calls Tryz.prog 34 #[.slice none 0 0] v fun e w' => e = .returned (.string ⟨#[]⟩) ∧ Ext v w' from Text_ok (A := none) (c := 0) (l := []) (hT.ext k) (fun i x hi => by simp at hi) (by decide))
  clear hT
  go_enter Tryz.func5, Tryz.ntmps5
  go_wp2_with (first
    | (go_at_call 32; refine (scrRun_no _ _ _ _).mono ?_; rintro e w2 ⟨rfl, hx⟩; have HX2 := Lib.hid ((Ext.one W _).trans hx); clear hx)
    | (go_at_call 33; refine (Do_no _).mono ?_; rintro e w3 ⟨rfl, hx⟩; have HX3 := Lib.hid (HX2.out.trans hx); clear hx)
    | (go_at_call 34; refine (HTX.out _ HX3.out).mono ?_; rintro e w4 ⟨rfl, hx⟩; have HX4 := Lib.hid (HX3.out.trans hx); clear hx)
    | (go_at_call 35; refine (known12_ok (HT.out _ HX4.out)).mono ?_; rintro e w5 ⟨rfl, hx⟩; have HX5 := Lib.hid (HX4.out.trans hx); clear hx))
  go_ret
  exact ⟨rfl, HX5.out⟩
end Go.Proofs.YtfljmdpigckpkaaGreatDoor
