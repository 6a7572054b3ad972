/- parser.add. -/
import Derived.Test.YthgpepkcjjimlaaParD
import Derived.Deep.RegionHeld3
import Derived.Deep.AppendLies
import Derived.Deep.RegionLaw
import Derived.OwnWalk
namespace Go.Proofs.Ythgpepkcjjimlaa
open Go.RowKit

theorem infoTwig : (Try.prog.info? 63).map (fun i => (i.zero, i.size, i.bytes)) = some (some (.agg #[.int .i64 0, .string ⟨#[]⟩, .int .i64 0, .int .i64 0, .int .i64 0, .slice none 0 0]), 6, 72) := by kernel_rfl
def twV (k : Int) (s : List UInt8) (n : Int) : Value := .agg #[.int .i64 k, .string ⟨s.toArray⟩, .int .i64 n, .int .i64 0, .int .i64 0, .slice none 0 0]

theorem Tws.snoc {w : World} {X : List Nat} {t : Tw} {kv : Value} (hk : IntRow w X kv t.kids) : ∀ {tw : List Tw} {xs : List Value}, Tws w X tw xs → Tws w X (tw ++ [t]) (xs ++ twCells t kv)
  | [], xs, h => by
    have h' : xs = [] := h
    subst h'
    exact ⟨kv, [], by simp, hk, rfl⟩
  | _ :: _, _, ⟨kv', ys, e, h1, h2⟩ => ⟨kv', ys ++ twCells t kv, by rw [e, List.append_assoc], h1, Tws.snoc hk h2⟩
/-- The block of a row that is owned is of the row's type. -/
theorem own_type {w : World} {base : Nat} {e : TypeId} {size n : Nat} {v : Value} {xs : List Value} (h : w.ownsRow base e size v n xs) (g : Nat) (hg : v.ownBlock = some g) : ∃ cur, w.heap[g]? = some (.cells cur e (0, 0)) := by
  rcases h.2 with ⟨rfl, _⟩ | ⟨g', cap, cur, rfl, _, hh, _⟩
  · simp [Value.ownBlock] at hg
  · simp [Value.ownBlock] at hg
    subst hg
    exact ⟨cur, hh⟩
/-- A twig more. -/
theorem PS.grow {w W w1 : World} {C : Cx} {k m : Nat} {v v' : Value} {tw : List Tw} {xs : List Value} {t : Tw} {kv : Value} (h : PS w C k m v tw) (hx : w.ownsRow (C.p + 1) 63 6 v tw.length xs) (ht : Tws w C.X tw xs) (hi : IntRow w C.X kv t.kids) (hB : Below w.heap.size w W)
    (hg : W.grownBy w1 v.ownBlock) (ho : w1.ownsRow (C.p + 1) 63 6 v' (tw.length + 1) (xs ++ twCells t kv)) (hat : ∀ g, v'.ownBlock = some g → v.ownBlock = some g ∨ w.heap.size ≤ g) (hf : tw.length + 1 ≤ 2 * k + 1) :
    PS (w1.setCell ⟨C.p, 3, none⟩ v') C k m v' (tw ++ [t]) ∧ Kp C.p v w v' (w1.setCell ⟨C.p, 3, none⟩ v') := by
  have hp := h.lt
  have hne : v.ownBlock ≠ some C.p := fun e => by have := h.own_lt _ e; omega
  have hblk : ∀ b, b < w.heap.size → v.ownBlock ≠ some b → w1.heap[b]? = w.heap[b]? := fun b hb hv => (hg.block b (Nat.lt_of_lt_of_le hb hB.size) (fun e => hv e.symm)).trans (hB.block b hb)
  have hint : ∀ (g : Nat) (cs : Array Value) (mm : Nat × Nat), w.heap[g]? = some (Obj.cells cs 3 mm) → (w1.setCell ⟨C.p, 3, none⟩ v').heap[g]? = w.heap[g]? := fun g cs mm hgi => by
    rw [set_other _ _ _ _ _ (not_int h.par (by decide) hgi)]
    refine hblk g (lt_of_block hgi) fun e => ?_
    obtain ⟨cur, hc⟩ := own_type hx g e
    exact not_int hc (by decide) hgi rfl
  have hb1 : Below C.p w (w1.setCell ⟨C.p, 3, none⟩ v') :=
    ⟨hg.os.trans hB.os, hg.tape.trans hB.tape, hg.output.trans hB.output, by simpa [World.setCell] using Nat.le_trans hB.size hg.size,
     fun b hb => (set_other _ _ _ _ _ (by omega)).trans (hblk b (by omega) fun e => by have := h.own_lt _ e; omega)⟩
  refine ⟨⟨?_, h.toks.below hb1 (Nat.le_refl _), ⟨_, ?_, Tws.snoc (hi.keep hint) (ht.keep hint)⟩, h.kle, h.big, by simpa using hf, h.nest, fun b hx => Nat.lt_of_lt_of_le (h.xlt b hx) hb1.size⟩, ⟨hb1.os, hb1.tape, hb1.output, hb1.size, fun b hb hbp hv => (set_other _ _ _ _ _ hbp).trans (hblk b hb hv), hat⟩⟩
  · rw [rowset ((hblk C.p hp hne).trans h.par) 3 v']
    rfl
  · rw [List.length_append]
    exact ownsRow_setCell_below ho (show C.p < C.p + 1 by omega) v'

set_option maxRecDepth 100000 in
set_option maxHeartbeats 1000000 in
theorem add_ok (C : Cx) (w : World) (k m : Nat) (v : Value) (tw : List Tw) (t : Tok) (kd : Int) (s : List UInt8) (n : Int) (kv : Value) (ids : List Int) (h : PS w C k m v tw) (hi : IntRow w C.X kv ids) (hf : tw.length + 1 ≤ 2 * k + 1) :
    Calls Try.prog 30 #[C.ptr, tokV t, twV kd s n, kv] w fun e w' => e = .returned (.int .i64 (tw.length : Int)) ∧ ∃ v', PS w' C k m v' (tw ++ [⟨kd, s, n, t.line, t.col, ids⟩]) ∧ Kp C.p v w v' w' := by
  obtain ⟨i0, hi0, hz0, hz1, hz2⟩ := info_parts infoTwig
  obtain ⟨xs, ho, htw⟩ := h.own
  have HI := Lib.hid hi
  obtain ⟨vA, vc, rfl⟩ := own_form ho
  obtain ⟨kA, kc, rfl, _⟩ := hi
  obtain ⟨c0, c1, c2, c3⟩ := h.cells
  have hp := h.lt
  have f3 := h.free 3
  have hlen : tw.length ≤ 2000001 := by have := h.few; have := h.kle; have := h.big; omega
  have hvp : (Value.slice vA tw.length vc).ownBlock ≠ some C.p := fun e => by have := h.own_lt _ e; omega
  have HS := Lib.hid h
  have HO := Lib.hid ho
  have HT := Lib.hid htw
  have HV := Lib.hid hvp
  clear h ho htw c0 c1 c2 hvp
  unfold Cx.ptr tokV twV
  go_enter Try.func30, Try.ntmps30
  go_wp2_with fail
  go_region
  have hB : Below w.heap.size w ((w.alloc (.cells #[.int .i64 t.kind, .string ⟨t.text.toArray⟩, .int .i64 t.n, .int .i64 t.line, .int .i64 t.col] 38)).alloc (.cells #[.int .i64 kd, .string ⟨s.toArray⟩, .int .i64 n, .int .i64 t.line, .int .i64 t.col, .slice kA ids.length kc] 63)).drew :=
    (((Below.refl _ _).alloc (Nat.le_refl _) _).alloc (by simp) _).drew
  have hbl : ((w.alloc (.cells #[.int .i64 t.kind, .string ⟨t.text.toArray⟩, .int .i64 t.n, .int .i64 t.line, .int .i64 t.col] 38)).alloc (.cells #[.int .i64 kd, .string ⟨s.toArray⟩, .int .i64 n, .int .i64 t.line, .int .i64 t.col, .slice kA ids.length kc] 63)).drew.heap[w.heap.size + 1]? = some (.cells #[.int .i64 kd, .string ⟨s.toArray⟩, .int .i64 n, .int .i64 t.line, .int .i64 t.col, .slice kA ids.length kc] 63 (0, 0)) := by
    have := heap_alloc_new (w.alloc (.cells #[.int .i64 t.kind, .string ⟨t.text.toArray⟩, .int .i64 t.n, .int .i64 t.line, .int .i64 t.col] 38)) (.cells #[.int .i64 kd, .string ⟨s.toArray⟩, .int .i64 n, .int .i64 t.line, .int .i64 t.col, .slice kA ids.length kc] 63)
    simp only [World.size_alloc] at this
    exact this
  generalize ((w.alloc (.cells #[.int .i64 t.kind, .string ⟨t.text.toArray⟩, .int .i64 t.n, .int .i64 t.line, .int .i64 t.col] 38)).alloc (.cells #[.int .i64 kd, .string ⟨s.toArray⟩, .int .i64 n, .int .i64 t.line, .int .i64 t.col, .slice kA ids.length kc] 63)).drew = W at hB hbl ⊢
  have d3 := (hB.cell (p := ⟨C.p, 3, none⟩) hp).trans c3
  have g3 := (hB.frozen (p := ⟨C.p, 3, none⟩) hp).trans f3
  have b0 : W.cell? ⟨w.heap.size + 1, 0, none⟩ = some (.int .i64 kd) := by simp [World.cell?, hbl]
  have b1 : W.cell? ⟨w.heap.size + 1, 1, none⟩ = some (.string ⟨s.toArray⟩) := by simp [World.cell?, hbl]
  have b2 : W.cell? ⟨w.heap.size + 1, 2, none⟩ = some (.int .i64 n) := by simp [World.cell?, hbl]
  have b3 : W.cell? ⟨w.heap.size + 1, 3, none⟩ = some (.int .i64 t.line) := by simp [World.cell?, hbl]
  have b4 : W.cell? ⟨w.heap.size + 1, 4, none⟩ = some (.int .i64 t.col) := by simp [World.cell?, hbl]
  have b5 : W.cell? ⟨w.heap.size + 1, 5, none⟩ = some (.slice kA ids.length kc) := by simp [World.cell?, hbl]
  have hW : C.p < W.heap.size := Nat.lt_of_lt_of_le hp hB.size
  have hW1 := lt_of_block hbl
  have HOW : Hid (W.ownsRow (C.p + 1) 63 6 (.slice vA tw.length vc) tw.length xs) := Lib.hid (HO.out.kept (row := none) (w' := W) ⟨hB.os, hB.tape, hB.output, hB.size, fun k hk _ => hB.block k hk⟩ (by cases hv : (Value.slice vA tw.length vc).ownBlock <;> simp))
  have HB := Lib.hid hB
  clear hB hbl c3 f3
  go_wp2_with fail
  go_region_law ((refine step_append_lies _ (by rfl) _ _ _ (by rfl) (C.p + 1) 63 i0 _ 6 72 Try.underlying28 hi0 hz0 hz1 hz2 rfl (by omega) (.slice vA tw.length vc) tw.length xs (by rfl) ((HOW.out.alloc _).drew) ⟨W.heap.size, 0, none⟩ 1 1 [.int .i64 kd, .string ⟨s.toArray⟩, .int .i64 n, .int .i64 t.line, .int .i64 t.col, .slice kA ids.length kc] (by rfl) (by rfl) (World.news_of_block (cs := #[.int .i64 kd, .string ⟨s.toArray⟩, .int .i64 n, .int .i64 t.line, .int .i64 t.col, .slice kA ids.length kc]) (t := 63) (fr := (0, 0)) (heap_alloc_new W _)) (by simp [Value.oneCell']) (by omega) (by unfold maxLen; omega) (by omega) (by simp; omega) (W.heap.size + 1) (by simp) ?_; intro gg cap w1 hown1 hgrow hat hlt; have q3 := (hgrow.cell_far ⟨C.p, 3, none⟩ (by simp; omega) (Ne.symm HV.out)).trans ((World.cell?_alloc_past _ _ _ hW).trans d3); have q3f := (hgrow.frozen_far ⟨C.p, 3, none⟩ (by simp; omega) (Ne.symm HV.out)).trans ((World.frozen?_alloc_past _ _ _ hW).trans g3)))
  all_goals
    have hat' : ∀ g, (Value.slice (some ⟨gg, 0, none⟩) (tw.length + 1) cap).ownBlock = some g → (Value.slice vA tw.length vc).ownBlock = some g ∨ w.heap.size ≤ g := fun g hg => by
      have hg' : gg = g := by simpa [Value.ownBlock] using hg
      subst hg'
      exact hat.imp id fun e => by omega
    have HF := Lib.hid (HS.out.grow (t := ⟨kd, s, n, t.line, t.col, ids⟩) HO.out HT.out HI.out ((HB.out.alloc HB.out.size _).drew) hgrow hown1 hat' hf)
    clear hown1 hgrow hat hat' b0 b1 b2 b3 b4 b5 d3 g3 HOW HO HT HI HB HV
    go_wp2_with fail
    go_ret
    exact ⟨ret_int (by omega), _, HF.out.1, HF.out.2⟩
end Go.Proofs.Ythgpepkcjjimlaa
