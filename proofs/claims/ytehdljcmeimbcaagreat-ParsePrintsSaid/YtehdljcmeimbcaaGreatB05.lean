/- parser.take, takeIf, takeWord, takeMark, takeName, takeNumber, enter, leave; parser.add. -/
import Derived.Test.YtehdljcmeimbcaaGreatB04
import Derived.Deep.RegionHeld3
import Derived.Deep.AppendLies
import Derived.Deep.RegionLaw
import Derived.OwnWalk
namespace Go.Proofs.YtehdljcmeimbcaaGreat
open Go.RowKit

theorem rowset {w : World} {g : Nat} {cs : Array Value} {t : TypeId} (h : w.heap[g]? = some (.cells cs t (0, 0))) (i : Nat) (u : Value) : (w.setCell ⟨g, i, none⟩ u).heap[g]? = some (.cells (cs.setIfInBounds i u) t (0, 0)) := by
  simp [World.setCell, Array.getElem?_modify, h]
theorem set_other (w : World) (g i : Nat) (u : Value) (b : Nat) (h : b ≠ g) : (w.setCell ⟨g, i, none⟩ u).heap[b]? = w.heap[b]? := Below.heap_setCell w ⟨g, i, none⟩ u b h
theorem Kp.setP {p : Nat} {v v' : Value} {w0 w : World} (h : Kp p v w0 v' w) (i : Nat) (u : Value) : Kp p v w0 v' (w.setCell ⟨p, i, none⟩ u) := by
  have hb := (Below.refl p w).setCell (p := ⟨p, i, none⟩) (Nat.le_refl _) u
  exact ⟨hb.os.trans h.os, hb.tape.trans h.tape, hb.output.trans h.output, Nat.le_trans h.size hb.size, fun k hk hp hv => (set_other _ _ _ _ _ hp).trans (h.block k hk hp hv), h.own⟩
theorem not_int {w : World} {g : Nat} {cs : Array Value} {t : TypeId} {m : Nat × Nat} (h : w.heap[g]? = some (.cells cs t m)) (ht : t ≠ 3) {b : Nat} {cs' : Array Value} {m' : Nat × Nat} (hb : w.heap[b]? = some (.cells cs' 3 m')) : b ≠ g := by
  rintro rfl
  rw [h] at hb
  injection hb with hb
  injection hb with _ hb _
  exact ht hb
/-- A store into the parser's own block: its place, its nest. -/
theorem PS.setP {w : World} {C : Cx} {k m : Nat} {v : Value} {tw : List Tw} (h : PS w C k m v tw) (i : Nat) (u : Value) (k' m' : Nat) (hi : (#[.slice C.A C.T.length C.cap, .int .i64 k, .int .i64 m, v] : Array Value).setIfInBounds i u = #[.slice C.A C.T.length C.cap, .int .i64 k', .int .i64 m', v]) (hk : k' ≤ C.T.length) (hf : tw.length ≤ 2 * k' + 1) (hm : m' ≤ 64) : PS (w.setCell ⟨C.p, i, none⟩ u) C k' m' v tw := by
  obtain ⟨xs, ho, ht⟩ := h.own
  refine ⟨by rw [rowset h.par, hi], h.toks.below ((Below.refl C.p w).setCell (p := ⟨C.p, i, none⟩) (Nat.le_refl _) u) (Nat.le_refl _), ⟨xs, ownsRow_setCell_below ho (show C.p < C.p + 1 by omega) u, ht.keep fun g cs m hg => set_other _ _ _ _ _ (not_int h.par (by decide) hg)⟩, hk, h.big, hf, hm, by simpa [World.setCell] using h.xlt⟩
/-- Stores of a token into a variable of its own. -/
def st5 (w : World) (r : Nat) (t : Tok) : World := ((((w.setCell ⟨r, 0, none⟩ (.int .i64 t.kind)).setCell ⟨r, 1, none⟩ (.string ⟨t.text.toArray⟩)).setCell ⟨r, 2, none⟩ (.int .i64 t.n)).setCell ⟨r, 3, none⟩ (.int .i64 t.line)).setCell ⟨r, 4, none⟩ (.int .i64 t.col)
theorem st5_other (w : World) (r : Nat) (t : Tok) (b : Nat) (h : b ≠ r) : (st5 w r t).heap[b]? = w.heap[b]? := by
  unfold st5; simp only [set_other _ _ _ _ _ h]
theorem st5_below (w : World) (r : Nat) (t : Tok) : Below r w (st5 w r t) := bset5 (Below.refl _ _) r (Nat.le_refl _) _ _ _ _ _
theorem PS.own_lt {w : World} {C : Cx} {k m : Nat} {v : Value} {tw : List Tw} (h : PS w C k m v tw) (b : Nat) (hb : v.ownBlock = some b) : C.p < b ∧ b < w.heap.size := by
  obtain ⟨xs, ho, _⟩ := h.own
  have := ho.lt b hb
  omega
/-- A parser is as it was where one block, none of its own, has turned. -/
theorem PS.move {w w' : World} {C : Cx} {k m : Nat} {v : Value} {tw : List Tw} (h : PS w C k m v tw) (r : Nat) (hr : C.p < r) (hv : v.ownBlock ≠ some r) {cs : Array Value} {t : TypeId} {mm : Nat × Nat} (ht : w.heap[r]? = some (.cells cs t mm)) (hti : t ≠ 3) (hb : Below r w w') (hk : ∀ b, b ≠ r → b < w.heap.size → w'.heap[b]? = w.heap[b]?) : PS w' C k m v tw := by
  obtain ⟨xs, ho, htw⟩ := h.own
  refine ⟨(hb.block _ hr).trans h.par, h.toks.below hb (by omega), ⟨xs, ?_, htw.keep fun g cs m hg => hk g (not_int ht hti hg) (lt_of_block hg)⟩, h.kle, h.big, h.few, h.nest, fun b hx => Nat.lt_of_lt_of_le (h.xlt b hx) hb.size⟩
  exact ho.kept (row := some r) (w' := w') ⟨hb.os, hb.tape, hb.output, hb.size, fun k hk' hne => hk k (fun e => hne (by rw [e])) hk'⟩ (.inr hv)
def tok0 : Obj := .cells #[.int .i64 0, .string ⟨#[]⟩, .int .i64 0, .int .i64 0, .int .i64 0] 61
/-- What a call leaves of a new block that its caller has just made. -/
theorem Kp.new {w w2 : World} {C : Cx} {k m : Nat} {v v' : Value} {tw : List Tw} (hs : PS w C k m v tw) {o : Obj} (hk : Kp C.p v (w.alloc o) v' w2) : w2.heap[w.heap.size]? = some o ∧ v'.ownBlock ≠ some w.heap.size := by
  have hp := hs.lt
  have hv : v.ownBlock ≠ some w.heap.size := fun e => by have := hs.own_lt _ e; omega
  refine ⟨(hk.block _ (by simp) (by omega) hv).trans (heap_alloc_new w _), fun e => ?_⟩
  rcases hk.own _ e with h | h
  · exact hv h
  · simp at h; omega
theorem Kp.alloc {p : Nat} {v : Value} (w : World) (o : Obj) : Kp p v w v (w.alloc o) := .of ((Below.refl _ _).alloc (Nat.le_refl _) o)
theorem st5_ps {w w2 : World} {C : Cx} {k m k' m' : Nat} {v v' : Value} {tw tw' : List Tw} (hs : PS w C k m v tw) (hk : Kp C.p v (w.alloc tok0) v' w2) (h2 : PS w2 C k' m' v' tw') (t : Tok) : PS (st5 w2 w.heap.size t) C k' m' v' tw' ∧ Kp C.p v w v' (st5 w2 w.heap.size t) := by
  obtain ⟨h1, hv⟩ := hk.new hs
  have hp := hs.lt
  have hz := hk.size
  simp at hz
  refine ⟨h2.move w.heap.size hp hv h1 (by decide) (st5_below _ _ _) fun b hb _ => st5_other _ _ _ _ hb, ?_⟩
  have hk' := (Kp.alloc (p := C.p) (v := v) w tok0).trans hk
  have hb := st5_below w2 w.heap.size t
  exact ⟨hb.os.trans hk'.os, hb.tape.trans hk'.tape, hb.output.trans hk'.output, Nat.le_trans hk'.size hb.size, fun b h1 h2 h3 => (st5_other _ _ _ _ (by omega)).trans (hk'.block b h1 h2 h3), hk'.own⟩
theorem tok5 {w : World} {g : Nat} {a0 a1 a2 a3 a4 : Value} {t : TypeId} (h : w.heap[g]? = some (.cells #[a0, a1, a2, a3, a4] t (0, 0))) :
    w.cell? ⟨g, 0, none⟩ = some a0 ∧ w.cell? ⟨g, 1, none⟩ = some a1 ∧ w.cell? ⟨g, 2, none⟩ = some a2 ∧ w.cell? ⟨g, 3, none⟩ = some a3 ∧ w.cell? ⟨g, 4, none⟩ = some a4 ∧ ∀ i, w.frozen? ⟨g, i, none⟩ = false := by
  refine ⟨?_, ?_, ?_, ?_, ?_, fun i => ?_⟩ <;> simp [World.cell?, World.frozen?, h]

/-- The next token is taken. -/
def Took (C : Cx) (w : World) (k m : Nat) (v : Value) (tw : List Tw) (e : Ending) (w' : World) : Prop := e = .returned (tokV (hd (C.T.drop k))) ∧ PS w' C (k + 1) m v tw ∧ Kp C.p v w v w'
/-- The next token is refused. -/
def Bad (C : Cx) (w : World) (v : Value) (k : Nat) (er : Int) (e : Ending) (w' : World) : Prop := e = .panicked [{ v := diagV (hd (C.T.drop k)) er, recovered := false }] ∧ KpB C.p v w w'
theorem sees_lt {T : List Tok} {k : Nat} {x : Int} (hx : x ≠ 0) (h : ((hd (T.drop k)).kind == x) = true) : k < T.length := by
  rcases Nat.lt_or_ge k T.length with h1 | h1
  · exact h1
  · rw [hd_end T k h1] at h
    simp at h
    omega
theorem seesK_kind {T : List Tok} {k : Nat} {x : Int} {l : List (List UInt8)} (h : seesK x (T.drop k) l = true) : ((hd (T.drop k)).kind == x) = true := by
  unfold seesK at h
  simp only [Bool.and_eq_true] at h
  exact h.1

theorem fin5 {w : World} {r : Nat} {a0 a1 a2 a3 a4 : Value} {tt : TypeId} (h : w.heap[r]? = some (.cells #[a0, a1, a2, a3, a4] tt (0, 0))) (t : Tok) : (st5 w r t).heap[r]? = some (.cells #[.int .i64 t.kind, .string ⟨t.text.toArray⟩, .int .i64 t.n, .int .i64 t.line, .int .i64 t.col] tt (0, 0)) := by
  unfold st5
  rw [rowset (rowset (rowset (rowset (rowset h 0 _) 1 _) 2 _) 3 _) 4 _]
  rfl

theorem field0 (a0 a1 a2 a3 a4 : Value) (w : World) : (Instr.field 61 (.agg #[a0, a1, a2, a3, a4]) 0).run Tryz.prog w = .ok a0 w := by kernel_rfl
theorem field1 (a0 a1 a2 a3 a4 : Value) (w : World) : (Instr.field 61 (.agg #[a0, a1, a2, a3, a4]) 1).run Tryz.prog w = .ok a1 w := by kernel_rfl
theorem field2 (a0 a1 a2 a3 a4 : Value) (w : World) : (Instr.field 61 (.agg #[a0, a1, a2, a3, a4]) 2).run Tryz.prog w = .ok a2 w := by kernel_rfl

set_option maxRecDepth 100000 in
set_option maxHeartbeats 1000000 in
theorem take_ok (C : Cx) (w : World) (k m : Nat) (v : Value) (tw : List Tw) (h : PS w C k m v tw) (hlt : k < C.T.length) :
    Calls Tryz.prog 101 #[C.ptr] w (Took C w k m v tw) := by
  have hp := h.lt
  have hbig := h.big
  have hal := h.after ((Below.refl _ _).alloc (Nat.le_refl _) tok0)
  have HN := Lib.hid (next_ok C (w.alloc tok0) k m v tw hal)
  have HAL := Lib.hid hal
  have HS := Lib.hid h
  clear h hal
  unfold Took Cx.ptr at *
  generalize hd (C.T.drop k) = t at *
  go_enter Tryz.func101, Tryz.ntmps101
  go_wp2_with fail
  refine HN.out.mono ?_
  rintro e w1 ⟨rfl, hb⟩
  have hal1 := HAL.out.after hb
  obtain ⟨c0, c1, c2, c3⟩ := hal1.cells
  have f1 := hal1.free 1
  have hp1 : C.p < w1.heap.size := hal1.lt
  have HK := Lib.hid (Kp.of (p := C.p) (v := v) hb)
  obtain ⟨hnew, hvn⟩ := HK.out.new HS.out
  obtain ⟨r0, r1, r2, r3, r4, r5⟩ := tok5 hnew
  have hz : w.heap.size < w1.heap.size := by have := hb.size; simp at this; omega
  have hne : ¬ C.p = w.heap.size := by omega
  have HAL1 := Lib.hid hal1
  have HNEW := Lib.hid hnew
  clear hb HN hal1 hnew c0 c2 c3 hvn
  unfold tokV
  go_wp2_with fail
  have hfin : PS (w1.setCell ⟨C.p, 1, none⟩ (.int .i64 ((k : Int) + 1))) C (k + 1) m v tw :=
    HAL1.out.setP 1 _ (k + 1) m (by simp) (by omega) (by have := HS.out.few; omega) HS.out.nest
  have hk2 := HK.out.setP 1 (.int .i64 ((k : Int) + 1))
  have hend := st5_ps HS.out hk2 hfin t
  have h5 := fin5 ((set_other w1 C.p 1 (.int .i64 ((k : Int) + 1)) w.heap.size (by omega)).trans HNEW.out) t
  change bodyPost _ _ _ _ _ ((st5 (w1.setCell ⟨C.p, 1, none⟩ (.int .i64 ((k : Int) + 1))) w.heap.size t).alloc _)
  generalize st5 (w1.setCell ⟨C.p, 1, none⟩ (.int .i64 ((k : Int) + 1))) w.heap.size t = w2 at hend h5 ⊢
  obtain ⟨q0, q1, q2, q3, q4, q5⟩ := tok5 h5
  have hz2 : w.heap.size < w2.heap.size := lt_of_block h5
  refine bodyPost_ret (v := tokV t) (by simp [results, Tryz.results101, go_sem, tokV, q0, q1, q2, q3, q4, hz2]) rfl ⟨rfl, hend.1.after ((Below.refl _ _).alloc (Nat.le_refl _) _), hend.2.trans (.alloc _ _)⟩
set_option maxRecDepth 100000 in
set_option maxHeartbeats 1000000 in
theorem takeIf_yes (C : Cx) (w : World) (k m : Nat) (v : Value) (tw : List Tw) (h : PS w C k m v tw) (hlt : k < C.T.length) :
    Calls Tryz.prog 109 #[C.ptr, .bool true] w (Took C w k m v tw) := by
  have hp := h.lt
  have hal := h.after ((Below.refl _ _).alloc (Nat.le_refl _) tok0)
  have hbad : ∀ w1, KpB C.p v (w.alloc tok0) w1 → KpB C.p v w w1 := fun w1 hb => (Kp.alloc _ _).transB hb
  have HBAD := Lib.hid hbad
  have HC := Lib.hid (take_ok C (w.alloc tok0) k m v tw hal hlt)
  have HS := Lib.hid h
  clear h hal hbad
  unfold Took Cx.ptr at *
  generalize hd (C.T.drop k) = t at *
  go_enter Tryz.func109, Tryz.ntmps109
  go_wp2_with fail
  refine HC.out.mono ?_
  rintro e w1 ⟨rfl, h1, hk1⟩
  clear HC
  obtain ⟨hnew, hvn⟩ := hk1.new HS.out
  obtain ⟨r0, r1, r2, r3, r4, r5⟩ := tok5 hnew
  have HK := Lib.hid hk1
  have H1 := Lib.hid h1
  have HNEW := Lib.hid hnew
  clear hk1 h1 hnew hvn
  unfold tokV
  go_wp2_with fail
  have hend := st5_ps HS.out HK.out H1.out t
  have h5 := fin5 HNEW.out t
  change bodyPost _ _ _ _ _ (st5 w1 w.heap.size t)
  generalize st5 w1 w.heap.size t = w2 at hend h5 ⊢
  obtain ⟨q0, q1, q2, q3, q4, q5⟩ := tok5 h5
  exact bodyPost_ret (v := tokV t) (by simp [results, Tryz.results109, go_sem, tokV, q0, q1, q2, q3, q4]) rfl ⟨rfl, hend.1, hend.2⟩
set_option maxRecDepth 100000 in
set_option maxHeartbeats 1000000 in
theorem takeIf_no (C : Cx) (w : World) (k m : Nat) (v : Value) (tw : List Tw) (h : PS w C k m v tw) :
    Calls Tryz.prog 109 #[C.ptr, .bool false] w (Bad C w v k 4) := by
  have hp := h.lt
  have hal := h.after ((Below.refl _ _).alloc (Nat.le_refl _) tok0)
  have hbad : ∀ w1, KpB C.p v (w.alloc tok0) w1 → KpB C.p v w w1 := fun w1 hb => (Kp.alloc _ _).transB hb
  have HBAD := Lib.hid hbad
  have HC := Lib.hid (refuse_ok C (w.alloc tok0) k m v tw 4 hal)
  clear h hal hbad
  unfold Bad Cx.ptr at *
  generalize hd (C.T.drop k) = t at *
  go_enter Tryz.func109, Tryz.ntmps109
  go_wp2_with fail
  refine HC.out.mono ?_
  rintro e w1 ⟨rfl, hb⟩
  go_wp2_with fail
  exact ⟨rfl, rfl, HBAD.out _ (KpB.of hb)⟩
set_option maxRecDepth 100000 in
set_option maxHeartbeats 1000000 in
theorem takeWord_yes (C : Cx) (w : World) (k m : Nat) (v : Value) (tw : List Tw) (l : List (List UInt8)) (g c : Nat) (h : PS w C k m v tw) (hs : Strs w g l) (hg : g < w.heap.size) (hl : l.length ≤ 1000) (hx : seesW (C.T.drop k) l = true) :
    Calls Tryz.prog 93 #[C.ptr, .slice (some ⟨g, 0, none⟩) l.length c] w (Took C w k m v tw) := by
  have hp := h.lt
  have hal := h.after ((Below.refl _ _).alloc (Nat.le_refl _) tok0)
  have hbad : ∀ w1, KpB C.p v (w.alloc tok0) w1 → KpB C.p v w w1 := fun w1 hb => (Kp.alloc _ _).transB hb
  have HBAD := Lib.hid hbad
  have hsee := seesWord_ok C (w.alloc tok0) k m v tw l g c hal (hs.below ((Below.refl _ _).alloc (Nat.le_refl _) _) hg) (by simp; omega) hl
  rw [hx] at hsee
  have HSEE := Lib.hid hsee
  have HS := Lib.hid h
  have HAL := Lib.hid hal
  have hlt : k < C.T.length := sees_lt (x := 2) (by decide) (seesK_kind hx)
  have HC := Lib.hid (fun w' ha => takeIf_yes C w' k m v tw ha hlt)
  clear h hal hsee hs hx hbad
  unfold Took Cx.ptr at *
  generalize hd (C.T.drop k) = t at *
  go_enter Tryz.func93, Tryz.ntmps93
  go_wp2_with fail
  refine HSEE.out.mono ?_
  rintro e w0 ⟨rfl, hb0⟩
  have hal0 := HAL.out.after hb0
  have HB0 := Lib.hid hb0
  have HAL0 := Lib.hid hal0
  clear hb0 hal0 HSEE HAL
  go_wp2_with fail
  refine (HC.out _ HAL0.out).mono ?_
  rintro e w1 ⟨rfl, h1, hk1'⟩
  have hk1 := (Kp.of (p := C.p) (v := v) HB0.out).trans hk1'
  clear HC hk1' HAL0 HB0
  obtain ⟨hnew, hvn⟩ := hk1.new HS.out
  obtain ⟨r0, r1, r2, r3, r4, r5⟩ := tok5 hnew
  have HK := Lib.hid hk1
  have H1 := Lib.hid h1
  have HNEW := Lib.hid hnew
  clear hk1 h1 hnew hvn
  unfold tokV
  go_wp2_with fail
  have hend := st5_ps HS.out HK.out H1.out t
  have h5 := fin5 HNEW.out t
  change bodyPost _ _ _ _ _ (st5 w1 w.heap.size t)
  generalize st5 w1 w.heap.size t = w2 at hend h5 ⊢
  obtain ⟨q0, q1, q2, q3, q4, q5⟩ := tok5 h5
  exact bodyPost_ret (v := tokV t) (by simp [results, Tryz.results93, go_sem, tokV, q0, q1, q2, q3, q4]) rfl ⟨rfl, hend.1, hend.2⟩
set_option maxRecDepth 100000 in
set_option maxHeartbeats 1000000 in
theorem takeWord_no (C : Cx) (w : World) (k m : Nat) (v : Value) (tw : List Tw) (l : List (List UInt8)) (g c : Nat) (h : PS w C k m v tw) (hs : Strs w g l) (hg : g < w.heap.size) (hl : l.length ≤ 1000) (hx : seesW (C.T.drop k) l = false) :
    Calls Tryz.prog 93 #[C.ptr, .slice (some ⟨g, 0, none⟩) l.length c] w (Bad C w v k 4) := by
  have hp := h.lt
  have hal := h.after ((Below.refl _ _).alloc (Nat.le_refl _) tok0)
  have hbad : ∀ w1, KpB C.p v (w.alloc tok0) w1 → KpB C.p v w w1 := fun w1 hb => (Kp.alloc _ _).transB hb
  have HBAD := Lib.hid hbad
  have hsee := seesWord_ok C (w.alloc tok0) k m v tw l g c hal (hs.below ((Below.refl _ _).alloc (Nat.le_refl _) _) hg) (by simp; omega) hl
  rw [hx] at hsee
  have HSEE := Lib.hid hsee
  have HS := Lib.hid h
  have HAL := Lib.hid hal
  have HC := Lib.hid (fun w' ha => takeIf_no C w' k m v tw ha)
  clear h hal hsee hs hx hbad
  unfold Bad Cx.ptr at *
  generalize hd (C.T.drop k) = t at *
  go_enter Tryz.func93, Tryz.ntmps93
  go_wp2_with fail
  refine HSEE.out.mono ?_
  rintro e w0 ⟨rfl, hb0⟩
  have hal0 := HAL.out.after hb0
  have HB0 := Lib.hid hb0
  have HAL0 := Lib.hid hal0
  clear hb0 hal0 HSEE HAL
  go_wp2_with fail
  refine (HC.out _ HAL0.out).mono ?_
  rintro e w1 ⟨rfl, hb⟩
  go_wp2_with fail
  exact ⟨rfl, rfl, HBAD.out _ ((Kp.of HB0.out).transB hb)⟩
set_option maxRecDepth 100000 in
set_option maxHeartbeats 1000000 in
theorem takeMark_yes (C : Cx) (w : World) (k m : Nat) (v : Value) (tw : List Tw) (l : List (List UInt8)) (g c : Nat) (h : PS w C k m v tw) (hs : Strs w g l) (hg : g < w.heap.size) (hl : l.length ≤ 1000) (hx : seesM (C.T.drop k) l = true) :
    Calls Tryz.prog 103 #[C.ptr, .slice (some ⟨g, 0, none⟩) l.length c] w (Took C w k m v tw) := by
  have hp := h.lt
  have hal := h.after ((Below.refl _ _).alloc (Nat.le_refl _) tok0)
  have hbad : ∀ w1, KpB C.p v (w.alloc tok0) w1 → KpB C.p v w w1 := fun w1 hb => (Kp.alloc _ _).transB hb
  have HBAD := Lib.hid hbad
  have hsee := seesMark_ok C (w.alloc tok0) k m v tw l g c hal (hs.below ((Below.refl _ _).alloc (Nat.le_refl _) _) hg) (by simp; omega) hl
  rw [hx] at hsee
  have HSEE := Lib.hid hsee
  have HS := Lib.hid h
  have HAL := Lib.hid hal
  have hlt : k < C.T.length := sees_lt (x := 4) (by decide) (seesK_kind hx)
  have HC := Lib.hid (fun w' ha => takeIf_yes C w' k m v tw ha hlt)
  clear h hal hsee hs hx hbad
  unfold Took Cx.ptr at *
  generalize hd (C.T.drop k) = t at *
  go_enter Tryz.func103, Tryz.ntmps103
  go_wp2_with fail
  refine HSEE.out.mono ?_
  rintro e w0 ⟨rfl, hb0⟩
  have hal0 := HAL.out.after hb0
  have HB0 := Lib.hid hb0
  have HAL0 := Lib.hid hal0
  clear hb0 hal0 HSEE HAL
  go_wp2_with fail
  refine (HC.out _ HAL0.out).mono ?_
  rintro e w1 ⟨rfl, h1, hk1'⟩
  have hk1 := (Kp.of (p := C.p) (v := v) HB0.out).trans hk1'
  clear HC hk1' HAL0 HB0
  obtain ⟨hnew, hvn⟩ := hk1.new HS.out
  obtain ⟨r0, r1, r2, r3, r4, r5⟩ := tok5 hnew
  have HK := Lib.hid hk1
  have H1 := Lib.hid h1
  have HNEW := Lib.hid hnew
  clear hk1 h1 hnew hvn
  unfold tokV
  go_wp2_with fail
  have hend := st5_ps HS.out HK.out H1.out t
  have h5 := fin5 HNEW.out t
  change bodyPost _ _ _ _ _ (st5 w1 w.heap.size t)
  generalize st5 w1 w.heap.size t = w2 at hend h5 ⊢
  obtain ⟨q0, q1, q2, q3, q4, q5⟩ := tok5 h5
  exact bodyPost_ret (v := tokV t) (by simp [results, Tryz.results103, go_sem, tokV, q0, q1, q2, q3, q4]) rfl ⟨rfl, hend.1, hend.2⟩
set_option maxRecDepth 100000 in
set_option maxHeartbeats 1000000 in
theorem takeMark_no (C : Cx) (w : World) (k m : Nat) (v : Value) (tw : List Tw) (l : List (List UInt8)) (g c : Nat) (h : PS w C k m v tw) (hs : Strs w g l) (hg : g < w.heap.size) (hl : l.length ≤ 1000) (hx : seesM (C.T.drop k) l = false) :
    Calls Tryz.prog 103 #[C.ptr, .slice (some ⟨g, 0, none⟩) l.length c] w (Bad C w v k 4) := by
  have hp := h.lt
  have hal := h.after ((Below.refl _ _).alloc (Nat.le_refl _) tok0)
  have hbad : ∀ w1, KpB C.p v (w.alloc tok0) w1 → KpB C.p v w w1 := fun w1 hb => (Kp.alloc _ _).transB hb
  have HBAD := Lib.hid hbad
  have hsee := seesMark_ok C (w.alloc tok0) k m v tw l g c hal (hs.below ((Below.refl _ _).alloc (Nat.le_refl _) _) hg) (by simp; omega) hl
  rw [hx] at hsee
  have HSEE := Lib.hid hsee
  have HS := Lib.hid h
  have HAL := Lib.hid hal
  have HC := Lib.hid (fun w' ha => takeIf_no C w' k m v tw ha)
  clear h hal hsee hs hx hbad
  unfold Bad Cx.ptr at *
  generalize hd (C.T.drop k) = t at *
  go_enter Tryz.func103, Tryz.ntmps103
  go_wp2_with fail
  refine HSEE.out.mono ?_
  rintro e w0 ⟨rfl, hb0⟩
  have hal0 := HAL.out.after hb0
  have HB0 := Lib.hid hb0
  have HAL0 := Lib.hid hal0
  clear hb0 hal0 HSEE HAL
  go_wp2_with fail
  refine (HC.out _ HAL0.out).mono ?_
  rintro e w1 ⟨rfl, hb⟩
  go_wp2_with fail
  exact ⟨rfl, rfl, HBAD.out _ ((Kp.of HB0.out).transB hb)⟩
set_option maxRecDepth 100000 in
set_option maxHeartbeats 1000000 in
theorem takeName_yes (C : Cx) (w : World) (k m : Nat) (v : Value) (tw : List Tw) (h : PS w C k m v tw) (hx : ((hd (C.T.drop k)).kind == 1) = true) :
    Calls Tryz.prog 102 #[C.ptr] w (Took C w k m v tw) := by
  have hp := h.lt
  have hal := h.after ((Below.refl _ _).alloc (Nat.le_refl _) tok0)
  have hbad : ∀ w1, KpB C.p v (w.alloc tok0) w1 → KpB C.p v w w1 := fun w1 hb => (Kp.alloc _ _).transB hb
  have HBAD := Lib.hid hbad
  have HSEE := Lib.hid (next_ok C (w.alloc tok0) k m v tw hal)
  have HS := Lib.hid h
  have HAL := Lib.hid hal
  have hlt : k < C.T.length := sees_lt (x := 1) (by decide) hx
  have HC := Lib.hid (fun w' ha => takeIf_yes C w' k m v tw ha hlt)
  clear h hal hbad
  unfold Took Cx.ptr at *
  generalize hd (C.T.drop k) = t at *
  have hfd := field0
  go_enter Tryz.func102, Tryz.ntmps102
  go_wp2_with fail
  refine HSEE.out.mono ?_
  rintro e w0 ⟨rfl, hb0⟩
  have hal0 := HAL.out.after hb0
  have HB0 := Lib.hid hb0
  have HAL0 := Lib.hid hal0
  clear hb0 hal0 HSEE HAL
  unfold tokV
  go_wp2_with fail
  refine (HC.out _ HAL0.out).mono ?_
  rintro e w1 ⟨rfl, h1, hk1'⟩
  have hk1 := (Kp.of (p := C.p) (v := v) HB0.out).trans hk1'
  clear HC hk1' HAL0 HB0
  obtain ⟨hnew, hvn⟩ := hk1.new HS.out
  obtain ⟨r0, r1, r2, r3, r4, r5⟩ := tok5 hnew
  have HK := Lib.hid hk1
  have H1 := Lib.hid h1
  have HNEW := Lib.hid hnew
  clear hk1 h1 hnew hvn
  unfold tokV
  go_wp2_with fail
  have hend := st5_ps HS.out HK.out H1.out t
  have h5 := fin5 HNEW.out t
  change bodyPost _ _ _ _ _ (st5 w1 w.heap.size t)
  generalize st5 w1 w.heap.size t = w2 at hend h5 ⊢
  obtain ⟨q0, q1, q2, q3, q4, q5⟩ := tok5 h5
  exact bodyPost_ret (v := tokV t) (by simp [results, Tryz.results102, go_sem, tokV, q0, q1, q2, q3, q4]) rfl ⟨rfl, hend.1, hend.2⟩
set_option maxRecDepth 100000 in
set_option maxHeartbeats 1000000 in
theorem takeName_no (C : Cx) (w : World) (k m : Nat) (v : Value) (tw : List Tw) (h : PS w C k m v tw) (hx : ((hd (C.T.drop k)).kind == 1) = false) :
    Calls Tryz.prog 102 #[C.ptr] w (Bad C w v k 4) := by
  have hp := h.lt
  have hal := h.after ((Below.refl _ _).alloc (Nat.le_refl _) tok0)
  have hbad : ∀ w1, KpB C.p v (w.alloc tok0) w1 → KpB C.p v w w1 := fun w1 hb => (Kp.alloc _ _).transB hb
  have HBAD := Lib.hid hbad
  have HSEE := Lib.hid (next_ok C (w.alloc tok0) k m v tw hal)
  have HS := Lib.hid h
  have HAL := Lib.hid hal
  have HC := Lib.hid (fun w' ha => takeIf_no C w' k m v tw ha)
  clear h hal hbad
  unfold Bad Cx.ptr at *
  generalize hd (C.T.drop k) = t at *
  have hfd := field0
  go_enter Tryz.func102, Tryz.ntmps102
  go_wp2_with fail
  refine HSEE.out.mono ?_
  rintro e w0 ⟨rfl, hb0⟩
  have hal0 := HAL.out.after hb0
  have HB0 := Lib.hid hb0
  have HAL0 := Lib.hid hal0
  clear hb0 hal0 HSEE HAL
  unfold tokV
  go_wp2_with fail
  refine (HC.out _ HAL0.out).mono ?_
  rintro e w1 ⟨rfl, hb⟩
  go_wp2_with fail
  exact ⟨rfl, rfl, HBAD.out _ ((Kp.of HB0.out).transB hb)⟩
set_option maxRecDepth 100000 in
set_option maxHeartbeats 1000000 in
theorem takeNumber_yes (C : Cx) (w : World) (k m : Nat) (v : Value) (tw : List Tw) (h : PS w C k m v tw) (hx : ((hd (C.T.drop k)).kind == 3) = true) :
    Calls Tryz.prog 131 #[C.ptr] w (Took C w k m v tw) := by
  have hp := h.lt
  have hal := h.after ((Below.refl _ _).alloc (Nat.le_refl _) tok0)
  have hbad : ∀ w1, KpB C.p v (w.alloc tok0) w1 → KpB C.p v w w1 := fun w1 hb => (Kp.alloc _ _).transB hb
  have HBAD := Lib.hid hbad
  have HSEE := Lib.hid (next_ok C (w.alloc tok0) k m v tw hal)
  have HS := Lib.hid h
  have HAL := Lib.hid hal
  have hlt : k < C.T.length := sees_lt (x := 3) (by decide) hx
  have HC := Lib.hid (fun w' ha => takeIf_yes C w' k m v tw ha hlt)
  clear h hal hbad
  unfold Took Cx.ptr at *
  generalize hd (C.T.drop k) = t at *
  have hfd := field0
  go_enter Tryz.func131, Tryz.ntmps131
  go_wp2_with fail
  refine HSEE.out.mono ?_
  rintro e w0 ⟨rfl, hb0⟩
  have hal0 := HAL.out.after hb0
  have HB0 := Lib.hid hb0
  have HAL0 := Lib.hid hal0
  clear hb0 hal0 HSEE HAL
  unfold tokV
  go_wp2_with fail
  refine (HC.out _ HAL0.out).mono ?_
  rintro e w1 ⟨rfl, h1, hk1'⟩
  have hk1 := (Kp.of (p := C.p) (v := v) HB0.out).trans hk1'
  clear HC hk1' HAL0 HB0
  obtain ⟨hnew, hvn⟩ := hk1.new HS.out
  obtain ⟨r0, r1, r2, r3, r4, r5⟩ := tok5 hnew
  have HK := Lib.hid hk1
  have H1 := Lib.hid h1
  have HNEW := Lib.hid hnew
  clear hk1 h1 hnew hvn
  unfold tokV
  go_wp2_with fail
  have hend := st5_ps HS.out HK.out H1.out t
  have h5 := fin5 HNEW.out t
  change bodyPost _ _ _ _ _ (st5 w1 w.heap.size t)
  generalize st5 w1 w.heap.size t = w2 at hend h5 ⊢
  obtain ⟨q0, q1, q2, q3, q4, q5⟩ := tok5 h5
  exact bodyPost_ret (v := tokV t) (by simp [results, Tryz.results131, go_sem, tokV, q0, q1, q2, q3, q4]) rfl ⟨rfl, hend.1, hend.2⟩
set_option maxRecDepth 100000 in
set_option maxHeartbeats 1000000 in
theorem takeNumber_no (C : Cx) (w : World) (k m : Nat) (v : Value) (tw : List Tw) (h : PS w C k m v tw) (hx : ((hd (C.T.drop k)).kind == 3) = false) :
    Calls Tryz.prog 131 #[C.ptr] w (Bad C w v k 4) := by
  have hp := h.lt
  have hal := h.after ((Below.refl _ _).alloc (Nat.le_refl _) tok0)
  have hbad : ∀ w1, KpB C.p v (w.alloc tok0) w1 → KpB C.p v w w1 := fun w1 hb => (Kp.alloc _ _).transB hb
  have HBAD := Lib.hid hbad
  have HSEE := Lib.hid (next_ok C (w.alloc tok0) k m v tw hal)
  have HS := Lib.hid h
  have HAL := Lib.hid hal
  have HC := Lib.hid (fun w' ha => takeIf_no C w' k m v tw ha)
  clear h hal hbad
  unfold Bad Cx.ptr at *
  generalize hd (C.T.drop k) = t at *
  have hfd := field0
  go_enter Tryz.func131, Tryz.ntmps131
  go_wp2_with fail
  refine HSEE.out.mono ?_
  rintro e w0 ⟨rfl, hb0⟩
  have hal0 := HAL.out.after hb0
  have HB0 := Lib.hid hb0
  have HAL0 := Lib.hid hal0
  clear hb0 hal0 HSEE HAL
  unfold tokV
  go_wp2_with fail
  refine (HC.out _ HAL0.out).mono ?_
  rintro e w1 ⟨rfl, hb⟩
  go_wp2_with fail
  exact ⟨rfl, rfl, HBAD.out _ ((Kp.of HB0.out).transB hb)⟩
set_option maxRecDepth 100000 in
set_option maxHeartbeats 1000000 in
theorem enter_ok (C : Cx) (w : World) (k m : Nat) (v : Value) (tw : List Tw) (h : PS w C k m v tw) (hlt : k < C.T.length) (hm : m < 64) :
    Calls Tryz.prog 111 #[C.ptr] w (fun e w' => e = .returned (tokV (hd (C.T.drop k))) ∧ PS w' C (k + 1) (m + 1) v tw ∧ Kp C.p v w v w') := by
  have hp := h.lt
  have hal := h.after ((Below.refl _ _).alloc (Nat.le_refl _) tok0)
  have hset : PS ((w.alloc tok0).setCell ⟨C.p, 2, none⟩ (.int .i64 ((m : Int) + 1))) C k (m + 1) v tw := hal.setP 2 _ k (m + 1) (by simp) h.kle h.few (by omega)
  have hks : Kp C.p v (w.alloc tok0) v ((w.alloc tok0).setCell ⟨C.p, 2, none⟩ (.int .i64 ((m : Int) + 1))) := (Kp.refl _ _ _).setP 2 _
  obtain ⟨c0, c1, c2, c3⟩ := h.cells
  have f2 := h.free 2
  have HS := Lib.hid h
  have HSET := Lib.hid hset
  have HKS := Lib.hid hks
  have hm1 : ((m : Int) == 64) = false := by simp; omega
  have hm2 : (m == 64) = false := by simp; omega
  have hne : ¬ C.p = w.heap.size := by omega
  have hne' : ¬ w.heap.size = C.p := by omega
  clear h hal hset hks c0 c1 c3
  have HC := Lib.hid (fun w' ha => take_ok C w' k (m + 1) v tw ha hlt)
  unfold Took Cx.ptr at *
  generalize hd (C.T.drop k) = t at *
  go_enter Tryz.func111, Tryz.ntmps111
  go_wp2_with fail
  have hsw : ((w.setCell ⟨C.p, 2, none⟩ (.int .i64 ((m : Int) + 1))).alloc tok0) = (w.alloc tok0).setCell ⟨C.p, 2, none⟩ (.int .i64 ((m : Int) + 1)) := (World.setCell_alloc_past _ _ _ _ hp).symm
  refine (HC.out _ (by have := HSET.out; rw [← hsw] at this; exact this)).mono ?_
  rintro e w1 ⟨rfl, h1, hk1'⟩
  have hk1 : Kp C.p v (w.alloc tok0) v w1 := by
    refine HKS.out.trans ?_
    rw [← hsw]
    exact hk1'
  clear HC hk1' hsw HKS HSET
  obtain ⟨hnew, hvn⟩ := hk1.new HS.out
  obtain ⟨r0, r1, r2, r3, r4, r5⟩ := tok5 hnew
  have HK := Lib.hid hk1
  have H1 := Lib.hid h1
  have HNEW := Lib.hid hnew
  clear hk1 h1 hnew hvn
  unfold tokV
  go_wp2_with fail
  have hend := st5_ps HS.out HK.out H1.out t
  have h5 := fin5 HNEW.out t
  change bodyPost _ _ _ _ _ (st5 w1 w.heap.size t)
  generalize st5 w1 w.heap.size t = w2 at hend h5 ⊢
  obtain ⟨q0, q1, q2, q3, q4, q5⟩ := tok5 h5
  exact bodyPost_ret (v := tokV t) (by simp [results, Tryz.results111, go_sem, tokV, q0, q1, q2, q3, q4]) rfl ⟨rfl, hend.1, hend.2⟩
set_option maxRecDepth 100000 in
set_option maxHeartbeats 1000000 in
theorem enter_bad (C : Cx) (w : World) (k : Nat) (v : Value) (tw : List Tw) (h : PS w C k 64 v tw) :
    Calls Tryz.prog 111 #[C.ptr] w (Bad C w v k 5) := by
  have hp := h.lt
  have hal := h.after ((Below.refl _ _).alloc (Nat.le_refl _) tok0)
  obtain ⟨c0, c1, c2, c3⟩ := h.cells
  have hbad : ∀ w1, KpB C.p v (w.alloc tok0) w1 → KpB C.p v w w1 := fun w1 hb => (Kp.alloc _ _).transB hb
  have HBAD := Lib.hid hbad
  have HC := Lib.hid (refuse_ok C (w.alloc tok0) k 64 v tw 5 hal)
  clear h hal hbad c0 c1 c3
  unfold Bad Cx.ptr at *
  generalize hd (C.T.drop k) = t at *
  have c2' : w.cell? ⟨C.p, 2, none⟩ = some (.int .i64 64) := c2
  clear c2
  go_enter Tryz.func111, Tryz.ntmps111
  go_wp2_with fail
  refine HC.out.mono ?_
  rintro e w1 ⟨rfl, hb⟩
  go_wp2_with fail
  exact ⟨rfl, rfl, HBAD.out _ (KpB.of hb)⟩
set_option maxRecDepth 100000 in
set_option maxHeartbeats 1000000 in
theorem leave_ok (C : Cx) (w : World) (k m : Nat) (v : Value) (tw : List Tw) (h : PS w C k (m + 1) v tw) :
    Calls Tryz.prog 113 #[C.ptr] w (fun e w' => e = .returned (.tuple #[]) ∧ PS w' C k m v tw ∧ Kp C.p v w v w') := by
  obtain ⟨c0, c1, c2, c3⟩ := h.cells
  have f2 := h.free 2
  have hset : PS (w.setCell ⟨C.p, 2, none⟩ (.int .i64 (m : Int))) C k m v tw := h.setP 2 _ k m (by simp) h.kle h.few (by have := h.nest; omega)
  have hks : Kp C.p v w v (w.setCell ⟨C.p, 2, none⟩ (.int .i64 (m : Int))) := (Kp.refl _ _ _).setP 2 _
  have hm := h.nest
  have HSET := Lib.hid hset
  have HKS := Lib.hid hks
  have c2' : w.cell? ⟨C.p, 2, none⟩ = some (.int .i64 ((m : Int) + 1)) := by rw [c2]; simp
  clear h c0 c1 c2 c3 hset hks
  unfold Cx.ptr
  go_enter Tryz.func113, Tryz.ntmps113
  go_wp2_with fail
  go_end0
  exact ⟨rfl, HSET.out, HKS.out⟩
end Go.Proofs.YtehdljcmeimbcaaGreat

namespace Go.Proofs.YtehdljcmeimbcaaGreat
open Go.RowKit

theorem infoTwig : (Tryz.prog.info? 39).map (fun i => (i.zero, i.size, i.bytes)) = some (some (.agg #[.int .i64 0, .string ⟨#[]⟩, .int .i64 0, .int .i64 0, .int .i64 0, .slice none 0 0]), 6, 72) := by kernel_rfl
def twV (k : Int) (s : List UInt8) (n : Int) : Value := .agg #[.int .i64 k, .string ⟨s.toArray⟩, .int .i64 n, .int .i64 0, .int .i64 0, .slice none 0 0]

theorem Tws.snoc {w : World} {X : List Nat} {t : Tw} {kv : Value} (hk : IntRow w X kv t.kids) : ∀ {tw : List Tw} {xs : List Value}, Tws w X tw xs → Tws w X (tw ++ [t]) (xs ++ twCells t kv)
  | [], xs, h => by
    have h' : xs = [] := h
    subst h'
    exact ⟨kv, [], by simp, hk, rfl⟩
  | _ :: _, _, ⟨kv', ys, e, h1, h2⟩ => ⟨kv', ys ++ twCells t kv, by rw [e, List.append_assoc], h1, Tws.snoc hk h2⟩
/-- The block of a row that is owned is of the row's type. -/
theorem own_type {w : World} {base : Nat} {e : TypeId} {size n : Nat} {v : Value} {xs : List Value} (h : w.ownsRow base e size v n xs) (g : Nat) (hg : v.ownBlock = some g) : ∃ cur, w.heap[g]? = some (.cells cur e (0, 0)) := by
  rcases h.2 with ⟨rfl, _⟩ | ⟨g', cap, cur, rfl, _, hh, _⟩
  · simp [Value.ownBlock] at hg
  · simp [Value.ownBlock] at hg
    subst hg
    exact ⟨cur, hh⟩
/-- A twig more. -/
theorem PS.grow {w W w1 : World} {C : Cx} {k m : Nat} {v v' : Value} {tw : List Tw} {xs : List Value} {t : Tw} {kv : Value} (h : PS w C k m v tw) (hx : w.ownsRow (C.p + 1) 39 6 v tw.length xs) (ht : Tws w C.X tw xs) (hi : IntRow w C.X kv t.kids) (hB : Below w.heap.size w W)
    (hg : W.grownBy w1 v.ownBlock) (ho : w1.ownsRow (C.p + 1) 39 6 v' (tw.length + 1) (xs ++ twCells t kv)) (hat : ∀ g, v'.ownBlock = some g → v.ownBlock = some g ∨ w.heap.size ≤ g) (hf : tw.length + 1 ≤ 2 * k + 1) :
    PS (w1.setCell ⟨C.p, 3, none⟩ v') C k m v' (tw ++ [t]) ∧ Kp C.p v w v' (w1.setCell ⟨C.p, 3, none⟩ v') := by
  have hp := h.lt
  have hne : v.ownBlock ≠ some C.p := fun e => by have := h.own_lt _ e; omega
  have hblk : ∀ b, b < w.heap.size → v.ownBlock ≠ some b → w1.heap[b]? = w.heap[b]? := fun b hb hv => (hg.block b (Nat.lt_of_lt_of_le hb hB.size) (fun e => hv e.symm)).trans (hB.block b hb)
  have hint : ∀ (g : Nat) (cs : Array Value) (mm : Nat × Nat), w.heap[g]? = some (Obj.cells cs 3 mm) → (w1.setCell ⟨C.p, 3, none⟩ v').heap[g]? = w.heap[g]? := fun g cs mm hgi => by
    rw [set_other _ _ _ _ _ (not_int h.par (by decide) hgi)]
    refine hblk g (lt_of_block hgi) fun e => ?_
    obtain ⟨cur, hc⟩ := own_type hx g e
    exact not_int hc (by decide) hgi rfl
  have hb1 : Below C.p w (w1.setCell ⟨C.p, 3, none⟩ v') :=
    ⟨hg.os.trans hB.os, hg.tape.trans hB.tape, hg.output.trans hB.output, by simpa [World.setCell] using Nat.le_trans hB.size hg.size,
     fun b hb => (set_other _ _ _ _ _ (by omega)).trans (hblk b (by omega) fun e => by have := h.own_lt _ e; omega)⟩
  refine ⟨⟨?_, h.toks.below hb1 (Nat.le_refl _), ⟨_, ?_, Tws.snoc (hi.keep hint) (ht.keep hint)⟩, h.kle, h.big, by simpa using hf, h.nest, fun b hx => Nat.lt_of_lt_of_le (h.xlt b hx) hb1.size⟩, ⟨hb1.os, hb1.tape, hb1.output, hb1.size, fun b hb hbp hv => (set_other _ _ _ _ _ hbp).trans (hblk b hb hv), hat⟩⟩
  · rw [rowset ((hblk C.p hp hne).trans h.par) 3 v']
    rfl
  · rw [List.length_append]
    exact ownsRow_setCell_below ho (show C.p < C.p + 1 by omega) v'

set_option maxRecDepth 100000 in
set_option maxHeartbeats 1000000 in
theorem add_ok (C : Cx) (w : World) (k m : Nat) (v : Value) (tw : List Tw) (t : Tok) (kd : Int) (s : List UInt8) (n : Int) (kv : Value) (ids : List Int) (h : PS w C k m v tw) (hi : IntRow w C.X kv ids) (hf : tw.length + 1 ≤ 2 * k + 1) :
    Calls Tryz.prog 76 #[C.ptr, tokV t, twV kd s n, kv] w fun e w' => e = .returned (.int .i64 (tw.length : Int)) ∧ ∃ v', PS w' C k m v' (tw ++ [⟨kd, s, n, t.line, t.col, ids⟩]) ∧ Kp C.p v w v' w' := by
  obtain ⟨i0, hi0, hz0, hz1, hz2⟩ := info_parts infoTwig
  obtain ⟨xs, ho, htw⟩ := h.own
  have HI := Lib.hid hi
  obtain ⟨vA, vc, rfl⟩ := own_form ho
  obtain ⟨kA, kc, rfl, _⟩ := hi
  obtain ⟨c0, c1, c2, c3⟩ := h.cells
  have hp := h.lt
  have f3 := h.free 3
  have hlen : tw.length ≤ 2000001 := by have := h.few; have := h.kle; have := h.big; omega
  have hvp : (Value.slice vA tw.length vc).ownBlock ≠ some C.p := fun e => by have := h.own_lt _ e; omega
  have HS := Lib.hid h
  have HO := Lib.hid ho
  have HT := Lib.hid htw
  have HV := Lib.hid hvp
  clear h ho htw c0 c1 c2 hvp
  unfold Cx.ptr tokV twV
  go_enter Tryz.func76, Tryz.ntmps76
  go_wp2_with fail
  go_region
  have hB : Below w.heap.size w ((w.alloc (.cells #[.int .i64 t.kind, .string ⟨t.text.toArray⟩, .int .i64 t.n, .int .i64 t.line, .int .i64 t.col] 61)).alloc (.cells #[.int .i64 kd, .string ⟨s.toArray⟩, .int .i64 n, .int .i64 t.line, .int .i64 t.col, .slice kA ids.length kc] 39)).drew :=
    (((Below.refl _ _).alloc (Nat.le_refl _) _).alloc (by simp) _).drew
  have hbl : ((w.alloc (.cells #[.int .i64 t.kind, .string ⟨t.text.toArray⟩, .int .i64 t.n, .int .i64 t.line, .int .i64 t.col] 61)).alloc (.cells #[.int .i64 kd, .string ⟨s.toArray⟩, .int .i64 n, .int .i64 t.line, .int .i64 t.col, .slice kA ids.length kc] 39)).drew.heap[w.heap.size + 1]? = some (.cells #[.int .i64 kd, .string ⟨s.toArray⟩, .int .i64 n, .int .i64 t.line, .int .i64 t.col, .slice kA ids.length kc] 39 (0, 0)) := by
    have := heap_alloc_new (w.alloc (.cells #[.int .i64 t.kind, .string ⟨t.text.toArray⟩, .int .i64 t.n, .int .i64 t.line, .int .i64 t.col] 61)) (.cells #[.int .i64 kd, .string ⟨s.toArray⟩, .int .i64 n, .int .i64 t.line, .int .i64 t.col, .slice kA ids.length kc] 39)
    simp only [World.size_alloc] at this
    exact this
  generalize ((w.alloc (.cells #[.int .i64 t.kind, .string ⟨t.text.toArray⟩, .int .i64 t.n, .int .i64 t.line, .int .i64 t.col] 61)).alloc (.cells #[.int .i64 kd, .string ⟨s.toArray⟩, .int .i64 n, .int .i64 t.line, .int .i64 t.col, .slice kA ids.length kc] 39)).drew = W at hB hbl ⊢
  have d3 := (hB.cell (p := ⟨C.p, 3, none⟩) hp).trans c3
  have g3 := (hB.frozen (p := ⟨C.p, 3, none⟩) hp).trans f3
  have b0 : W.cell? ⟨w.heap.size + 1, 0, none⟩ = some (.int .i64 kd) := by simp [World.cell?, hbl]
  have b1 : W.cell? ⟨w.heap.size + 1, 1, none⟩ = some (.string ⟨s.toArray⟩) := by simp [World.cell?, hbl]
  have b2 : W.cell? ⟨w.heap.size + 1, 2, none⟩ = some (.int .i64 n) := by simp [World.cell?, hbl]
  have b3 : W.cell? ⟨w.heap.size + 1, 3, none⟩ = some (.int .i64 t.line) := by simp [World.cell?, hbl]
  have b4 : W.cell? ⟨w.heap.size + 1, 4, none⟩ = some (.int .i64 t.col) := by simp [World.cell?, hbl]
  have b5 : W.cell? ⟨w.heap.size + 1, 5, none⟩ = some (.slice kA ids.length kc) := by simp [World.cell?, hbl]
  have hW : C.p < W.heap.size := Nat.lt_of_lt_of_le hp hB.size
  have hW1 := lt_of_block hbl
  have HOW : Hid (W.ownsRow (C.p + 1) 39 6 (.slice vA tw.length vc) tw.length xs) := Lib.hid (HO.out.kept (row := none) (w' := W) ⟨hB.os, hB.tape, hB.output, hB.size, fun k hk _ => hB.block k hk⟩ (by cases hv : (Value.slice vA tw.length vc).ownBlock <;> simp))
  have HB := Lib.hid hB
  clear hB hbl c3 f3
  go_wp2_with fail
  go_region_law ((refine step_append_lies _ (by rfl) _ _ _ (by rfl) (C.p + 1) 39 i0 _ 6 72 Tryz.underlying24 hi0 hz0 hz1 hz2 rfl (by omega) (.slice vA tw.length vc) tw.length xs (by rfl) ((HOW.out.alloc _).drew) ⟨W.heap.size, 0, none⟩ 1 1 [.int .i64 kd, .string ⟨s.toArray⟩, .int .i64 n, .int .i64 t.line, .int .i64 t.col, .slice kA ids.length kc] (by rfl) (by rfl) (World.news_of_block (cs := #[.int .i64 kd, .string ⟨s.toArray⟩, .int .i64 n, .int .i64 t.line, .int .i64 t.col, .slice kA ids.length kc]) (t := 39) (fr := (0, 0)) (heap_alloc_new W _)) (by simp [Value.oneCell']) (by omega) (by unfold maxLen; omega) (by omega) (by simp; omega) (W.heap.size + 1) (by simp) ?_; intro gg cap w1 hown1 hgrow hat hlt; have q3 := (hgrow.cell_far ⟨C.p, 3, none⟩ (by simp; omega) (Ne.symm HV.out)).trans ((World.cell?_alloc_past _ _ _ hW).trans d3); have q3f := (hgrow.frozen_far ⟨C.p, 3, none⟩ (by simp; omega) (Ne.symm HV.out)).trans ((World.frozen?_alloc_past _ _ _ hW).trans g3)))
  all_goals
    have hat' : ∀ g, (Value.slice (some ⟨gg, 0, none⟩) (tw.length + 1) cap).ownBlock = some g → (Value.slice vA tw.length vc).ownBlock = some g ∨ w.heap.size ≤ g := fun g hg => by
      have hg' : gg = g := by simpa [Value.ownBlock] using hg
      subst hg'
      exact hat.imp id fun e => by omega
    have HF := Lib.hid (HS.out.grow (t := ⟨kd, s, n, t.line, t.col, ids⟩) HO.out HT.out HI.out ((HB.out.alloc HB.out.size _).drew) hgrow hown1 hat' hf)
    clear hown1 hgrow hat hat' b0 b1 b2 b3 b4 b5 d3 g3 HOW HO HT HI HB HV
    go_wp2_with fail
    go_ret
    exact ⟨ret_int (by omega), _, HF.out.1, HF.out.2⟩
end Go.Proofs.YtehdljcmeimbcaaGreat
