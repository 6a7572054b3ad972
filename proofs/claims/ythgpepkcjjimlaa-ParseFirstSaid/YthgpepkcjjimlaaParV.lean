/- What run defers. -/
import Derived.Test.YthgpepkcjjimlaaParF
import Derived.Defers
import Derived.Recover
namespace Go.Proofs.Ythgpepkcjjimlaa
open Go.RowKit

theorem tassert (a b c : Value) (w : World) : (Instr.typeAssert (.iface 35 (.agg #[a, b, c])) 20 35 false).run Try.prog w = .ok (.agg #[a, b, c]) w := by kernel_rfl

set_option maxRecDepth 100000 in
theorem catch_panicking (r : Nat) (t : Tok) (er : Int) (x : Value) (w : World) (hc : w.cell? ⟨r, 0, none⟩ = some x) (hz : w.frozen? ⟨r, 0, none⟩ = false) (hr : r < w.heap.size) :
    CallsD Try.prog 20 #[.pointer (some ⟨r, 0, none⟩)] (.panicking ({ v := diagV t er, recovered := false } :: [])) w fun e u' w' =>
      e = .returned (.tuple #[]) ∧ u' = .panicking ({ v := diagV t er, recovered := true } :: []) ∧ w' = (w.setCell ⟨r, 0, none⟩ (.slice (some ⟨w.heap.size, 0, none⟩) 1 1)).alloc (.cells #[.int .i64 t.line, .int .i64 t.col, .int .i64 er] 35) := by
  unfold diagV
  refine callsD_of_wpS Try.func20 rfl fun c₀ cs hu => ?_
  apply wpS_seq
  apply wpS_region
  simp [wpOpsS, go_sem, recoverD, hu, Try.ntmps20, Exit.thenS]
  apply wpS_seq
  apply wpS_region
  simp [wpOpsS, go_sem, Exit.thenS]
  refine wpS_cond (t := true) (by simp [Act.eval, Array.replicate]) ?_
  simp only [if_true]
  apply wpS_region
  simp [wpOpsS, go_sem, tassert, hc, hz, hr, bodyPostS, results, Try.results20]

set_option maxRecDepth 100000 in
theorem catch_idle (r : Nat) (w : World) :
    CallsD Try.prog 20 #[.pointer (some ⟨r, 0, none⟩)] .returning w fun e u' w' => e = .returned (.tuple #[]) ∧ u' = .returning ∧ w' = w := by
  refine callsD_of_wpS Try.func20 rfl fun c₀ cs hu => ?_
  apply wpS_seq
  apply wpS_region
  simp [wpOpsS, go_sem, recoverD, hu, Try.ntmps20, Exit.thenS]
  apply wpS_seq
  apply wpS_region
  simp [wpOpsS, go_sem, Exit.thenS]
  refine wpS_cond (t := false) (by simp [Act.eval, Array.replicate]) ?_
  simp only [Bool.false_eq_true, if_false]
  refine wpS_of_wp (wp_skip ?_)
  cases c₀
  simp_all [bodyPostS, results, Try.results20]

/-- What program answers. -/
def RetP (C : Cx) (w : World) (m : Nat) (v : Value) (o : Out) (e : Ending) (w' : World) : Prop :=
  match o with
  | .dry => False
  | .bad er r => e = .panicked [{ v := diagV (hd r) er, recovered := false }] ∧ KpB C.p v w w'
  | .ok d kf _ => (∃ x : Int, e = .returned (.int .i64 x)) ∧ (∃ j v', PS w' C j m v' ((one d kf).post 0) ∧ Kp C.p v w v' w')
/-- What run answers. -/
def RetR (C : Cx) (w : World) (m : Nat) (o : Out) (e : Ending) (w' : World) : Prop :=
  match o with
  | .dry => False
  | .bad er r => ∃ g, e = .returned (.slice (some ⟨g, 0, none⟩) 1 1) ∧ w'.heap[g]? = some (.cells #[.int .i64 (hd r).line, .int .i64 (hd r).col, .int .i64 er] 35 (0, 0)) ∧ w.heap.size ≤ g ∧ Below C.p w w'
  | .ok d kf _ => e = .returned (.slice none 0 0) ∧ (∃ j v', PS w' C j m v' ((one d kf).post 0)) ∧ Below C.p w w'

theorem KpB.low {C : Cx} {k m : Nat} {v : Value} {tw : List Tw} {w w' : World} (h : KpB C.p v w w') (hs : PS w C k m v tw) : Below C.p w w' := let ⟨_, h⟩ := h; h.below hs

set_option maxRecDepth 100000 in
set_option maxHeartbeats 1000000 in
theorem run_bad (C : Cx) (w : World) (k m : Nat) (v : Value) (er : Int) (r : List Tok) (h : PS w C k m v []) (HPR : Hid (∀ w1, PS w1 C k m v [] → Calls Try.prog 21 #[C.ptr] w1 (RetP C w1 m v (.bad er r)))) :
    Calls Try.prog 16 #[C.ptr] w (RetR C w m (.bad er r)) := by
  have hp := h.lt
  have hal := h.al (.cells #[.slice none 0 0] 25)
  have HC := Lib.hid (HPR.out _ hal)
  have HAL := Lib.hid hal
  have HS := Lib.hid h
  clear h hal HPR
  have hmf : ∀ (fn : Fn) (first cap : Array Value) (w : World), (Instr.makeFunc fn first cap).run Try.prog w = .ok (.func fn first cap) w := fun _ _ _ _ => rfl
  go_enter_defers Try.func16, Try.ntmps16
  go_wp2_with fail
  refine HC.out.mono ?_
  rintro e w1 ⟨rfl, v', hk⟩
  have hnew := (hk.new HS.out).1
  have hc : w1.cell? ⟨w.heap.size, 0, none⟩ = some (.slice none 0 0) := by simp [World.cell?, hnew]
  have hz : w1.frozen? ⟨w.heap.size, 0, none⟩ = false := by simp [World.frozen?, hnew]
  have hr := lt_of_block hnew
  have HB := Lib.hid (hk.below HAL.out)
  have HNEW := Lib.hid hnew
  clear hk HC hnew
  go_wp2_with fail
  refine leaves_cons (f := 20) (args := #[.pointer (some ⟨w.heap.size, 0, none⟩)]) (by simp) (by simp [go_sem]) ?_
  refine (catch_panicking w.heap.size (hd r) er _ _ hc hz hr).mono ?_
  rintro e u' w'' ⟨rfl, rfl, rfl⟩
  have hset := rowset HNEW.out 0 (.slice (some ⟨w1.heap.size, 0, none⟩) 1 1)
  have hsz : (w1.setCell ⟨w.heap.size, 0, none⟩ (.slice (some ⟨w1.heap.size, 0, none⟩) 1 1)).heap.size = w1.heap.size := by simp [World.setCell]
  have hb2 : Below C.p w1 (w1.setCell ⟨w.heap.size, 0, none⟩ (.slice (some ⟨w1.heap.size, 0, none⟩) 1 1)) := (Below.refl C.p w1).setCell (p := ⟨w.heap.size, 0, none⟩) (by show C.p ≤ w.heap.size; omega) _
  generalize w1.setCell ⟨w.heap.size, 0, none⟩ (.slice (some ⟨w1.heap.size, 0, none⟩) 1 1) = w2 at hset hsz hb2 ⊢
  have hc2 : w2.cell? ⟨w.heap.size, 0, none⟩ = some (.slice (some ⟨w1.heap.size, 0, none⟩) 1 1) := by simp [World.cell?, hset]
  have hlt2 : w.heap.size < w2.heap.size := lt_of_block hset
  have hR : RetR C w m (.bad er r) (.returned (.slice (some ⟨w1.heap.size, 0, none⟩) 1 1)) (w2.alloc (.cells #[.int .i64 (hd r).line, .int .i64 (hd r).col, .int .i64 er] 35)) :=
    ⟨w1.heap.size, rfl, by rw [← hsz]; exact heap_alloc_new w2 _, by omega, (((Below.refl C.p w).alloc (by omega) _).trans HB.out).trans (hb2.trans ((Below.refl _ _).alloc (by omega) _))⟩
  have HR := Lib.hid hR
  clear hR hb2 hset
  simp [Leaves, settle, results, Try.results16, go_sem, hc2, hlt2]
  exact HR.out

set_option maxRecDepth 100000 in
set_option maxHeartbeats 1000000 in
theorem run_good (C : Cx) (w : World) (k m : Nat) (v : Value) (d : Nd) (f : Fo) (r : List Tok) (h : PS w C k m v []) (HPR : Hid (∀ w1, PS w1 C k m v [] → Calls Try.prog 21 #[C.ptr] w1 (RetP C w1 m v (.ok d f r)))) :
    Calls Try.prog 16 #[C.ptr] w (RetR C w m (.ok d f r)) := by
  have hp := h.lt
  have hal := h.al (.cells #[.slice none 0 0] 25)
  have HC := Lib.hid (HPR.out _ hal)
  have HAL := Lib.hid hal
  have HS := Lib.hid h
  clear h hal HPR
  have hmf : ∀ (fn : Fn) (first cap : Array Value) (w : World), (Instr.makeFunc fn first cap).run Try.prog w = .ok (.func fn first cap) w := fun _ _ _ _ => rfl
  go_enter_defers Try.func16, Try.ntmps16
  go_wp2_with fail
  refine HC.out.mono ?_
  rintro e w1 ⟨⟨x, rfl⟩, ⟨j, v', hps, hk⟩⟩
  have hnew := (hk.new HS.out).1
  have hvn := (hk.new HS.out).2
  have hc : w1.cell? ⟨w.heap.size, 0, none⟩ = some (.slice none 0 0) := by simp [World.cell?, hnew]
  have hz : w1.frozen? ⟨w.heap.size, 0, none⟩ = false := by simp [World.frozen?, hnew]
  have hr := lt_of_block hnew
  have HB := Lib.hid (hk.below HAL.out)
  have HNEW := Lib.hid hnew
  have HPS := Lib.hid hps
  have HVN := Lib.hid hvn
  clear hk HC hnew hps hvn
  go_wp2_with fail
  refine leaves_cons (f := 20) (args := #[.pointer (some ⟨w.heap.size, 0, none⟩)]) (by simp) (by simp [go_sem]) ?_
  refine (catch_idle w.heap.size _).mono ?_
  rintro e u' w'' ⟨rfl, rfl, rfl⟩
  have hset := rowset HNEW.out 0 (.slice none 0 0)
  have hb2 : Below w.heap.size w1 (w1.setCell ⟨w.heap.size, 0, none⟩ (.slice none 0 0)) := (Below.refl _ w1).setCell (p := ⟨w.heap.size, 0, none⟩) (Nat.le_refl _) _
  have hps2 := HPS.out.move w.heap.size hp HVN.out HNEW.out (by decide) hb2 (fun b hb _ => set_other _ _ _ _ _ hb)
  generalize w1.setCell ⟨w.heap.size, 0, none⟩ (.slice none 0 0) = w2 at hset hb2 hps2 ⊢
  have hc2 : w2.cell? ⟨w.heap.size, 0, none⟩ = some (.slice none 0 0) := by simp [World.cell?, hset]
  have hR : RetR C w m (.ok d f r) (.returned (.slice none 0 0)) w2 :=
    ⟨rfl, ⟨j, v', hps2⟩, (((Below.refl C.p w).alloc (by omega) _).trans HB.out).trans (hb2.mono (by omega))⟩
  have HR := Lib.hid hR
  clear hR hb2 hset hps2
  simp [Leaves, settle, results, Try.results16, go_sem, hc2]
  exact HR.out
end Go.Proofs.Ythgpepkcjjimlaa
