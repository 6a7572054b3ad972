/- The machine's objects in memory: a machine, a task, a looper, an instruction that is done; their cells. What tags keep apart. Written by genMB.py; Heaps, plainly: what stands at which place of a list; what is mended upward and downward; container/heap, over any value with the methods of a heap. -/
import Derived.Test.YtfljmdpigckpkaaGreatDoorB12
import Derived.Test.YtfljmdpigckpkaaGreatDoorChecked
import Derived.Lib.Hide
import Derived.Deep.QuietTactic
import Derived.BigQuiet
import Derived.RegionTactic
import Derived.Outline
import Derived.WalkLawsBesides
import Derived.LoopIn
import Derived.LoopTactic
import Derived.Shelf.Abstract
namespace Go.Proofs.YtfljmdpigckpkaaGreatDoor
open Go.RowKit Go.Shelf
/-- All but blocks of cells of one type. -/
def tg (T : TypeId) : Nat → Option TypeId → Bool := fun _ t => t != some T
theorem Kept.tg {b : Nat} {T : TypeId} {w w' : World} (k : Kept (ne' b) w w') (hb : ∃ o, w.heap[b]? = some o ∧ tag o = some T) : Kept (tg T) w w' :=
  ⟨k.os, k.tape, k.output, k.size, fun x o hx hp => k.same x o hx (by
    obtain ⟨ob, h1, h2⟩ := hb
    simp only [ne', bne_iff_ne]
    rintro rfl
    rw [h1] at hx
    cases hx
    simp [_root_.Go.Proofs.YtfljmdpigckpkaaGreatDoor.tg, h2] at hp)⟩
theorem Kept.one (b : Nat) (w : World) (i : Nat) (u : Value) : Kept (ne' b) w (w.setCell ⟨b, i, none⟩ u) := Kept.setCell _ fun o ho => by simp [ne']
theorem tags_ne {w : World} {a b : Nat} {o o' : Obj} (h : w.heap[a]? = some o) (h' : w.heap[b]? = some o') (ht : tag o ≠ tag o') : a ≠ b := by
  rintro rfl
  rw [h] at h'
  cases h'
  exact ht rfl
/-- A machine's cells. -/
structure MV where
  bc : Nat
  pr : Prg
  bd : Nat
  bh : Nat
  globals : Value
  log : Value
  lives : Value
  turned : Value
  tasks : Value
  loopers : Value
  marks : Value
  now : Int
  steps : Int
  full : Bool
def MV.o (m : MV) : Obj := .cells #[.pointer (some ⟨m.bc, 0, none⟩), .slice m.pr.loopsA m.pr.loops.length m.pr.loopsC, .slice m.pr.clssA m.pr.clss.length m.pr.clssC, .slice m.pr.glbsA m.pr.glbs.length m.pr.glbsC, .slice m.pr.fnsA m.pr.fns.length m.pr.fnsC, .slice m.pr.cmpsA m.pr.cmps.length m.pr.cmpsC, .slice m.pr.evtsA m.pr.evts.length m.pr.evtsC, .int .i64 m.pr.main, .slice m.pr.sitsA m.pr.sits.length m.pr.sitsC, .map (some m.bd), .pointer (some ⟨m.bh, 0, none⟩), m.globals, m.log, m.lives, m.turned, m.tasks, m.loopers, m.marks, .int .i64 m.now, .int .i64 m.steps, .bool m.full] 70 (0, 0)
theorem MV.cells {m : MV} {w : World} {b : Nat} (h : w.heap[b]? = some m.o) : w.cell? ⟨b, 0, none⟩ = some (.pointer (some ⟨m.bc, 0, none⟩)) ∧ w.cell? ⟨b, 1, none⟩ = some (.slice m.pr.loopsA m.pr.loops.length m.pr.loopsC) ∧ w.cell? ⟨b, 2, none⟩ = some (.slice m.pr.clssA m.pr.clss.length m.pr.clssC) ∧ w.cell? ⟨b, 3, none⟩ = some (.slice m.pr.glbsA m.pr.glbs.length m.pr.glbsC) ∧ w.cell? ⟨b, 4, none⟩ = some (.slice m.pr.fnsA m.pr.fns.length m.pr.fnsC) ∧ w.cell? ⟨b, 5, none⟩ = some (.slice m.pr.cmpsA m.pr.cmps.length m.pr.cmpsC) ∧ w.cell? ⟨b, 6, none⟩ = some (.slice m.pr.evtsA m.pr.evts.length m.pr.evtsC) ∧ w.cell? ⟨b, 7, none⟩ = some (.int .i64 m.pr.main) ∧ w.cell? ⟨b, 8, none⟩ = some (.slice m.pr.sitsA m.pr.sits.length m.pr.sitsC) ∧ w.cell? ⟨b, 9, none⟩ = some (.map (some m.bd)) ∧ w.cell? ⟨b, 10, none⟩ = some (.pointer (some ⟨m.bh, 0, none⟩)) ∧ w.cell? ⟨b, 11, none⟩ = some (m.globals) ∧ w.cell? ⟨b, 12, none⟩ = some (m.log) ∧ w.cell? ⟨b, 13, none⟩ = some (m.lives) ∧ w.cell? ⟨b, 14, none⟩ = some (m.turned) ∧ w.cell? ⟨b, 15, none⟩ = some (m.tasks) ∧ w.cell? ⟨b, 16, none⟩ = some (m.loopers) ∧ w.cell? ⟨b, 17, none⟩ = some (m.marks) ∧ w.cell? ⟨b, 18, none⟩ = some (.int .i64 m.now) ∧ w.cell? ⟨b, 19, none⟩ = some (.int .i64 m.steps) ∧ w.cell? ⟨b, 20, none⟩ = some (.bool m.full) ∧ b < w.heap.size ∧ ∀ n, w.frozen? ⟨b, n, none⟩ = false := by
  refine ⟨?_, ?_, ?_, ?_, ?_, ?_, ?_, ?_, ?_, ?_, ?_, ?_, ?_, ?_, ?_, ?_, ?_, ?_, ?_, ?_, ?_, (Array.getElem?_eq_some_iff.1 h).1, fun n => frozen_of_row w b n _ _ h⟩
  all_goals simp [World.cell?, h, MV.o]
theorem MV.tag (m : MV) : tag m.o = some 70 := rfl
theorem MV.set_globals {m : MV} {w : World} {b : Nat} (h : w.heap[b]? = some m.o) (u : Value) : (w.setCell ⟨b, 11, none⟩ (u)).heap[b]? = some ({ m with globals := u } : MV).o := by
  rw [heap_setCell_same w b 11 _ _ _ h]; rfl
theorem MV.set_log {m : MV} {w : World} {b : Nat} (h : w.heap[b]? = some m.o) (u : Value) : (w.setCell ⟨b, 12, none⟩ (u)).heap[b]? = some ({ m with log := u } : MV).o := by
  rw [heap_setCell_same w b 12 _ _ _ h]; rfl
theorem MV.set_lives {m : MV} {w : World} {b : Nat} (h : w.heap[b]? = some m.o) (u : Value) : (w.setCell ⟨b, 13, none⟩ (u)).heap[b]? = some ({ m with lives := u } : MV).o := by
  rw [heap_setCell_same w b 13 _ _ _ h]; rfl
theorem MV.set_turned {m : MV} {w : World} {b : Nat} (h : w.heap[b]? = some m.o) (u : Value) : (w.setCell ⟨b, 14, none⟩ (u)).heap[b]? = some ({ m with turned := u } : MV).o := by
  rw [heap_setCell_same w b 14 _ _ _ h]; rfl
theorem MV.set_tasks {m : MV} {w : World} {b : Nat} (h : w.heap[b]? = some m.o) (u : Value) : (w.setCell ⟨b, 15, none⟩ (u)).heap[b]? = some ({ m with tasks := u } : MV).o := by
  rw [heap_setCell_same w b 15 _ _ _ h]; rfl
theorem MV.set_loopers {m : MV} {w : World} {b : Nat} (h : w.heap[b]? = some m.o) (u : Value) : (w.setCell ⟨b, 16, none⟩ (u)).heap[b]? = some ({ m with loopers := u } : MV).o := by
  rw [heap_setCell_same w b 16 _ _ _ h]; rfl
theorem MV.set_marks {m : MV} {w : World} {b : Nat} (h : w.heap[b]? = some m.o) (u : Value) : (w.setCell ⟨b, 17, none⟩ (u)).heap[b]? = some ({ m with marks := u } : MV).o := by
  rw [heap_setCell_same w b 17 _ _ _ h]; rfl
theorem MV.set_steps {m : MV} {w : World} {b : Nat} (h : w.heap[b]? = some m.o) (u : Int) : (w.setCell ⟨b, 19, none⟩ (.int .i64 u)).heap[b]? = some ({ m with steps := u } : MV).o := by
  rw [heap_setCell_same w b 19 _ _ _ h]; rfl
theorem MV.set_full {m : MV} {w : World} {b : Nat} (h : w.heap[b]? = some m.o) (u : Bool) : (w.setCell ⟨b, 20, none⟩ (.bool u)).heap[b]? = some ({ m with full := u } : MV).o := by
  rw [heap_setCell_same w b 20 _ _ _ h]; rfl
/-- A task's cells, and its thread. -/
structure TV where
  kind : Int
  of' : Int
  which : Int
  func : Int
  looper : Int
  by' : Int
  nth : Int
  front : Bool
  delay : Int
  due : Int
  payload : Int
  state : Int
  trap : Int
  mark : Int
  prev : Int
  th : Value
def TV.o (m : TV) : Obj := .cells #[.int .i64 m.kind, .int .i64 m.of', .int .i64 m.which, .int .i64 m.func, .int .i64 m.looper, .int .i64 m.by', .int .i64 m.nth, .bool m.front, .int .i64 m.delay, .int .i64 m.due, .int .i64 m.payload, .int .i64 m.state, .int .i64 m.trap, .int .i64 m.mark, .int .i64 m.prev, m.th] 121 (0, 0)
theorem TV.cells {m : TV} {w : World} {b : Nat} (h : w.heap[b]? = some m.o) : w.cell? ⟨b, 0, none⟩ = some (.int .i64 m.kind) ∧ w.cell? ⟨b, 1, none⟩ = some (.int .i64 m.of') ∧ w.cell? ⟨b, 2, none⟩ = some (.int .i64 m.which) ∧ w.cell? ⟨b, 3, none⟩ = some (.int .i64 m.func) ∧ w.cell? ⟨b, 4, none⟩ = some (.int .i64 m.looper) ∧ w.cell? ⟨b, 5, none⟩ = some (.int .i64 m.by') ∧ w.cell? ⟨b, 6, none⟩ = some (.int .i64 m.nth) ∧ w.cell? ⟨b, 7, none⟩ = some (.bool m.front) ∧ w.cell? ⟨b, 8, none⟩ = some (.int .i64 m.delay) ∧ w.cell? ⟨b, 9, none⟩ = some (.int .i64 m.due) ∧ w.cell? ⟨b, 10, none⟩ = some (.int .i64 m.payload) ∧ w.cell? ⟨b, 11, none⟩ = some (.int .i64 m.state) ∧ w.cell? ⟨b, 12, none⟩ = some (.int .i64 m.trap) ∧ w.cell? ⟨b, 13, none⟩ = some (.int .i64 m.mark) ∧ w.cell? ⟨b, 14, none⟩ = some (.int .i64 m.prev) ∧ w.cell? ⟨b, 15, none⟩ = some (m.th) ∧ b < w.heap.size ∧ ∀ n, w.frozen? ⟨b, n, none⟩ = false := by
  refine ⟨?_, ?_, ?_, ?_, ?_, ?_, ?_, ?_, ?_, ?_, ?_, ?_, ?_, ?_, ?_, ?_, (Array.getElem?_eq_some_iff.1 h).1, fun n => frozen_of_row w b n _ _ h⟩
  all_goals simp [World.cell?, h, TV.o]
theorem TV.tag (m : TV) : tag m.o = some 121 := rfl
theorem TV.set_state {m : TV} {w : World} {b : Nat} (h : w.heap[b]? = some m.o) (u : Int) : (w.setCell ⟨b, 11, none⟩ (.int .i64 u)).heap[b]? = some ({ m with state := u } : TV).o := by
  rw [heap_setCell_same w b 11 _ _ _ h]; rfl
theorem TV.set_trap {m : TV} {w : World} {b : Nat} (h : w.heap[b]? = some m.o) (u : Int) : (w.setCell ⟨b, 12, none⟩ (.int .i64 u)).heap[b]? = some ({ m with trap := u } : TV).o := by
  rw [heap_setCell_same w b 12 _ _ _ h]; rfl
theorem TV.set_th {m : TV} {w : World} {b : Nat} (h : w.heap[b]? = some m.o) (u : Value) : (w.setCell ⟨b, 15, none⟩ (u)).heap[b]? = some ({ m with th := u } : TV).o := by
  rw [heap_setCell_same w b 15 _ _ _ h]; rfl
/-- A looper's cells. -/
structure LV where
  runs : Int
  q : Nat
def LV.o (m : LV) : Obj := .cells #[.int .i64 m.runs, .pointer (some ⟨m.q, 0, none⟩)] 174 (0, 0)
theorem LV.cells {m : LV} {w : World} {b : Nat} (h : w.heap[b]? = some m.o) : w.cell? ⟨b, 0, none⟩ = some (.int .i64 m.runs) ∧ w.cell? ⟨b, 1, none⟩ = some (.pointer (some ⟨m.q, 0, none⟩)) ∧ b < w.heap.size ∧ ∀ n, w.frozen? ⟨b, n, none⟩ = false := by
  refine ⟨?_, ?_, (Array.getElem?_eq_some_iff.1 h).1, fun n => frozen_of_row w b n _ _ h⟩
  all_goals simp [World.cell?, h, LV.o]
theorem LV.tag (m : LV) : tag m.o = some 174 := rfl
theorem LV.set_runs {m : LV} {w : World} {b : Nat} (h : w.heap[b]? = some m.o) (u : Int) : (w.setCell ⟨b, 0, none⟩ (.int .i64 u)).heap[b]? = some ({ m with runs := u } : LV).o := by
  rw [heap_setCell_same w b 0 _ _ _ h]; rfl
/-- An instruction that is done. -/
structure DV where
  bm : Nat
  task : Int
  op : Int
  site : Int
  n : Int
  v : Int
  looper : Int
  acc : Value
  a : Int
  err : Int
  trap : Int
def DV.o (m : DV) : Obj := .cells #[.pointer (some ⟨m.bm, 0, none⟩), .int .i64 m.task, .int .i64 m.op, .int .i64 m.site, .int .i64 m.n, .int .i64 m.v, .int .i64 m.looper, m.acc, .int .i64 m.a, .int .i64 m.err, .int .i64 m.trap] 338 (0, 0)
theorem DV.cells {m : DV} {w : World} {b : Nat} (h : w.heap[b]? = some m.o) : w.cell? ⟨b, 0, none⟩ = some (.pointer (some ⟨m.bm, 0, none⟩)) ∧ w.cell? ⟨b, 1, none⟩ = some (.int .i64 m.task) ∧ w.cell? ⟨b, 2, none⟩ = some (.int .i64 m.op) ∧ w.cell? ⟨b, 3, none⟩ = some (.int .i64 m.site) ∧ w.cell? ⟨b, 4, none⟩ = some (.int .i64 m.n) ∧ w.cell? ⟨b, 5, none⟩ = some (.int .i64 m.v) ∧ w.cell? ⟨b, 6, none⟩ = some (.int .i64 m.looper) ∧ w.cell? ⟨b, 7, none⟩ = some (m.acc) ∧ w.cell? ⟨b, 8, none⟩ = some (.int .i64 m.a) ∧ w.cell? ⟨b, 9, none⟩ = some (.int .i64 m.err) ∧ w.cell? ⟨b, 10, none⟩ = some (.int .i64 m.trap) ∧ b < w.heap.size ∧ ∀ n, w.frozen? ⟨b, n, none⟩ = false := by
  refine ⟨?_, ?_, ?_, ?_, ?_, ?_, ?_, ?_, ?_, ?_, ?_, (Array.getElem?_eq_some_iff.1 h).1, fun n => frozen_of_row w b n _ _ h⟩
  all_goals simp [World.cell?, h, DV.o]
theorem DV.tag (m : DV) : tag m.o = some 338 := rfl
theorem DV.set_err {m : DV} {w : World} {b : Nat} (h : w.heap[b]? = some m.o) (u : Int) : (w.setCell ⟨b, 9, none⟩ (.int .i64 u)).heap[b]? = some ({ m with err := u } : DV).o := by
  rw [heap_setCell_same w b 9 _ _ _ h]; rfl
theorem DV.set_a {m : DV} {w : World} {b : Nat} (h : w.heap[b]? = some m.o) (u : Int) : (w.setCell ⟨b, 8, none⟩ (.int .i64 u)).heap[b]? = some ({ m with a := u } : DV).o := by
  rw [heap_setCell_same w b 8 _ _ _ h]; rfl
end Go.Proofs.YtfljmdpigckpkaaGreatDoor

namespace Go.Proofs.YtfljmdpigckpkaaGreatDoor.QQ

/-- A strict order in which what is not ahead of one another counts as the same. -/
structure Swo {α : Type} (lt : α → α → Bool) : Prop where
  asym : ∀ x y, lt x y = true → lt y x = false
  ntr : ∀ x y z, lt x y = false → lt y z = false → lt x z = false
theorem Swo.irr {α : Type} {lt : α → α → Bool} (h : Swo lt) (x : α) : lt x x = false := by
  cases e : lt x x
  · rfl
  · have := h.asym x x e; rw [e] at this; exact this
theorem Swo.tr {α : Type} {lt : α → α → Bool} (h : Swo lt) {x y z : α} (h1 : lt x y = true) (h2 : lt y z = true) : lt x z = true := by
  cases e : lt x z
  · have h3 := h.ntr x z y e (h.asym y z h2)
    rw [h3] at h1; cases h1
  · rfl
theorem Swo.below {α : Type} {lt : α → α → Bool} (h : Swo lt) {x y z : α} (h1 : lt x y = true) (h2 : lt z y = false) : lt z x = false := by
  cases e : lt z x
  · rfl
  · have := h.tr e h1; rw [h2] at this; cases this

section
variable {α : Type} (lt : α → α → Bool)
/-- k does not stand ahead of what stands over it. -/
def okAt (f : Nat → α) (k : Nat) : Prop := lt (f k) (f ((k - 1) / 2)) = false
def Heap (f : Nat → α) (n : Nat) : Prop := ∀ k, 0 < k → k < n → okAt lt f k
/-- A heap but for what stands at j, which may want to go up. -/
def HU (f : Nat → α) (n j : Nat) : Prop := (∀ k, 0 < k → k < n → k ≠ j → okAt lt f k) ∧ ∀ c, 0 < c → c < n → (c - 1) / 2 = j → 0 < j → lt (f c) (f ((j - 1) / 2)) = false
/-- A heap but for what stands at i, which may want to go down (or up, if it is at its beginning i0). -/
def HD (f : Nat → α) (n i0 i : Nat) : Prop := (∀ k, 0 < k → k < n → k ≠ i → (k - 1) / 2 ≠ i → okAt lt f k) ∧ (∀ c, 0 < c → c < n → (c - 1) / 2 = i → 0 < i → lt (f c) (f ((i - 1) / 2)) = false) ∧ (i ≠ i0 → okAt lt f i) ∧ i0 ≤ i
def sw (f : Nat → α) (i j : Nat) : Nat → α := fun k => if k = i then f j else if k = j then f i else f k
variable {lt}
theorem HU.zero {f : Nat → α} {n : Nat} (h : HU lt f n 0) : Heap lt f n := fun k h0 hk => h.1 k h0 hk (by omega)
theorem HU.stop {f : Nat → α} {n j : Nat} (h : HU lt f n j) (ho : lt (f j) (f ((j - 1) / 2)) = false) : Heap lt f n := fun k h0 hk => by
  by_cases e : k = j
  · subst e; exact ho
  · exact h.1 k h0 hk e
theorem HU.step (S : Swo lt) {f : Nat → α} {n j : Nat} (h : HU lt f n j) (hj : 0 < j) (hn : j < n) (ho : lt (f j) (f ((j - 1) / 2)) = true) : HU lt (sw f ((j - 1) / 2) j) n ((j - 1) / 2) := by
  obtain ⟨i, hi⟩ : ∃ i, i = (j - 1) / 2 := ⟨_, rfl⟩
  rw [← hi] at ho ⊢
  have hij : i < j := by omega
  constructor
  · intro k h0 hk hki
    unfold okAt sw
    rw [if_neg hki]
    by_cases hkj : k = j
    · subst hkj
      rw [if_pos rfl, if_pos hi.symm]
      exact S.asym _ _ ho
    · rw [if_neg hkj]
      by_cases hp : (k - 1) / 2 = i
      · rw [if_pos hp]
        have h1 := h.1 k h0 hk hkj
        unfold okAt at h1
        rw [hp] at h1
        exact S.below ho h1
      · rw [if_neg hp]
        by_cases hq : (k - 1) / 2 = j
        · rw [if_pos hq]
          have := h.2 k h0 hk hq hj
          rwa [← hi] at this
        · rw [if_neg hq]
          exact h.1 k h0 hk hkj
  · intro c h0 hc hp h0i
    have hoi := h.1 i h0i (by omega) (by omega)
    unfold okAt at hoi
    unfold sw
    rw [if_neg (by omega), if_neg (show (i - 1) / 2 ≠ i by omega), if_neg (show (i - 1) / 2 ≠ j by omega)]
    by_cases hcj : c = j
    · rw [if_pos hcj]; exact hoi
    · rw [if_neg hcj]
      have h1 := h.1 c h0 hc hcj
      unfold okAt at h1
      rw [hp] at h1
      exact S.ntr _ _ _ h1 hoi

/-- The first of the two below i: j is one of them, and none of them is ahead of it. -/
def Fst (lt : α → α → Bool) (f : Nat → α) (n i j : Nat) : Prop := j < n ∧ (j = 2 * i + 1 ∨ j = 2 * i + 2) ∧ ∀ c, c < n → (c = 2 * i + 1 ∨ c = 2 * i + 2) → lt (f c) (f j) = false
theorem par_two {c i : Nat} (h0 : 0 < c) : (c - 1) / 2 = i ↔ c = 2 * i + 1 ∨ c = 2 * i + 2 := by omega
theorem HD.step (S : Swo lt) {f : Nat → α} {n i0 i j : Nat} (h : HD lt f n i0 i) (hj : Fst lt f n i j) (ho : lt (f j) (f i) = true) : HD lt (sw f i j) n i0 j := by
  obtain ⟨h1, h2, h3, h4⟩ := h
  obtain ⟨j1, j2, j3⟩ := hj
  have hij : i < j := by omega
  have hpj : (j - 1) / 2 = i := by omega
  refine ⟨?_, ?_, ?_, by omega⟩
  · intro k h0 hk hkj hp
    unfold okAt sw
    rw [if_neg hkj, if_neg hp]
    by_cases hki : k = i
    · subst hki
      rw [if_pos rfl, if_neg (show (k - 1) / 2 ≠ k by omega)]
      exact h2 j (by omega) j1 hpj h0
    · rw [if_neg hki]
      by_cases hq : (k - 1) / 2 = i
      · rw [if_pos hq]
        exact j3 k hk (by omega)
      · rw [if_neg hq]
        exact h1 k h0 hk hki hq
  · intro c h0 hc hp hj0
    unfold sw
    rw [if_neg (by omega), if_neg (by omega), hpj, if_pos rfl]
    have := h1 c h0 hc (by omega) (by omega)
    unfold okAt at this
    rwa [hp] at this
  · intro _
    unfold okAt sw
    rw [if_neg (by omega), if_pos rfl, hpj, if_pos rfl]
    exact S.asym _ _ ho
theorem HD.stop {f : Nat → α} {n i0 i : Nat} (h : HD lt f n i0 i) (hc : ∀ c, c < n → (c = 2 * i + 1 ∨ c = 2 * i + 2) → lt (f c) (f i) = false) : (i ≠ i0 → Heap lt f n) ∧ (i = i0 → HU lt f n i0) := by
  obtain ⟨h1, h2, h3, h4⟩ := h
  have hk : ∀ k, 0 < k → k < n → k ≠ i → okAt lt f k := fun k h0 hk hki => by
    by_cases hp : (k - 1) / 2 = i
    · unfold okAt; rw [hp]; exact hc k hk (by omega)
    · exact h1 k h0 hk hki hp
  refine ⟨fun hne k h0 hkn => ?_, fun e => ?_⟩
  · by_cases hki : k = i
    · subst hki; exact h3 hne
    · exact hk k h0 hkn hki
  · subst e
    exact ⟨hk, fun c h0 hcn hp hi => h2 c h0 hcn hp hi⟩
theorem Heap.down {f : Nat → α} {n m i : Nat} (h : Heap lt f n) (hm : m ≤ n) (S : Swo lt) (x : α) : HD lt (fun k => if k = i then x else f k) m i i := by
  refine ⟨?_, ?_, fun e => absurd rfl e, Nat.le_refl _⟩
  · intro k h0 hk hki hp
    unfold okAt
    dsimp only
    rw [if_neg hki, if_neg hp]
    exact h k h0 (by omega)
  · intro c h0 hc hp hi
    dsimp only
    rw [if_neg (by omega), if_neg (by omega)]
    have h1 := h c h0 (by omega)
    have h2 := h i hi (by omega)
    unfold okAt at h1 h2
    rw [hp] at h1
    exact S.ntr _ _ _ h1 h2
theorem Heap.push {f g : Nat → α} {n : Nat} (h : Heap lt f n) (he : ∀ k, k < n → g k = f k) : HU lt g (n + 1) n := by
  refine ⟨fun k h0 hk hkn => ?_, fun c h0 hc hp hn => by omega⟩
  have := h k h0 (by omega)
  unfold okAt at this ⊢
  rw [he k (by omega), he _ (by omega)]; exact this
theorem Heap.ext {f g : Nat → α} {n : Nat} (h : Heap lt f n) (he : ∀ k, k < n → g k = f k) : Heap lt g n := fun k h0 hk => by
  have := h k h0 hk
  unfold okAt at this ⊢
  rw [he k hk, he _ (by omega)]; exact this
theorem HU.ext {f g : Nat → α} {n j : Nat} (h : HU lt f n j) (hj : j < n) (he : ∀ k, k < n → g k = f k) : HU lt g n j := by
  refine ⟨fun k h0 hk hkj => ?_, fun c h0 hc hp hn => ?_⟩
  · have := h.1 k h0 hk hkj
    unfold okAt at this ⊢
    rw [he k hk, he _ (by omega)]; exact this
  · rw [he c hc, he _ (by omega)]; exact h.2 c h0 hc hp hn
theorem HD.ext {f g : Nat → α} {n i0 i : Nat} (h : HD lt f n i0 i) (hi : i < n) (he : ∀ k, k < n → g k = f k) : HD lt g n i0 i := by
  obtain ⟨h1, h2, h3, h4⟩ := h
  refine ⟨fun k h0 hk hki hp => ?_, fun c h0 hc hp hn => ?_, fun e => ?_, h4⟩
  · have := h1 k h0 hk hki hp
    unfold okAt at this ⊢
    rw [he k hk, he _ (by omega)]; exact this
  · rw [he c hc, he _ (by omega)]; exact h2 c h0 hc hp hn
  · have := h3 e
    unfold okAt at this ⊢
    rw [he i hi, he _ (by omega)]; exact this
end

section
variable {α : Type} [Inhabited α]
def nth (l : List α) (k : Nat) : α := l[k]!
def swp (l : List α) (i j : Nat) : List α := (l.set i (nth l j)).set j (nth l i)
theorem nth_lt {l : List α} {k : Nat} (h : k < l.length) : nth l k = l[k] := by simp [nth, h]
theorem nth_some {l : List α} {k : Nat} (h : k < l.length) : l[k]? = some (nth l k) := by rw [nth_lt h]; exact List.getElem?_eq_getElem h
theorem nth_mem {l : List α} {k : Nat} (h : k < l.length) : nth l k ∈ l := by rw [nth_lt h]; exact List.getElem_mem h
theorem swp_len (l : List α) (i j : Nat) : (swp l i j).length = l.length := by simp [swp]
theorem nth_swp {l : List α} {i j : Nat} (k : Nat) (hk : k < l.length) : nth (swp l i j) k = sw (nth l) i j k := by
  rw [nth_lt (by rw [swp_len]; exact hk)]
  unfold swp sw
  simp only [List.getElem_set]
  by_cases h1 : j = k
  · subst h1
    rw [if_pos rfl]
    by_cases h2 : j = i
    · rw [if_pos h2, h2]
    · rw [if_neg h2, if_pos rfl]
  · rw [if_neg h1]
    by_cases h2 : i = k
    · rw [if_pos h2, if_pos h2.symm]
    · rw [if_neg h2, if_neg (Ne.symm h2), if_neg (Ne.symm h1), nth_lt hk]
theorem swp_perm {l : List α} {i j : Nat} (hi : i < l.length) (hj : j < l.length) : (swp l i j).Perm l := by
  unfold swp
  rw [nth_lt hi, nth_lt hj]
  exact List.set_set_perm hi hj
theorem nth_left {a t : List α} {k : Nat} (h : k < a.length) : nth (a ++ t) k = nth a k := by
  rw [nth_lt h, nth_lt (by simp; omega)]; simp [List.getElem_append_left, h]
theorem swp_left {a t : List α} {i j : Nat} (hi : i < a.length) (hj : j < a.length) : swp (a ++ t) i j = swp a i j ++ t := by
  unfold swp
  rw [nth_left hi, nth_left hj, List.set_append_left _ _ hi, List.set_append_left _ _ (by simpa using hj)]
end
end Go.Proofs.YtfljmdpigckpkaaGreatDoor.QQ

namespace Go.Proofs.YtfljmdpigckpkaaGreatDoor.QQ
open Go.RowKit Go.Shelf

theorem ret_bool {a b : Bool} (h : a = b) : Ending.returned (.bool a) = .returned (.bool b) := by rw [h]
/-- A value with the methods of a heap: what each does to what it holds. -/
structure HI {α : Type} [Inhabited α] (S : List α → World → Prop) (lt : α → α → Bool) (T : TypeId) (rv : Value) (te : TypeId) (enc : α → Value) (ok : List α → α → Prop) (top : Nat) (gn gl gs gp gq : Nat) : Prop where
  mn : ∀ w, Sem.run Tryz.prog (method 538 T rv "Len") w = .ok (gn, rv) w
  ml : ∀ w, Sem.run Tryz.prog (method 538 T rv "Less") w = .ok (gl, rv) w
  ms : ∀ w, Sem.run Tryz.prog (method 538 T rv "Swap") w = .ok (gs, rv) w
  mp : ∀ w, Sem.run Tryz.prog (method 538 T rv "Push") w = .ok (gp, rv) w
  mq : ∀ w, Sem.run Tryz.prog (method 538 T rv "Pop") w = .ok (gq, rv) w
  en : ∀ args w, (callFunc gn args).run Tryz.prog w = .ok (.enter gn args) w
  el : ∀ args w, (callFunc gl args).run Tryz.prog w = .ok (.enter gl args) w
  es : ∀ args w, (callFunc gs args).run Tryz.prog w = .ok (.enter gs args) w
  ep : ∀ args w, (callFunc gp args).run Tryz.prog w = .ok (.enter gp args) w
  eq : ∀ args w, (callFunc gq args).run Tryz.prog w = .ok (.enter gq args) w
  swo : Swo lt
  small : top < 1000000000000
  bound : ∀ l w, S l w → l.length ≤ top
  len : ∀ l w, S l w → Calls Tryz.prog gn #[rv] w fun e w' => e = .returned (.int .i64 l.length) ∧ S l w'
  less : ∀ l w, S l w → ∀ i j : Nat, i < l.length → j < l.length → Calls Tryz.prog gl #[rv, .int .i64 i, .int .i64 j] w fun e w' => e = .returned (.bool (lt (nth l i) (nth l j))) ∧ S l w'
  swap : ∀ l w, S l w → ∀ i j : Nat, i < l.length → j < l.length → Calls Tryz.prog gs #[rv, .int .i64 i, .int .i64 j] w fun e w' => e = .returned (.tuple #[]) ∧ S (swp l i j) w'
  push : ∀ l x w, S l w → ok l x → Calls Tryz.prog gp #[rv, .iface te (enc x)] w fun e w' => e = .returned (.tuple #[]) ∧ S (l ++ [x]) w'
  pop : ∀ l x w, S (l ++ [x]) w → Calls Tryz.prog gq #[rv] w fun e w' => e = .returned (.iface te (enc x)) ∧ S l w'

section
variable {α : Type} [Inhabited α] {S : List α → World → Prop} {lt : α → α → Bool} {T : TypeId} {rv : Value} {te : TypeId} {enc : α → Value} {ok : List α → α → Prop} {top gn gl gs gp gq : Nat}
/-- What heap.up leaves. -/
def UpE (S : List α → World → Prop) (lt : α → α → Bool) (a t : List α) (e : Ending) (w' : World) : Prop := e = .returned (.tuple #[]) ∧ ∃ a', a'.Perm a ∧ Heap lt (nth a') a.length ∧ S (a' ++ t) w'
def UpL (S : List α → World → Prop) (lt : α → α → Bool) (a t : List α) (v : Value) (w' : World) : Prop := ∃ (j : Nat) (a' : List α), v = .int .i64 j ∧ j < a.length ∧ a'.Perm a ∧ HU lt (nth a') a.length j ∧ S (a' ++ t) w'

set_option maxHeartbeats 2000000 in
set_option maxRecDepth 100000 in
theorem up_ok (h : HI S lt T rv te enc ok top gn gl gs gp gq) (a t : List α) (j : Nat) (w : World) (hS : S (a ++ t) w) (hj : j < a.length) (hu : HU lt (nth a) a.length j) :
    Calls Tryz.prog 273 #[.iface T rv, .int .i64 j] w (UpE S lt a t) := by
  have ml := h.ml; have ms := h.ms; have el := h.el; have es := h.es
  have hb : a.length ≤ top := by have := h.bound _ _ hS; simp at this; omega
  have hsm := h.small
  have H := Lib.hid h
  clear h
  go_enter Tryz.func273, Tryz.ntmps273
  go_wp2
  go_loopw [1] (fun v wr => UpL S lt a t v wr) (fun v _ => (intOf v).toNat)
  case atStart => exact ⟨j, a, rfl, hj, .refl _, hu, hS⟩
  case round =>
    obtain ⟨j, a', rfl, hj, hp, hu, hS⟩ := hrel
    have HL := Lib.hid hp.length_eq
    have HS := Lib.hid hS
    have HU' := Lib.hid hu
    have HP := Lib.hid hp
    clear hS hu hp
    rcases Nat.eq_zero_or_pos j with rfl | h0
    · go_wp2
      go_end0
      exact ⟨rfl, a', HP.out, HU'.out.zero, HS.out⟩
    · have hlen := HL.out
      have ej : (((j - 1) / 2 : Nat) : Int) = ((j : Int) - 1) / 2 := by omega
      have hl := H.out.less _ _ HS.out j ((j - 1) / 2) (by simp; omega) (by simp; omega)
      rw [nth_left (by omega), nth_left (by omega), ej] at hl
      have hsw := fun W (hW : S (a' ++ t) W) => H.out.swap _ _ hW ((j - 1) / 2) j (by simp; omega) (by simp; omega)
      rw [swp_left (by omega) (by omega), ej] at hsw
      have e2 : (((j : Int) - 1) / 2 == (j : Int)) = false := by simp; omega
      have h0' : (1 : Int) ≤ (j : Int) := by omega
      have HSW := Lib.hid hsw
      have EJ := Lib.hid ej
      clear hsw ej hlen
      cases hlv : lt (nth a' j) (nth a' ((j - 1) / 2)) with
      | true =>
        rw [hlv] at hl
        have HLV := Lib.hid hlv
        clear hlv
        go_wp2_with (first
          | (go_at_fn gl; refine hl.mono ?_; rintro e w' ⟨rfl, hS1⟩; have HS1 := Lib.hid hS1; clear hS1)
          | (go_at_fn gs; refine (HSW.out _ HS1.out).mono ?_; rintro e w' ⟨rfl, hS2⟩; have HS2 := Lib.hid hS2; clear hS2))
        go_roundw
        case rel =>
          refine ⟨(j - 1) / 2, swp a' ((j - 1) / 2) j, by rw [EJ.out], by omega, (swp_perm (by have := HL.out; omega) (by have := HL.out; omega)).trans HP.out, ?_, HS2.out⟩
          exact (HU'.out.step H.out.swo h0 hj HLV.out).ext (by omega) (fun k hk => nth_swp k (by have := HL.out; omega))
        case measure => simp [intOf]; omega
      | false =>
        rw [hlv] at hl
        have HLV := Lib.hid hlv
        clear hlv
        go_wp2_with (go_at_fn gl; refine hl.mono ?_; rintro e w' ⟨rfl, hS1⟩; have HS1 := Lib.hid hS1; clear hS1)
        go_end0
        exact ⟨rfl, a', HP.out, HU'.out.stop HLV.out, HS1.out⟩

/-- What heap.down leaves. -/
def DnE (S : List α → World → Prop) (lt : α → α → Bool) (a t : List α) (i0 : Nat) (e : Ending) (w' : World) : Prop := ∃ (b : Bool) (a' : List α), e = .returned (.bool b) ∧ a'.Perm a ∧ (b = true → Heap lt (nth a') a.length) ∧ (b = false → HU lt (nth a') a.length i0) ∧ S (a' ++ t) w'
def DnL (S : List α → World → Prop) (lt : α → α → Bool) (a t : List α) (i0 : Nat) (v : Value) (w' : World) : Prop := ∃ (i : Nat) (a' : List α), v = .int .i64 i ∧ i ≤ a.length ∧ a'.Perm a ∧ HD lt (nth a') a.length i0 i ∧ S (a' ++ t) w'
theorem DnE.stop {a t a' : List α} {i0 i : Nat} {w' : World} (hp : a'.Perm a) (hd : HD lt (nth a') a.length i0 i) (hc : ∀ c, c < a.length → (c = 2 * i + 1 ∨ c = 2 * i + 2) → lt (nth a' c) (nth a' i) = false) (hS : S (a' ++ t) w') :
    DnE S lt a t i0 (.returned (.bool (decide (i0 < i)))) w' := by
  obtain ⟨h1, h2⟩ := hd.stop hc
  have h3 := hd.2.2.2
  refine ⟨_, a', rfl, hp, fun h => h1 (by simp at h; omega), fun h => h2 (by simp at h; omega), hS⟩

omit [Inhabited α] in
theorem Fst.one (S : Swo lt) {f : Nat → α} {n i : Nat} (h : 2 * i + 1 < n) (h2 : n ≤ 2 * i + 2) : Fst lt f n i (2 * i + 1) :=
  ⟨h, .inl rfl, fun c hc hc2 => by
    have e : c = 2 * i + 1 := by omega
    rw [e]; exact S.irr _⟩
omit [Inhabited α] in
theorem Fst.right (S : Swo lt) {f : Nat → α} {n i : Nat} (h : 2 * i + 2 < n) (hv : lt (f (2 * i + 2)) (f (2 * i + 1)) = true) : Fst lt f n i (2 * i + 2) :=
  ⟨h, .inr rfl, fun c hc hc2 => by
    rcases hc2 with rfl | rfl
    · exact S.asym _ _ hv
    · exact S.irr _⟩
omit [Inhabited α] in
theorem Fst.left (S : Swo lt) {f : Nat → α} {n i : Nat} (h : 2 * i + 2 < n) (hv : lt (f (2 * i + 2)) (f (2 * i + 1)) = false) : Fst lt f n i (2 * i + 1) :=
  ⟨by omega, .inl rfl, fun c hc hc2 => by
    rcases hc2 with rfl | rfl
    · exact S.irr _
    · exact hv⟩
set_option maxHeartbeats 4000000 in
set_option maxRecDepth 100000 in
theorem down_ok (h : HI S lt T rv te enc ok top gn gl gs gp gq) (a t : List α) (i0 : Nat) (w : World) (hS : S (a ++ t) w) (hi : i0 ≤ a.length) (hu : HD lt (nth a) a.length i0 i0) :
    Calls Tryz.prog 331 #[.iface T rv, .int .i64 i0, .int .i64 a.length] w (DnE S lt a t i0) := by
  have ml := h.ml; have ms := h.ms; have el := h.el; have es := h.es
  have hb : a.length ≤ top := by have := h.bound _ _ hS; simp at this; omega
  have hsm := h.small
  have H := Lib.hid h
  clear h
  generalize hn : a.length = n at *
  have HN := Lib.hid hn
  clear hn
  go_enter Tryz.func331, Tryz.ntmps331
  go_wp2
  go_loopw [7] (fun v wr => DnL S lt a t i0 v wr) (fun v _ => n - (intOf v).toNat)
  case atStart => exact ⟨i0, a, rfl, by rw [HN.out]; exact hi, .refl _, by rw [HN.out]; exact hu, hS⟩
  case round =>
    obtain ⟨i, a', rfl, hin, hp, hd, hS⟩ := hrel
    rw [HN.out] at hin hd
    have HL := Lib.hid (hp.length_eq.trans HN.out)
    have HS := Lib.hid hS
    have HD' := Lib.hid hd
    have HP := Lib.hid hp
    clear hS hd hp hu
    have h00 : (0 : Int) ≤ 2 * (i : Int) + 1 := by omega
    by_cases hge : n ≤ 2 * i + 1
    · have hge' : (n : Int) ≤ 2 * (i : Int) + 1 := by omega
      go_wp2
      go_ret
      exact DnE.stop HP.out (by rw [HN.out]; exact HD'.out) (fun c hc hc2 => by have := HN.out; omega) HS.out
    · have hlt1 : 2 * (i : Int) + 1 < n := by omega
      have hless := fun (W : World) (hW : S (a' ++ t) W) (p q : Nat) (hp : p < n) (hq : q < n) => H.out.less _ _ hW p q (by have := HL.out; simp; omega) (by have := HL.out; simp; omega)
      have HLE := Lib.hid hless
      have hsw := fun (W : World) (hW : S (a' ++ t) W) (p q : Nat) (hp : p < n) (hq : q < n) => H.out.swap _ _ hW p q (by have := HL.out; simp; omega) (by have := HL.out; simp; omega)
      have HSW := Lib.hid hsw
      clear hless hsw
      by_cases h2 : n ≤ 2 * i + 2
      · have h2' : (n : Int) ≤ 2 * (i : Int) + 1 + 1 := by omega
        have HSa := HS
        have HL1 : Hid True := trivial
        have hF : Fst lt (nth a') n i (2 * i + 1) := Fst.one H.out.swo (by omega) (by omega)
        have ej : (((2 * i + 1 : Nat)) : Int) = 2 * (i : Int) + 1 := by omega
        have hl2 := fun W hW => HLE.out W hW (2 * i + 1) i (by omega) (by omega)
        rw [nth_left (by have := HL.out; omega), nth_left (by have := HL.out; omega), ej] at hl2
        have hs2 := fun W hW => HSW.out W hW i (2 * i + 1) (by omega) (by omega)
        rw [swp_left (by have := HL.out; omega) (by have := HL.out; omega), ej] at hs2
        have HF := Lib.hid hF
        have EJ := Lib.hid ej
        have HS2 := Lib.hid hs2
        clear hF ej hs2
        cases hlv : lt (nth a' (2 * i + 1)) (nth a' i) with
        | true =>
          rw [hlv] at hl2
          have HLV := Lib.hid hlv
          have HL2 := Lib.hid hl2
          clear hlv hl2
          go_wp2_with (first
            | (go_at_fn gl; ((with_reducible refine (HL2.out _ HSa.out).mono ?_); rintro e w' ⟨rfl, hS1⟩; have HSb := Lib.hid hS1; clear hS1))
            | (go_at_fn gs; refine (HS2.out _ HSb.out).mono ?_; rintro e w' ⟨rfl, hS1⟩; have HSc := Lib.hid hS1; clear hS1))
          go_roundw
          case rel =>
            refine ⟨2 * i + 1, swp a' i (2 * i + 1), by rw [EJ.out], by have := HN.out; omega, (swp_perm (by have := HL.out; omega) (by have := HL.out; omega)).trans HP.out, ?_, HSc.out⟩
            rw [HN.out]
            exact (HD'.out.step H.out.swo HF.out HLV.out).ext (by omega) (fun k hk => nth_swp k (by have := HL.out; omega))
          case measure => simp [intOf]; omega
        | false =>
          rw [hlv] at hl2
          have HLV := Lib.hid hlv
          have HL2 := Lib.hid hl2
          clear hlv hl2
          go_wp2_with (first
            | (go_at_fn gl; ((with_reducible refine (HL2.out _ HSa.out).mono ?_); rintro e w' ⟨rfl, hS1⟩; have HSb := Lib.hid hS1; clear hS1)))
          go_ret
          exact DnE.stop HP.out (by rw [HN.out]; exact HD'.out) (fun c hc hc2 => H.out.swo.ntr _ _ _ (HF.out.2.2 c (by have := HN.out; omega) hc2) HLV.out) HSb.out
      · have h2' : 2 * (i : Int) + 1 + 1 < n := by omega
        have e1 : ((2 * i + 1 : Nat) : Int) = 2 * (i : Int) + 1 := by omega
        have e2 : ((2 * i + 2 : Nat) : Int) = 2 * (i : Int) + 1 + 1 := by omega
        have hl1 := HLE.out _ HS.out (2 * i + 2) (2 * i + 1) (by omega) (by omega)
        rw [nth_left (by have := HL.out; omega), nth_left (by have := HL.out; omega), e1, e2] at hl1
        clear e1 e2
        cases hv1 : lt (nth a' (2 * i + 2)) (nth a' (2 * i + 1)) with
        | true =>
          rw [hv1] at hl1
          have HL1 := Lib.hid hl1
          have HV1 := Lib.hid hv1
          clear hl1 hv1
          have hF : Fst lt (nth a') n i (2 * i + 2) := Fst.right H.out.swo (by omega) HV1.out
          have ej : (((2 * i + 2 : Nat)) : Int) = 2 * (i : Int) + 1 + 1 := by omega
          have hl2 := fun W hW => HLE.out W hW (2 * i + 2) i (by omega) (by omega)
          rw [nth_left (by have := HL.out; omega), nth_left (by have := HL.out; omega), ej] at hl2
          have hs2 := fun W hW => HSW.out W hW i (2 * i + 2) (by omega) (by omega)
          rw [swp_left (by have := HL.out; omega) (by have := HL.out; omega), ej] at hs2
          have HF := Lib.hid hF
          have EJ := Lib.hid ej
          have HS2 := Lib.hid hs2
          clear hF ej hs2
          cases hlv : lt (nth a' (2 * i + 2)) (nth a' i) with
          | true =>
            rw [hlv] at hl2
            have HLV := Lib.hid hlv
            have HL2 := Lib.hid hl2
            clear hlv hl2
            go_wp2_with (first
              | (go_at_fn gl; ((with_reducible refine (HL1.out).mono ?_); rintro e w' ⟨rfl, hS1⟩; have HSa := Lib.hid hS1; clear hS1))
              | (go_at_fn gl; ((with_reducible refine (HL2.out _ HSa.out).mono ?_); rintro e w' ⟨rfl, hS1⟩; have HSb := Lib.hid hS1; clear hS1))
              | (go_at_fn gs; refine (HS2.out _ HSb.out).mono ?_; rintro e w' ⟨rfl, hS1⟩; have HSc := Lib.hid hS1; clear hS1))
            go_roundw
            case rel =>
              refine ⟨2 * i + 2, swp a' i (2 * i + 2), by rw [EJ.out], by have := HN.out; omega, (swp_perm (by have := HL.out; omega) (by have := HL.out; omega)).trans HP.out, ?_, HSc.out⟩
              rw [HN.out]
              exact (HD'.out.step H.out.swo HF.out HLV.out).ext (by omega) (fun k hk => nth_swp k (by have := HL.out; omega))
            case measure => simp [intOf]; omega
          | false =>
            rw [hlv] at hl2
            have HLV := Lib.hid hlv
            have HL2 := Lib.hid hl2
            clear hlv hl2
            go_wp2_with (first
              | (go_at_fn gl; ((with_reducible refine (HL1.out).mono ?_); rintro e w' ⟨rfl, hS1⟩; have HSa := Lib.hid hS1; clear hS1))
              | (go_at_fn gl; ((with_reducible refine (HL2.out _ HSa.out).mono ?_); rintro e w' ⟨rfl, hS1⟩; have HSb := Lib.hid hS1; clear hS1)))
            go_ret
            exact DnE.stop HP.out (by rw [HN.out]; exact HD'.out) (fun c hc hc2 => H.out.swo.ntr _ _ _ (HF.out.2.2 c (by have := HN.out; omega) hc2) HLV.out) HSb.out
        | false =>
          rw [hv1] at hl1
          have HL1 := Lib.hid hl1
          have HV1 := Lib.hid hv1
          clear hl1 hv1
          have hF : Fst lt (nth a') n i (2 * i + 1) := Fst.left H.out.swo (by omega) HV1.out
          have ej : (((2 * i + 1 : Nat)) : Int) = 2 * (i : Int) + 1 := by omega
          have hl2 := fun W hW => HLE.out W hW (2 * i + 1) i (by omega) (by omega)
          rw [nth_left (by have := HL.out; omega), nth_left (by have := HL.out; omega), ej] at hl2
          have hs2 := fun W hW => HSW.out W hW i (2 * i + 1) (by omega) (by omega)
          rw [swp_left (by have := HL.out; omega) (by have := HL.out; omega), ej] at hs2
          have HF := Lib.hid hF
          have EJ := Lib.hid ej
          have HS2 := Lib.hid hs2
          clear hF ej hs2
          cases hlv : lt (nth a' (2 * i + 1)) (nth a' i) with
          | true =>
            rw [hlv] at hl2
            have HLV := Lib.hid hlv
            have HL2 := Lib.hid hl2
            clear hlv hl2
            go_wp2_with (first
              | (go_at_fn gl; ((with_reducible refine (HL1.out).mono ?_); rintro e w' ⟨rfl, hS1⟩; have HSa := Lib.hid hS1; clear hS1))
              | (go_at_fn gl; ((with_reducible refine (HL2.out _ HSa.out).mono ?_); rintro e w' ⟨rfl, hS1⟩; have HSb := Lib.hid hS1; clear hS1))
              | (go_at_fn gs; refine (HS2.out _ HSb.out).mono ?_; rintro e w' ⟨rfl, hS1⟩; have HSc := Lib.hid hS1; clear hS1))
            go_roundw
            case rel =>
              refine ⟨2 * i + 1, swp a' i (2 * i + 1), by rw [EJ.out], by have := HN.out; omega, (swp_perm (by have := HL.out; omega) (by have := HL.out; omega)).trans HP.out, ?_, HSc.out⟩
              rw [HN.out]
              exact (HD'.out.step H.out.swo HF.out HLV.out).ext (by omega) (fun k hk => nth_swp k (by have := HL.out; omega))
            case measure => simp [intOf]; omega
          | false =>
            rw [hlv] at hl2
            have HLV := Lib.hid hlv
            have HL2 := Lib.hid hl2
            clear hlv hl2
            go_wp2_with (first
              | (go_at_fn gl; ((with_reducible refine (HL1.out).mono ?_); rintro e w' ⟨rfl, hS1⟩; have HSa := Lib.hid hS1; clear hS1))
              | (go_at_fn gl; ((with_reducible refine (HL2.out _ HSa.out).mono ?_); rintro e w' ⟨rfl, hS1⟩; have HSb := Lib.hid hS1; clear hS1)))
            go_ret
            exact DnE.stop HP.out (by rw [HN.out]; exact HD'.out) (fun c hc hc2 => H.out.swo.ntr _ _ _ (HF.out.2.2 c (by have := HN.out; omega) hc2) HLV.out) HSb.out
end
end Go.Proofs.YtfljmdpigckpkaaGreatDoor.QQ
