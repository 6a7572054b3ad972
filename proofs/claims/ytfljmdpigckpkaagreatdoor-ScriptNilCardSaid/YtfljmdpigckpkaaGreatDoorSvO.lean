/- The program's deeds: what each instruction does, as a map. Written by genVO.py. -/
import Derived.Test.YtfljmdpigckpkaaGreatDoorSvL
import Derived.Maps.Own
import Derived.Maps.OwnSet
namespace Go.Proofs.YtfljmdpigckpkaaGreatDoor
open Go.RowKit Go.Shelf Go.Maps Go.ChangeMaps
attribute [local go_sem] Oper.semAt_some
/-- The entries of a map of functions that were put in one behind the other. -/
def entD : Nat → List (Int × FuncId) → List MapEntry
  | _, [] => []
  | n, s :: r => ⟨.int .i64 s.1, .func (.func s.2) #[] #[], n⟩ :: entD (n + 1) r
theorem entD_snoc : ∀ (ws : List (Int × FuncId)) (n : Nat) (s : Int × FuncId), entD n (ws ++ [s]) = entD n ws ++ [⟨.int .i64 s.1, .func (.func s.2) #[] #[], n + ws.length⟩]
  | [], n, s => by simp [entD]
  | x :: r, n, s => by
    simp only [List.cons_append, entD, entD_snoc r (n + 1) s, List.length_cons]
    congr 4
    omega
/-- The function of an operation. -/
def fnO (k : Int) : List (Int × FuncId) → Option FuncId
  | [] => none
  | s :: r => if k = s.1 then some s.2 else fnO k r
theorem find_entD (k : Int) : ∀ (ws : List (Int × FuncId)) (n i : Nat), ∃ j, Instr.findNow (.int .i64) (.int .i64 k) (entD n ws) i = some ((fnO k ws).map fun f => (j, .func (.func f) #[] #[]))
  | [], n, i => ⟨0, by simp [entD, Instr.findNow, fnO]⟩
  | s :: r, n, i => by
    obtain ⟨j, ih⟩ := find_entD k r (n + 1) (i + 1)
    simp only [entD, Instr.findNow, Instr.sameNow, fnO]
    by_cases h : k = s.1
    · exact ⟨i, by simp [h]⟩
    · refine ⟨j, ?_⟩
      have h1 : (k == s.1) = false := by simpa using h
      simp only [h1, ih, if_neg h, if_true]
theorem push_setD (a : Array Obj) (x y : Obj) : (a.push x).setIfInBounds a.size y = a.push y := by
  apply Array.ext_getElem?
  intro i
  rw [Array.getElem?_setIfInBounds, Array.getElem?_push, Array.getElem?_push]
  by_cases h : a.size = i
  · subst h; simp
  · have : ¬ i = a.size := fun e => h e.symm
    simp [h, this]
def dobj (ws : List (Int × FuncId)) : Obj := .map (entD 0 ws).toArray ws.length
theorem ins_runD (w : World) (ws : List (Int × FuncId)) (k : Int) (f : FuncId) (h : fnO k ws = none) :
    (Instr.mapUpdate 250 (.map (some w.heap.size)) (.int .i64 k) (.func (.func f) #[] #[])).run Tryz.prog (w.alloc (dobj ws)) = .ok () (w.alloc (dobj (ws ++ [(k, f)]))) := by
  obtain ⟨j, hj⟩ := find_entD k ws 0 0
  rw [h, Option.map_none] at hj
  have hb : (w.alloc (dobj ws)).heap[w.heap.size]? = some (.map (entD 0 ws).toArray ws.length) := heap_alloc_new w _
  have hc : ∀ m W, (Instr.checkKey false (m + 1) 22 (.int .i64 k)).run Tryz.prog W = .ok () W := fun m W => MapKept.run_checkKey (k := .int .i64 k) Tryz.underlying22 rfl false m
  have hset : ∀ o, (setObj w.heap.size o).run Tryz.prog (w.alloc (dobj ws)) = .ok () (w.alloc o) := fun o => by
    rw [MapKept.run_setObj_map o hb]
    simp [World.alloc, -World.alloc_eq, push_setD, dobj]
  have he : dobj (ws ++ [(k, f)]) = .map ((entD 0 ws).toArray.push ⟨.int .i64 k, .func (.func f) #[] #[], ws.length⟩) (ws.length + 1) := by
    unfold dobj
    rw [entD_snoc]
    simp
  rw [he]
  simp [Instr.mapUpdate, run_underlying Tryz.underlying250, MapKept.run_getObj_map hb, hc, Instr.findKey, run_underlying Tryz.underlying22, hj, Result.andThen, hset]
def deedL : List (Int × FuncId) := [(1, 211), (2, 213), (3, 215), (4, 217), (5, 218), (6, 219), (7, 221), (8, 222), (11, 223), (12, 225), (13, 228), (14, 231), (15, 232), (16, 234), (17, 235), (18, 236), (19, 238), (20, 239), (21, 241), (22, 242), (31, 243), (32, 244), (33, 245)]
def dk (i : Nat) : List (Int × FuncId) := deedL.take i
theorem ins_dk (w : World) (i j : Nat) (k : Int) (f : FuncId) (hs : deedL[i]? = some (k, f)) (h : fnO k (deedL.take i) = none) (hj : j = i + 1) :
    (Instr.mapUpdate 250 (.map (some w.heap.size)) (.int .i64 k) (.func (.func f) #[] #[])).run Tryz.prog (w.alloc (dobj (dk i))) = .ok () (w.alloc (dobj (dk j))) := by
  subst hj
  have hr := ins_runD w (dk i) k f h
  rw [hr]
  unfold dk
  rw [List.take_add_one, hs]
  rfl
set_option maxRecDepth 100000 in
set_option maxHeartbeats 4000000 in
theorem deeds_ok (w : World) : Calls Tryz.prog 137 #[] w fun e w' => e = .returned (.map (some w.heap.size)) ∧ w' = w.alloc (dobj (dk 23)) := by
  have hmm : ∀ u : World, (Instr.makeMap 250 none).run Tryz.prog u = .ok (.map (some u.heap.size)) (u.alloc (dobj (dk 0))) := fun u => rfl
  have i0 := ins_dk w 0 1 1 211 rfl (by decide) rfl
  have i1 := ins_dk w 1 2 2 213 rfl (by decide) rfl
  have i2 := ins_dk w 2 3 3 215 rfl (by decide) rfl
  have i3 := ins_dk w 3 4 4 217 rfl (by decide) rfl
  have i4 := ins_dk w 4 5 5 218 rfl (by decide) rfl
  have i5 := ins_dk w 5 6 6 219 rfl (by decide) rfl
  have i6 := ins_dk w 6 7 7 221 rfl (by decide) rfl
  have i7 := ins_dk w 7 8 8 222 rfl (by decide) rfl
  have i8 := ins_dk w 8 9 11 223 rfl (by decide) rfl
  have i9 := ins_dk w 9 10 12 225 rfl (by decide) rfl
  have i10 := ins_dk w 10 11 13 228 rfl (by decide) rfl
  have i11 := ins_dk w 11 12 14 231 rfl (by decide) rfl
  have i12 := ins_dk w 12 13 15 232 rfl (by decide) rfl
  have i13 := ins_dk w 13 14 16 234 rfl (by decide) rfl
  have i14 := ins_dk w 14 15 17 235 rfl (by decide) rfl
  have i15 := ins_dk w 15 16 18 236 rfl (by decide) rfl
  have i16 := ins_dk w 16 17 19 238 rfl (by decide) rfl
  have i17 := ins_dk w 17 18 20 239 rfl (by decide) rfl
  have i18 := ins_dk w 18 19 21 241 rfl (by decide) rfl
  have i19 := ins_dk w 19 20 22 242 rfl (by decide) rfl
  have i20 := ins_dk w 20 21 31 243 rfl (by decide) rfl
  have i21 := ins_dk w 21 22 32 244 rfl (by decide) rfl
  have i22 := ins_dk w 22 23 33 245 rfl (by decide) rfl
  go_enter Tryz.func137, Tryz.ntmps137
  go_wp2
  go_ret
  exact ⟨rfl, rfl⟩
theorem look_deed (w : World) (b : Nat) (k : Int) (f : FuncId) (hb : w.heap[b]? = some (dobj (dk 23))) (hk : fnO k deedL = some f) :
    (Instr.lookup 250 (.map (some b)) (.int .i64 k) false).run Tryz.prog w = .ok (.func (.func f) #[] #[]) w := by
  have hc : ∀ e m W, (Instr.checkKey e (m + 1) 22 (.int .i64 k)).run Tryz.prog W = .ok () W := fun e m W => MapKept.run_checkKey (k := .int .i64 k) Tryz.underlying22 rfl e m
  obtain ⟨j, hj⟩ := find_entD k (dk 23) 0 0
  have hdk : fnO k (dk 23) = some f := hk
  rw [hdk, Option.map_some] at hj
  unfold dobj at hb
  simp [Instr.lookup, run_underlying Tryz.underlying250, MapKept.run_getObj_map hb, hc, Instr.findKey, run_underlying Tryz.underlying22, hj, Result.andThen]
end Go.Proofs.YtfljmdpigckpkaaGreatDoor
