/- token.wordSet: the set of the words, as a map. -/
import Derived.Test.YthgpepkcjjimlaaTokE
import Derived.Maps.Own
import Derived.Maps.OwnSet
namespace Go.Proofs.Ythgpepkcjjimlaa
open Go.RowKit Go.Maps Go.ChangeMaps

/-- The entries of a set of texts that were put in one behind the other. -/
def ents : Nat → List (List UInt8) → List MapEntry
  | _, [] => []
  | n, s :: r => ⟨.string ⟨s.toArray⟩, .agg #[], n⟩ :: ents (n + 1) r

theorem ents_snoc : ∀ (ws : List (List UInt8)) (n : Nat) (s : List UInt8), ents n (ws ++ [s]) = ents n ws ++ [⟨.string ⟨s.toArray⟩, .agg #[], n + ws.length⟩]
  | [], n, s => by simp [ents]
  | x :: r, n, s => by
    simp only [List.cons_append, ents, ents_snoc r (n + 1) s, List.length_cons]
    congr 4
    omega

theorem bytes_beq (a b : List UInt8) : ((⟨a.toArray⟩ : ByteArray) == ⟨b.toArray⟩) = (a == b) := by
  rw [Bool.eq_iff_iff, MapKept.bytes_beq]
  simp

theorem find_ents (l : List UInt8) : ∀ (ws : List (List UInt8)) (n i : Nat),
    ∃ j, Instr.findNow .string (.string ⟨l.toArray⟩) (ents n ws) i = some (if ws.contains l = true then some (j, .agg #[]) else none)
  | [], n, i => ⟨0, by simp [ents, Instr.findNow]⟩
  | s :: r, n, i => by
    obtain ⟨j, ih⟩ := find_ents l r (n + 1) (i + 1)
    simp only [ents, Instr.findNow, Instr.sameNow, bytes_beq]
    by_cases h : l = s
    · subst h; exact ⟨i, by simp⟩
    · have h1 : (l == s) = false := by simpa using h
      refine ⟨j, ?_⟩
      rw [h1]
      simp only [ih, List.contains_cons, h1, Bool.false_or]

theorem push_set (a : Array Obj) (x y : Obj) : (a.push x).setIfInBounds a.size y = a.push y := by
  apply Array.ext_getElem?
  intro i
  rw [Array.getElem?_setIfInBounds, Array.getElem?_push, Array.getElem?_push]
  by_cases h : a.size = i
  · subst h; simp
  · have : ¬ i = a.size := fun e => h e.symm
    simp [h, this]

theorem upd_run (w : World) (es : Array MapEntry) (n : Nat) (s : ByteArray) (v : Value) (h : Instr.findNow .string (.string s) es.toList 0 = some none) :
    (Instr.mapUpdate 67 (.map (some w.heap.size)) (.string s) v).run Try.prog (w.alloc (.map es n)) = .ok () (w.alloc (.map (es.push ⟨.string s, v, n⟩) (n + 1))) := by
  have hb : (w.alloc (.map es n)).heap[w.heap.size]? = some (.map es n) := heap_alloc_new w _
  have hc : ∀ m W, (Instr.checkKey false (m + 1) 9 (.string s)).run Try.prog W = .ok () W := fun m W => MapKept.run_checkKey (k := .string s) Try.underlying9 trivial false m
  have hset : ∀ o, (setObj w.heap.size o).run Try.prog (w.alloc (.map es n)) = .ok () (w.alloc o) := fun o => by
    rw [MapKept.run_setObj_map o hb]
    simp [World.alloc, -World.alloc_eq, push_set]
  simp [Instr.mapUpdate, run_underlying Try.underlying67, MapKept.run_getObj_map hb, hc, Instr.findKey, run_underlying Try.underlying9, h, Result.andThen, hset]

def wordsL : List (List UInt8) := [[97, 102, 116, 101, 114], [97, 114, 114], [99, 97, 108, 108], [99, 97, 110, 99, 101, 108], [99, 108, 97, 115, 115], [99, 111, 109, 112], [99, 114, 101, 97, 116, 101], [100, 101, 115, 116, 114, 111, 121], [100, 105, 115, 97, 98, 108, 101], [101, 108, 115, 101], [101, 110, 97, 98, 108, 101], [101, 118, 101, 110, 116], [102, 110], [102, 114, 111, 110, 116], [104, 97, 110, 100], [105, 102], [105, 110, 116], [105, 116], [106, 111, 105, 110], [108, 101, 110], [108, 111, 103], [108, 111, 111, 112, 101, 114], [109, 97, 105, 110], [110, 101, 119], [110, 117, 108, 108], [111, 102, 102], [111, 110], [112, 111, 115, 116], [114, 101, 116, 117, 114, 110], [115, 112, 97, 119, 110], [115, 116, 97, 114, 116], [115, 116, 111, 112], [116, 111], [116, 111, 107], [118, 97, 114], [119, 104, 105, 108, 101]]
def isW (l : List UInt8) : Bool := wordsL.contains l
def wobj (ws : List (List UInt8)) : Obj := .map (ents 0 ws).toArray ws.length

theorem ins_run (w : World) (ws : List (List UInt8)) (s : List UInt8) (h : ws.contains s = false) :
    (Instr.mapUpdate 67 (.map (some w.heap.size)) (.string ⟨s.toArray⟩) (.agg #[])).run Try.prog (w.alloc (wobj ws)) = .ok () (w.alloc (wobj (ws ++ [s]))) := by
  obtain ⟨j, hj⟩ := find_ents s ws 0 0
  rw [h] at hj
  have := upd_run w (ents 0 ws).toArray ws.length ⟨s.toArray⟩ (.agg #[]) (by simpa using hj)
  unfold wobj
  rw [this, ents_snoc, List.length_append]
  simp

def wk (i : Nat) : List (List UInt8) := wordsL.take i

theorem ins_wk (w : World) (i j : Nat) (s : List UInt8) (hs : wordsL[i]? = some s) (h : (wordsL.take i).contains s = false) (hj : j = i + 1) :
    (Instr.mapUpdate 67 (.map (some w.heap.size)) (.string ⟨s.toArray⟩) (.agg #[])).run Try.prog (w.alloc (wobj (wk i))) = .ok () (w.alloc (wobj (wk j))) := by
  subst hj
  have hr := ins_run w (wk i) s h
  rw [hr]
  unfold wk
  rw [List.take_add_one, hs]
  rfl

set_option maxRecDepth 100000 in
set_option maxHeartbeats 4000000 in
theorem wordSet_ok (w : World) :
    Calls Try.prog 23 #[] w fun e w' => e = .returned (.map (some w.heap.size)) ∧ w' = w.alloc (wobj (wk 36)) := by
  have hmm : ∀ u : World, (Instr.makeMap 67 none).run Try.prog u = .ok (.map (some u.heap.size)) (u.alloc (wobj (wk 0))) := fun u => rfl
  have i0 := ins_wk w 0 1 [97, 102, 116, 101, 114] rfl (by decide) rfl
  have i1 := ins_wk w 1 2 [97, 114, 114] rfl (by decide) rfl
  have i2 := ins_wk w 2 3 [99, 97, 108, 108] rfl (by decide) rfl
  have i3 := ins_wk w 3 4 [99, 97, 110, 99, 101, 108] rfl (by decide) rfl
  have i4 := ins_wk w 4 5 [99, 108, 97, 115, 115] rfl (by decide) rfl
  have i5 := ins_wk w 5 6 [99, 111, 109, 112] rfl (by decide) rfl
  have i6 := ins_wk w 6 7 [99, 114, 101, 97, 116, 101] rfl (by decide) rfl
  have i7 := ins_wk w 7 8 [100, 101, 115, 116, 114, 111, 121] rfl (by decide) rfl
  have i8 := ins_wk w 8 9 [100, 105, 115, 97, 98, 108, 101] rfl (by decide) rfl
  have i9 := ins_wk w 9 10 [101, 108, 115, 101] rfl (by decide) rfl
  have i10 := ins_wk w 10 11 [101, 110, 97, 98, 108, 101] rfl (by decide) rfl
  have i11 := ins_wk w 11 12 [101, 118, 101, 110, 116] rfl (by decide) rfl
  have i12 := ins_wk w 12 13 [102, 110] rfl (by decide) rfl
  have i13 := ins_wk w 13 14 [102, 114, 111, 110, 116] rfl (by decide) rfl
  have i14 := ins_wk w 14 15 [104, 97, 110, 100] rfl (by decide) rfl
  have i15 := ins_wk w 15 16 [105, 102] rfl (by decide) rfl
  have i16 := ins_wk w 16 17 [105, 110, 116] rfl (by decide) rfl
  have i17 := ins_wk w 17 18 [105, 116] rfl (by decide) rfl
  have i18 := ins_wk w 18 19 [106, 111, 105, 110] rfl (by decide) rfl
  have i19 := ins_wk w 19 20 [108, 101, 110] rfl (by decide) rfl
  have i20 := ins_wk w 20 21 [108, 111, 103] rfl (by decide) rfl
  have i21 := ins_wk w 21 22 [108, 111, 111, 112, 101, 114] rfl (by decide) rfl
  have i22 := ins_wk w 22 23 [109, 97, 105, 110] rfl (by decide) rfl
  have i23 := ins_wk w 23 24 [110, 101, 119] rfl (by decide) rfl
  have i24 := ins_wk w 24 25 [110, 117, 108, 108] rfl (by decide) rfl
  have i25 := ins_wk w 25 26 [111, 102, 102] rfl (by decide) rfl
  have i26 := ins_wk w 26 27 [111, 110] rfl (by decide) rfl
  have i27 := ins_wk w 27 28 [112, 111, 115, 116] rfl (by decide) rfl
  have i28 := ins_wk w 28 29 [114, 101, 116, 117, 114, 110] rfl (by decide) rfl
  have i29 := ins_wk w 29 30 [115, 112, 97, 119, 110] rfl (by decide) rfl
  have i30 := ins_wk w 30 31 [115, 116, 97, 114, 116] rfl (by decide) rfl
  have i31 := ins_wk w 31 32 [115, 116, 111, 112] rfl (by decide) rfl
  have i32 := ins_wk w 32 33 [116, 111] rfl (by decide) rfl
  have i33 := ins_wk w 33 34 [116, 111, 107] rfl (by decide) rfl
  have i34 := ins_wk w 34 35 [118, 97, 114] rfl (by decide) rfl
  have i35 := ins_wk w 35 36 [119, 104, 105, 108, 101] rfl (by decide) rfl
  go_enter Try.func23, Try.ntmps23
  go_wp2
  go_ret
  exact ⟨rfl, rfl⟩

theorem look_run (w : World) (b : Nat) (l : List UInt8) (hb : w.heap[b]? = some (wobj (wk 36))) :
    (Instr.lookup 67 (.map (some b)) (.string ⟨l.toArray⟩) true).run Try.prog w = .ok (.tuple #[.agg #[], .bool (isW l)]) w := by
  have hc : ∀ e m W, (Instr.checkKey e (m + 1) 9 (.string ⟨l.toArray⟩)).run Try.prog W = .ok () W := fun e m W => MapKept.run_checkKey (k := .string ⟨l.toArray⟩) Try.underlying9 trivial e m
  have hz : ∀ W, (zeroValue 77).run Try.prog W = .ok (.agg #[]) W := fun W => by kernel_rfl
  obtain ⟨j, hj⟩ := find_ents l (wk 36) 0 0
  have hwk : (wk 36).contains l = isW l := rfl
  rw [hwk] at hj
  unfold wobj at hb
  cases hw : isW l
  · rw [hw] at hj
    simp [Instr.lookup, run_underlying Try.underlying67, MapKept.run_getObj_map hb, hc, Instr.findKey, run_underlying Try.underlying9, hj, Result.andThen, hz]
  · rw [hw] at hj
    simp [Instr.lookup, run_underlying Try.underlying67, MapKept.run_getObj_map hb, hc, Instr.findKey, run_underlying Try.underlying9, hj, Result.andThen]
end Go.Proofs.Ythgpepkcjjimlaa
