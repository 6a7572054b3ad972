/- token.placesOf and the closure that it answers. -/
import Derived.Test.YthgpepkcjjimlaaTokG
import Derived.OneCell
import Derived.Deep.LoopGhost
namespace Go.Proofs.Ythgpepkcjjimlaa
open Go.RowKit

/-- The line of a place, and where that line begins. -/
def lineOf (l : List UInt8) : Nat → Nat
  | 0 => 1
  | p + 1 => if chr l p = 10 then lineOf l p + 1 else lineOf l p
def fromOf (l : List UInt8) : Nat → Nat
  | 0 => 0
  | p + 1 => if chr l p = 10 then p + 1 else fromOf l p
theorem fromOf_le (l : List UInt8) : ∀ p, fromOf l p ≤ p
  | 0 => Nat.le_refl _
  | p + 1 => by
    have := fromOf_le l p
    simp only [fromOf]; split <;> omega
theorem lineOf_le (l : List UInt8) : ∀ p, lineOf l p ≤ p + 1
  | 0 => Nat.le_refl _
  | p + 1 => by
    have := lineOf_le l p
    simp only [lineOf]; split <;> omega

/-- The closure's four variables: the text, its line, its line's beginning, how far it has come. -/
structure Pl (w : World) (g : Nat) (v : Value) (a b c : Nat) : Prop where
  text : w.heap[g]? = some (.cells #[v] 22 (0, 0))
  line : w.heap[g + 1]? = some (.cells #[.int .i64 a] 3 (0, 0))
  first : w.heap[g + 2]? = some (.cells #[.int .i64 b] 3 (0, 0))
  seen : w.heap[g + 3]? = some (.cells #[.int .i64 c] 3 (0, 0))

/-- Only the closure's three numbers have turned. -/
structure Pt (g : Nat) (w w' : World) : Prop where
  os : w'.os = w.os
  tape : w'.tape = w.tape
  output : w'.output = w.output
  size : w'.heap.size = w.heap.size
  block : ∀ k, k < g + 1 ∨ g + 3 < k → w'.heap[k]? = w.heap[k]?

theorem Pt.refl (g : Nat) (w : World) : Pt g w w := ⟨rfl, rfl, rfl, rfl, fun _ _ => rfl⟩
theorem Pt.set {g : Nat} {w w' : World} (h : Pt g w w') (p : Addr) (hp : g + 1 ≤ p.block ∧ p.block ≤ g + 3) (u : Value) : Pt g w (w'.setCell p u) :=
  ⟨h.os, h.tape, h.output, by simpa [World.setCell] using h.size, fun k hk => (Below.heap_setCell w' p u k (by omega)).trans (h.block k hk)⟩
theorem Pt.trans {g : Nat} {a b c : World} (h : Pt g a b) (k : Pt g b c) : Pt g a c :=
  ⟨k.os.trans h.os, k.tape.trans h.tape, k.output.trans h.output, k.size.trans h.size, fun i hi => (k.block i hi).trans (h.block i hi)⟩
theorem Pt.drewN {g : Nat} {w w' : World} (h : Pt g w w') (n : Nat) : Pt g w (w'.drewN n) := ⟨h.os, h.tape, h.output, h.size, h.block⟩
theorem Pt.drew {g : Nat} {w w' : World} (h : Pt g w w') : Pt g w w'.drew := ⟨h.os, h.tape, h.output, h.size, h.block⟩

theorem Pl.setLine {w : World} {g : Nat} {v : Value} {a b c : Nat} (h : Pl w g v a b c) (n : Nat) : Pl (w.setCell ⟨g + 1, 0, none⟩ (.int .i64 n)) g v n b c :=
  ⟨(Below.heap_setCell _ _ _ _ (by simp)).trans h.text, one_setCell h.line, (Below.heap_setCell _ _ _ _ (by simp)).trans h.first, (Below.heap_setCell _ _ _ _ (by simp)).trans h.seen⟩
theorem Pl.setFirst {w : World} {g : Nat} {v : Value} {a b c : Nat} (h : Pl w g v a b c) (n : Nat) : Pl (w.setCell ⟨g + 2, 0, none⟩ (.int .i64 n)) g v a n c :=
  ⟨(Below.heap_setCell _ _ _ _ (by simp)).trans h.text, (Below.heap_setCell _ _ _ _ (by simp)).trans h.line, one_setCell h.first, (Below.heap_setCell _ _ _ _ (by simp)).trans h.seen⟩
theorem Pl.setSeen {w : World} {g : Nat} {v : Value} {a b c : Nat} (h : Pl w g v a b c) (n : Nat) : Pl (w.setCell ⟨g + 3, 0, none⟩ (.int .i64 n)) g v a b n :=
  ⟨(Below.heap_setCell _ _ _ _ (by simp)).trans h.text, (Below.heap_setCell _ _ _ _ (by simp)).trans h.line, (Below.heap_setCell _ _ _ _ (by simp)).trans h.first, one_setCell h.seen⟩

def plv (g : Nat) : Value := .func (.func 32) #[] #[.pointer (some ⟨g + 3, 0, none⟩), .pointer (some ⟨g, 0, none⟩), .pointer (some ⟨g + 1, 0, none⟩), .pointer (some ⟨g + 2, 0, none⟩)]

set_option maxRecDepth 100000 in
set_option maxHeartbeats 1000000 in
theorem placesOf_ok (A : Option Addr) (n cap : Nat) (w : World) :
    Calls Try.prog 24 #[.slice A n cap] w fun e w' => e = .returned (plv w.heap.size) ∧ Below w.heap.size w w' ∧ Pl w' w.heap.size (.slice A n cap) 1 0 0 ∧ w'.heap.size = w.heap.size + 4 := by
  go_enter Try.func24, Try.ntmps24
  go_wp2
  go_ret
  refine ⟨rfl, ((((Below.refl _ _).alloc (Nat.le_refl _) _).alloc (by simp) _).alloc (by simp; omega) _).alloc (by simp; omega) _, ⟨?_, ?_, ?_, ?_⟩, by simp⟩
  · rw [Below.heap_alloc _ _ _ (by simp; omega), Below.heap_alloc _ _ _ (by simp; omega), Below.heap_alloc _ _ _ (by simp)]
    exact heap_alloc_new w _
  · rw [Below.heap_alloc _ _ _ (by simp), Below.heap_alloc _ _ _ (by simp)]
    have := heap_alloc_new (w.alloc (.cells #[.slice A n cap] 22)) (.cells #[.int .i64 1] 3)
    simpa using this
  · rw [Below.heap_alloc _ _ _ (by simp)]
    have := heap_alloc_new ((w.alloc (.cells #[.slice A n cap] 22)).alloc (.cells #[.int .i64 1] 3)) (.cells #[.int .i64 0] 3)
    simpa using this
  · have := heap_alloc_new (((w.alloc (.cells #[.slice A n cap] 22)).alloc (.cells #[.int .i64 1] 3)).alloc (.cells #[.int .i64 0] 3)) (.cells #[.int .i64 0] 3)
    simpa using this

def PlR (l : List UInt8) (g : Nat) (v : Value) (w : World) (q : Nat) (k : Nat) (wr : World) : Prop :=
  ∃ j : Nat, j + k = q ∧ Pl wr g v (lineOf l j) (fromOf l j) j ∧ Pt g w wr

set_option maxRecDepth 100000 in
set_option maxHeartbeats 1000000 in
theorem place_ok (l : List UInt8) (b off cap g s q : Nat) (w : World) (hb : Bs w b off l) (hn : l.length ≤ 1000000000) (hq : q ≤ l.length) (hs : s ≤ q) (hg : b < g)
    (hp : Pl w g (.slice (some ⟨b, off, none⟩) l.length cap) (lineOf l s) (fromOf l s) s) :
    Calls Try.prog 32 #[.int .i64 q, .pointer (some ⟨g + 3, 0, none⟩), .pointer (some ⟨g, 0, none⟩), .pointer (some ⟨g + 1, 0, none⟩), .pointer (some ⟨g + 2, 0, none⟩)] w
      fun e w' => e = .returned (.tuple #[.int .i64 (lineOf l q), .int .i64 ((q : Int) - fromOf l q + 1)]) ∧ Pl w' g (.slice (some ⟨b, off, none⟩) l.length cap) (lineOf l q) (fromOf l q) q ∧ Pt g w w' := by
  have HB := Lib.hid hb
  clear hb
  go_enter Try.func32, Try.ntmps32
  go_wp2
  go_loopg [8] (q - s) (fun k x wr => PlR l g (.slice (some ⟨b, off, none⟩) l.length cap) w q k wr)
  case atStart => exact ⟨s, by omega, hp, Pt.refl _ _⟩
  case round =>
    obtain ⟨j, hjk, hpl, hpt⟩ := hrel
    have c0 := cell_of_one hpl.text
    have c1 := cell_of_one hpl.line
    have c2 := cell_of_one hpl.first
    have c3 := cell_of_one hpl.seen
    have f1 := free_of_one hpl.line
    have f2 := free_of_one hpl.first
    have f3 := free_of_one hpl.seen
    have HPL := Lib.hid hpl
    have HPT := Lib.hid hpt
    have HJ := Lib.hid hjk
    have hl1 := lineOf_le l j
    have hf1 := fromOf_le l j
    clear hpl hpt hp
    by_cases hlt : j < q
    · have hcell : wr.cell? ⟨b, off + j, none⟩ = some (.int .u8 (chr l j)) := (World.cell?_of_block (HPT.out.block b (by omega))).trans (HB.out j (by omega))
      clear hjk
      by_cases h10 : chr l j = 10
      · have h10' : (chr l j == 10) = true := by simp [h10]
        have H10 := Lib.hid h10
        clear h10
        go_wp2
        go_roundg (gk - 1)
        case measure => have := HJ.out; omega
        case rel =>
          refine ⟨j + 1, by have := HJ.out; omega, ?_, ((HPT.out.set _ (by simp) _).set _ (by simp) _).set _ (by simp) _⟩
          have e1 : lineOf l (j + 1) = lineOf l j + 1 := by simp [lineOf, H10.out]
          have e2 : fromOf l (j + 1) = j + 1 := by simp [fromOf, H10.out]
          rw [e1, e2]
          have := ((HPL.out.setLine (lineOf l j + 1)).setFirst (j + 1)).setSeen (j + 1)
          simpa using this
      · have h10' : (chr l j == 10) = false := by simp [h10]
        go_wp2
        go_roundg (gk - 1)
        case measure => have := HJ.out; omega
        case rel =>
          refine ⟨j + 1, by have := HJ.out; omega, ?_, HPT.out.set _ (by simp) _⟩
          have e1 : lineOf l (j + 1) = lineOf l j := by simp [lineOf, h10]
          have e2 : fromOf l (j + 1) = fromOf l j := by simp [fromOf, h10]
          rw [e1, e2]
          have := HPL.out.setSeen (j + 1)
          simpa using this
    · obtain rfl : j = q := by have := HJ.out; omega
      clear hjk
      go_wp2
      go_quiet (fail)
      go_wp2
      go_ret2
      exact ⟨rfl, ⟨HPL.out.text, HPL.out.line, HPL.out.first, HPL.out.seen⟩, HPT.out.drewN nq⟩
end Go.Proofs.Ythgpepkcjjimlaa
