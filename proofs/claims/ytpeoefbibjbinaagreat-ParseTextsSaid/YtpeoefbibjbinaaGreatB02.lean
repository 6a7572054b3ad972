/- token.IsWord, token.IsName, token.tokenOf; token.placesOf and the closure that it answers; What a text's tokens are, and what is wrong with it, plainly; and what token.Scan's loop keeps. -/
import Derived.Test.YtpeoefbibjbinaaGreatB01
import Derived.OneCell
import Derived.Deep.LoopGhost
namespace Go.Proofs.YtpeoefbibjbinaaGreat
open Go.RowKit

theorem heap_below {B : Nat} {w w' : World} (h : Below B w w') {b : Nat} {o : Obj} (hb : b < B) (ho : w.heap[b]? = some o) : w'.heap[b]? = some o := (h.block b hb).trans ho

/-- All that lay below a bound lies there as before. -/
theorem below_cells {W w1 : World} {B : Nat} (hb : Below B W w1) : (∀ b o, b < B → w1.cell? ⟨b, o, none⟩ = W.cell? ⟨b, o, none⟩) ∧ (∀ b o, b < B → w1.frozen? ⟨b, o, none⟩ = W.frozen? ⟨b, o, none⟩) :=
  ⟨fun b o h => hb.cell (p := ⟨b, o, none⟩) h, fun b o h => hb.frozen (p := ⟨b, o, none⟩) h⟩

/-- A token without its place. -/
def tkind (k : Int) (l : List UInt8) : Int := if k = 1 ∧ isW l = true then 2 else k
def tnum (k : Int) (l : List UInt8) : Int := if k = 3 then (numT l).1 else 0
def terr (k : Int) (l : List UInt8) : Int := if k = 1 then (if 32 < l.length then 9 else 0) else if k = 3 then (if (numT l).2 = true then 0 else 9) else 0

set_option maxRecDepth 100000 in
set_option maxHeartbeats 1000000 in
theorem tokenOf_mark (l : List UInt8) (v : Value) (w : World) :
    Calls Tryz.prog 26 #[.string ⟨l.toArray⟩, .int .i64 4, v] w fun e w' => e = .returned (.tuple #[.agg #[.int .i64 4, .string ⟨l.toArray⟩, .int .i64 0, .int .i64 0, .int .i64 0], .int .i64 0]) ∧ Below w.heap.size w w' := by
  go_enter Tryz.func26, Tryz.ntmps26
  go_wp2
  exact bodyPost_ret (v := .tuple #[.agg #[.int .i64 4, .string ⟨l.toArray⟩, .int .i64 0, .int .i64 0, .int .i64 0], .int .i64 0]) (by simp [results, Tryz.results26, go_sem]) rfl ⟨rfl, ((Below.refl _ _).alloc (Nat.le_refl _) _).alloc (by simp) _⟩

set_option maxRecDepth 100000 in
set_option maxHeartbeats 1000000 in
theorem tokenOf_name (l : List UInt8) (mb : Nat) (w : World) (hm : w.heap[mb]? = some (wobj (wk 36))) (hn : l.length ≤ 1000000000) :
    Calls Tryz.prog 26 #[.string ⟨l.toArray⟩, .int .i64 1, .map (some mb)] w fun e w' => e = .returned (.tuple #[.agg #[.int .i64 (tkind 1 l), .string ⟨l.toArray⟩, .int .i64 0, .int .i64 0, .int .i64 0], .int .i64 (terr 1 l)]) ∧ Below w.heap.size w w' := by
  have hlt : mb < w.heap.size := (Array.getElem?_eq_some_iff.1 hm).1
  have hl := fun o1 o2 => look_run ((w.alloc o1).alloc o2) mb l (by rw [Below.heap_alloc _ _ _ (by simp; omega), Below.heap_alloc _ _ _ hlt]; exact hm)
  clear hm
  cases hw : isW l
  · have hk : tkind 1 l = 1 := by simp [tkind, hw]
    rw [hk]
    simp only [hw] at hl
    clear hk hw
    by_cases h32 : 32 < l.length
    · have he : terr 1 l = 9 := by simp [terr, h32]
      rw [he]
      clear he
      go_enter Tryz.func26, Tryz.ntmps26
      go_wp2
      exact bodyPost_ret (v := .tuple #[.agg #[.int .i64 1, .string ⟨l.toArray⟩, .int .i64 0, .int .i64 0, .int .i64 0], .int .i64 9]) (by simp [results, Tryz.results26, go_sem]) rfl ⟨rfl, (((Below.refl _ _).alloc (Nat.le_refl _) _).alloc (by simp) _).alloc (by simp; omega) _⟩
    · have he : terr 1 l = 0 := by simp [terr, h32]
      rw [he]
      clear he
      go_enter Tryz.func26, Tryz.ntmps26
      go_wp2
      exact bodyPost_ret (v := .tuple #[.agg #[.int .i64 1, .string ⟨l.toArray⟩, .int .i64 0, .int .i64 0, .int .i64 0], .int .i64 0]) (by simp [results, Tryz.results26, go_sem]) rfl ⟨rfl, (((Below.refl _ _).alloc (Nat.le_refl _) _).alloc (by simp) _).alloc (by simp; omega) _⟩
  · have hk : tkind 1 l = 2 := by simp [tkind, hw]
    rw [hk]
    simp only [hw] at hl
    clear hk hw
    by_cases h32 : 32 < l.length
    · have he : terr 1 l = 9 := by simp [terr, h32]
      rw [he]
      clear he
      go_enter Tryz.func26, Tryz.ntmps26
      go_wp2
      exact bodyPost_ret (v := .tuple #[.agg #[.int .i64 2, .string ⟨l.toArray⟩, .int .i64 0, .int .i64 0, .int .i64 0], .int .i64 9]) (by simp [results, Tryz.results26, go_sem]) rfl ⟨rfl, (((Below.refl _ _).alloc (Nat.le_refl _) _).alloc (by simp) _).alloc (by simp; omega) _⟩
    · have he : terr 1 l = 0 := by simp [terr, h32]
      rw [he]
      clear he
      go_enter Tryz.func26, Tryz.ntmps26
      go_wp2
      exact bodyPost_ret (v := .tuple #[.agg #[.int .i64 2, .string ⟨l.toArray⟩, .int .i64 0, .int .i64 0, .int .i64 0], .int .i64 0]) (by simp [results, Tryz.results26, go_sem]) rfl ⟨rfl, (((Below.refl _ _).alloc (Nat.le_refl _) _).alloc (by simp) _).alloc (by simp; omega) _⟩

set_option maxRecDepth 100000 in
set_option maxHeartbeats 1000000 in
theorem tokenOf_num (l : List UInt8) (v : Value) (w : World) (hn : l.length ≤ 1000000000) :
    Calls Tryz.prog 26 #[.string ⟨l.toArray⟩, .int .i64 3, v] w fun e w' => e = .returned (.tuple #[.agg #[.int .i64 3, .string ⟨l.toArray⟩, .int .i64 (tnum 3 l), .int .i64 0, .int .i64 0], .int .i64 (terr 3 l)]) ∧ Below w.heap.size w w' := by
  have hnum := fun w => number_ok l w hn
  have ht : tnum 3 l = (numT l).1 := by simp [tnum]
  rw [ht]
  clear ht
  generalize hq : numT l = q at hnum ⊢
  obtain ⟨q1, q2⟩ := q
  cases q2
  · have he : terr 3 l = 9 := by simp [terr, hq]
    have h1 : q1 = 0 := by
      unfold numT at hq
      split at hq
      · split at hq <;> simp_all
      · simp_all
    subst h1
    rw [he]
    clear he hq
    have HN := Lib.hid hnum
    clear hnum
    go_enter Tryz.func26, Tryz.ntmps26
    go_wp2_with (go_at_call 52; refine (HN.out _).mono ?_; rintro e w' ⟨rfl, hbl⟩; have hz := hbl.size; obtain ⟨hc', hf'⟩ := below_cells hbl)
    obtain ⟨hc, hf⟩ := below_cells hbl
    have c0 : w'.cell? ⟨w.heap.size, 0, none⟩ = some (.int .i64 0) := by rw [hc _ _ (by simp; omega)]; simp [go_sem]
    have c1 : w'.cell? ⟨w.heap.size, 1, none⟩ = some (.string ⟨#[]⟩) := by rw [hc _ _ (by simp; omega)]; simp [go_sem]
    have c2 : w'.cell? ⟨w.heap.size, 2, none⟩ = some (.int .i64 0) := by rw [hc _ _ (by simp; omega)]; simp [go_sem]
    have c3 : w'.cell? ⟨w.heap.size, 3, none⟩ = some (.int .i64 0) := by rw [hc _ _ (by simp; omega)]; simp [go_sem]
    have c4 : w'.cell? ⟨w.heap.size, 4, none⟩ = some (.int .i64 0) := by rw [hc _ _ (by simp; omega)]; simp [go_sem]
    clear hc hf hz hc' hf'
    have hb0 : Below w.heap.size w w' := (((Below.refl _ _).alloc (Nat.le_refl _) _).alloc (by simp) _).trans (hbl.mono (by simp; omega))
    refine bodyPost_ret (v := .tuple #[.agg #[.int .i64 3, .string ⟨l.toArray⟩, .int .i64 0, .int .i64 0, .int .i64 0], .int .i64 9]) (by simp [results, Tryz.results26, go_sem, c0, c1, c2, c3, c4]) rfl ⟨rfl, ?_⟩
    exact ((((hb0.setCell (Nat.le_refl _) _).setCell (Nat.le_refl _) _).setCell (Nat.le_refl _) _).setCell (Nat.le_refl _) _).setCell (Nat.le_refl _) _
  · have he : terr 3 l = 0 := by simp [terr, hq]
    rw [he]
    clear he hq
    have HN := Lib.hid hnum
    clear hnum
    go_enter Tryz.func26, Tryz.ntmps26
    go_wp2_with (go_at_call 52; refine (HN.out _).mono ?_; rintro e w' ⟨rfl, hbl⟩; have hz := hbl.size; obtain ⟨hc', hf'⟩ := below_cells hbl)
    obtain ⟨hc, hf⟩ := below_cells hbl
    have c0 : w'.cell? ⟨w.heap.size, 0, none⟩ = some (.int .i64 0) := by rw [hc _ _ (by simp; omega)]; simp [go_sem]
    have c1 : w'.cell? ⟨w.heap.size, 1, none⟩ = some (.string ⟨#[]⟩) := by rw [hc _ _ (by simp; omega)]; simp [go_sem]
    have c2 : w'.cell? ⟨w.heap.size, 2, none⟩ = some (.int .i64 0) := by rw [hc _ _ (by simp; omega)]; simp [go_sem]
    have c3 : w'.cell? ⟨w.heap.size, 3, none⟩ = some (.int .i64 0) := by rw [hc _ _ (by simp; omega)]; simp [go_sem]
    have c4 : w'.cell? ⟨w.heap.size, 4, none⟩ = some (.int .i64 0) := by rw [hc _ _ (by simp; omega)]; simp [go_sem]
    clear hc hf hz hc' hf'
    have hb0 : Below w.heap.size w w' := (((Below.refl _ _).alloc (Nat.le_refl _) _).alloc (by simp) _).trans (hbl.mono (by simp; omega))
    refine bodyPost_ret (v := .tuple #[.agg #[.int .i64 3, .string ⟨l.toArray⟩, .int .i64 q1, .int .i64 0, .int .i64 0], .int .i64 0]) (by simp [results, Tryz.results26, go_sem, c0, c1, c2, c3, c4]) rfl ⟨rfl, ?_⟩
    exact (((((hb0.setCell (p := ⟨w.heap.size + 1, 2, none⟩) (by simp) _).setCell (Nat.le_refl _) _).setCell (Nat.le_refl _) _).setCell (Nat.le_refl _) _).setCell (Nat.le_refl _) _).setCell (Nat.le_refl _) _

theorem kind_cases (c : Int) : kindI c = 0 ∨ kindI c = 1 ∨ kindI c = 3 ∨ kindI c = 4 := by
  unfold kindI
  split
  · exact .inr (.inl rfl)
  · split
    · exact .inr (.inr (.inl rfl))
    · split
      · exact .inr (.inr (.inr rfl))
      · exact .inl rfl

theorem tokenOf_ok (l : List UInt8) (k : Int) (mb : Nat) (w : World) (hk : k = 1 ∨ k = 3 ∨ k = 4) (hm : w.heap[mb]? = some (wobj (wk 36))) (hn : l.length ≤ 1000000000) :
    Calls Tryz.prog 26 #[.string ⟨l.toArray⟩, .int .i64 k, .map (some mb)] w fun e w' => e = .returned (.tuple #[.agg #[.int .i64 (tkind k l), .string ⟨l.toArray⟩, .int .i64 (tnum k l), .int .i64 0, .int .i64 0], .int .i64 (terr k l)]) ∧ Below w.heap.size w w' := by
  rcases hk with rfl | rfl | rfl
  · exact tokenOf_name l mb w hm hn
  · exact tokenOf_num l _ w hn
  · exact tokenOf_mark l _ w
end Go.Proofs.YtpeoefbibjbinaaGreat

namespace Go.Proofs.YtpeoefbibjbinaaGreat
open Go.RowKit

/-- The line of a place, and where that line begins. -/
def lineOf (l : List UInt8) : Nat → Nat
  | 0 => 1
  | p + 1 => if chr l p = 10 then lineOf l p + 1 else lineOf l p
def fromOf (l : List UInt8) : Nat → Nat
  | 0 => 0
  | p + 1 => if chr l p = 10 then p + 1 else fromOf l p
theorem fromOf_le (l : List UInt8) : ∀ p, fromOf l p ≤ p
  | 0 => Nat.le_refl _
  | p + 1 => by
    have := fromOf_le l p
    simp only [fromOf]; split <;> omega
theorem lineOf_le (l : List UInt8) : ∀ p, lineOf l p ≤ p + 1
  | 0 => Nat.le_refl _
  | p + 1 => by
    have := lineOf_le l p
    simp only [lineOf]; split <;> omega

/-- The closure's four variables: the text, its line, its line's beginning, how far it has come. -/
structure Pl (w : World) (g : Nat) (v : Value) (a b c : Nat) : Prop where
  text : w.heap[g]? = some (.cells #[v] 22 (0, 0))
  line : w.heap[g + 1]? = some (.cells #[.int .i64 a] 3 (0, 0))
  first : w.heap[g + 2]? = some (.cells #[.int .i64 b] 3 (0, 0))
  seen : w.heap[g + 3]? = some (.cells #[.int .i64 c] 3 (0, 0))

/-- Only the closure's three numbers have turned. -/
structure Pt (g : Nat) (w w' : World) : Prop where
  os : w'.os = w.os
  tape : w'.tape = w.tape
  output : w'.output = w.output
  size : w'.heap.size = w.heap.size
  block : ∀ k, k < g + 1 ∨ g + 3 < k → w'.heap[k]? = w.heap[k]?

theorem Pt.refl (g : Nat) (w : World) : Pt g w w := ⟨rfl, rfl, rfl, rfl, fun _ _ => rfl⟩
theorem Pt.set {g : Nat} {w w' : World} (h : Pt g w w') (p : Addr) (hp : g + 1 ≤ p.block ∧ p.block ≤ g + 3) (u : Value) : Pt g w (w'.setCell p u) :=
  ⟨h.os, h.tape, h.output, by simpa [World.setCell] using h.size, fun k hk => (Below.heap_setCell w' p u k (by omega)).trans (h.block k hk)⟩
theorem Pt.trans {g : Nat} {a b c : World} (h : Pt g a b) (k : Pt g b c) : Pt g a c :=
  ⟨k.os.trans h.os, k.tape.trans h.tape, k.output.trans h.output, k.size.trans h.size, fun i hi => (k.block i hi).trans (h.block i hi)⟩
theorem Pt.drewN {g : Nat} {w w' : World} (h : Pt g w w') (n : Nat) : Pt g w (w'.drewN n) := ⟨h.os, h.tape, h.output, h.size, h.block⟩
theorem Pt.drew {g : Nat} {w w' : World} (h : Pt g w w') : Pt g w w'.drew := ⟨h.os, h.tape, h.output, h.size, h.block⟩

theorem Pl.setLine {w : World} {g : Nat} {v : Value} {a b c : Nat} (h : Pl w g v a b c) (n : Nat) : Pl (w.setCell ⟨g + 1, 0, none⟩ (.int .i64 n)) g v n b c :=
  ⟨(Below.heap_setCell _ _ _ _ (by simp)).trans h.text, one_setCell h.line, (Below.heap_setCell _ _ _ _ (by simp)).trans h.first, (Below.heap_setCell _ _ _ _ (by simp)).trans h.seen⟩
theorem Pl.setFirst {w : World} {g : Nat} {v : Value} {a b c : Nat} (h : Pl w g v a b c) (n : Nat) : Pl (w.setCell ⟨g + 2, 0, none⟩ (.int .i64 n)) g v a n c :=
  ⟨(Below.heap_setCell _ _ _ _ (by simp)).trans h.text, (Below.heap_setCell _ _ _ _ (by simp)).trans h.line, one_setCell h.first, (Below.heap_setCell _ _ _ _ (by simp)).trans h.seen⟩
theorem Pl.setSeen {w : World} {g : Nat} {v : Value} {a b c : Nat} (h : Pl w g v a b c) (n : Nat) : Pl (w.setCell ⟨g + 3, 0, none⟩ (.int .i64 n)) g v a b n :=
  ⟨(Below.heap_setCell _ _ _ _ (by simp)).trans h.text, (Below.heap_setCell _ _ _ _ (by simp)).trans h.line, (Below.heap_setCell _ _ _ _ (by simp)).trans h.first, one_setCell h.seen⟩

def plv (g : Nat) : Value := .func (.func 46) #[] #[.pointer (some ⟨g + 3, 0, none⟩), .pointer (some ⟨g, 0, none⟩), .pointer (some ⟨g + 1, 0, none⟩), .pointer (some ⟨g + 2, 0, none⟩)]

set_option maxRecDepth 100000 in
set_option maxHeartbeats 1000000 in
theorem placesOf_ok (A : Option Addr) (n cap : Nat) (w : World) :
    Calls Tryz.prog 22 #[.slice A n cap] w fun e w' => e = .returned (plv w.heap.size) ∧ Below w.heap.size w w' ∧ Pl w' w.heap.size (.slice A n cap) 1 0 0 ∧ w'.heap.size = w.heap.size + 4 := by
  go_enter Tryz.func22, Tryz.ntmps22
  go_wp2
  go_ret
  refine ⟨rfl, ((((Below.refl _ _).alloc (Nat.le_refl _) _).alloc (by simp) _).alloc (by simp; omega) _).alloc (by simp; omega) _, ⟨?_, ?_, ?_, ?_⟩, by simp⟩
  · rw [Below.heap_alloc _ _ _ (by simp; omega), Below.heap_alloc _ _ _ (by simp; omega), Below.heap_alloc _ _ _ (by simp)]
    exact heap_alloc_new w _
  · rw [Below.heap_alloc _ _ _ (by simp), Below.heap_alloc _ _ _ (by simp)]
    have := heap_alloc_new (w.alloc (.cells #[.slice A n cap] 22)) (.cells #[.int .i64 1] 3)
    simpa using this
  · rw [Below.heap_alloc _ _ _ (by simp)]
    have := heap_alloc_new ((w.alloc (.cells #[.slice A n cap] 22)).alloc (.cells #[.int .i64 1] 3)) (.cells #[.int .i64 0] 3)
    simpa using this
  · have := heap_alloc_new (((w.alloc (.cells #[.slice A n cap] 22)).alloc (.cells #[.int .i64 1] 3)).alloc (.cells #[.int .i64 0] 3)) (.cells #[.int .i64 0] 3)
    simpa using this

def PlR (l : List UInt8) (g : Nat) (v : Value) (w : World) (q : Nat) (k : Nat) (wr : World) : Prop :=
  ∃ j : Nat, j + k = q ∧ Pl wr g v (lineOf l j) (fromOf l j) j ∧ Pt g w wr

set_option maxRecDepth 100000 in
set_option maxHeartbeats 1000000 in
theorem place_ok (l : List UInt8) (b off cap g s q : Nat) (w : World) (hb : Bs w b off l) (hn : l.length ≤ 1000000000) (hq : q ≤ l.length) (hs : s ≤ q) (hg : b < g)
    (hp : Pl w g (.slice (some ⟨b, off, none⟩) l.length cap) (lineOf l s) (fromOf l s) s) :
    Calls Tryz.prog 46 #[.int .i64 q, .pointer (some ⟨g + 3, 0, none⟩), .pointer (some ⟨g, 0, none⟩), .pointer (some ⟨g + 1, 0, none⟩), .pointer (some ⟨g + 2, 0, none⟩)] w
      fun e w' => e = .returned (.tuple #[.int .i64 (lineOf l q), .int .i64 ((q : Int) - fromOf l q + 1)]) ∧ Pl w' g (.slice (some ⟨b, off, none⟩) l.length cap) (lineOf l q) (fromOf l q) q ∧ Pt g w w' := by
  have HB := Lib.hid hb
  clear hb
  go_enter Tryz.func46, Tryz.ntmps46
  go_wp2
  go_loopg [8] (q - s) (fun k x wr => PlR l g (.slice (some ⟨b, off, none⟩) l.length cap) w q k wr)
  case atStart => exact ⟨s, by omega, hp, Pt.refl _ _⟩
  case round =>
    obtain ⟨j, hjk, hpl, hpt⟩ := hrel
    have c0 := cell_of_one hpl.text
    have c1 := cell_of_one hpl.line
    have c2 := cell_of_one hpl.first
    have c3 := cell_of_one hpl.seen
    have f1 := free_of_one hpl.line
    have f2 := free_of_one hpl.first
    have f3 := free_of_one hpl.seen
    have HPL := Lib.hid hpl
    have HPT := Lib.hid hpt
    have HJ := Lib.hid hjk
    have hl1 := lineOf_le l j
    have hf1 := fromOf_le l j
    clear hpl hpt hp
    by_cases hlt : j < q
    · have hcell : wr.cell? ⟨b, off + j, none⟩ = some (.int .u8 (chr l j)) := (World.cell?_of_block (HPT.out.block b (by omega))).trans (HB.out j (by omega))
      clear hjk
      by_cases h10 : chr l j = 10
      · have h10' : (chr l j == 10) = true := by simp [h10]
        have H10 := Lib.hid h10
        clear h10
        go_wp2
        go_roundg (gk - 1)
        case measure => have := HJ.out; omega
        case rel =>
          refine ⟨j + 1, by have := HJ.out; omega, ?_, ((HPT.out.set _ (by simp) _).set _ (by simp) _).set _ (by simp) _⟩
          have e1 : lineOf l (j + 1) = lineOf l j + 1 := by simp [lineOf, H10.out]
          have e2 : fromOf l (j + 1) = j + 1 := by simp [fromOf, H10.out]
          rw [e1, e2]
          have := ((HPL.out.setLine (lineOf l j + 1)).setFirst (j + 1)).setSeen (j + 1)
          simpa using this
      · have h10' : (chr l j == 10) = false := by simp [h10]
        go_wp2
        go_roundg (gk - 1)
        case measure => have := HJ.out; omega
        case rel =>
          refine ⟨j + 1, by have := HJ.out; omega, ?_, HPT.out.set _ (by simp) _⟩
          have e1 : lineOf l (j + 1) = lineOf l j := by simp [lineOf, h10]
          have e2 : fromOf l (j + 1) = fromOf l j := by simp [fromOf, h10]
          rw [e1, e2]
          have := HPL.out.setSeen (j + 1)
          simpa using this
    · obtain rfl : j = q := by have := HJ.out; omega
      clear hjk
      go_wp2
      go_quiet (fail)
      go_wp2
      go_ret2
      exact ⟨rfl, ⟨HPL.out.text, HPL.out.line, HPL.out.first, HPL.out.seen⟩, HPT.out.drewN nq⟩
end Go.Proofs.YtpeoefbibjbinaaGreat

namespace Go.Proofs.YtpeoefbibjbinaaGreat
open Go.RowKit

structure Tok where
  kind : Int
  text : List UInt8
  n : Int
  line : Int
  col : Int
structure Dg where
  line : Int
  col : Int
  err : Int
def Tok.cells (t : Tok) : List Value := [.int .i64 t.kind, .string ⟨t.text.toArray⟩, .int .i64 t.n, .int .i64 t.line, .int .i64 t.col]
def Dg.cells (d : Dg) : List Value := [.int .i64 d.line, .int .i64 d.col, .int .i64 d.err]
def tcs (l : List Tok) : List Value := l.flatMap Tok.cells
def dcs (l : List Dg) : List Value := l.flatMap Dg.cells
theorem tcs_len (l : List Tok) : (tcs l).length = l.length * 5 := by
  unfold tcs
  induction l with
  | nil => rfl
  | cons t r ih => rw [List.flatMap_cons, List.length_append, ih]; simp [Tok.cells]; omega
theorem dcs_len (l : List Dg) : (dcs l).length = l.length * 3 := by
  unfold dcs
  induction l with
  | nil => rfl
  | cons t r ih => rw [List.flatMap_cons, List.length_append, ih]; simp [Dg.cells]; omega
theorem tcs_snoc (l : List Tok) (t : Tok) : tcs (l ++ [t]) = tcs l ++ t.cells := by simp [tcs]
theorem dcs_snoc (l : List Dg) (t : Dg) : dcs (l ++ [t]) = dcs l ++ t.cells := by simp [dcs]

def kindA (l : List UInt8) (a : Nat) : Int := kindI (chr l a)
def endA (l : List UInt8) (a : Nat) : Nat := if kindA l a = 0 then a + 1 else endT l (kindA l a) a
def textA (l : List UInt8) (a : Nat) : List UInt8 := (l.drop a).take (endA l a - a)
def tokA (l : List UInt8) (a : Nat) : Tok := ⟨tkind (kindA l a) (textA l a), textA l a, tnum (kindA l a) (textA l a), lineOf l a, (a : Int) - fromOf l a + 1⟩
def errA (l : List UInt8) (a : Nat) : Int := if kindA l a = 0 then 3 else terr (kindA l a) (textA l a)
def dgA (l : List UInt8) (a : Nat) : Dg := ⟨lineOf l a, (a : Int) - fromOf l a + 1, errA l a⟩

theorem endT_le (l : List UInt8) (k : Int) (a : Nat) (h : a < l.length) : endT l k a ≤ l.length := by
  unfold endT
  split
  · rename_i hp
    have := pre2_len _ hp
    simp at this; omega
  · exact ends_le l k (a + 1) (by omega)
theorem endT_gt (l : List UInt8) (k : Int) (a : Nat) : a < endT l k a := by
  unfold endT
  split
  · omega
  · have := ends_ge l k (a + 1); omega
theorem endA_le (l : List UInt8) (a : Nat) (h : a < l.length) : endA l a ≤ l.length := by
  unfold endA
  split
  · omega
  · exact endT_le l _ a h
theorem endA_gt (l : List UInt8) (a : Nat) : a < endA l a := by
  unfold endA
  split
  · omega
  · exact endT_gt l _ a
theorem nxt_ge (l : List UInt8) (a : Nat) : a ≤ nxt l a := by unfold nxt; omega

/-- The tokens from a place on, and what is wrong. -/
def scanG : Nat → List UInt8 → Nat → List Tok × List Dg
  | 0, _, _ => ([], [])
  | n + 1, l, a => if a < l.length then
      ((if kindA l a = 0 then (scanG n l (nxt l (endA l a))).1 else tokA l a :: (scanG n l (nxt l (endA l a))).1),
       (if errA l a = 0 then (scanG n l (nxt l (endA l a))).2 else dgA l a :: (scanG n l (nxt l (endA l a))).2))
    else ([], [])
theorem scanG_more : ∀ (n m : Nat) (l : List UInt8) (a : Nat), l.length - a ≤ n → l.length - a ≤ m → scanG n l a = scanG m l a
  | 0, 0, _, _, _, _ => rfl
  | 0, m + 1, l, a, h, _ => by
    have : ¬ a < l.length := by omega
    simp [scanG, this]
  | n + 1, 0, l, a, _, h => by
    have : ¬ a < l.length := by omega
    simp [scanG, this]
  | n + 1, m + 1, l, a, h1, h2 => by
    have hg := endA_gt l a
    have hn := nxt_ge l (endA l a)
    simp only [scanG]
    split
    · rw [scanG_more n m l (nxt l (endA l a)) (by omega) (by omega)]
    · rfl
def toks (l : List UInt8) (a : Nat) : List Tok := (scanG (l.length - a) l a).1
def dgs (l : List UInt8) (a : Nat) : List Dg := (scanG (l.length - a) l a).2
theorem scan_step (l : List UInt8) (a : Nat) (h : a < l.length) : scanG (l.length - a) l a =
    ((if kindA l a = 0 then toks l (nxt l (endA l a)) else tokA l a :: toks l (nxt l (endA l a))),
     (if errA l a = 0 then dgs l (nxt l (endA l a)) else dgA l a :: dgs l (nxt l (endA l a)))) := by
  have hg := endA_gt l a
  have hn := nxt_ge l (endA l a)
  have e : scanG (l.length - (nxt l (endA l a))) l (nxt l (endA l a)) = scanG (l.length - a - 1) l (nxt l (endA l a)) := scanG_more _ _ _ _ (by omega) (by omega)
  unfold toks dgs
  rw [e]
  obtain ⟨n, hn⟩ : ∃ n, l.length - a = n + 1 := ⟨l.length - a - 1, by omega⟩
  rw [hn]
  simp only [scanG]
  rw [if_pos h]
  rfl
theorem toks_skip (l : List UInt8) (a : Nat) (h : a < l.length) (hk : kindA l a = 0) : toks l a = toks l (nxt l (endA l a)) := by
  unfold toks; rw [scan_step l a h, if_pos hk]; rfl
theorem toks_one (l : List UInt8) (a : Nat) (h : a < l.length) (hk : ¬ kindA l a = 0) : toks l a = tokA l a :: toks l (nxt l (endA l a)) := by
  conv => lhs; unfold toks
  rw [scan_step l a h, if_neg hk]
theorem toks_end (l : List UInt8) (a : Nat) (h : ¬ a < l.length) : toks l a = [] := by
  unfold toks
  rw [show l.length - a = 0 from by omega]; rfl
theorem dgs_skip (l : List UInt8) (a : Nat) (h : a < l.length) (hk : errA l a = 0) : dgs l a = dgs l (nxt l (endA l a)) := by
  conv => lhs; unfold dgs
  rw [scan_step l a h, if_pos hk]
theorem dgs_one (l : List UInt8) (a : Nat) (h : a < l.length) (hk : ¬ errA l a = 0) : dgs l a = dgA l a :: dgs l (nxt l (endA l a)) := by
  conv => lhs; unfold dgs
  rw [scan_step l a h, if_neg hk]
theorem dgs_end (l : List UInt8) (a : Nat) (h : ¬ a < l.length) : dgs l a = [] := by
  unfold dgs
  rw [show l.length - a = 0 from by omega]; rfl
theorem len_toks : ∀ (n : Nat) (l : List UInt8) (a : Nat), l.length - a ≤ n → (toks l a).length ≤ l.length - a
  | 0, l, a, h => by rw [toks_end l a (by omega)]; simp
  | n + 1, l, a, h => by
    by_cases hl : a < l.length
    · have hg := endA_gt l a
      have hn := nxt_ge l (endA l a)
      have := len_toks n l (nxt l (endA l a)) (by omega)
      by_cases hk : kindA l a = 0
      · rw [toks_skip l a hl hk]; omega
      · rw [toks_one l a hl hk]; simp; omega
    · rw [toks_end l a hl]; simp
theorem len_dgs : ∀ (n : Nat) (l : List UInt8) (a : Nat), l.length - a ≤ n → (dgs l a).length ≤ l.length - a
  | 0, l, a, h => by rw [dgs_end l a (by omega)]; simp
  | n + 1, l, a, h => by
    by_cases hl : a < l.length
    · have hg := endA_gt l a
      have hn := nxt_ge l (endA l a)
      have := len_dgs n l (nxt l (endA l a)) (by omega)
      by_cases hk : errA l a = 0
      · rw [dgs_skip l a hl hk]; omega
      · rw [dgs_one l a hl hk]; simp; omega
    · rw [dgs_end l a hl]; simp

/-- What the loop of Scan keeps: w: the world when the call began; wr: the world now. -/
structure SI (l : List UInt8) (b off cap : Nat) (w : World) (v4 v5 : Value) (T : List Tok) (D : List Dg) (s : Nat) (wr : World) : Prop where
  below : Below w.heap.size w wr
  text : Bs wr b off l
  map : wr.heap[w.heap.size]? = some (wobj (wk 36))
  pl : Pl wr (w.heap.size + 1) (.slice (some ⟨b, off, none⟩) l.length cap) (lineOf l s) (fromOf l s) s
  own4 : wr.ownsRow (w.heap.size + 5) 61 5 v4 T.length (tcs T)
  own5 : wr.ownsRow (w.heap.size + 5) 48 3 v5 D.length (dcs D)

theorem grown_of_below {w w' : World} (h : Below w.heap.size w w') (row : Option Nat) : w.grownBy w' row := ⟨h.os, h.tape, h.output, h.size, fun i hi _ => h.block i hi⟩
theorem own_below {w w' : World} {base : Nat} {e : TypeId} {size n : Nat} {v : Value} {xs : List Value} (h : w.ownsRow base e size v n xs) (hb : Below w.heap.size w w') : w'.ownsRow base e size v n xs :=
  h.kept (grown_of_below hb none) (by cases hv : v.ownBlock <;> simp)
theorem own_ne {w : World} {base base' : Nat} {e e' : TypeId} {size size' n n' : Nat} {v v' : Value} {xs xs' : List Value} (h : w.ownsRow base e size v n xs) (h' : w.ownsRow base' e' size' v' n' xs') (hne : e ≠ e') : v.ownBlock = none ∨ v.ownBlock ≠ v'.ownBlock := by
  rcases h.2 with ⟨rfl, _⟩ | ⟨g, cap, cur, rfl, _, hg, _⟩
  · exact .inl rfl
  · right
    rcases h'.2 with ⟨rfl, _⟩ | ⟨g', cap', cur', rfl, _, hg', _⟩
    · simp [Value.ownBlock]
    · intro hgg
      have : g = g' := by simpa [Value.ownBlock] using hgg
      subst this
      rw [hg] at hg'
      injection hg' with hg'
      injection hg' with _ ht
      exact hne ht
section
variable {l : List UInt8} {b off cap : Nat} {w wr w2 : World} {v4 v5 : Value} {T : List Tok} {D : List Dg} {s : Nat}
theorem Pl.keep {g : Nat} {v : Value} {a b c : Nat} (h : Pl wr g v a b c) (hk : ∀ i, g ≤ i → i ≤ g + 3 → w2.heap[i]? = wr.heap[i]?) : Pl w2 g v a b c :=
  ⟨(hk _ (by omega) (by omega)).trans h.text, (hk _ (by omega) (by omega)).trans h.line, (hk _ (by omega) (by omega)).trans h.first, (hk _ (by omega) (by omega)).trans h.seen⟩
theorem SI.after (h : SI l b off cap w v4 v5 T D s wr) (hb : Below wr.heap.size wr w2) (h0 : 0 < l.length) : SI l b off cap w v4 v5 T D s w2 := by
  have hz : w.heap.size + 4 < wr.heap.size := lt_of_block h.pl.seen
  exact ⟨h.below.trans (hb.mono (by omega)), h.text.below hb (h.text.lt h0), heap_below hb (by omega) h.map, h.pl.keep fun i h1 h2 => hb.block i (by omega), own_below h.own4 hb, own_below h.own5 hb⟩
theorem SI.place {q : Nat} (h : SI l b off cap w v4 v5 T D s wr) (ht : Pt (w.heap.size + 1) wr w2) (hp : Pl w2 (w.heap.size + 1) (.slice (some ⟨b, off, none⟩) l.length cap) (lineOf l q) (fromOf l q) q) (hbw : b < w.heap.size) : SI l b off cap w v4 v5 T D q w2 := by
  have hz : w.heap.size + 4 < wr.heap.size := lt_of_block h.pl.seen
  refine ⟨h.below.trans ⟨ht.os, ht.tape, ht.output, by rw [ht.size]; exact Nat.le_refl _, fun k hk => ht.block k (by omega)⟩, h.text.keep fun k _ => World.cell?_of_block (ht.block b (by omega)), (ht.block _ (by omega)).trans h.map, hp, ?_, ?_⟩
  · refine ⟨h.own4.1, ?_⟩
    rcases h.own4.2 with hh | ⟨g, c, cur, hv, hg, hh, r⟩
    · exact .inl hh
    · exact .inr ⟨g, c, cur, hv, hg, (ht.block g (by omega)).trans hh, r⟩
  · refine ⟨h.own5.1, ?_⟩
    rcases h.own5.2 with hh | ⟨g, c, cur, hv, hg, hh, r⟩
    · exact .inl hh
    · exact .inr ⟨g, c, cur, hv, hg, (ht.block g (by omega)).trans hh, r⟩
theorem SI.app4 {v' : Value} {t : Tok} (h : SI l b off cap w v4 v5 T D s wr) (hg : wr.grownBy w2 v4.ownBlock) (ho : w2.ownsRow (w.heap.size + 5) 61 5 v' (T.length + 1) (tcs T ++ t.cells)) (hbw : b < w.heap.size) : SI l b off cap w v' v5 (T ++ [t]) D s w2 := by
  have hz : w.heap.size + 4 < wr.heap.size := lt_of_block h.pl.seen
  have hr : ∀ k, v4.ownBlock = some k → w.heap.size + 5 ≤ k := fun k hk => (h.own4.lt k hk).1
  have hk : ∀ k, k < w.heap.size + 5 → w2.heap[k]? = wr.heap[k]? := fun k hk => hg.block k (by omega) (fun e => by have := hr k e.symm; omega)
  refine ⟨h.below.grown hg (by omega) (fun k e => by have := hr k e; omega), h.text.keep fun k _ => World.cell?_of_block (hk b (by omega)), (hk _ (by omega)).trans h.map, h.pl.keep fun i h1 h2 => hk i (by omega), ?_, h.own5.kept hg (own_ne h.own5 h.own4 (by decide))⟩
  rw [tcs_snoc, List.length_append]
  exact ho
theorem SI.app5 {v' : Value} {t : Dg} (h : SI l b off cap w v4 v5 T D s wr) (hg : wr.grownBy w2 v5.ownBlock) (ho : w2.ownsRow (w.heap.size + 5) 48 3 v' (D.length + 1) (dcs D ++ t.cells)) (hbw : b < w.heap.size) : SI l b off cap w v4 v' T (D ++ [t]) s w2 := by
  have hz : w.heap.size + 4 < wr.heap.size := lt_of_block h.pl.seen
  have hr : ∀ k, v5.ownBlock = some k → w.heap.size + 5 ≤ k := fun k hk => (h.own5.lt k hk).1
  have hk : ∀ k, k < w.heap.size + 5 → w2.heap[k]? = wr.heap[k]? := fun k hk => hg.block k (by omega) (fun e => by have := hr k e.symm; omega)
  refine ⟨h.below.grown hg (by omega) (fun k e => by have := hr k e; omega), h.text.keep fun k _ => World.cell?_of_block (hk b (by omega)), (hk _ (by omega)).trans h.map, h.pl.keep fun i h1 h2 => hk i (by omega), h.own4.kept hg (own_ne h.own4 h.own5 (by decide)), ?_⟩
  rw [dcs_snoc, List.length_append]
  exact ho
end

theorem infoTok : (Tryz.prog.info? 61).map (fun i => (i.zero, i.size, i.bytes)) = some (some (.agg #[.int .i64 0, .string ⟨#[]⟩, .int .i64 0, .int .i64 0, .int .i64 0]), 5, 48) := by kernel_rfl
theorem infoDg : (Tryz.prog.info? 48).map (fun i => (i.zero, i.size, i.bytes)) = some (some (.agg #[.int .i64 0, .int .i64 0, .int .i64 0]), 3, 24) := by kernel_rfl

/-- append of one fault, of one token, to a row of the call's own. -/
theorem wpList_app5 {ops : Array Oper} {rest : List Oper} {o : Oper} {a : Act} {Q : Exit → Act → World → Prop} (w : World) (hgd : o.guard = none) (s x : Operand)
    (ho : o.op = .call { callee := .builtin .append, args := #[s, x], argTypes := #[27, 27] })
    (base : Nat) (v : Value) (D : List Dg) (hs : a.eval s = v) (hown : w.ownsRow base 48 3 v D.length (dcs D)) (ad : Addr) (d : Dg) (hx : a.eval x = .slice (some ad) 1 1)
    (hnews : ∀ j u, d.cells[j]? = some u → w.cell? (ad.add j) = some u) (hlen : D.length ≤ 1000000) (hbase : base ≤ w.heap.size)
    (h : ∀ v' w', w'.ownsRow base 48 3 v' (D.length + 1) (dcs D ++ d.cells) → w.grownBy w' v.ownBlock → wpList Tryz.prog ops Q rest (a.put o.dst v') w') : wpList Tryz.prog ops Q (o :: rest) a w := by
  obtain ⟨i5, hi, hz0, hz1, hz2⟩ := info_parts infoDg
  refine wpList_append_own w hgd s x 27 ho base 48 i5 _ 3 24 Tryz.underlying27 hi hz0 hz1 hz2 rfl (by decide) v _ _ hs hown ad 1 1 d.cells hx rfl hnews ?_ (by unfold maxLen; omega) (by omega) hbase (fun v' w' h1 h2 _ => h v' w' h1 h2)
  intro u hu
  simp [Dg.cells] at hu
  rcases hu with rfl | rfl | rfl <;> rfl
theorem wpList_app4 {ops : Array Oper} {rest : List Oper} {o : Oper} {a : Act} {Q : Exit → Act → World → Prop} (w : World) (hgd : o.guard = none) (s x : Operand)
    (ho : o.op = .call { callee := .builtin .append, args := #[s, x], argTypes := #[42, 42] })
    (base : Nat) (v : Value) (T : List Tok) (hs : a.eval s = v) (hown : w.ownsRow base 61 5 v T.length (tcs T)) (ad : Addr) (t : Tok) (hx : a.eval x = .slice (some ad) 1 1)
    (hnews : ∀ j u, t.cells[j]? = some u → w.cell? (ad.add j) = some u) (hlen : T.length ≤ 1000000) (hbase : base ≤ w.heap.size)
    (h : ∀ v' w', w'.ownsRow base 61 5 v' (T.length + 1) (tcs T ++ t.cells) → w.grownBy w' v.ownBlock → wpList Tryz.prog ops Q rest (a.put o.dst v') w') : wpList Tryz.prog ops Q (o :: rest) a w := by
  obtain ⟨i4, hi, hz0, hz1, hz2⟩ := info_parts infoTok
  refine wpList_append_own w hgd s x 42 ho base 61 i4 _ 5 48 Tryz.underlying42 hi hz0 hz1 hz2 rfl (by decide) v _ _ hs hown ad 1 1 t.cells hx rfl hnews ?_ (by unfold maxLen; omega) (by omega) hbase (fun v' w' h1 h2 _ => h v' w' h1 h2)
  intro u hu
  simp [Tok.cells] at hu
  rcases hu with rfl | rfl | rfl | rfl | rfl <;> rfl

/-- The cells of a block that was laid last. -/
theorem new_cells (w : World) (cs : List Value) (t : TypeId) : ∀ j u, cs[j]? = some u → (w.alloc (.cells cs.toArray t)).cell? ((⟨w.heap.size, 0, none⟩ : Addr).add j) = some u := by
  intro j u hu
  have hadd : (⟨w.heap.size, 0, none⟩ : Addr).add j = ⟨w.heap.size, j, none⟩ := by unfold Addr.add; split <;> simp_all
  rw [hadd, cell_of_row _ w.heap.size j cs.toArray t (0, 0) (heap_alloc_new w _)]
  simpa using hu
theorem nextAt_int (l : List UInt8) (b off cap : Nat) (p : Nat) (z : Int) (w : World) (hz : z = p) (hb : Bs w b off l) (hn : l.length ≤ 1000000000) (hat : p ≤ l.length) :
    Calls Tryz.prog 23 #[.slice (some ⟨b, off, none⟩) l.length cap, .int .i64 z] w fun e w' => e = .returned (.int .i64 (nxt l p)) ∧ w = w' := by
  subst hz
  exact nextAt_ok l b off cap p w hb hn hat
end Go.Proofs.YtpeoefbibjbinaaGreat
