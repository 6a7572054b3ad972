/- token.IsWord, token.IsName, token.tokenOf. -/
import Derived.Test.YthgpepkcjjimlaaTokF
namespace Go.Proofs.Ythgpepkcjjimlaa
open Go.RowKit

theorem heap_below {B : Nat} {w w' : World} (h : Below B w w') {b : Nat} {o : Obj} (hb : b < B) (ho : w.heap[b]? = some o) : w'.heap[b]? = some o := (h.block b hb).trans ho

/-- All that lay below a bound lies there as before. -/
theorem below_cells {W w1 : World} {B : Nat} (hb : Below B W w1) : (∀ b o, b < B → w1.cell? ⟨b, o, none⟩ = W.cell? ⟨b, o, none⟩) ∧ (∀ b o, b < B → w1.frozen? ⟨b, o, none⟩ = W.frozen? ⟨b, o, none⟩) :=
  ⟨fun b o h => hb.cell (p := ⟨b, o, none⟩) h, fun b o h => hb.frozen (p := ⟨b, o, none⟩) h⟩

/-- A token without its place. -/
def tkind (k : Int) (l : List UInt8) : Int := if k = 1 ∧ isW l = true then 2 else k
def tnum (k : Int) (l : List UInt8) : Int := if k = 3 then (numT l).1 else 0
def terr (k : Int) (l : List UInt8) : Int := if k = 1 then (if 32 < l.length then 9 else 0) else if k = 3 then (if (numT l).2 = true then 0 else 9) else 0

set_option maxRecDepth 100000 in
set_option maxHeartbeats 1000000 in
theorem tokenOf_mark (l : List UInt8) (v : Value) (w : World) :
    Calls Try.prog 28 #[.string ⟨l.toArray⟩, .int .i64 4, v] w fun e w' => e = .returned (.tuple #[.agg #[.int .i64 4, .string ⟨l.toArray⟩, .int .i64 0, .int .i64 0, .int .i64 0], .int .i64 0]) ∧ Below w.heap.size w w' := by
  go_enter Try.func28, Try.ntmps28
  go_wp2
  exact bodyPost_ret (v := .tuple #[.agg #[.int .i64 4, .string ⟨l.toArray⟩, .int .i64 0, .int .i64 0, .int .i64 0], .int .i64 0]) (by simp [results, Try.results28, go_sem]) rfl ⟨rfl, ((Below.refl _ _).alloc (Nat.le_refl _) _).alloc (by simp) _⟩

set_option maxRecDepth 100000 in
set_option maxHeartbeats 1000000 in
theorem tokenOf_name (l : List UInt8) (mb : Nat) (w : World) (hm : w.heap[mb]? = some (wobj (wk 36))) (hn : l.length ≤ 1000000000) :
    Calls Try.prog 28 #[.string ⟨l.toArray⟩, .int .i64 1, .map (some mb)] w fun e w' => e = .returned (.tuple #[.agg #[.int .i64 (tkind 1 l), .string ⟨l.toArray⟩, .int .i64 0, .int .i64 0, .int .i64 0], .int .i64 (terr 1 l)]) ∧ Below w.heap.size w w' := by
  have hlt : mb < w.heap.size := (Array.getElem?_eq_some_iff.1 hm).1
  have hl := fun o1 o2 => look_run ((w.alloc o1).alloc o2) mb l (by rw [Below.heap_alloc _ _ _ (by simp; omega), Below.heap_alloc _ _ _ hlt]; exact hm)
  clear hm
  cases hw : isW l
  · have hk : tkind 1 l = 1 := by simp [tkind, hw]
    rw [hk]
    simp only [hw] at hl
    clear hk hw
    by_cases h32 : 32 < l.length
    · have he : terr 1 l = 9 := by simp [terr, h32]
      rw [he]
      clear he
      go_enter Try.func28, Try.ntmps28
      go_wp2
      exact bodyPost_ret (v := .tuple #[.agg #[.int .i64 1, .string ⟨l.toArray⟩, .int .i64 0, .int .i64 0, .int .i64 0], .int .i64 9]) (by simp [results, Try.results28, go_sem]) rfl ⟨rfl, (((Below.refl _ _).alloc (Nat.le_refl _) _).alloc (by simp) _).alloc (by simp; omega) _⟩
    · have he : terr 1 l = 0 := by simp [terr, h32]
      rw [he]
      clear he
      go_enter Try.func28, Try.ntmps28
      go_wp2
      exact bodyPost_ret (v := .tuple #[.agg #[.int .i64 1, .string ⟨l.toArray⟩, .int .i64 0, .int .i64 0, .int .i64 0], .int .i64 0]) (by simp [results, Try.results28, go_sem]) rfl ⟨rfl, (((Below.refl _ _).alloc (Nat.le_refl _) _).alloc (by simp) _).alloc (by simp; omega) _⟩
  · have hk : tkind 1 l = 2 := by simp [tkind, hw]
    rw [hk]
    simp only [hw] at hl
    clear hk hw
    by_cases h32 : 32 < l.length
    · have he : terr 1 l = 9 := by simp [terr, h32]
      rw [he]
      clear he
      go_enter Try.func28, Try.ntmps28
      go_wp2
      exact bodyPost_ret (v := .tuple #[.agg #[.int .i64 2, .string ⟨l.toArray⟩, .int .i64 0, .int .i64 0, .int .i64 0], .int .i64 9]) (by simp [results, Try.results28, go_sem]) rfl ⟨rfl, (((Below.refl _ _).alloc (Nat.le_refl _) _).alloc (by simp) _).alloc (by simp; omega) _⟩
    · have he : terr 1 l = 0 := by simp [terr, h32]
      rw [he]
      clear he
      go_enter Try.func28, Try.ntmps28
      go_wp2
      exact bodyPost_ret (v := .tuple #[.agg #[.int .i64 2, .string ⟨l.toArray⟩, .int .i64 0, .int .i64 0, .int .i64 0], .int .i64 0]) (by simp [results, Try.results28, go_sem]) rfl ⟨rfl, (((Below.refl _ _).alloc (Nat.le_refl _) _).alloc (by simp) _).alloc (by simp; omega) _⟩

set_option maxRecDepth 100000 in
set_option maxHeartbeats 1000000 in
theorem tokenOf_num (l : List UInt8) (v : Value) (w : World) (hn : l.length ≤ 1000000000) :
    Calls Try.prog 28 #[.string ⟨l.toArray⟩, .int .i64 3, v] w fun e w' => e = .returned (.tuple #[.agg #[.int .i64 3, .string ⟨l.toArray⟩, .int .i64 (tnum 3 l), .int .i64 0, .int .i64 0], .int .i64 (terr 3 l)]) ∧ Below w.heap.size w w' := by
  have hnum := fun w => number_ok l w hn
  have ht : tnum 3 l = (numT l).1 := by simp [tnum]
  rw [ht]
  clear ht
  generalize hq : numT l = q at hnum ⊢
  obtain ⟨q1, q2⟩ := q
  cases q2
  · have he : terr 3 l = 9 := by simp [terr, hq]
    have h1 : q1 = 0 := by
      unfold numT at hq
      split at hq
      · split at hq <;> simp_all
      · simp_all
    subst h1
    rw [he]
    clear he hq
    have HN := Lib.hid hnum
    clear hnum
    go_enter Try.func28, Try.ntmps28
    go_wp2_with (go_at_call 38; refine (HN.out _).mono ?_; rintro e w' ⟨rfl, hbl⟩; have hz := hbl.size; obtain ⟨hc', hf'⟩ := below_cells hbl)
    obtain ⟨hc, hf⟩ := below_cells hbl
    have c0 : w'.cell? ⟨w.heap.size, 0, none⟩ = some (.int .i64 0) := by rw [hc _ _ (by simp; omega)]; simp [go_sem]
    have c1 : w'.cell? ⟨w.heap.size, 1, none⟩ = some (.string ⟨#[]⟩) := by rw [hc _ _ (by simp; omega)]; simp [go_sem]
    have c2 : w'.cell? ⟨w.heap.size, 2, none⟩ = some (.int .i64 0) := by rw [hc _ _ (by simp; omega)]; simp [go_sem]
    have c3 : w'.cell? ⟨w.heap.size, 3, none⟩ = some (.int .i64 0) := by rw [hc _ _ (by simp; omega)]; simp [go_sem]
    have c4 : w'.cell? ⟨w.heap.size, 4, none⟩ = some (.int .i64 0) := by rw [hc _ _ (by simp; omega)]; simp [go_sem]
    clear hc hf hz hc' hf'
    have hb0 : Below w.heap.size w w' := (((Below.refl _ _).alloc (Nat.le_refl _) _).alloc (by simp) _).trans (hbl.mono (by simp; omega))
    refine bodyPost_ret (v := .tuple #[.agg #[.int .i64 3, .string ⟨l.toArray⟩, .int .i64 0, .int .i64 0, .int .i64 0], .int .i64 9]) (by simp [results, Try.results28, go_sem, c0, c1, c2, c3, c4]) rfl ⟨rfl, ?_⟩
    exact ((((hb0.setCell (Nat.le_refl _) _).setCell (Nat.le_refl _) _).setCell (Nat.le_refl _) _).setCell (Nat.le_refl _) _).setCell (Nat.le_refl _) _
  · have he : terr 3 l = 0 := by simp [terr, hq]
    rw [he]
    clear he hq
    have HN := Lib.hid hnum
    clear hnum
    go_enter Try.func28, Try.ntmps28
    go_wp2_with (go_at_call 38; refine (HN.out _).mono ?_; rintro e w' ⟨rfl, hbl⟩; have hz := hbl.size; obtain ⟨hc', hf'⟩ := below_cells hbl)
    obtain ⟨hc, hf⟩ := below_cells hbl
    have c0 : w'.cell? ⟨w.heap.size, 0, none⟩ = some (.int .i64 0) := by rw [hc _ _ (by simp; omega)]; simp [go_sem]
    have c1 : w'.cell? ⟨w.heap.size, 1, none⟩ = some (.string ⟨#[]⟩) := by rw [hc _ _ (by simp; omega)]; simp [go_sem]
    have c2 : w'.cell? ⟨w.heap.size, 2, none⟩ = some (.int .i64 0) := by rw [hc _ _ (by simp; omega)]; simp [go_sem]
    have c3 : w'.cell? ⟨w.heap.size, 3, none⟩ = some (.int .i64 0) := by rw [hc _ _ (by simp; omega)]; simp [go_sem]
    have c4 : w'.cell? ⟨w.heap.size, 4, none⟩ = some (.int .i64 0) := by rw [hc _ _ (by simp; omega)]; simp [go_sem]
    clear hc hf hz hc' hf'
    have hb0 : Below w.heap.size w w' := (((Below.refl _ _).alloc (Nat.le_refl _) _).alloc (by simp) _).trans (hbl.mono (by simp; omega))
    refine bodyPost_ret (v := .tuple #[.agg #[.int .i64 3, .string ⟨l.toArray⟩, .int .i64 q1, .int .i64 0, .int .i64 0], .int .i64 0]) (by simp [results, Try.results28, go_sem, c0, c1, c2, c3, c4]) rfl ⟨rfl, ?_⟩
    exact (((((hb0.setCell (p := ⟨w.heap.size + 1, 2, none⟩) (by simp) _).setCell (Nat.le_refl _) _).setCell (Nat.le_refl _) _).setCell (Nat.le_refl _) _).setCell (Nat.le_refl _) _).setCell (Nat.le_refl _) _

theorem kind_cases (c : Int) : kindI c = 0 ∨ kindI c = 1 ∨ kindI c = 3 ∨ kindI c = 4 := by
  unfold kindI
  split
  · exact .inr (.inl rfl)
  · split
    · exact .inr (.inr (.inl rfl))
    · split
      · exact .inr (.inr (.inr rfl))
      · exact .inl rfl

theorem tokenOf_ok (l : List UInt8) (k : Int) (mb : Nat) (w : World) (hk : k = 1 ∨ k = 3 ∨ k = 4) (hm : w.heap[mb]? = some (wobj (wk 36))) (hn : l.length ≤ 1000000000) :
    Calls Try.prog 28 #[.string ⟨l.toArray⟩, .int .i64 k, .map (some mb)] w fun e w' => e = .returned (.tuple #[.agg #[.int .i64 (tkind k l), .string ⟨l.toArray⟩, .int .i64 (tnum k l), .int .i64 0, .int .i64 0], .int .i64 (terr k l)]) ∧ Below w.heap.size w w' := by
  rcases hk with rfl | rfl | rfl
  · exact tokenOf_name l mb w hm hn
  · exact tokenOf_num l _ w hn
  · exact tokenOf_mark l _ w
end Go.Proofs.Ythgpepkcjjimlaa
