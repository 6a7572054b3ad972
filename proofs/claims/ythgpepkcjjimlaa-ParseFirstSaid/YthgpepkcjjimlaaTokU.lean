/- The reference's SameDiags; detentlaw01.TokenScans: its walk. -/
import Derived.Test.YthgpepkcjjimlaaTokO
import Derived.Test.YthgpepkcjjimlaaTokT
namespace Go.Proofs.Ythgpepkcjjimlaa
open Go.RowKit

theorem Dgs.below {w w' : World} {A : Option Addr} {T : List Dg} (h : Dgs w A T) (hb : Below w.heap.size w w') : Dgs w' A T := by
  intro i t hi
  obtain ⟨g, rfl, c0, c1, c2⟩ := h i t hi
  have hg : g < w.heap.size := World.block_lt_of_cell? w _ c0
  exact ⟨g, rfl, (hb.cell (by exact hg)).trans c0, (hb.cell (by exact hg)).trans c1, (hb.cell (by exact hg)).trans c2⟩

set_option maxRecDepth 100000 in
set_option maxHeartbeats 1000000 in
/-- SameDiags at two rows of the same faults. -/
theorem sameDiags_ok (D : List Dg) (A B : Option Addr) (c d : Nat) (w : World) (hA : Dgs w A D) (hB : Dgs w B D) (hn : D.length ≤ 1000000) :
    Calls Try.prog 8 #[.slice A D.length c, .slice B D.length d] w fun e w' => e = .returned (.bool true) ∧ ∃ n, w' = w.drewN n := by
  have HA := Lib.hid hA
  have HB := Lib.hid hB
  clear hA hB
  go_enter Try.func8, Try.ntmps8
  go_wp2_with fail
  go_loopg [5] D.length (fun k v5 wr => ∃ i nq : Nat, i + k = D.length ∧ v5 = .int .i64 i ∧ wr = w.drewN nq)
  case atStart => exact ⟨0, 0, by omega, rfl, rfl⟩
  case round =>
    obtain ⟨i, m0, hik, rfl, rfl⟩ := hrel
    have HIK := Lib.hid hik
    have hi : i ≤ D.length := by omega
    clear hik
    by_cases hlt : i < D.length
    · obtain ⟨g, rfl, p0, p1, p2⟩ := HA.out i D[i] (List.getElem?_eq_getElem hlt)
      obtain ⟨g', rfl, q0, q1, q2⟩ := HB.out i D[i] (List.getElem?_eq_getElem hlt)
      generalize D[i] = t at p0 p1 p2 q0 q1 q2
      go_upto_region 6 with (fail)
      go_quiet (fail)
      rw [World.drewN_drewN]
      generalize m0 + nq = m1
      clear p0 p1 p2 q0 q1 q2
      go_wp2_with fail
      go_roundg (gk - 1)
      case measure => have := HIK.out; omega
      case rel => exact ⟨i + 1, m1, by have := HIK.out; omega, by go_num, rfl⟩
    · go_wp2_with fail
      go_ret
      exact ⟨rfl, _, rfl⟩

end Go.Proofs.Ythgpepkcjjimlaa
