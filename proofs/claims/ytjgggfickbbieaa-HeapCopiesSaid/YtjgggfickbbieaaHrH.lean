/- The document's heap: Make. -/
import Derived.Test.YtjgggfickbbieaaHrF
namespace Go.Proofs.Ytjgggfickbbieaa
open Go.RowKit Go.Shelf
attribute [local go_sem] Oper.semAt_some
def mkBad (k s : Int) : Bool := (k != 1 && k != 2 && k != 3) || decide (s < 0) || decide (s > 64) || (k == 3 && s != 1)
section
variable {own : Nat → Bool} {bw : Nat} {L : List Ob} {W : World}
set_option maxHeartbeats 2000000 in
set_option maxRecDepth 100000 in
theorem refMake_bad (k o s si b : Int) (hb : mkBad k s = true) :
    Calls Try.prog 25 #[.pointer (some ⟨bw, 0, none⟩), .int .i64 k, .int .i64 o, .int .i64 s, .int .i64 si, .int .i64 b] W fun e W' => e = .returned (.tuple #[.int .i64 0, .int .i64 2]) ∧ W' = W := by
  by_cases k1 : k = 1
  · subst k1
    by_cases s0 : s < 0
    · clear hb
      go_enter Try.func25, Try.ntmps25
      go_wp2_with fail
      refine bodyPost_ret (v := .tuple #[.int .i64 0, .int .i64 2]) (by simp [results, Try.results25, go_sem]) rfl ?_
      exact ⟨rfl, rfl⟩
    · have s1 : s > 64 := by simp [mkBad] at hb; omega
      clear hb
      go_enter Try.func25, Try.ntmps25
      go_wp2_with fail
      refine bodyPost_ret (v := .tuple #[.int .i64 0, .int .i64 2]) (by simp [results, Try.results25, go_sem]) rfl ?_
      exact ⟨rfl, rfl⟩
  by_cases k2 : k = 2
  · subst k2
    clear k1
    by_cases s0 : s < 0
    · clear hb
      go_enter Try.func25, Try.ntmps25
      go_wp2_with fail
      refine bodyPost_ret (v := .tuple #[.int .i64 0, .int .i64 2]) (by simp [results, Try.results25, go_sem]) rfl ?_
      exact ⟨rfl, rfl⟩
    · have s1 : s > 64 := by simp [mkBad] at hb; omega
      clear hb
      go_enter Try.func25, Try.ntmps25
      go_wp2_with fail
      refine bodyPost_ret (v := .tuple #[.int .i64 0, .int .i64 2]) (by simp [results, Try.results25, go_sem]) rfl ?_
      exact ⟨rfl, rfl⟩
  by_cases k3 : k = 3
  · subst k3
    clear k1 k2
    by_cases s0 : s < 0
    · clear hb
      go_enter Try.func25, Try.ntmps25
      go_wp2_with fail
      refine bodyPost_ret (v := .tuple #[.int .i64 0, .int .i64 2]) (by simp [results, Try.results25, go_sem]) rfl ?_
      exact ⟨rfl, rfl⟩
    · by_cases s1 : s > 64
      · clear hb
        go_enter Try.func25, Try.ntmps25
        go_wp2_with fail
        refine bodyPost_ret (v := .tuple #[.int .i64 0, .int .i64 2]) (by simp [results, Try.results25, go_sem]) rfl ?_
        exact ⟨rfl, rfl⟩
      · have s2 : (s != 1) = true := by
          simp [mkBad] at hb
          simp; omega
        clear hb
        go_enter Try.func25, Try.ntmps25
        go_wp2_with fail
        refine bodyPost_ret (v := .tuple #[.int .i64 0, .int .i64 2]) (by simp [results, Try.results25, go_sem]) rfl ?_
        exact ⟨rfl, rfl⟩
  have k1' : (k != 1) = true := by simpa using k1
  have k2' : (k != 2) = true := by simpa using k2
  have k3' : (k != 3) = true := by simpa using k3
  clear hb
  go_enter Try.func25, Try.ntmps25
  go_wp2_with fail
  refine bodyPost_ret (v := .tuple #[.int .i64 0, .int .i64 2]) (by simp [results, Try.results25, go_sem]) rfl ?_
  exact ⟨rfl, rfl⟩
end
end Go.Proofs.Ytjgggfickbbieaa
