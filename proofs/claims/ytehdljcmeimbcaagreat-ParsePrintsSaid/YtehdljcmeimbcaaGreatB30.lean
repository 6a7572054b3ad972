/- The document's trees in memory: May. -/
import Derived.Test.YtehdljcmeimbcaaGreatB29
import Derived.Deep.RegionHeld3
namespace Go.Proofs.YtehdljcmeimbcaaGreat
open Go.RowKit
set_option linter.unusedSimpArgs false

set_option maxRecDepth 100000 in
set_option maxHeartbeats 2000000 in
theorem may2O_ok (R : List Tw) (hn : R.length ≤ 100000000) (hx : ∀ t ∈ R, t.text.length ≤ 1000000000 ∧ t.kids.length ≤ 9223372036854775807) (va : Value) (w : World) (hR : RdO w va R) :
    Calls Tryz.prog 11 #[.agg #[va]] w fun e w' => e = .returned (.bool (mayR isNm R)) ∧ Below w.heap.size w w' := by
  obtain ⟨A, ca, hva, ha⟩ := id hR
  subst hva
  have hG := goes2O_ok R hn hx R.length 0 0 (.slice A R.length ca)
  cases h0 : R[0]? with
  | none =>
    have hl : R.length = 0 := by
      have := List.getElem?_eq_none_iff.1 h0
      omega
    have hm : mayR isNm R = false := by unfold mayR; rw [h0]
    rw [hm]
    obtain rfl : R = [] := List.eq_nil_of_length_eq_zero hl
    clear h0 hm hG ha hR hx hl hn
    obtain ⟨W, hW⟩ : ∃ W : World, W = w.alloc (.cells #[.slice A 0 ca] 26) := ⟨_, rfl⟩
    have hbe : Below w.heap.size w W := by rw [hW]; exact (Below.refl _ w).alloc (Nat.le_refl _) _
    have k0 : W.heap[w.heap.size]? = some (.cells #[.slice A 0 ca] 26 (0, 0)) := by
      rw [hW]
      exact heap_alloc_new w _
    have q0 := cell_of_one k0
    have HBE := Lib.hid hbe
    clear hbe k0
    simp only [List.length_nil]
    go_enter Tryz.func11, Tryz.ntmps11
    go_upto_region 1 with (fail)
    change Code.wp _ _ _ _ (w.alloc (.cells #[.slice A 0 ca] 26))
    rw [← hW]
    clear hW
    go_quiet (fail)
    go_wp2_with fail
    go_ret
    exact ⟨rfl, bdrew HBE.out _⟩
  | some t =>
    have hm : mayR isNm R = (t.kind == 1 && (goesR isNm R R.length 0 0 == R.length)) := by unfold mayR; rw [h0]
    rw [hm]
    obtain ⟨g, o6, kv, rfl, hg, hint, hc⟩ := ha 0 t h0
    have hpos : 0 < R.length := (List.getElem?_eq_some_iff.1 h0).1
    obtain ⟨W, hW⟩ : ∃ W : World, W = w.alloc (.cells #[.slice (some ⟨g, o6, none⟩) R.length ca] 26) := ⟨_, rfl⟩
    have hbe : Below w.heap.size w W := by rw [hW]; exact (Below.refl _ w).alloc (Nat.le_refl _) _
    have k0 : W.heap[w.heap.size]? = some (.cells #[.slice (some ⟨g, o6, none⟩) R.length ca] 26 (0, 0)) := by
      rw [hW]
      exact heap_alloc_new w _
    have q0 := cell_of_one k0
    have f0 := (hbe.cell (p := ⟨g, o6 + 0 * 6 + 0, none⟩) hg).trans (hc 0 _ rfl)
    rw [show o6 + 0 * 6 + 0 = o6 from rfl] at f0
    have hcall := hG W.drew ((hR.below hbe).below (bdrew (Below.refl _ _) 1)) (by omega) (by omega) (by omega)
    have hgs : g < W.heap.size := Nat.lt_of_lt_of_le hg hbe.size
    have hws : w.heap.size < W.heap.size := lt_of_block k0
    have HC := Lib.hid hcall
    have HBE := Lib.hid hbe
    clear hm hG ha hR hx hint hc hcall hbe k0 h0
    by_cases h1 : t.kind = 1
    · rw [h1] at f0 ⊢
      clear h1
      go_enter Tryz.func11, Tryz.ntmps11
      go_upto_region 1 with (fail)
      change Code.wp _ _ _ _ (w.alloc (.cells #[.slice (some ⟨g, o6, none⟩) R.length ca] 26))
      rw [← hW]
      clear hW
      generalize w.heap.size = b at q0 hws ⊢
      go_region_held3 (fun w' => w'.cell? ⟨b, 0, none⟩ = some (.slice (some ⟨g, o6, none⟩) R.length ca) ∧ w'.cell? ⟨g, o6, none⟩ = some (.int .i64 1)) (first | go_keep | exact ⟨d1, d2⟩) (first | (go_at_call 19; refine HC.out.mono ?_; rintro e w3 ⟨rfl, hb3⟩; have d1 := (hb3.cell (p := ⟨b, 0, none⟩) hws).trans q0; have d2 := (hb3.cell (p := ⟨g, o6, none⟩) hgs).trans f0))
      go_wp2_with fail
      go_ret
      refine ⟨ret_bool ?_, (bdrew HBE.out 1).trans (hb3.mono HBE.out.size)⟩
      rw [Bool.eq_iff_iff]
      simp
      omega
    · have hb1 : (t.kind == 1) = false := by simpa using h1
      rw [hb1]
      clear h1
      go_enter Tryz.func11, Tryz.ntmps11
      go_upto_region 1 with (fail)
      change Code.wp _ _ _ _ (w.alloc (.cells #[.slice (some ⟨g, o6, none⟩) R.length ca] 26))
      rw [← hW]
      clear hW
      go_quiet (fail)
      go_wp2_with fail
      go_ret
      exact ⟨rfl, bdrew HBE.out _⟩
end Go.Proofs.YtehdljcmeimbcaaGreat
