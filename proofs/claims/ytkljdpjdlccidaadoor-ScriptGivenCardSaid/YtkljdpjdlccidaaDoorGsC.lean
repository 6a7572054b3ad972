/- slices.swapRangeCmpFunc, rotateCmpFunc at entries. -/
import Derived.Test.YtkljdpjdlccidaaDoorGsB
import Derived.Deep.LoopGhost
namespace Go.Proofs.YtkljdpjdlccidaaDoor
open Go.RowKit Go.Shelf
attribute [local go_sem] Oper.semAt_some
/-- What stands in the row when so many are changed for one another. -/
def swR (T : List En) (a b : Nat) : Nat → List En
  | 0 => T
  | k + 1 => (((swR T a b k).set (a + k) ((swR T a b k).getD (b + k) ⟨0, 0, 0⟩)).set (b + k) ((swR T a b k).getD (a + k) ⟨0, 0, 0⟩))
theorem swR_len (T : List En) (a b : Nat) : ∀ k, (swR T a b k).length = T.length
  | 0 => rfl
  | k + 1 => by simp [swR, swR_len T a b k]
set_option maxRecDepth 100000 in
set_option maxHeartbeats 2000000 in
theorem swap_ok {g off c : Nat} {T : List En} {w : World} (h : RowG g off T w) (a b n : Nat) (fv : Value) (ha : a + n ≤ b) (hb : b + n ≤ T.length) (hl : T.length ≤ 1000) : Calls Tryd.prog 100 #[.slice (some ⟨g, off, none⟩) T.length c, .int .i64 a, .int .i64 b, .int .i64 n, fv] w fun e w' => e = .returned (.tuple #[]) ∧ RowG g off (swR T a b n) w' ∧ Kept (nG g) w w' := by
  have H0 := Lib.hid h
  clear h
  go_enter Tryd.func100, Tryd.ntmps100
  go_upto_region 1 with (fail)
  go_loopg [10] n (fun k v10 wr => ∃ i : Nat, i + k = n ∧ v10 = .int .i64 i ∧ RowG g off (swR T a b i) wr ∧ Kept (nG g) w wr)
  case atStart => exact ⟨0, by omega, rfl, H0.out, Kept.refl _ _⟩
  case round =>
    obtain ⟨i, hik, rfl, hr, hk⟩ := hrel
    have HR := Lib.hid hr
    have HK := Lib.hid hk
    have HIK := Lib.hid hik
    clear hr hk
    by_cases hlt : i < n
    · have hlen := swR_len T a b i
      obtain ⟨x, hx⟩ : ∃ x, (swR T a b i)[a + i]? = some x := ⟨_, List.getElem?_eq_getElem (by omega)⟩
      obtain ⟨y, hy⟩ : ∃ y, (swR T a b i)[b + i]? = some y := ⟨_, List.getElem?_eq_getElem (by omega)⟩
      obtain ⟨x0, x1, x2⟩ := HR.out.at hx
      obtain ⟨y0, y1, y2⟩ := HR.out.at hy
      have gl := HR.out.lt
      have hz := HR.out.soft
      have zi : (i : Int) < (n : Int) := by omega
      have za : (a : Int) + i < (T.length : Int) := by omega
      have zb : (b : Int) + i < (T.length : Int) := by omega
      have hij : a + i < b + i := by omega
      have HSW := Lib.hid (HR.out.swap hx hy)
      have HSE := Lib.hid (show swR T a b (i + 1) = ((swR T a b i).set (a + i) y).set (b + i) x by
        show ((swR T a b i).set (a + i) ((swR T a b i).getD (b + i) ⟨0, 0, 0⟩)).set (b + i) ((swR T a b i).getD (a + i) ⟨0, 0, 0⟩) = _
        rw [List.getD_eq_getElem?_getD, List.getD_eq_getElem?_getD, hx, hy]
        rfl)
      clear hx hy hlen
      go_upto_region 3 with (fail)
      go_region
      clear x0 x1 x2 y0 y1 y2 gl hz
      obtain ⟨w9, hw9⟩ : ∃ w9, w9 = World.drew (putG (putG wr g (off + (a + i) * 3) y) g (off + (b + i) * 3) x) := ⟨_, rfl⟩
      have HRN := Lib.hid (show RowG g off (swR T a b (i + 1)) w9 by rw [HSE.out, hw9]; exact HSW.out.1.ext (Ext.drew _))
      have HKN := Lib.hid (show Kept (nG g) w w9 by rw [hw9]; exact (HK.out.trans HSW.out.2).trans (ext_nG g (Ext.drew _)))
      unfold putG at hw9
      rw [← hw9]
      clear hw9 HSW HSE
      go_wp2_with fail
      go_roundg (gk - 1)
      case measure => have := HIK.out; omega
      case rel => exact ⟨i + 1, by have := HIK.out; omega, by go_num, HRN.out, HKN.out⟩
    · obtain rfl : i = n := by omega
      have zi : ¬ (i : Int) < (i : Int) := by omega
      go_wp2_with fail
      go_end0
      exact ⟨rfl, HR.out, HK.out⟩
/-- What a swap of two stretches that lie beside one another leaves: each in the other's place. -/
theorem swR_app (P A M B R : List En) (h : A.length = B.length) : ∀ k, k ≤ A.length → swR (P ++ A ++ M ++ B ++ R) P.length (P.length + A.length + M.length) k = P ++ (B.take k ++ A.drop k) ++ M ++ (A.take k ++ B.drop k) ++ R
  | 0, _ => by simp [swR]
  | k + 1, hk => by
    have ih := swR_app P A M B R h k (by omega)
    obtain ⟨x, hx⟩ : ∃ x, A[k]? = some x := ⟨_, List.getElem?_eq_getElem (by omega)⟩
    obtain ⟨y, hy⟩ : ∃ y, B[k]? = some y := ⟨_, List.getElem?_eq_getElem (by omega)⟩
    have ea : A.drop k = x :: A.drop (k + 1) := by
      obtain ⟨hl, he⟩ := List.getElem?_eq_some_iff.1 hx
      rw [List.drop_eq_getElem_cons hl, he]
    have eb : B.drop k = y :: B.drop (k + 1) := by
      obtain ⟨hl, he⟩ := List.getElem?_eq_some_iff.1 hy
      rw [List.drop_eq_getElem_cons hl, he]
    have ta : A.take (k + 1) = A.take k ++ [x] := by rw [List.take_add_one, hx]; rfl
    have tb : B.take (k + 1) = B.take k ++ [y] := by rw [List.take_add_one, hy]; rfl
    have la : (A.take k).length = k := by rw [List.length_take]; omega
    have lb : (B.take k).length = k := by rw [List.length_take]; omega
    have ldA : (A.drop (k + 1)).length + k + 1 = A.length := by rw [List.length_drop]; omega
    rw [swR, ih, ea, eb, ta, tb]
    generalize A.drop (k + 1) = a2 at *
    generalize B.drop (k + 1) = b2 at *
    generalize A.take k = a1 at *
    generalize B.take k = b1 at *
    have n1 : P.length + k = (P ++ b1).length := by simp [lb]
    have n2 : P.length + A.length + M.length + k = (P ++ b1 ++ x :: a2 ++ M ++ a1).length := by simp; omega
    have n3 : P.length + A.length + M.length + k = (P ++ b1 ++ y :: a2 ++ M ++ a1).length := by simp; omega
    have e1 : P ++ (b1 ++ x :: a2) ++ M ++ (a1 ++ y :: b2) ++ R = (P ++ b1) ++ x :: (a2 ++ M ++ a1 ++ y :: b2 ++ R) := by simp
    have e2 : P ++ (b1 ++ x :: a2) ++ M ++ (a1 ++ y :: b2) ++ R = (P ++ b1 ++ x :: a2 ++ M ++ a1) ++ y :: (b2 ++ R) := by simp
    have g1 : (P ++ (b1 ++ x :: a2) ++ M ++ (a1 ++ y :: b2) ++ R).getD (P.length + k) ⟨0, 0, 0⟩ = x := by
      rw [e1, n1, List.getD_eq_getElem?_getD, List.getElem?_append_right (Nat.le_refl _)]; simp
    have g2 : (P ++ (b1 ++ x :: a2) ++ M ++ (a1 ++ y :: b2) ++ R).getD (P.length + A.length + M.length + k) ⟨0, 0, 0⟩ = y := by
      rw [e2, n2, List.getD_eq_getElem?_getD, List.getElem?_append_right (Nat.le_refl _)]; simp
    rw [g1, g2, e1, n1, List.set_append_right _ _ (Nat.le_refl _), Nat.sub_self, List.set_cons_zero]
    have e3 : (P ++ b1) ++ y :: (a2 ++ M ++ a1 ++ y :: b2 ++ R) = (P ++ b1 ++ y :: a2 ++ M ++ a1) ++ y :: (b2 ++ R) := by simp
    rw [e3, n3, List.set_append_right _ _ (Nat.le_refl _), Nat.sub_self, List.set_cons_zero]
    simp
theorem swR_swap (P A M B R : List En) (h : A.length = B.length) : swR (P ++ A ++ M ++ B ++ R) P.length (P.length + A.length + M.length) A.length = P ++ B ++ M ++ A ++ R := by
  rw [swR_app P A M B R h A.length (Nat.le_refl _), List.take_of_length_le (Nat.le_of_eq h.symm), List.take_of_length_le (Nat.le_refl _), List.drop_of_length_le (Nat.le_refl _), List.drop_of_length_le (Nat.le_of_eq h.symm)]
  simp
end Go.Proofs.YtkljdpjdlccidaaDoor
