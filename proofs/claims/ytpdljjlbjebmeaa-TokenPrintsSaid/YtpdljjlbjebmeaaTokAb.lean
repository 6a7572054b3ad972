/- The reference's Same and Is. -/
import Derived.Test.YtpdljjlbjebmeaaTokAa
import Derived.Test.YtpdljjlbjebmeaaTokU
namespace Go.Proofs.Ytpdljjlbjebmeaa
open Go.RowKit

set_option maxRecDepth 100000 in
set_option maxHeartbeats 1000000 in
theorem same_ok (M T : List Tok) (A B : Option Addr) (c d : Nat) (w : World) (hA : TR w A M) (hB : TR w B T) (hn : T.length ≤ 1000000) (hlen : M.length = T.length)
    (hm : ∀ (i : Nat) (t : Tok), T[i]? = some t → ∃ τ : Tok, M[i]? = some τ ∧ τ.kind = t.kind ∧ τ.text = t.text ∧ τ.n = t.n) :
    Calls Try.prog 23 #[.slice A M.length c, .slice B T.length d] w fun e w' => e = .returned (.bool true) ∧ ∃ n, w' = w.drewN n := by
  have HA := Lib.hid hA
  have HB := Lib.hid hB
  have HM := Lib.hid hm
  clear hA hB hm
  rw [hlen]
  go_enter Try.func23, Try.ntmps23
  go_wp2_with fail
  go_loopg [5] T.length (fun k v5 wr => ∃ i nq : Nat, i + k = T.length ∧ v5 = .int .i64 i ∧ wr = w.drewN nq)
  case atStart => exact ⟨0, 0, by omega, rfl, rfl⟩
  case round =>
    obtain ⟨i, m0, hik, rfl, rfl⟩ := hrel
    have HIK := Lib.hid hik
    have hi : i ≤ T.length := by omega
    clear hik
    by_cases hlt : i < T.length
    · obtain ⟨τ, hτ, e1, e2, e3⟩ := HM.out i T[i] (List.getElem?_eq_getElem hlt)
      obtain ⟨g, off, rfl, p0, p1, p2, _, _⟩ := HA.out i τ hτ
      obtain ⟨g', off', rfl, q0, q1, q2, _, _⟩ := HB.out i T[i] (List.getElem?_eq_getElem hlt)
      clear hτ
      generalize T[i] = t at q0 q1 q2 e1 e2 e3
      rw [e1] at p0
      rw [e2] at p1
      rw [e3] at p2
      clear e1 e2 e3
      go_upto_region 6 with (fail)
      go_quiet (fail)
      rw [World.drewN_drewN]
      generalize m0 + nq = m1
      clear p0 p1 p2 q0 q1 q2
      go_wp2_with fail
      go_roundg (gk - 1)
      case measure => have := HIK.out; omega
      case rel => exact ⟨i + 1, m1, by have := HIK.out; omega, by go_num, rfl⟩
    · go_wp2_with fail
      go_ret
      exact ⟨rfl, _, rfl⟩

theorem below_drewN {B : Nat} {a b : World} (h : Below B a b) (n : Nat) : Below B a (b.drewN n) := ⟨h.os, h.tape, h.output, h.size, h.block⟩

set_option maxRecDepth 100000 in
set_option maxHeartbeats 4000000 in
theorem is_ok (t : Tok) (w : World) (hn : t.text.length ≤ 40) :
    Calls Try.prog 20 #[.agg #[.int .i64 t.kind, .string ⟨t.text.toArray⟩, .int .i64 t.n, .int .i64 t.line, .int .i64 t.col]] w fun e w' => (∃ b, e = .returned (.bool b) ∧ (b = true → One t)) ∧ Below w.heap.size w w' := by
  go_enter Try.func20, Try.ntmps20
  go_wp2_with fail
  have hW : ∃ W, W = w.alloc (.cells #[.int .i64 t.kind, .string ⟨t.text.toArray⟩, .int .i64 t.n, .int .i64 t.line, .int .i64 t.col] 31) := ⟨_, rfl⟩
  obtain ⟨W, hW⟩ := hW
  rw [← hW]
  have hbW : Below w.heap.size w W := by rw [hW]; exact (Below.refl _ w).alloc (Nat.le_refl _) _
  have hsW : w.heap.size < W.heap.size := by rw [hW]; simp
  have hcW := new_cells w [.int .i64 t.kind, .string ⟨t.text.toArray⟩, .int .i64 t.n, .int .i64 t.line, .int .i64 t.col] 31
  have d0 : W.cell? ⟨w.heap.size, 0, none⟩ = some (.int .i64 t.kind) := by rw [hW]; exact hcW 0 _ rfl
  have d1 : W.cell? ⟨w.heap.size, 1, none⟩ = some (.string ⟨t.text.toArray⟩) := by rw [hW]; exact hcW 1 _ rfl
  have d2 : W.cell? ⟨w.heap.size, 2, none⟩ = some (.int .i64 t.n) := by rw [hW]; exact hcW 2 _ rfl
  clear hW hcW
  rw [conv_str]
  simp only [Result.andThen]
  rw [Oper.upon_value]
  have hbX := below_str ⟨t.text.toArray⟩ W
  have hBS := bs_str t.text W
  have hhX : Holds (Lib.bytesWorld W 5 ⟨t.text.toArray⟩) (.slice (some ⟨W.heap.size, 0, none⟩) t.text.length (grownCap W t.text.length 0 5)) t.text := ⟨_, _, rfl, grownCap_ge _ _ _ _, fun _ => ⟨_, _, rfl, hBS⟩⟩
  generalize Lib.bytesWorld W 5 ⟨t.text.toArray⟩ = X at hbX hBS hhX ⊢
  generalize grownCap W t.text.length 0 5 = cp at hhX ⊢
  have HRS := Lib.hid (refScan_ok t.text _ X hhX (by omega))
  have x0 := ((below_cells hbX).1 _ _ hsW).trans d0
  have x1 := ((below_cells hbX).1 _ _ hsW).trans d1
  have x2 := ((below_cells hbX).1 _ _ hsW).trans d2
  have hsX : w.heap.size < X.heap.size := by have := hbX.size; omega
  have hbwX := hbW.trans (hbX.mono (by omega))
  clear d0 d1 d2 hBS hhX hbX hbW hsW
  go_wp2_with fail
  refine HRS.out.mono ?_
  rintro e w2 ⟨v4, v5, rfl, hb2, ho4, ho5⟩
  obtain ⟨A4, c4, rfl, ht⟩ := own_toks ho4
  obtain ⟨A5, c5, rfl, hd⟩ := own_dgs ho5
  have y0 := ((below_cells hb2).1 _ _ hsX).trans x0
  have y1 := ((below_cells hb2).1 _ _ hsX).trans x1
  have y2 := ((below_cells hb2).1 _ _ hsX).trans x2
  have HBW2 := Lib.hid (hbwX.trans (hb2.mono (by omega)))
  have HT := Lib.hid ht
  clear x0 x1 x2 hb2 ho4 ho5 ht hd hbwX HRS
  have hone : ∀ τ, toks t.text (nxt t.text 0) = [τ] → dgs t.text (nxt t.text 0) = [] → τ.kind = t.kind → τ.text = t.text → τ.n = t.n → One t := by
    intro τ h1 h2 h3 h4 h5
    exact ⟨τ, h1, h2, by unfold Tok.core; rw [h3, h4, h5]⟩
  have HO := Lib.hid hone
  clear hone
  generalize toks t.text (nxt t.text 0) = T' at HT HO ⊢
  generalize dgs t.text (nxt t.text 0) = D' at HO ⊢
  go_upto_region 2 with (fail)
  by_cases h1 : T'.length = 1
  · obtain ⟨τ, rfl⟩ := List.length_eq_one_iff.1 h1
    obtain ⟨g, rfl, p0, p1, p2, _, _⟩ := HT.out 0 τ rfl
    simp only [Nat.zero_mul, Nat.zero_add] at p0 p1 p2
    by_cases h2 : D'.length = 0
    · by_cases h3 : τ.kind = t.kind
      · by_cases h4 : τ.text = t.text
        · by_cases h5 : τ.n = t.n
          · go_quiet (fail)
            go_wp2_with fail
            go_ret
            exact ⟨⟨_, rfl, fun _ => HO.out τ rfl (List.eq_nil_of_length_eq_zero h2) h3 h4 h5⟩, below_drewN HBW2.out nq⟩
          · have hd : (τ.n == t.n) = false := by simp [h5]
            have hd' : decide (τ.n = t.n) = false := by simp [h5]
            go_quiet (fail)
            go_wp2_with fail
            go_ret
            exact ⟨⟨false, rfl, fun h => by cases h⟩, below_drewN HBW2.out nq⟩
        · have hd : (τ.text == t.text) = false := by simp [h4]
          have hd2 : decide (τ.text = t.text) = false := by simp [h4]
          have hd' : ((⟨τ.text.toArray⟩ : ByteArray) == ⟨t.text.toArray⟩) = false := by rw [bytes_beq]; simp [h4]
          go_quiet (fail)
          go_wp2_with fail
          go_ret
          exact ⟨⟨false, rfl, fun h => by cases h⟩, below_drewN HBW2.out nq⟩
      · have hd : (τ.kind == t.kind) = false := by simp [h3]
        have hd' : decide (τ.kind = t.kind) = false := by simp [h3]
        go_quiet (fail)
        go_wp2_with fail
        go_ret
        exact ⟨⟨false, rfl, fun h => by cases h⟩, below_drewN HBW2.out nq⟩
    · have hd : decide (D'.length = 0) = false := by simp; intro e; subst e; simp at h2
      have hd' : decide ((D'.length : Int) = 0) = false := by simp; intro e; subst e; simp at h2
      go_quiet (fail)
      go_wp2_with fail
      go_ret
      exact ⟨⟨false, rfl, fun h => by cases h⟩, below_drewN HBW2.out nq⟩
  · have hd : ((T'.length : Int) == 1) = false := by simp; omega
    have hd' : decide ((T'.length : Int) = 1) = false := by simp; omega
    go_quiet (fail)
    go_wp2_with fail
    go_ret
    exact ⟨⟨false, rfl, fun h => by cases h⟩, below_drewN HBW2.out nq⟩
end Go.Proofs.Ytpdljjlbjebmeaa
