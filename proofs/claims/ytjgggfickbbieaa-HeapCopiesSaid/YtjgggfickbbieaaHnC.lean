/- HeapCopies' walk. -/
import Derived.Test.YtjgggfickbbieaaHnB
namespace Go.Proofs.Ytjgggfickbbieaa
open Go.RowKit Go.Shelf
attribute [local go_sem] Oper.semAt_some
/-- Two pairs of heaps that have no block in common. -/
structure Four (W0 : World) (oP oR qP qR : Nat → Bool) (bh bw bo bx : Nat) (ps : List Nat) (L M : List Ob) (qs : List Nat) (L2 M2 : List Ob) (W : World) : Prop where
  a : Both oP oR bh bw ps L M W
  b : Both qP qR bo bx qs L2 M2 W
  dis : ∀ b, qP b = true ∨ qR b = true → oP b = false ∧ oR b = false
  ga : ∀ b, oP b = true ∨ oR b = true → W0.heap.size ≤ b
  gb : ∀ b, qP b = true ∨ qR b = true → W0.heap.size ≤ b
  x : Ext W0 W
section
variable {W0 W W' : World} {oP oR qP qR : Nat → Bool} {bh bw bo bx : Nat} {ps qs : List Nat} {L M L2 M2 : List Ob}
theorem Four.swap (h : Four W0 oP oR qP qR bh bw bo bx ps L M qs L2 M2 W) : Four W0 qP qR oP oR bo bx bh bw qs L2 M2 ps L M W :=
  ⟨h.b, h.a, fun b hb => by
    constructor
    · cases hc : qP b with
      | false => rfl
      | true => obtain ⟨h1, h2⟩ := h.dis b (.inl hc); rw [h1, h2] at hb; simp at hb
    · cases hc : qR b with
      | false => rfl
      | true => obtain ⟨h1, h2⟩ := h.dis b (.inr hc); rw [h1, h2] at hb; simp at hb, h.gb, h.ga, h.x⟩
theorem Four.ext (h : Four W0 oP oR qP qR bh bw bo bx ps L M qs L2 M2 W) (k : Ext W W') : Four W0 oP oR qP qR bh bw bo bx ps L M qs L2 M2 W' :=
  ⟨h.a.ext k, h.b.ext k, h.dis, h.ga, h.gb, h.x.trans k⟩
theorem Four.next (h : Four W0 oP oR qP qR bh bw bo bx ps L M qs L2 M2 W) (hn : Next2 oP oR bh bw W W') : ∃ oP' oR' ps' L' M', Four W0 oP' oR' qP qR bh bw bo bx ps' L' M' qs L2 M2 W' := by
  have hs := hn.since h.x (fun b hb => h.ga b (.inl hb)) (fun b hb => h.ga b (.inr hb))
  obtain ⟨oP', oR', ps', L', M', h1, hk, h3, h4⟩ := hn
  refine ⟨oP', oR', ps', L', M', h1, h.b.frame hk (fun b _ hb => ?_) (fun b _ hb => ?_), fun b hb => ?_, fun b hb => ?_, h.gb, ?_⟩
  · obtain ⟨q1, q2⟩ := h.dis b (.inl hb); simp [pB, q1, q2]
  · obtain ⟨q1, q2⟩ := h.dis b (.inr hb); simp [pB, q1, q2]
  · obtain ⟨q1, q2⟩ := h.dis b hb
    have hlt : b < W.heap.size := by
      rcases hb with hb | hb
      · exact h.b.p.lt b hb
      · exact h.b.r.lt b hb
    constructor
    · cases hc : oP' b with
      | false => rfl
      | true =>
        rcases h3 b hc with q | q
        · rw [q1] at q; cases q
        · omega
    · cases hc : oR' b with
      | false => rfl
      | true =>
        rcases h4 b hc with q | q
        · rw [q2] at q; cases q
        · omega
  · have hz := h.x.size
    rcases hb with hb | hb
    · rcases h3 b hb with q | q
      · exact h.ga b (.inl q)
      · omega
    · rcases h4 b hb with q | q
      · exact h.ga b (.inr q)
      · omega
  · obtain ⟨_, _, _, _, _, _, _, _, q⟩ := hs
    exact q
theorem Four.next2 (h : Four W0 oP oR qP qR bh bw bo bx ps L M qs L2 M2 W) (hn : Next2 qP qR bo bx W W') : ∃ qP' qR' qs' L' M', Four W0 oP oR qP' qR' bh bw bo bx ps L M qs' L' M' W' := by
  obtain ⟨a, b, c, d, e, h1⟩ := h.swap.next hn
  exact ⟨a, b, c, d, e, h1.swap⟩
/-- An act of a row, done. -/
theorem act_ok {T : List ActD} {A : Option Addr} (hT : Acts W0 A T) (hall : ∀ i (h : i < T.length), T[i].m ≤ 300) (h : Both oP oR bh bw ps L M W) (hP : ∀ b, oP b = true → W0.heap.size ≤ b) (hR : ∀ b, oR b = true → W0.heap.size ≤ b) (hx : Ext W0 W) {i : Nat} (hi : i < T.length) :
    ∃ (x : ActD) (g off : Nat), ActR W A i x g off ∧ Calls Try.prog 10 (argsD bh bw x) W fun e W' => e = .returned (.bool true) ∧ Next2 oP oR bh bw W W' := by
  obtain ⟨g, off, har, hwf, _⟩ := Acts.at (hT.kept hx) hi
  obtain ⟨l, hcr⟩ : ∃ l, CRow W0 T[i] l := by
    obtain ⟨_, _, _, _, l0, h0⟩ := Acts.at hT hi
    exact ⟨l0, h0⟩
  exact ⟨T[i], g, off, har, do_ok h T[i] l (hcr.cells hx hP hR) (by rw [← hcr.1]; exact hall i hi) hwf⟩
theorem few30 (T : List ActD) (A : Option Addr) (c : Nat) (b : Bool) (W : World) (hT : Acts W A T) (hb : fewB T 30 = b) :
    Calls Try.prog 7 #[.slice A T.length c, .int .i64 30] W fun e W' => e = .returned (.bool b) ∧ W' = W := by
  have := few_ok T A c 30 W hT (by omega)
  rw [hb] at this
  exact this
set_option maxHeartbeats 4000000 in
set_option maxRecDepth 100000 in
theorem copies_many (T S R : List ActD) (A B C : Option Addr) (c d e : Nat) (W : World) (hT : Acts W A T) (hS : Acts W B S) (hR : Acts W C R) (hf : (fewB T 30 && fewB S 30 && fewB R 30) = false) :
    Calls Try.prog 4 #[.slice A T.length c, .slice B S.length d, .slice C R.length e] W fun e W' => e = .returned (.bool true) ∧ Ext W W' := by
  have hkn0 := known_ok W
  cases h1 : fewB T 30 with
  | false =>
    have HF1 := Lib.hid (few30 T A c false W hT h1)
    have HKN := Lib.hid hkn0
    clear hT hS hR hf hkn0 h1
    go_enter Try.func4, Try.ntmps4
    go_wp2_with (first
      | (go_at_call 7; with_reducible refine HF1.out.mono ?_; rintro e w1 ⟨rfl, hw1⟩; rw [hw1]; clear hw1)
      | (go_at_call 8; refine HKN.out.mono ?_; rintro e w4 ⟨rfl, hx4⟩))
    go_ret
    exact ⟨rfl, hx4⟩
  | true =>
    cases h2 : fewB S 30 with
    | false =>
      have HF1 := Lib.hid (few30 T A c true W hT h1)
      have HF2 := Lib.hid (few30 S B d false W hS h2)
      have HKN := Lib.hid hkn0
      clear hT hS hR hf hkn0 h1 h2
      go_enter Try.func4, Try.ntmps4
      go_wp2_with (first
        | (go_at_call 7; with_reducible refine HF2.out.mono ?_; rintro e w1 ⟨rfl, hw1⟩; rw [hw1]; clear hw1)
        | (go_at_call 7; with_reducible refine HF1.out.mono ?_; rintro e w1 ⟨rfl, hw1⟩; rw [hw1]; clear hw1)
        | (go_at_call 8; refine HKN.out.mono ?_; rintro e w4 ⟨rfl, hx4⟩))
      go_ret
      exact ⟨rfl, hx4⟩
    | true =>
      have h3 : fewB R 30 = false := by rw [h1, h2] at hf; simpa using hf
      have HF1 := Lib.hid (few30 T A c true W hT h1)
      have HF2 := Lib.hid (few30 S B d true W hS h2)
      have HF3 := Lib.hid (few30 R C e false W hR h3)
      have HKN := Lib.hid hkn0
      clear hT hS hR hf hkn0 h1 h2 h3
      go_enter Try.func4, Try.ntmps4
      go_wp2_with (first
        | (go_at_call 7; with_reducible refine HF3.out.mono ?_; rintro e w1 ⟨rfl, hw1⟩; rw [hw1]; clear hw1)
        | (go_at_call 7; with_reducible refine HF2.out.mono ?_; rintro e w1 ⟨rfl, hw1⟩; rw [hw1]; clear hw1)
        | (go_at_call 7; with_reducible refine HF1.out.mono ?_; rintro e w1 ⟨rfl, hw1⟩; rw [hw1]; clear hw1)
        | (go_at_call 8; refine HKN.out.mono ?_; rintro e w4 ⟨rfl, hx4⟩))
      go_ret
      exact ⟨rfl, hx4⟩
end
end Go.Proofs.Ytjgggfickbbieaa
