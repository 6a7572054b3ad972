/- The document's heap, one object longer. -/
import Derived.Test.YtjgggfickbbieaaHrE
namespace Go.Proofs.Ytjgggfickbbieaa
open Go.RowKit Go.Shelf
theorem nt_snoc (L : List Ob) (x : Ob) (i : Nat) (hi : i < L.length + 1) : nt (L ++ [x]) i = if i < L.length then nt L i else x := by
  unfold nt
  split
  · next h => simp [List.getD, List.getElem?_append_left h]
  · next h =>
    have : i = L.length := by omega
    subst this
    simp [List.getD]
section
variable {own : Nat → Bool} {bw : Nat} {L : List Ob} {wr w3 w4 W2 : World}
theorem RH.add (h : RH own bw L wr) (x : Ob) (hxv : wr.ownsRow 0 2 1 x.v x.vals.length (rowI x.vals)) (hno : ∀ g, x.v.ownBlock = some g → own g = false) (hw : x.vals.length ≤ 256) (hn : L.length < 1024)
    {v v' : Value} (hv : wr.heap[bw]? = some (.cells #[v] 30 (0, 0))) (hx : Ext wr w3) (hg : w3.grownBy w4 v.ownBlock) (hat : v'.ownBlock = v.ownBlock ∨ v'.ownBlock = some w3.heap.size)
    (ho : w4.ownsRow 0 45 6 v' (L.length + 1) (row6 (L ++ [x]))) (hW : W2 = w4.setCell ⟨bw, 0, none⟩ v') :
    ∃ own', RH own' bw (L ++ [x]) W2 ∧ Kept (pQ own) wr W2 ∧ ∀ b, own' b = true → own b = true ∨ x.v.ownBlock = some b ∨ w3.heap.size = b := by
  obtain ⟨v0, e1, e2, e3⟩ := h.ex
  rw [hv] at e1
  obtain rfl : v = v0 := by simpa using e1
  have hrow : w3.ownsRow 0 45 6 v L.length (row6 L) := (hx.kept (fun _ _ => true)).row e2 fun _ _ => rfl
  have gr : ∀ p : Nat → Option TypeId → Bool, (∀ j, v.ownBlock = some j → p j (some 45) = false) → Kept p wr w4 := fun p hp => (hx.kept _).trans (Kept.grown hg fun j o e ho => by rw [(own_tag hrow j o e ho).1]; exact hp j e)
  have h4 : w4.heap[bw]? = some (.cells #[v] 30 (0, 0)) := (gr (fun _ t => t != some 45) (by simp)).same _ _ hv (by simp [tag])
  obtain ⟨s1, s2⟩ := sto1 h4 v'
  rw [← hW] at s1 s2
  have kI : Kept (fun _ t => t == some 2) wr W2 := (gr _ (by simp)).trans (s2 _ (by simp))
  have hs4 : w4.heap.size ≤ W2.heap.size := (s2 (fun b _ => b != bw) (by simp)).size
  have hlen : (L ++ [x]).length = L.length + 1 := by simp
  refine ⟨fun b => own b || x.v.ownBlock == some b || v'.ownBlock == some b, ⟨⟨v', s1, ?_, fun g hg => by simp [hg]⟩, fun i hi => ?_, fun i j hi hj g hgi hgj => ?_, fun i hi g hgi => ?_, by simp [h.ob], fun b hb => ?_, by rw [hlen]; omega, fun i hi => ?_⟩, (gr _ fun j hj => by simp [pQ, e3 j hj]).trans (s2 _ (by simp [pQ, h.ob])), fun b hb => ?_⟩
  · rw [hlen]
    refine (s2 (fun b _ => b != bw) (by simp)).row ho fun g hg => ?_
    have : g ≠ bw := fun e => by
      subst e
      obtain ⟨o, k1, k2⟩ := own_is ho g hg
      rw [h4] at k1; cases k1
      simp [tag] at k2
    simpa using this
  · rw [hlen] at hi
    rw [nt_snoc L x i hi]
    split
    · next hl => exact kI.row (h.vs i hl) fun _ _ => by simp
    · exact kI.row hxv fun _ _ => by simp
  · rw [hlen] at hi hj
    rw [nt_snoc L x i hi] at hgi
    rw [nt_snoc L x j hj] at hgj
    split at hgi
    · next hl =>
      split at hgj
      · next hl2 => exact h.dis i j hl hl2 g hgi hgj
      · have := hno g hgj
        rw [h.ovs i hl g hgi] at this; cases this
    · split at hgj
      · next hl2 =>
        have := hno g hgi
        rw [h.ovs j hl2 g hgj] at this; cases this
      · omega
  · rw [hlen] at hi
    rw [nt_snoc L x i hi] at hgi
    split at hgi
    · next hl => simp [h.ovs i hl g hgi]
    · simp [hgi]
  · have hsz := hx.size
    have hsz2 := (gr (fun _ t => t != some 45) (by simp)).size
    simp only [Bool.or_eq_true, beq_iff_eq] at hb
    rcases hb with (hb | hb) | hb
    · have := h.lt b hb; omega
    · obtain ⟨o, k1, _⟩ := own_is hxv b hb
      have := (Array.getElem?_eq_some_iff.1 k1).1
      omega
    · obtain ⟨o, k1, _⟩ := own_is ho b hb
      have := (Array.getElem?_eq_some_iff.1 k1).1
      omega
  · rw [hlen] at hi
    rw [nt_snoc L x i hi]
    split
    · next hl => exact h.wid i hl
    · exact hw
  · simp only [Bool.or_eq_true, beq_iff_eq] at hb
    rcases hb with (hb | hb) | hb
    · exact .inl hb
    · exact .inr (.inl hb)
    · rcases hat with e | e
      · rw [e] at hb; exact .inl (e3 b hb)
      · rw [e] at hb; exact .inr (.inr (by simpa using hb))
end
end Go.Proofs.Ytjgggfickbbieaa
