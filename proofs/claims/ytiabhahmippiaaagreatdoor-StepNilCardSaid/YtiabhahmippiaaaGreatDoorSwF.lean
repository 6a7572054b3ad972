/- The chapter's rows. -/
import Derived.Test.YtiabhahmippiaaaGreatDoorSwE
import Derived.Test.YtiabhahmippiaaaGreatDoorSvP
namespace Go.Proofs.YtiabhahmippiaaaGreatDoor
open Go.RowKit Go.Shelf
attribute [local go_sem] Oper.semAt_some
theorem like_fn {P Q : Prg} (h : PrgLike P Q) {F : Fn} (hF : P.fns = [F]) : Q.fns.length = 1 ∧ ∃ h0 : 0 < Q.fns.length, Fn.like F Q.fns[0] := by
  have h1 := h.fns.1
  rw [hF] at h1
  have h0 : 0 < Q.fns.length := by rw [h1]; exact Nat.one_pos
  exact ⟨h1, h0, h.fns.2 0 F _ (by rw [hF]; rfl) (List.getElem?_eq_getElem h0)⟩
theorem like_ins {F G : Fn} (h : Fn.like F G) {k : Nat} {x : Ins} (hx : F.code[k]? = some x) : ∃ hk : k < G.code.length, Ins.like x G.code[k] := by
  have hk : k < G.code.length := by rw [h.2.2.2.1]; exact (List.getElem?_eq_some_iff.1 hx).1
  exact ⟨hk, h.2.2.2.2 k x _ hx (List.getElem?_eq_getElem hk)⟩
theorem ext_nF {W w w' : World} {gr bf : Nat} (h : Ext W w) (k : Kept (nF gr bf) w w') (hg : W.heap.size ≤ gr) (hf : W.heap.size ≤ bf) : Ext W w' := Kept.trans h (k.mono fun b t _ hp => by
  simp [pOld] at hp
  simp [nF]; omega)
theorem rows_block {L : List Ins} {w : World} {g : Nat} (h : w.heap[g]? = some (.cells (L.flatMap Ins.cells).toArray 77 (0, 0))) (hi : ∀ x ∈ L, Ins.In w x) (hl : L.length ≤ 1000) : RowN Ins.cells 8 (Ins.In w) w (some ⟨g, 0, none⟩) L.length L.length L := by
  have hlen : (L.flatMap Ins.cells).length = L.length * 8 := flat_len (f := Ins.cells) (s := 8) (fun _ => rfl) L
  refine own_rowN (B := 0) (t := 77) (fun _ => rfl) ⟨hlen, .inr ⟨g, L.length, _, rfl, Nat.zero_le _, h, Nat.le_refl _, by unfold maxLen; omega, by simpa using hlen, ?_⟩⟩ hi
  rw [List.take_of_length_le (by simp [hlen])]
theorem in_nil {w : World} {x : Ins} (h : x.lA = none ∧ x.lC = 0 ∧ x.l = []) : Ins.In w x := by
  obtain ⟨h1, h2, h3⟩ := h
  refine ⟨⟨rfl, fun _ => ⟨h2, by rw [h3]; rfl⟩, fun i y hi => by rw [h3] at hi; simp at hi⟩, by rw [h3]; show (0 : Nat) ≤ _; omega⟩
/-- A program of our own: small's answer for a list, and its code. -/
theorem smallJ (w : World) {g : Nat} (h : w.heap[g]? = some (.cells ([iJoin].flatMap Ins.cells).toArray 77 (0, 0))) : Calls Tryz.prog 23 #[.slice (some ⟨g, 0, none⟩) 1 1] w fun e w' => ∃ P : Prg, e = .returned P.v ∧ P.In w' ∧ GoodP P ∧ NoL P ∧ Ext w w' ∧ ∃ F, P.fns = [F] ∧ F.caps = 0 ∧ F.regs = 4 := by
  refine (small_ok (L := [iJoin]) (rows_block h (fun x hx => in_nil (by obtain rfl : x = iJoin := by simpa using hx
                                                                        exact ⟨rfl, rfl, rfl⟩)) (by decide)) (fun x hx => by
    obtain rfl : x = iJoin := by simpa using hx
    decide) (by decide)).mono ?_
  rintro e w' ⟨b1, b2, b3, b4, b5, bF, be, As, cs, Ac, cc, P, hP, rfl, h1, h2⟩
  subst hP
  exact ⟨_, rfl, h1, goodJ.1, goodJ.2, h2, _, rfl, rfl, rfl⟩
theorem smallK (w : World) {g : Nat} (h : w.heap[g]? = some (.cells ([iConst, iAdd, iGet].flatMap Ins.cells).toArray 77 (0, 0))) : Calls Tryz.prog 23 #[.slice (some ⟨g, 0, none⟩) 3 3] w fun e w' => ∃ P : Prg, e = .returned P.v ∧ P.In w' ∧ GoodP P ∧ NoL P ∧ Ext w w' ∧ ∃ F, P.fns = [F] ∧ F.caps = 0 ∧ F.regs = 4 ∧ F.code = [⟨1, 0, 0, 0, 7, none, 0, [], -1, 0⟩, ⟨3, 0, 0, 0, 0, none, 0, [], -1, 0⟩, ⟨12, 1, 0, 0, 0, none, 0, [], 0, 0⟩, retI] := by
  have hall : ∀ x ∈ [iConst, iAdd, iGet], (x.lA = none ∧ x.lC = 0 ∧ x.l = []) ∧ 1 ≤ x.op ∧ x.op ≤ 33 := by
    intro x hx
    simp only [List.mem_cons, List.not_mem_nil, or_false] at hx
    rcases hx with rfl | rfl | rfl
    · exact ⟨⟨rfl, rfl, rfl⟩, by decide⟩
    · exact ⟨⟨rfl, rfl, rfl⟩, by decide⟩
    · exact ⟨⟨rfl, rfl, rfl⟩, by decide⟩
  refine (small_ok (L := [iConst, iAdd, iGet]) (rows_block h (fun x hx => in_nil (hall x hx).1) (by decide)) (fun x hx => (hall x hx).2) (by decide)).mono ?_
  rintro e w' ⟨b1, b2, b3, b4, b5, bF, be, As, cs, Ac, cc, P, hP, rfl, h1, h2⟩
  subst hP
  exact ⟨_, rfl, h1, goodK.1, goodK.2, h2, _, rfl, rfl, rfl, codK⟩
end Go.Proofs.YtiabhahmippiaaaGreatDoor
