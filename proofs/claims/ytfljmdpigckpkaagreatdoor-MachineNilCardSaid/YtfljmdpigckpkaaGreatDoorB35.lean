/- The small programs of the machine's law: they may be, and what stands in them; The chapter's rows: what a machine does with the law's small program. -/
import Derived.Test.YtfljmdpigckpkaaGreatDoorB34
namespace Go.Proofs.YtfljmdpigckpkaaGreatDoor
open Go.RowKit Go.Shelf
theorem rowN_one {α : Type} {f : α → List Value} {s : Nat} {P : α → Prop} {w : World} {g c : Nat} {t : TypeId} {x : α} (h : w.heap[g]? = some (.cells (f x).toArray t (0, 0))) (hP : P x) : RowN f s P w (some ⟨g, 0, none⟩) 1 c [x] := by
  refine ⟨rfl, (fun e => by cases e), fun i y hi => ?_⟩
  cases i with
  | zero =>
    obtain rfl : x = y := by simpa using hi
    refine ⟨g, 0, rfl, (Array.getElem?_eq_some_iff.1 h).1, hP, fun j u hj => ?_⟩
    simp only [World.cell?, h]
    simpa using hj
  | succ i => simp at hi
theorem row1_of {α : Type} {f : α → Value} {w : World} {g c : Nat} {t : TypeId} {l : List α} (h : w.heap[g]? = some (.cells (rowV f l).toArray t (0, 0))) : Row1 f w (some ⟨g, 0, none⟩) l.length c l := by
  refine ⟨rfl, (fun e => by cases e), fun i y hi => ?_⟩
  refine ⟨g, 0, rfl, (Array.getElem?_eq_some_iff.1 h).1, trivial, fun j u hj => ?_⟩
  cases j with
  | zero =>
    obtain rfl : f y = u := by simpa using hj
    simp only [World.cell?, h]
    simp [rowV, hi]
  | succ j => simp at hj
section
variable {n b1 b2 b6 be : Nat} {S : List Sit} {C : List Ins} {As : Option Addr} {cs : Nat} {Ac : Option Addr} {cc : Nat} {A3 : Option Addr} {c3 : Nat} {w w1 : World} {P : Prg}
structure FinO (n b1 b2 be : Nat) (S : List Sit) (C : List Ins) (As : Option Addr) (cs : Nat) (Ac : Option Addr) (cc : Nat) (A3 : Option Addr) (c3 : Nat) (w : World) : Prop where
  h1 : w.heap[b1]? = some (.cells #[.string ⟨#[117, 105]⟩, .string ⟨#[98, 103]⟩] 9 (0, 0))
  h2 : w.heap[b2]? = some (.cells #[.string ⟨#[103]⟩, .int .i64 1] 90 (0, 0))
  hE : w.heap[be]? = some evtO
  s : w.ownsRow (n + 5) 95 2 (.slice As S.length cs) S.length (S.flatMap Sit.cells)
  c : w.ownsRow (n + 5) 25 8 (.slice Ac C.length cc) C.length (C.flatMap Ins.cells)
  r : w.ownsRow (n + 5) 92 4 (.slice A3 1 c3) 1 (F0 Ac cc C).cells
theorem Fin.out (h : Fin n b1 b2 b6 P S C As cs Ac cc A3 c3 w) (he : w.heap[be]? = some evtO) (k : Kept (ne' n) w w1) (h1 : n < b1) (h2 : n < b2) (h3 : n < be) : FinO n b1 b2 be S C As cs Ac cc A3 c3 w1 := by
  have hn : ∀ b t, n < b → ne' n b t = true := fun b t hlt => by
    have : b ≠ n := by omega
    simp [ne', this]
  exact ⟨k.same _ _ h.b.h1 (hn _ _ h1), k.same _ _ h.b.h2 (hn _ _ h2), k.same _ _ he (hn _ _ h3), k.row h.s fun b hbk => hn b _ (by have := own_base h.s b hbk; omega), k.row h.c fun b hbk => hn b _ (by have := own_base h.c b hbk; omega), k.row h.r fun b hbk => hn b _ (by have := own_base h.r b hbk; omega)⟩
theorem FinO.inP (h : FinO n b1 b2 be S C As cs Ac cc A3 c3 w) (hC : ∀ x ∈ C, Ins.In w x) (hl : C.length ≤ 100) (hs : S.length ≤ 100) : (P2 b1 b2 be As cs S A3 c3 (F0 Ac cc C)).In w where
  loops := row1_of (f := sV) (l := [⟨#[117, 105]⟩, ⟨#[98, 103]⟩]) h.h1
  clss := ⟨rfl, fun _ => ⟨rfl, rfl⟩, fun i x hi => by simp [P2, P1, P0] at hi⟩
  glbs := rowN_one (f := Glb.cells) (x := ⟨⟨#[103]⟩, 1⟩) h.h2 trivial
  fns := own_rowN (T := [F0 Ac cc C]) (f := Fn.cells) (fun _ => rfl) (show w.ownsRow (n + 5) 92 4 (.slice A3 1 c3) 1 ([F0 Ac cc C].flatMap Fn.cells) by simpa using h.r) (fun x hx => by
    obtain rfl : x = F0 Ac cc C := by simpa using hx
    exact ⟨own_rowN (fun _ => rfl) h.c hC, show C.length ≤ _ by omega⟩)
  cmps := ⟨rfl, fun _ => ⟨rfl, rfl⟩, fun i x hi => by simp [P2, P1, P0] at hi⟩
  evts := rowN_one (f := Evt.cells) (x := evtE) h.hE trivial
  sits := own_rowN (fun _ => rfl) h.s fun _ _ => trivial
  loopsL := by show (2 : Nat) ≤ _; omega
  clssL := by show (0 : Nat) ≤ _; omega
  glbsL := by show (1 : Nat) ≤ _; omega
  fnsL := by show (1 : Nat) ≤ _; omega
  cmpsL := by show (0 : Nat) ≤ _; omega
  evtsL := by show (1 : Nat) ≤ _; omega
  sitsL := by show S.length ≤ _; omega
end
theorem rg3 {x : Ins} {r : Int} (h : namedO x.op ≤ 3) (h0 : inI x.a r = true) (h1 : inI x.b r = true) (h2 : inI x.c r = true) : ∀ i : Nat, (i : Int) < namedO x.op → inI (rgA x i) r = true := by
  intro i hi
  match i, hi with
  | 0, _ => exact h0
  | 1, _ => exact h1
  | 2, _ => exact h2
  | i + 3, hi => exact absurd hi (by omega)
section
variable {b1 b2 be : Nat} {As : Option Addr} {cs : Nat} {Ac : Option Addr} {cc : Nat} {A3 : Option Addr} {c3 : Nat}
theorem partsS_ok {S : List Sit} {C : List Ins} : PartsOk (P2 b1 b2 be As cs S A3 c3 (F0 Ac cc C)) where
  n0 := ⟨(by show 1 ≤ 2; omega), by show 2 ≤ 8; omega⟩
  n1 := by show 0 ≤ 16; omega
  n2 := by show 1 ≤ 32; omega
  n3 := by show 0 ≤ 8; omega
  n4 := by show 1 ≤ 8; omega
  n5 := ⟨Nat.le_refl 1, by show 1 ≤ 64; omega⟩
  mn := rfl
  cls := fun i h => absurd h (Nat.not_lt_zero _)
  cmp := fun i h => absurd h (Nat.not_lt_zero _)
  evt := fun i h => by
    match i, h with
    | 0, _ => exact ⟨rfl, rfl⟩
    | i + 1, h => exact absurd h (by show ¬ i + 1 < 1; omega)
theorem good_of {S : List Sit} {C : List Ins} (hc : 1 ≤ C.length ∧ C.length ≤ 512) (hi : ∀ (k : Nat) (h : k < C.length), InsOk (P2 b1 b2 be As cs S A3 c3 (F0 Ac cc C)) (F0 Ac cc C) C[k] ∧ placeP (P2 b1 b2 be As cs S A3 c3 (F0 Ac cc C)) 0 (F0 Ac cc C) k C[k])
    (hl : ∀ (h : C.length - 1 < C.length), C[C.length - 1].op = 33 ∨ C[C.length - 1].op = 31) (hs : cntS C = S.length ∧ S.length ≤ 512) (hn : ∀ (k : Nat) (h : k < C.length), C[k].op ≠ 11) : GoodP (P2 b1 b2 be As cs S A3 c3 (F0 Ac cc C)) where
  may := ⟨partsS_ok, fun i h => by
    match i, h with
    | 0, _ => exact ⟨⟨by show (0 : Int) ≤ 4; omega, by show (4 : Int) ≤ 256; omega⟩, ⟨by show (0 : Int) ≤ 0; omega, by show (0 : Int) ≤ 4; omega⟩, hc, hi, hl⟩
    | i + 1, h => exact absurd h (by show ¬ i + 1 < 1; omega), ⟨by have := hs.1; show cntS C + 0 = S.length; omega, hs.2⟩⟩
  glb := fun i h => by
    match i, h with
    | 0, _ => rfl
    | i + 1, h => exact absurd h (by show ¬ i + 1 < 1; omega)
  fld := fun i h => absurd h (Nat.not_lt_zero _)
  cel := fun i h k hk => by
    match i, h with
    | 0, _ => exact fun e => absurd e (hn k hk)
    | i + 1, h => exact absurd h (by show ¬ i + 1 < 1; omega)
theorem nol_of {S : List Sit} {C : List Ins} (hi : ∀ (k : Nat) (h : k < C.length), C[k].l = []) : NoL (P2 b1 b2 be As cs S A3 c3 (F0 Ac cc C)) := fun i h k hk => by
  match i, h with
  | 0, _ => exact hi k hk
  | i + 1, h => exact absurd h (by show ¬ i + 1 < 1; omega)
def iC5 : Ins := ⟨1, 0, 0, 0, 5, none, 0, [], 0, 0⟩
def iSt : Ins := ⟨10, 0, 0, 0, 0, none, 0, [], 0, 0⟩
def r33 : Ins := ⟨33, 0, 0, 0, 0, none, 0, [], -1, 0⟩
def c01 : Ins := ⟨1, 0, 0, 0, 5, none, 0, [], -1, 0⟩
theorem codJ : codN [ret0] 1 = [r33] := rfl
theorem sitJ : sitN [ret0] 1 = [] := rfl
theorem codK : codN [iC5, iSt, ret0] 3 = [c01, iSt, r33] := rfl
theorem sitK : sitN [iC5, iSt, ret0] 3 = [⟨0, 1⟩] := rfl
theorem goodJ : GoodP (P2 b1 b2 be As cs [] A3 c3 (F0 Ac cc [r33])) ∧ NoL (P2 b1 b2 be As cs [] A3 c3 (F0 Ac cc [r33])) := by
  refine ⟨good_of ⟨by decide, by decide⟩ ?_ (fun _ => Or.inl rfl) ⟨rfl, by decide⟩ ?_, nol_of ?_⟩
  · intro k hk
    match k, hk with
    | 0, _ => exact ⟨⟨of_decide_eq_true rfl, of_decide_eq_true rfl, rg3 (of_decide_eq_true rfl) rfl rfl rfl, fun i h => absurd h (Nat.not_lt_zero _), rfl⟩, ⟨fun _ => rfl, fun h => absurd h (of_decide_eq_true rfl)⟩⟩
    | k + 1, hk => exact absurd hk (by show ¬ k + 1 < 1; omega)
  · intro k hk
    match k, hk with
    | 0, _ => exact (by decide : ¬ (33 : Int) = 11)
    | k + 1, hk => exact absurd hk (by show ¬ k + 1 < 1; omega)
  · intro k hk
    match k, hk with
    | 0, _ => rfl
    | k + 1, hk => exact absurd hk (by show ¬ k + 1 < 1; omega)
theorem goodK : GoodP (P2 b1 b2 be As cs [⟨0, 1⟩] A3 c3 (F0 Ac cc [c01, iSt, r33])) ∧ NoL (P2 b1 b2 be As cs [⟨0, 1⟩] A3 c3 (F0 Ac cc [c01, iSt, r33])) := by
  refine ⟨good_of ⟨by decide, by decide⟩ ?_ (fun _ => Or.inl rfl) ⟨rfl, by decide⟩ ?_, nol_of ?_⟩
  · intro k hk
    match k, hk with
    | 0, _ => exact ⟨⟨of_decide_eq_true rfl, of_decide_eq_true rfl, rg3 (of_decide_eq_true rfl) rfl rfl rfl, fun i h => absurd h (Nat.not_lt_zero _), rfl⟩, ⟨fun _ => rfl, fun h => absurd h (of_decide_eq_true rfl)⟩⟩
    | 1, _ => exact ⟨⟨of_decide_eq_true rfl, of_decide_eq_true rfl, rg3 (of_decide_eq_true rfl) rfl rfl rfl, fun i h => absurd h (Nat.not_lt_zero _), rfl⟩, ⟨fun h => absurd h (of_decide_eq_true rfl), fun _ => ⟨rfl, _, rfl, rfl, rfl⟩⟩⟩
    | 2, _ => exact ⟨⟨of_decide_eq_true rfl, of_decide_eq_true rfl, rg3 (of_decide_eq_true rfl) rfl rfl rfl, fun i h => absurd h (Nat.not_lt_zero _), rfl⟩, ⟨fun _ => rfl, fun h => absurd h (of_decide_eq_true rfl)⟩⟩
    | k + 3, hk => exact absurd hk (by show ¬ k + 3 < 3; omega)
  · intro k hk
    match k, hk with
    | 0, _ => exact (by decide : ¬ (1 : Int) = 11)
    | 1, _ => exact (by decide : ¬ (10 : Int) = 11)
    | 2, _ => exact (by decide : ¬ (33 : Int) = 11)
    | k + 3, hk => exact absurd hk (by show ¬ k + 3 < 3; omega)
  · intro k hk
    match k, hk with
    | 0, _ => rfl
    | 1, _ => rfl
    | 2, _ => rfl
    | k + 3, hk => exact absurd hk (by show ¬ k + 3 < 3; omega)
end
/-- A program that the law makes: what New asks of it. -/
structure Sml (P : Prg) (C : List Ins) (w : World) : Prop where
  i : P.In w
  g : GoodP P
  l : NoL P
  gl : P.glbs.length = 1
  ev : P.evts.length = 1
  lo : P.loops.length = 2
  ma : P.main = 0
  cm : P.cmps.length = 0
  fn : ∃ F, P.fns = [F] ∧ F.caps = 0 ∧ F.regs = 4 ∧ F.code = C
theorem in_nil {w : World} {x : Ins} (h : x.lA = none ∧ x.lC = 0 ∧ x.l = []) : Ins.In w x := by
  obtain ⟨h1, h2, h3⟩ := h
  refine ⟨⟨rfl, fun _ => ⟨h2, by rw [h3]; rfl⟩, fun i y hi => by rw [h3] at hi; simp at hi⟩, by rw [h3]; show (0 : Nat) ≤ _; omega⟩
theorem rows_block {L : List Ins} {w : World} {g : Nat} (h : w.heap[g]? = some (.cells (L.flatMap Ins.cells).toArray 25 (0, 0))) (hi : ∀ x ∈ L, Ins.In w x) (hl : L.length ≤ 1000) : RowN Ins.cells 8 (Ins.In w) w (some ⟨g, 0, none⟩) L.length L.length L := by
  have hlen : (L.flatMap Ins.cells).length = L.length * 8 := flat_len (f := Ins.cells) (s := 8) (fun _ => rfl) L
  refine own_rowN (B := 0) (t := 25) (fun _ => rfl) ⟨hlen, .inr ⟨g, L.length, _, rfl, Nat.zero_le _, h, Nat.le_refl _, by unfold maxLen; omega, by simpa using hlen, ?_⟩⟩ hi
  rw [List.take_of_length_le (by simp [hlen])]
theorem smallJ (w : World) {ga cA : Nat} (h : w.cell? ⟨ga, 0, none⟩ = some (.slice none 0 0)) : Calls Tryz.prog 6 #[.slice (some ⟨ga, 0, none⟩) 1 cA] w fun e w' => ∃ P : Prg, e = .returned P.v ∧ Sml P [r33] w' ∧ Ext w w' := by
  refine (small11_raw (M := []) (A := none) (c := 0) h ⟨rfl, fun _ => ⟨rfl, rfl⟩, fun i x hi => by simp at hi⟩ (fun x hx => by simp at hx) (by decide)).mono ?_
  rintro e w' ⟨be, As, cs, Ac, cc, A3, c3, L, P, w2, rfl, hP, rfl, hf, he, hbe, hk, hx⟩
  simp only [List.nil_append, List.length_singleton, codJ, sitJ] at hP hf
  subst hP
  have ho := hf.out he hk (by omega) (by omega) hbe
  exact ⟨_, rfl, ⟨ho.inP (fun x hx => in_nil (by obtain rfl : x = r33 := by simpa using hx
                                                 exact ⟨rfl, rfl, rfl⟩)) (by decide) (by decide), goodJ.1, goodJ.2, rfl, rfl, rfl, rfl, rfl, _, rfl, rfl, rfl, rfl⟩, hx⟩
theorem smallK (w : World) {ga cA g : Nat} (h : w.cell? ⟨ga, 0, none⟩ = some (.slice (some ⟨g, 0, none⟩) 2 2)) (hg : w.heap[g]? = some (.cells ([iC5, iSt].flatMap Ins.cells).toArray 25 (0, 0))) : Calls Tryz.prog 6 #[.slice (some ⟨ga, 0, none⟩) 1 cA] w fun e w' => ∃ P : Prg, e = .returned P.v ∧ Sml P [c01, iSt, r33] w' ∧ Ext w w' := by
  have hall : ∀ x ∈ [iC5, iSt], (x.lA = none ∧ x.lC = 0 ∧ x.l = []) ∧ 1 ≤ x.op ∧ x.op ≤ 33 := by
    intro x hx
    simp only [List.mem_cons, List.not_mem_nil, or_false] at hx
    rcases hx with rfl | rfl
    · exact ⟨⟨rfl, rfl, rfl⟩, by decide⟩
    · exact ⟨⟨rfl, rfl, rfl⟩, by decide⟩
  refine (small11_raw (M := [iC5, iSt]) (A := some ⟨g, 0, none⟩) (c := 2) h (rows_block hg (fun x hx => in_nil (hall x hx).1) (by decide)) (fun x hx => (hall x hx).2) (by decide)).mono ?_
  rintro e w' ⟨be, As, cs, Ac, cc, A3, c3, L, P, w2, rfl, hP, rfl, hf, he, hbe, hk, hx⟩
  change P2 _ _ be As cs (sitN [iC5, iSt, ret0] 3) A3 c3 (F0 Ac cc (codN [iC5, iSt, ret0] 3)) = P at hP
  change Fin _ _ _ _ P (sitN [iC5, iSt, ret0] 3) (codN [iC5, iSt, ret0] 3) As cs Ac cc A3 c3 w2 at hf
  rw [codK, sitK] at hP hf
  subst hP
  have ho := hf.out he hk (by omega) (by omega) hbe
  refine ⟨_, rfl, ⟨ho.inP (fun x hx => in_nil ?_) (by decide) (by decide), goodK.1, goodK.2, rfl, rfl, rfl, rfl, rfl, _, rfl, rfl, rfl, rfl⟩, hx⟩
  simp only [List.mem_cons, List.not_mem_nil, or_false] at hx
  rcases hx with rfl | rfl | rfl
  · exact ⟨rfl, rfl, rfl⟩
  · exact ⟨rfl, rfl, rfl⟩
  · exact ⟨rfl, rfl, rfl⟩
end Go.Proofs.YtfljmdpigckpkaaGreatDoor

namespace Go.Proofs.YtfljmdpigckpkaaGreatDoor
open Go.RowKit Go.Shelf
attribute [local go_sem] Oper.semAt_some
theorem at_in {P Q : Prg} (h : PrgLike P Q) {F : Fn} (hF : P.fns = [F]) {k : Nat} {y : Ins} (hy : F.code[k]? = some y) : At Q k y := by
  have h1 := h.fns.1
  rw [hF] at h1
  have h0 : 0 < Q.fns.length := by rw [h1]; exact Nat.one_pos
  have hl := h.fns.2 0 F _ (by rw [hF]; rfl) (List.getElem?_eq_getElem h0)
  have hk : k < Q.fns[0].code.length := by rw [hl.2.2.2.1]; exact (List.getElem?_eq_some_iff.1 hy).1
  exact ⟨h0, hk, hl.2.2.2.2 k y _ hy (List.getElem?_eq_getElem hk)⟩
theorem ext_over {w w' w'' W3 : World} (h : Ext w w') (s : w.heap.size ≤ W3.heap.size) (a : Ext W3 w') (b : Ext W3 w'') : Ext w w'' := by
  refine ⟨b.os.trans (a.os.symm.trans h.os), b.tape.trans (a.tape.symm.trans h.tape), b.output.trans (a.output.symm.trans h.output), Nat.le_trans s b.size, fun i o hb hp => ?_⟩
  have hlt := (Array.getElem?_eq_some_iff.1 hb).1
  have h1 := h.same i o hb hp
  obtain ⟨o', ho'⟩ : ∃ o', W3.heap[i]? = some o' := ⟨_, Array.getElem?_eq_getElem (by omega)⟩
  have h2 := a.same i o' ho' (by simp [pOld]; omega)
  have e : o = o' := by rw [h1] at h2; exact Option.some.inj h2
  subst e
  exact b.same i _ ho' (by simp [pOld]; omega)
theorem own_get {W : World} {B s n : Nat} {t : TypeId} {v : Value} {xs : List Value} (h : W.ownsRow B t s v n xs) (hn : 0 < n) : ∃ g c, v = .slice (some ⟨g, 0, none⟩) n c ∧ g < W.heap.size ∧ ∀ (j : Nat) u, xs[j]? = some u → W.cell? ⟨g, j, none⟩ = some u := by
  rcases h.2 with ⟨_, h0⟩ | ⟨g, cap, cur, e, _, h1, h2, h3, h4, h5⟩
  · omega
  · refine ⟨g, cap, e, (Array.getElem?_eq_some_iff.1 h1).1, fun j u hj => ?_⟩
    have hx := hj
    rw [← h5, List.getElem?_take] at hx
    split at hx
    · simp only [World.cell?, h1]
      simpa using hx
    · cases hx
def oK11 : Obj := .cells ([iC5, iSt].flatMap Ins.cells).toArray 25 (0, 0)
def oS11 (g : Nat) : Obj := .cells #[.slice (some ⟨g, 0, none⟩) 2 2] 26 (0, 0)
def mk3L : List Mk := [⟨1, 1, 0, 0, 0, 0, 0, false⟩, ⟨3, 1, 0, 0, 1, 0, 0, true⟩, ⟨2, 1, 0, 0, 0, 0, 0, false⟩]
set_option maxHeartbeats 8000000 in
set_option maxRecDepth 100000 in
theorem known_ok {W : World} (hT : Tab W) : Calls Tryz.prog 22 #[] W fun e W' => e = .returned (.bool true) ∧ Ext W W' := by
  obtain ⟨W1, hW1⟩ : ∃ W1, W1 = (W.alloc oK11).alloc (oS11 W.heap.size) := ⟨_, rfl⟩
  have hx1 : Ext W W1 := by rw [hW1]; exact Ext.two _ _ _
  have hb1 : W1.heap[W.heap.size]? = some oK11 := by rw [hW1]; exact alloc_old (World.alloc_heap_new _ _)
  have hb2 : W1.heap[W.heap.size + 1]? = some (oS11 W.heap.size) := by rw [hW1]; exact alloc_new' (by simp)
  have HS := Lib.hid (smallK W1 (ga := W.heap.size + 1) (cA := 1) (by simp [World.cell?, hb2, oS11]) hb1)
  have HN := Lib.hid (fun (w : World) (k : Ext W1 w) (P : Prg) (hs : Sml P [c01, iSt, r33] w) => New_m ((hT.ext hx1).ext k) hs.i hs.g hs.l hs.gl hs.ev hs.lo hs.ma hs.cm (by obtain ⟨F, h, _⟩ := hs.fn; rw [h]; exact Nat.one_pos) (by obtain ⟨F, h, h1, _⟩ := hs.fn; simp only [h]; exact h1) (by obtain ⟨F, h, _, h1, _⟩ := hs.fn; simp only [h]; exact h1))
  have HX1 := Lib.hid hx1
  have HW := Lib.hid hW1
  clear hx1 hb1 hb2 hW1 hT
  go_enter Tryz.func22, Tryz.ntmps22
  go_upto_region 2 with (first
    | (go_at_call 6; (change Calls _ _ #[Value.slice (some ⟨W.heap.size + 1, 0, none⟩) 1 1] ((W.alloc oK11).alloc (oS11 W.heap.size)) _); rw [← HW.out]; refine HS.out.mono ?_; rintro e w2 ⟨P, rfl, hs, hx2⟩; have HSM := Lib.hid hs; have HNW := Lib.hid (HN.out w2 hx2 P hs); have HX2 := Lib.hid (HX1.out.trans hx2); clear hs hx2)
    | (go_at_call 31; refine HNW.out.mono ?_; rintro e w4 ⟨W3, L, rfl, hx4, hsz, hma, Q, hcd, hlk⟩; have HMA := Lib.hid (show MA W3 L (kst L.bt 0) w4 from hma); have HCD := Lib.hid hcd; have HLK := Lib.hid hlk; have HX4 := Lib.hid (fun (w : World) (k : Ext W3 w) => HX2.out.trans (ext_over hx4 hsz hma.x3 k)); clear hx4 hsz hma hcd hlk))
  have HR := Lib.hid (fun (k : Nat) (hk : k < 4) (w : World) (a : MA W3 L (kst L.bt k) w) => by
    obtain ⟨F, hF, _, _, hc⟩ := HSM.out.fn
    exact krun HCD.out (at_in HLK.out hF (k := 0) (y := c01) (by rw [hc]; rfl)) (at_in HLK.out hF (k := 1) (y := iSt) (by rw [hc]; rfl)) (at_in HLK.out hF (k := 2) (y := r33) (by rw [hc]; rfl)) ⟨rfl, rfl, rfl, rfl⟩ ⟨rfl, rfl, rfl, rfl, rfl⟩ ⟨rfl, rfl⟩ hk a)
  clear HS HN HNW HSM HCD HLK
  go_upto_region 3 with (go_at_call 8; refine (run_skip HMA.out rfl).mono ?_; rintro e w5 ⟨rfl, hma⟩; have HM0 := Lib.hid hma; clear hma)
  clear HMA
  go_upto_region 5 with (fail)
  go_loopg [3] 4 (fun k v3 wr => ∃ i : Nat, i + k = 4 ∧ v3 = .int .i64 i ∧ MA W3 L (kst L.bt i) wr)
  case atStart => exact ⟨0, rfl, rfl, HM0.out⟩
  case round =>
    clear HM0
    obtain ⟨i, hik, rfl, hm⟩ := hrel
    rcases Nat.lt_or_ge i 4 with hi | hi
    · have z : (i : Int) < 4 := by omega
      have HV := Lib.hid (HR.out i hi _ hm)
      have HIK := Lib.hid hik
      have HI := Lib.hid hi
      clear hm hik hi
      go_wp2_with (go_at_call 8; refine HV.out.mono ?_; rintro e w6 ⟨rfl, hv6⟩; have HV6 := Lib.hid hv6; clear hv6)
      have hik := HIK.out
      have hi := HI.out
      go_roundg (3 - i)
      case measure => omega
      case rel => exact ⟨i + 1, by omega, by simp, HV6.out⟩
    · obtain rfl : i = 4 := by omega
      have hM := Marks_m hm (show (3 : Nat) ≤ 100000 by decide) (show 0 < 3 by decide)
      have HMM := Lib.hid hM
      have HG := Lib.hid (fun (w : World) (k : Ext wr w) => Globals_m (hm.ext k) (show (1 : Nat) ≤ 100000 by decide))
      have HE := Lib.hid (fun (w : World) (k : Ext wr w) => Ended_m (hm.ext k) rfl rfl)
      have HC := Lib.hid (fun (w : World) (k : Ext wr w) => Can_m (hm.ext k) rfl rfl rfl)
      have HXX := Lib.hid (fun (w : World) (k : Ext wr w) => HX4.out w (hm.x3.trans k))
      clear hM hm hik
      go_upto_region 10 with (first
        | (go_at_call 16; refine HMM.out.mono ?_; rintro e w6 ⟨A, c, rfl, hx6, ho6⟩; have HX6 := Lib.hid hx6; have HO6 := Lib.hid ho6; clear hx6 ho6)
        | (go_at_call 26; refine (HG.out _ HX6.out).mono ?_; rintro e w7 ⟨A7, c7, rfl, hx7, ho7⟩; have HX7 := Lib.hid (HX6.out.trans hx7); have HK7 := Lib.hid hx7; have HO7 := Lib.hid ho7; clear hx7 ho7))
      obtain ⟨q, cq, e1, ql, hq⟩ := own_get ((HK7.out.kept (fun _ _ => true)).row HO6.out fun _ _ => rfl) (show 0 < 3 by decide)
      obtain ⟨p, cp, e2, pl, hp⟩ := own_get HO7.out (show 0 < 1 by decide)
      cases e1
      cases e2
      have p0 : w7.cell? ⟨p, 0, none⟩ = some (.int .i64 5) := hp 0 _ rfl
      have q0 : w7.cell? ⟨q, 0, none⟩ = some (.int .i64 1) := hq 0 _ rfl
      have q8 : w7.cell? ⟨q, 8, none⟩ = some (.int .i64 3) := hq 8 _ rfl
      have q11 : w7.cell? ⟨q, 11, none⟩ = some (.int .i64 0) := hq 11 _ rfl
      have q12 : w7.cell? ⟨q, 12, none⟩ = some (.int .i64 1) := hq 12 _ rfl
      have q13 : w7.cell? ⟨q, 13, none⟩ = some (.int .i64 0) := hq 13 _ rfl
      have q14 : w7.cell? ⟨q, 14, none⟩ = some (.int .i64 0) := hq 14 _ rfl
      have q15 : w7.cell? ⟨q, 15, none⟩ = some (.bool true) := hq 15 _ rfl
      have q16 : w7.cell? ⟨q, 16, none⟩ = some (.int .i64 2) := hq 16 _ rfl
      have q17 : w7.cell? ⟨q, 17, none⟩ = some (.int .i64 1) := hq 17 _ rfl
      have q18 : w7.cell? ⟨q, 18, none⟩ = some (.int .i64 0) := hq 18 _ rfl
      have q19 : w7.cell? ⟨q, 19, none⟩ = some (.int .i64 0) := hq 19 _ rfl
      have q20 : w7.cell? ⟨q, 20, none⟩ = some (.int .i64 0) := hq 20 _ rfl
      have q21 : w7.cell? ⟨q, 21, none⟩ = some (.int .i64 0) := hq 21 _ rfl
      have q22 : w7.cell? ⟨q, 22, none⟩ = some (.int .i64 0) := hq 22 _ rfl
      have q23 : w7.cell? ⟨q, 23, none⟩ = some (.bool false) := hq 23 _ rfl
      clear hq hp HO6 HO7 HMM HG
      go_wp2_with (first
        | (go_at_call 12; refine (HE.out _ HX7.out).mono ?_; rintro e w8 ⟨rfl, hw⟩; rw [hw]; clear hw)
        | (go_at_call 11; refine (HC.out _ HX7.out).mono ?_; rintro e w9 ⟨rfl, hx9⟩; have HX9 := Lib.hid (HX7.out.trans hx9); clear hx9))
      go_ret
      exact ⟨rfl, HXX.out _ HX9.out⟩
end Go.Proofs.YtfljmdpigckpkaaGreatDoor
