/- A round's step of copying: a class; an instruction; a function. -/
import Derived.Test.YtfljmdpigckpkaaGreatDoorSvK
namespace Go.Proofs.YtfljmdpigckpkaaGreatDoor
open Go.RowKit Go.Shelf
def Cls.at' (y : Cls) (D1 : Option Addr) (e1 : Nat) (D2 : Option Addr) (e2 : Nat) : Cls := ⟨y.name, D1, e1, y.names, D2, e2, y.flds⟩
theorem cls_step {B g n c i e1 e2 b4 b6 : Nat} {W w0 wr w4 w6 : World} {S T : List Cls} {p y : Cls} {D1 D2 : Option Addr} {o : Obj}
    (hx : Ext W wr) (hst : ExtB B w0 wr) (hb : wr.heap[B]? = some o) (hrow : wr.ownsRow w0.heap.size 319 3 (.slice (some ⟨g, 0, none⟩) n c) n (T.flatMap Cls.cells)) (hin : R2 g B wr fun w => ∀ y ∈ T, Cls.In w y) (hlk : allLike Cls.like S T) (hy : T[i]? = some y) (hp : S[i]? = some p) (hl : Cls.like p y)
    (hWg : W.heap.size ≤ g) (hg : w0.heap.size ≤ g) (hB : B + 1 < w0.heap.size) (hgl : g < wr.heap.size) (hx6 : Ext wr w6) (hx46 : Ext w4 w6) (ho4 : w4.ownsRow b4 9 1 (.slice D1 y.names.length e1) y.names.length (rowV sV y.names)) (hb4 : wr.heap.size ≤ b4) (ho6 : w6.ownsRow b6 88 1 (.slice D2 y.flds.length e2) y.flds.length (rowV iV y.flds)) (hb6 : wr.heap.size ≤ b6) :
    ∃ Wf, Wf = (w6.setCell ⟨g, i * 3 + 1, none⟩ (.slice D1 y.names.length e1)).setCell ⟨g, i * 3 + 2, none⟩ (.slice D2 y.flds.length e2) ∧ Ext W Wf ∧ ExtB B w0 Wf ∧ Wf.heap[B]? = some o ∧ Wf.ownsRow w0.heap.size 319 3 (.slice (some ⟨g, 0, none⟩) n c) n ((T.set i (y.at' D1 e1 D2 e2)).flatMap Cls.cells) ∧ R2 g B Wf (fun w => ∀ z ∈ T.set i (y.at' D1 e1 D2 e2), Cls.In w z) ∧ allLike Cls.like S (T.set i (y.at' D1 e1 D2 e2)) := by
  have hi : i < T.length := (List.getElem?_eq_some_iff.1 hy).1
  have hlen : (T.flatMap Cls.cells).length = T.length * 3 := flat_len (f := Cls.cells) (s := 3) (fun _ => rfl) T
  have h6 := (hx6.kept (fun _ _ => true)).row hrow fun _ _ => rfl
  have hws := hst.size
  obtain ⟨g', c', he, r1, _, _, _, _, k1⟩ := ownN_set h6 (k := i * 3 + 1) (by rw [hlen]; omega) (.slice D1 y.names.length e1)
  obtain rfl : g = g' := by injection he with he; injection he with he; injection he with he
  rw [flat_set (f := Cls.cells) (s := 3) (fun _ => rfl) T i 1 y ⟨y.name, D1, e1, y.names, y.fldsA, y.fldsC, y.flds⟩ _ hy (by omega) rfl] at r1
  have hy1 : (T.set i ⟨y.name, D1, e1, y.names, y.fldsA, y.fldsC, y.flds⟩)[i]? = some ⟨y.name, D1, e1, y.names, y.fldsA, y.fldsC, y.flds⟩ := by rw [List.getElem?_set_self hi]
  obtain ⟨g', c', he, r2, _, _, _, _, k2⟩ := ownN_set r1 (k := i * 3 + 2) (by rw [flat_len (s := 3) (fun _ => rfl), List.length_set]; omega) (.slice D2 y.flds.length e2)
  obtain rfl : g = g' := by injection he with he; injection he with he; injection he with he
  rw [flat_set (f := Cls.cells) (s := 3) (fun _ => rfl) _ i 2 _ (y.at' D1 e1 D2 e2) (.slice D2 y.flds.length e2) hy1 (by omega) rfl, List.set_set] at r2
  have k := k1.trans k2
  refine ⟨_, rfl, ext_ne (hx.trans hx6) k hWg, (hst.trans (hx6.toB B)).at' k hg, k.same _ _ ((hx6.kept (fun _ _ => true)).same _ _ hb rfl) (by simp [ne']; omega), r2, fun w' q => ?_, hlk.set hp ⟨hl.1, hl.2.1, hl.2.2⟩⟩
  have K := (ne'_n2 (B := B) k).trans q
  have hold := hin w' ((hx6.kept _).trans K)
  have a1 := n2_own K ((hx46.kept (fun _ _ => true)).row ho4 fun _ _ => rfl) (show g < b4 by omega) (show B + 1 < b4 by omega)
  have a2 := n2_own K ho6 (show g < b6 by omega) (show B + 1 < b6 by omega)
  have hyI := hold y (List.mem_of_getElem? hy)
  have hnew : Cls.In w' (y.at' D1 e1 D2 e2) := ⟨own_row1 a1, own_row1 a2, hyI.namesL, hyI.fldsL⟩
  intro x hx9
  exact allLike.all (i := i) hold hnew x hx9
theorem kept_new {c g B : Nat} {wr Wf w' : World} (k : Kept (n2 g B) wr Wf) (q : Kept (n3 c g B) Wf w') (hc : wr.heap.size ≤ c) : Kept (n2 g B) wr w' := by
  have k2 : Kept (fun b t => decide (b < wr.heap.size) && n2 g B b t) wr Wf := k.mono fun b t _ hp => by
    simp at hp
    exact hp.2
  have q2 : Kept (fun b t => decide (b < wr.heap.size) && n2 g B b t) Wf w' := q.mono fun b t _ hp => by
    simp [n2] at hp
    simp [n3, hp.2]; omega
  exact (k2.trans q2).mono fun b t hb hp => by simp [hb, hp]
theorem kept_at {c g B : Nat} {wr wz u w' : World} (k : Kept (n2 g B) wr wz) (hx : Ext wz u) (q : Kept (ne' c) u w') (hc : wr.heap.size ≤ c) : Kept (n2 g B) wr w' := by
  have k2 : Kept (fun b t => decide (b < wr.heap.size) && n2 g B b t) wr u := (k.trans (hx.kept _)).mono fun b t _ hp => by
    simp at hp
    exact hp.2
  have q2 : Kept (fun b t => decide (b < wr.heap.size) && n2 g B b t) u w' := q.mono fun b t _ hp => by
    simp at hp
    simp [ne']; omega
  exact (k2.trans q2).mono fun b t hb hp => by simp [hb, hp]
def Fn.at' (y : Fn) (E : Option Addr) (e : Nat) (C : List Ins) : Fn := ⟨y.name, y.caps, y.regs, E, e, C⟩
def Ins.at' (x : Ins) (D : Option Addr) (d : Nat) : Ins := ⟨x.op, x.a, x.b, x.c, x.n, D, d, x.l, x.site, x.line⟩
theorem Ins.In.at {w : World} {x : Ins} (h : x.In w) : x.l.length ≤ 9223372036854775807 := h.lL
/-- What holds in the inner round. -/
structure InR (B g c3 n i m : Nat) (E : Option Addr) (e gk b5 : Nat) (W w2 wq : World) (o : Obj) (T : List Fn) (y : Fn) (C : List Ins) (w : World) : Prop where
  x : Ext W w
  st : ExtB B w2 w
  box : w.heap[B]? = some o
  row : w.ownsRow w2.heap.size 92 4 (.slice (some ⟨g, 0, none⟩) n c3) n ((T.set i (y.at' E e y.code)).flatMap Fn.cells)
  code : w.ownsRow b5 25 8 (.slice E m e) m (C.flatMap Ins.cells)
  kp : Kept (n2 g B) wq w
  ins : R3 gk g B w fun w => ∀ x ∈ C, Ins.In w x
  like : allLike Ins.like y.code C
theorem InR.ptr {B g c3 n i m e gk b5 : Nat} {E : Option Addr} {W w2 wq w : World} {o : Obj} {T : List Fn} {y : Fn} {C : List Ins} (h : InR B g c3 n i m E e gk b5 W w2 wq o T y C w) (hi : i < T.length) (hm : y.code.length = m) : w.cell? ⟨g, i * 4 + 3, none⟩ = some (.slice E m e) ∧ g < w.heap.size := by
  have hy : (T.set i (y.at' E e y.code))[i]? = some (y.at' E e y.code) := by rw [List.getElem?_set_self hi]
  have h1 := own_cells (f := Fn.cells) (s := 4) (fun _ => rfl) h.row hy 3 _ rfl
  refine ⟨by rw [← hm]; exact h1, World.block_lt_of_cell? _ _ h1⟩
theorem fn_store {B g n c3 i e b5 gk m : Nat} {W w2 wr u : World} {T : List Fn} {y : Fn} {E : Option Addr} {o : Obj}
    (hx : Ext W wr) (hst : ExtB B w2 wr) (hb : wr.heap[B]? = some o) (hrow : wr.ownsRow w2.heap.size 92 4 (.slice (some ⟨g, 0, none⟩) n c3) n (T.flatMap Fn.cells)) (hin : R2 g B wr fun w => ∀ y ∈ T, Fn.In w y) (hy : T[i]? = some y)
    (hWg : W.heap.size ≤ g) (hg : w2.heap.size ≤ g) (hB : B + 1 < w2.heap.size) (hgl : g < wr.heap.size) (hm : y.code.length = m) (hxu : Ext wr u) (ho : u.ownsRow b5 25 8 (.slice E m e) m (y.code.flatMap Ins.cells)) (hb5 : wr.heap.size ≤ b5) (hgk : wr.heap.size ≤ gk) :
    ∃ Wf, Wf = u.setCell ⟨g, i * 4 + 3, none⟩ (.slice E m e) ∧ InR B g c3 n i m E e gk b5 W w2 wr o T y y.code Wf := by
  subst hm
  have hi : i < T.length := (List.getElem?_eq_some_iff.1 hy).1
  have hlen : (T.flatMap Fn.cells).length = T.length * 4 := flat_len (f := Fn.cells) (s := 4) (fun _ => rfl) T
  have h6 := (hxu.kept (fun _ _ => true)).row hrow fun _ _ => rfl
  have hws := hst.size
  obtain ⟨g', c', he, r1, _, _, _, _, k1⟩ := ownN_set h6 (k := i * 4 + 3) (by rw [hlen]; omega) (.slice E y.code.length e)
  obtain rfl : g = g' := by injection he with he; injection he with he; injection he with he
  rw [flat_set (f := Fn.cells) (s := 4) (fun _ => rfl) T i 3 y (y.at' E e y.code) (.slice E y.code.length e) hy (by omega) rfl] at r1
  have hkp : Kept (n2 g B) wr (u.setCell ⟨g, i * 4 + 3, none⟩ (.slice E y.code.length e)) := (hxu.kept _).trans (ne'_n2 k1)
  refine ⟨_, rfl, ext_ne (hx.trans hxu) k1 hWg, (hst.trans (hxu.toB B)).at' k1 hg, k1.same _ _ ((hxu.kept (fun _ _ => true)).same _ _ hb rfl) (by simp [ne']; omega), r1, ?_, hkp, fun w' q => ?_, .refl Ins.like.refl _⟩
  · refine k1.row ho fun b hb => ?_
    have := own_base ho b hb
    simp [ne']; omega
  · have hF := hin w' (kept_new hkp q hgk) y (List.mem_of_getElem? hy)
    intro x hx9
    obtain ⟨j, hj, rfl⟩ := List.getElem_of_mem hx9
    obtain ⟨_, _, _, _, h3, _⟩ := hF.code.2.2 j _ (List.getElem?_eq_getElem hj)
    exact h3
theorem ins_step {B g n c3 i e b5 gk m k d b6 : Nat} {W w2 wq wz u : World} {T : List Fn} {y : Fn} {C : List Ins} {x z : Ins} {E D : Option Addr} {o : Obj}
    (h : InR B g c3 n i m E e gk b5 W w2 wq o T y C wz) (hE : E = some ⟨gk, 0, none⟩) (hy : y.code[k]? = some z) (hc : C[k]? = some x) (hl : Ins.like z x)
    (hWg : W.heap.size ≤ wq.heap.size) (hg : g < wq.heap.size) (hw2 : w2.heap.size ≤ wq.heap.size) (hB : B + 1 < w2.heap.size) (hgk : wq.heap.size ≤ gk) (hgl : gk < wz.heap.size) (hxu : Ext wz u) (ho : u.ownsRow b6 3 1 (.slice D x.l.length d) x.l.length (rowV iV x.l)) (hb6 : wz.heap.size ≤ b6) :
    ∃ Wf, Wf = u.setCell ⟨gk, k * 8 + 5, none⟩ (.slice D x.l.length d) ∧ InR B g c3 n i m E e gk b5 W w2 wq o T y (C.set k (x.at' D d)) Wf := by
  subst hE
  have hi : k < C.length := (List.getElem?_eq_some_iff.1 hc).1
  have hlen : (C.flatMap Ins.cells).length = C.length * 8 := flat_len (f := Ins.cells) (s := 8) (fun _ => rfl) C
  have h6 := (hxu.kept (fun _ _ => true)).row h.code fun _ _ => rfl
  obtain ⟨g', c', he, r1, _, _, _, _, k1⟩ := ownN_set h6 (k := k * 8 + 5) (by rw [hlen]; omega) (.slice D x.l.length d)
  obtain rfl : gk = g' := by injection he with he; injection he with he; injection he with he
  rw [flat_set (f := Ins.cells) (s := 8) (fun _ => rfl) C k 5 x (x.at' D d) (.slice D x.l.length d) hc (by omega) rfl] at r1
  refine ⟨_, rfl, ext_ne (h.x.trans hxu) k1 (by omega), (h.st.trans (hxu.toB B)).at' k1 (by omega), k1.same _ _ ((hxu.kept (fun _ _ => true)).same _ _ h.box rfl) (by simp [ne']; omega), ?_, r1, kept_at h.kp hxu k1 hgk, fun w' q => ?_, h.like.set hy ⟨hl.1, hl.2.1, hl.2.2.1, hl.2.2.2.1, hl.2.2.2.2.1, hl.2.2.2.2.2.1, hl.2.2.2.2.2.2.1, hl.2.2.2.2.2.2.2⟩⟩
  · refine k1.row ((hxu.kept (fun _ _ => true)).row h.row fun _ _ => rfl) fun b hb => ?_
    obtain rfl : g = b := by simpa [Value.ownBlock] using hb
    simp [ne']; omega
  · have K := (ne'_n3 (g := g) (B := B) k1).trans q
    have hold := h.ins w' ((hxu.kept _).trans K)
    have a1 := n3_own K ho (show gk < b6 by omega) (show g < b6 by omega) (show B + 1 < b6 by omega)
    have hnew : Ins.In w' (x.at' D d) := ⟨own_row1 a1, (hold x (List.mem_of_getElem? hc)).lL⟩
    intro z hz
    exact allLike.all (i := k) hold hnew z hz
theorem flat_same {α : Type} {f : α → List Value} {a b : α} (h : f a = f b) (T : List α) (i : Nat) : (T.set i a).flatMap f = (T.set i b).flatMap f := by
  induction T generalizing i with
  | nil => rfl
  | cons x T ih =>
    cases i with
    | zero => simp [h]
    | succ i => simp [ih i]
theorem Ins.like.trans {x y z : Ins} (h : Ins.like x y) (k : Ins.like y z) : Ins.like x z := ⟨k.1.trans h.1, k.2.1.trans h.2.1, k.2.2.1.trans h.2.2.1, k.2.2.2.1.trans h.2.2.2.1, k.2.2.2.2.1.trans h.2.2.2.2.1, k.2.2.2.2.2.1.trans h.2.2.2.2.2.1, k.2.2.2.2.2.2.1.trans h.2.2.2.2.2.2.1, k.2.2.2.2.2.2.2.trans h.2.2.2.2.2.2.2⟩
theorem allLike.trans {α : Type} {R : α → α → Prop} (hr : ∀ x y z, R x y → R y z → R x z) {S T U : List α} (h : allLike R S T) (k : allLike R T U) : allLike R S U := ⟨k.1.trans h.1, fun i x z hx hz => by
  have hi : i < T.length := by rw [h.1]; exact (List.getElem?_eq_some_iff.1 hx).1
  exact hr _ _ _ (h.2 i x _ hx (List.getElem?_eq_getElem hi)) (k.2 i _ z (List.getElem?_eq_getElem hi) hz)⟩
theorem fn_end {B g n c3 i e b5 gk m : Nat} {W w2 wq wz : World} {S T : List Fn} {y p : Fn} {C : List Ins} {E : Option Addr} {o : Obj}
    (h : InR B g c3 n i m E e gk b5 W w2 wq o T y C wz) (hin : R2 g B wq fun w => ∀ y ∈ T, Fn.In w y) (hlk : allLike Fn.like S T) (hy : T[i]? = some y) (hp : S[i]? = some p) (hm : y.code.length = m) (hl : Fn.like p y) (hgb : g < b5) (hB : B + 1 < b5) :
    Ext W wz ∧ ExtB B w2 wz ∧ wz.heap[B]? = some o ∧ wz.ownsRow w2.heap.size 92 4 (.slice (some ⟨g, 0, none⟩) n c3) n ((T.set i (y.at' E e C)).flatMap Fn.cells) ∧ R2 g B wz (fun w => ∀ z ∈ T.set i (y.at' E e C), Fn.In w z) ∧ allLike Fn.like S (T.set i (y.at' E e C)) := by
  have hcl := h.like.1
  refine ⟨h.x, h.st, h.box, ?_, fun w' q => ?_, hlk.set hp ⟨hl.1, hl.2.1, hl.2.2.1, allLike.trans (R := Ins.like) (fun x y z a b => Ins.like.trans (x := x) (y := y) (z := z) a b) hl.2.2.2 h.like⟩⟩
  · rw [flat_same (f := Fn.cells) (a := y.at' E e C) (b := y.at' E e y.code) (by simp [Fn.cells, Fn.at', hcl])]
    exact h.row
  · have hold := hin w' (h.kp.trans q)
    have a1 := n2_own q h.code hgb hB
    rw [← hm, ← hcl] at a1
    have hI := h.ins.r2 w' q
    have hnew : Fn.In w' (y.at' E e C) := ⟨own_rowN (fun _ => rfl) a1 hI, by
      have := (hold y (List.mem_of_getElem? hy)).codeL
      rw [← hcl] at this
      exact this⟩
    intro z hz
    exact allLike.all (i := i) hold hnew z hz
end Go.Proofs.YtfljmdpigckpkaaGreatDoor
