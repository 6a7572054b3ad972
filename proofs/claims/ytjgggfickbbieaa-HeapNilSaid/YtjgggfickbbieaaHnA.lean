/- Arguments of acts, opened to what lies in memory; few. -/
import Derived.Test.YtjgggfickbbieaaHmA
import Derived.Deep.Slices
import Derived.Deep.Fields
import Derived.ChangeSame
namespace Go.Proofs.Ytjgggfickbbieaa
open Go.RowKit Go.ChangeShapes Go.WideShapes Go.Deep Go.Shelf
attribute [local go_sem] Oper.semAt_some

theorem cellsAct : Try.prog.cellsOf 35 = 10 := by kernel_rfl
theorem cellsJ : Try.prog.cellsOf 2 = 1 := by kernel_rfl
theorem spot_none {w : World} {a : Addr} {v : Value} (h : w.cell? (a.add 0) = some v) : a = ⟨a.block, a.off, none⟩ := by
  obtain ⟨b, off, spot⟩ := a
  cases spot with
  | none => rfl
  | some y =>
    exfalso
    unfold World.cell? at h
    split at h
    · simp [Addr.add] at h
    · simp at h
theorem add_none (b off n : Nat) : (⟨b, off, none⟩ : Addr).add n = ⟨b, off + n, none⟩ := by unfold Addr.add; split <;> simp_all
def intC (z : Int) : List Value := [.int .i64 z]
/-- Elements of a slice that came in, as they are read. -/
def Rows3 {α : Type} (f : α → List Value) (s : Nat) (P : α → Prop) (w : World) (A : Option Addr) (T : List α) : Prop := ∀ (i : Nat) (x : α), T[i]? = some x → ∃ g off, A = some ⟨g, off, none⟩ ∧ g < w.heap.size ∧ P x ∧ ∀ (j : Nat) (u : Value), (f x)[j]? = some u → w.cell? ⟨g, off + i * s + j, none⟩ = some u
theorem Rows3.kept {α : Type} {f : α → List Value} {s : Nat} {P : α → Prop} {w w' : World} {A : Option Addr} {T : List α} (h : Rows3 f s P w A T) (k : Kept (pOld w.heap.size) w w') : Rows3 f s P w' A T := fun i x hi => by
  obtain ⟨g, off, h1, h2, h3, h4⟩ := h i x hi
  refine ⟨g, off, h1, Nat.lt_of_lt_of_le h2 k.size, h3, fun j u hj => k.cell (h4 j u hj) fun o _ => by simp [pOld, h2]⟩
/-- An act's cells, as they came in. -/
def CRow (w : World) (a : ActD) (l : List Int) : Prop := a.m = l.length ∧ (a.A = none → a.c = 0 ∧ a.m = 0) ∧ Rows3 intC 1 (fun _ => True) w a.A l
theorem CRow.kept {w w' : World} {a : ActD} {l : List Int} (h : CRow w a l) (k : Kept (pOld w.heap.size) w w') : CRow w' a l := ⟨h.1, h.2.1, h.2.2.kept k⟩
theorem CRow.src {w : World} {a : ActD} {l : List Int} (h : CRow w a l) : Src w (.slice a.A a.m a.c) a.m (rowI l) := by
  obtain ⟨h1, h2, h3⟩ := h
  cases hA : a.A with
  | none =>
    obtain ⟨e1, e2⟩ := h2 hA
    refine .inl ⟨by rw [e1, e2], e2, ?_⟩
    rw [e2] at h1
    cases l with
    | nil => rfl
    | cons => cases h1
  | some ad =>
    refine .inr ⟨ad, a.c, rfl, fun j u hj => ?_⟩
    rw [rowI, List.getElem?_map, Option.map_eq_some_iff] at hj
    obtain ⟨z, hz, rfl⟩ := hj
    obtain ⟨g, off, e1, _, _, e4⟩ := h3 j z hz
    rw [hA] at e1
    cases e1
    have := e4 0 _ rfl
    rw [add_none]
    simpa using this
theorem CRow.cells {W w : World} {a : ActD} {l : List Int} {oP oR : Nat → Bool} (h : CRow W a l) (x : Ext W w) (hP : ∀ b, oP b = true → W.heap.size ≤ b) (hR : ∀ b, oR b = true → W.heap.size ≤ b) : Cells oP oR w a l :=
  ⟨h.1, fun w' k => (h.kept (Kept.trans x (k.mono fun b t _ hp => by
    simp [pOld] at hp
    simp only [pB, Bool.and_eq_true, Bool.not_eq_true']
    constructor
    · cases hc : oP b with
      | false => rfl
      | true => have := hP b hc; omega
    · cases hc : oR b with
      | false => rfl
      | true => have := hR b hc; omega))).src⟩
section
variable {H : Type} {enc : TypeId × Value → H} {w : World} {base : Nat} {held : Bool}
theorem open_j {fuel : Nat} {cs : List Value} {x : DataW H × List MemPlace} (h : DataW.trod enc Try.prog w base (fun _ => true) held fuel 2 cs = some x) : ∃ z : Int, cs = intC z ∧ True := by
  obtain ⟨z, e, _, hw⟩ := DataW.trod_int (k := .i64) (by kernel_rfl) h
  exact ⟨z, e, trivial⟩
/-- A slice of elements that open to cells. -/
theorem open_rows {α : Type} (dflt : α) {f : α → List Value} {s : Nat} {P : α → Prop} {st et : TypeId} (hs0 : 0 < s) (hst : Try.prog.underlying st = some (.slice et)) (hce : Try.prog.cellsOf et = s) (hfs : ∀ x, (f x).length = s)
    (hop : ∀ {fuel : Nat} {cs : List Value} {x : DataW H × List MemPlace}, DataW.trod enc Try.prog w base (fun _ => true) held fuel et cs = some x → ∃ t : α, cs = f t ∧ P t)
    {fuel : Nat} {A : Option Addr} {len cap : Nat} {x : DataW H × List MemPlace} (h : DataW.trod enc Try.prog w base (fun _ => true) held fuel st [.slice A len cap] = some x) :
    ∃ T : List α, T.length = len ∧ Rows3 f s P w A T := by
  rcases open_slice hst h with ⟨hcs, _⟩ | ⟨a, len', cap', m, n, D, Pl, hcs, hb, hl, hm, hmm, hx, hi⟩
  · simp at hcs
    obtain ⟨rfl, rfl, rfl⟩ := hcs
    exact ⟨[], rfl, fun i t hi => by simp at hi⟩
  · simp at hcs
    obtain ⟨rfl, rfl, rfl⟩ := hcs
    simp only [if_true] at hmm
    subst hmm
    have key : ∀ i : Nat, ∃ t : α, i < len → P t ∧ ∀ j u, (f t)[j]? = some u → w.cell? (a.add (i * s + j)) = some u := by
      intro i
      by_cases hlt : i < len
      · obtain ⟨cs', hc, ht⟩ := hi i (by omega)
        obtain ⟨t, rfl, hP⟩ := hop ht
        refine ⟨t, fun _ => ⟨hP, fun j u hj => ?_⟩⟩
        rw [hce] at hc
        obtain ⟨_, hcl, hat⟩ := World.cells?_some hc
        have hj5 : j < s := by
          rcases Nat.lt_or_ge j s with h' | h'
          · exact h'
          · rw [List.getElem?_eq_none (by rw [hfs]; exact h')] at hj; cases hj
        rw [← Go.Deep.add_add, hat j hj5, hj]
      · exact ⟨dflt, fun h => absurd h hlt⟩
    obtain ⟨F, hF⟩ := Classical.axiomOfChoice key
    refine ⟨(List.range len).map F, by simp, fun i t hi => ?_⟩
    have hlt : i < len := by
      have := (List.getElem?_eq_some_iff.1 hi).1
      simpa using this
    have ht : F i = t := by
      rw [List.getElem?_map, List.getElem?_range hlt] at hi
      simpa using hi
    subst ht
    obtain ⟨hP, hc⟩ := hF i hlt
    have c0' := (hF 0 (by omega)).2 0 _ (List.getElem?_eq_getElem (by rw [hfs]; exact hs0))
    rw [Nat.zero_mul] at c0'
    have c0 : w.cell? (a.add 0) = some _ := c0'
    have ha := spot_none c0
    rw [ha] at hc ⊢
    refine ⟨a.block, a.off, rfl, ?_, hP, fun j u hj => ?_⟩
    · have := World.block_lt_of_cell? w _ c0
      rw [ha, add_none] at this
      exact this
    · have := hc j u hj
      rw [add_none, ← Nat.add_assoc] at this
      exact this
theorem open_ints {fuel : Nat} {cs : List Value} {x : DataW H × List MemPlace} (h : DataW.trod enc Try.prog w base (fun _ => true) held fuel 33 cs = some x) :
    ∃ A m c, cs = [.slice A m c] ∧ (A = none → c = 0 ∧ m = 0) ∧ ∃ l : List Int, m = l.length ∧ Rows3 intC 1 (fun _ => True) w A l := by
  obtain ⟨A, m, c, rfl, hn⟩ : ∃ A m c, cs = [.slice A m c] ∧ (A = none → c = 0 ∧ m = 0) := by
    rcases open_slice Try.underlying33 h with ⟨hcs, _⟩ | ⟨a, len', cap', _, _, _, _, hcs, _⟩
    · exact ⟨none, 0, 0, hcs, fun _ => ⟨rfl, rfl⟩⟩
    · exact ⟨some a, len', cap', hcs, fun h => by cases h⟩
  obtain ⟨l, hl, hr⟩ := open_rows (0 : Int) (by omega) Try.underlying33 cellsJ (fun _ => rfl) open_j h
  exact ⟨A, m, c, rfl, hn, l, hl.symm, hr⟩
set_option maxRecDepth 100000 in
theorem open_act {fuel : Nat} {cs : List Value} {x : DataW H × List MemPlace} (h : DataW.trod enc Try.prog w base (fun _ => true) held fuel 35 cs = some x) :
    ∃ t : ActD, cs = t.cells ∧ (Lit.int .i64 t.by').wf = true ∧ ∃ l, CRow w t l := by
  obtain ⟨xs, n, _, _, hlen, hxl, hf⟩ := DataW.trod_struct Try.underlying35 h
  rw [cellsAct] at hlen
  match cs, hlen with
  | [c0, c1, c2, c3, c4, c5, c6, c7, c8, c9], _ =>
    have hx5 : xs.length = 10 := hxl
    match xs, hx5 with
    | [x0, x1, x2, x3, x4, x5, x6, x7, x8, x9], _ =>
      have h0 : DataW.trod enc Try.prog w base (fun _ => true) held n 3 [c0] = some x0 := hf 0 _ rfl
      have h1 : DataW.trod enc Try.prog w base (fun _ => true) held n 32 [c1] = some x1 := hf 1 _ rfl
      have h2 : DataW.trod enc Try.prog w base (fun _ => true) held n 3 [c2] = some x2 := hf 2 _ rfl
      have h3 : DataW.trod enc Try.prog w base (fun _ => true) held n 3 [c3] = some x3 := hf 3 _ rfl
      have h4 : DataW.trod enc Try.prog w base (fun _ => true) held n 3 [c4] = some x4 := hf 4 _ rfl
      have h5 : DataW.trod enc Try.prog w base (fun _ => true) held n 3 [c5] = some x5 := hf 5 _ rfl
      have h6 : DataW.trod enc Try.prog w base (fun _ => true) held n 2 [c6] = some x6 := hf 6 _ rfl
      have h7 : DataW.trod enc Try.prog w base (fun _ => true) held n 3 [c7] = some x7 := hf 7 _ rfl
      have h8 : DataW.trod enc Try.prog w base (fun _ => true) held n 2 [c8] = some x8 := hf 8 _ rfl
      have h9 : DataW.trod enc Try.prog w base (fun _ => true) held n 33 [c9] = some x9 := hf 9 _ rfl
      obtain ⟨z0, e0, _⟩ := DataW.trod_int (k := .i64) (by kernel_rfl) h0
      obtain ⟨z1, e1, _⟩ := DataW.trod_int (k := .i64) (by kernel_rfl) h1
      obtain ⟨z2, e2, _⟩ := DataW.trod_int (k := .i64) (by kernel_rfl) h2
      obtain ⟨z3, e3, _⟩ := DataW.trod_int (k := .i64) (by kernel_rfl) h3
      obtain ⟨z4, e4, _⟩ := DataW.trod_int (k := .i64) (by kernel_rfl) h4
      obtain ⟨z5, e5, _, hw⟩ := DataW.trod_int (k := .i64) (by kernel_rfl) h5
      obtain ⟨z6, e6, _⟩ := DataW.trod_int (k := .i64) (by kernel_rfl) h6
      obtain ⟨z7, e7, _⟩ := DataW.trod_int (k := .i64) (by kernel_rfl) h7
      obtain ⟨z8, e8, _⟩ := DataW.trod_int (k := .i64) (by kernel_rfl) h8
      obtain ⟨A, m, c, e9, hn, l, hl, hr⟩ := open_ints h9
      simp only [List.cons.injEq, and_true] at e0 e1 e2 e3 e4 e5 e6 e7 e8 e9
      subst e0 e1 e2 e3 e4 e5 e6 e7 e8 e9
      exact ⟨⟨z0, z1, z2, z3, z4, z5, z6, z7, z8, A, m, c⟩, rfl, hw, l, hl, hn, hr⟩
end
abbrev Acts (w : World) (A : Option Addr) (T : List ActD) : Prop := Rows3 ActD.cells 10 (fun a => (Lit.int .i64 a.by').wf = true ∧ ∃ l, CRow w a l) w A T
theorem Acts.kept {w w' : World} {A : Option Addr} {T : List ActD} (h : Acts w A T) (k : Kept (pOld w.heap.size) w w') : Acts w' A T := fun i x hi => by
  obtain ⟨g, off, h1, h2, ⟨h3, l, h5⟩, h4⟩ := h i x hi
  exact ⟨g, off, h1, Nat.lt_of_lt_of_le h2 k.size, ⟨h3, l, h5.kept k⟩, fun j u hj => k.cell (h4 j u hj) fun o _ => by simp [pOld, h2]⟩
/-- An act, where it lies. -/
structure ActR (w : World) (A : Option Addr) (i : Nat) (x : ActD) (g off : Nat) : Prop where
  e : A = some ⟨g, off, none⟩
  c0 : w.cell? ⟨g, off + i * 10, none⟩ = some (.int .i64 x.k)
  c1 : w.cell? ⟨g, off + i * 10 + 1, none⟩ = some (.int .i64 x.wh)
  c2 : w.cell? ⟨g, off + i * 10 + 2, none⟩ = some (.int .i64 x.of)
  c3 : w.cell? ⟨g, off + i * 10 + 3, none⟩ = some (.int .i64 x.sz)
  c4 : w.cell? ⟨g, off + i * 10 + 4, none⟩ = some (.int .i64 x.si)
  c5 : w.cell? ⟨g, off + i * 10 + 5, none⟩ = some (.int .i64 x.by')
  c6 : w.cell? ⟨g, off + i * 10 + 6, none⟩ = some (.int .i64 x.id)
  c7 : w.cell? ⟨g, off + i * 10 + 7, none⟩ = some (.int .i64 x.at')
  c8 : w.cell? ⟨g, off + i * 10 + 8, none⟩ = some (.int .i64 x.n)
  c9 : w.cell? ⟨g, off + i * 10 + 9, none⟩ = some (.slice x.A x.m x.c)
theorem Acts.at {w : World} {A : Option Addr} {T : List ActD} (h : Acts w A T) {i : Nat} (hi : i < T.length) : ∃ g off, ActR w A i T[i] g off ∧ (Lit.int .i64 T[i].by').wf = true ∧ ∃ l, CRow w T[i] l := by
  obtain ⟨g, off, h1, _, h3, h4⟩ := h i T[i] (List.getElem?_eq_getElem hi)
  exact ⟨g, off, ⟨h1, h4 0 _ rfl, h4 1 _ rfl, h4 2 _ rfl, h4 3 _ rfl, h4 4 _ rfl, h4 5 _ rfl, h4 6 _ rfl, h4 7 _ rfl, h4 8 _ rfl, h4 9 _ rfl⟩, h3⟩
/-- Few acts, of few cells. -/
def fewB (T : List ActD) (most : Nat) : Bool := decide (T.length ≤ most ∧ ∀ i (h : i < T.length), T[i].m ≤ 300)
theorem few_true {T : List ActD} {most : Nat} (h : fewB T most = true) : T.length ≤ most ∧ ∀ i (h : i < T.length), T[i].m ≤ 300 := of_decide_eq_true h
set_option maxHeartbeats 2000000 in
set_option maxRecDepth 100000 in
theorem few_ok (T : List ActD) (A : Option Addr) (c : Nat) (most : Nat) (W : World) (hT : Acts W A T) (hm : most ≤ 100) :
    Calls Try.prog 7 #[.slice A T.length c, .int .i64 most] W fun e W' => e = .returned (.bool (fewB T most)) ∧ W' = W := by
  have HT := Lib.hid hT
  clear hT
  go_enter Try.func7, Try.ntmps7
  go_wp2_with fail
  go_loopg [5] (most + 1) (fun k v5 wr => ∃ (i : Nat), i + k = most + 1 ∧ v5 = .int .i64 i ∧ i ≤ T.length ∧ wr = W ∧ ∀ j (h : j < T.length), j < i → T[j].m ≤ 300)
  case atStart => exact ⟨0, by omega, rfl, by omega, rfl, fun j _ h => by omega⟩
  case round =>
    obtain ⟨i, hik, rfl, hit, rfl, hall⟩ := hrel
    have HALL := Lib.hid hall
    clear hall
    by_cases hi : i < T.length
    · have hil : (i : Int) < (T.length : Int) := by omega
      by_cases hmo : i ≤ most
      · have him : (i : Int) ≤ (most : Int) := by omega
        obtain ⟨g, off, ⟨rfl, _, _, _, _, _, _, _, _, _, a9⟩, _⟩ := Acts.at HT.out hi
        obtain ⟨mm, hmm⟩ : ∃ mm, mm = T[i].m := ⟨_, rfl⟩
        rw [← hmm] at a9
        have HMM := Lib.hid hmm
        clear hmm
        by_cases hb : mm > 300
        · have hbb : (mm : Int) > 300 := by omega
          have hf : fewB T most = false := decide_eq_false fun q => by have := q.2 i hi; rw [← HMM.out] at this; omega
          go_wp2_with fail
          go_ret
          first | exact ⟨rfl, rfl⟩ | exact ⟨congrArg (fun b => Ending.returned (Value.bool b)) hf.symm, rfl⟩
        · have hbb : ¬ (mm : Int) > 300 := by omega
          go_wp2_with fail
          go_roundg (gk - 1)
          case measure => omega
          case rel => exact ⟨i + 1, by omega, by go_num, by omega, rfl, fun j h hj => by
            by_cases e : j = i
            · subst e; rw [← HMM.out]; omega
            · exact HALL.out j h (by omega)⟩
      · have him : ¬ (i : Int) ≤ (most : Int) := by omega
        have hlm : ¬ (T.length : Int) ≤ (most : Int) := by omega
        have hf : fewB T most = false := decide_eq_false fun q => by have := q.1; omega
        go_wp2_with fail
        go_ret
        first | exact ⟨rfl, rfl⟩ | exact ⟨congrArg (fun b => Ending.returned (Value.bool b)) hf.symm, rfl⟩
    · have hil : ¬ (i : Int) < (T.length : Int) := by omega
      by_cases hle : T.length ≤ most
      · have hlm : (T.length : Int) ≤ (most : Int) := by omega
        have hf : fewB T most = true := decide_eq_true ⟨hle, fun j h => HALL.out j h (by omega)⟩
        go_wp2_with fail
        go_ret
        first | exact ⟨rfl, rfl⟩ | exact ⟨congrArg (fun b => Ending.returned (Value.bool b)) hf.symm, rfl⟩
      · have hlm : ¬ (T.length : Int) ≤ (most : Int) := by omega
        have hf : fewB T most = false := decide_eq_false fun q => hle q.1
        go_wp2_with fail
        go_ret
        first | exact ⟨rfl, rfl⟩ | exact ⟨congrArg (fun b => Ending.returned (Value.bool b)) hf.symm, rfl⟩
end Go.Proofs.Ytjgggfickbbieaa
