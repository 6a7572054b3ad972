/- The chapter's machine: its four runs; The small program of the machine's law, in memory: what is there of it. -/
import Derived.Test.YtfljmdpigckpkaaGreatDoorB32
namespace Go.Proofs.YtfljmdpigckpkaaGreatDoor
open Go.RowKit Go.Shelf
def kst (bt : Nat) : Nat → Sta
  | 0 => ⟨1, 0, .pointer (some ⟨bt, 0, none⟩), [0], 0, [⟨1, false, 0, 0⟩], [], [], 0, false, some (0, [0, 0, 0, 0])⟩
  | 1 => ⟨2, 0, .pointer (some ⟨bt, 0, none⟩), [0], 1, [], [⟨1, 1, 0, 0, 0, 0, 0, false⟩], [], 1, false, some (0, [0, 0, 0, 0])⟩
  | 2 => ⟨2, 0, .pointer (some ⟨bt, 0, none⟩), [0], 1, [], [⟨1, 1, 0, 0, 0, 0, 0, false⟩], [], 2, false, some (1, [5, 0, 0, 0])⟩
  | 3 => ⟨2, 0, .pointer (some ⟨bt, 0, none⟩), [5], 1, [], [⟨1, 1, 0, 0, 0, 0, 0, false⟩, ⟨3, 1, 0, 0, 1, 0, 0, true⟩], [], 3, false, some (2, [5, 0, 0, 0])⟩
  | _ + 4 => ⟨3, 0, .pointer none, [5], 0, [], [⟨1, 1, 0, 0, 0, 0, 0, false⟩, ⟨3, 1, 0, 0, 1, 0, 0, true⟩, ⟨2, 1, 0, 0, 0, 0, 0, false⟩], [], 4, false, none⟩
theorem at_of {P Q : Prg} (h : PrgLike P Q) (hf : 0 < P.fns.length) {k : Nat} (hk : k < P.fns[0].code.length) : At Q k P.fns[0].code[k] := by
  have hq : 0 < Q.fns.length := by rw [h.fns.1]; exact hf
  have hl := h.fns.2 0 _ _ (List.getElem?_eq_getElem hf) (List.getElem?_eq_getElem hq)
  have hc := hl.2.2.2
  have hk' : k < Q.fns[0].code.length := by rw [hc.1]; exact hk
  exact ⟨hq, hk', hc.2 k _ _ (List.getElem?_eq_getElem hk) (List.getElem?_eq_getElem hk')⟩
section
variable {W3 w w' : World} {L : Lay} {Q : Prg}
theorem krun {y0 y1 y2 : Ins} (hc : Cod L.bc Q W3) (h0 : At Q 0 y0) (h1 : At Q 1 y1) (h2 : At Q 2 y2) (l0 : y0.l = [] ∧ y0.op = 1 ∧ y0.a = 0 ∧ y0.n = 5) (l1 : y1.l = [] ∧ y1.op = 10 ∧ y1.a = 0 ∧ y1.n = 0 ∧ y1.site = 0) (l2 : y2.l = [] ∧ y2.op = 33) {k : Nat} (hk : k < 4) (a : MA W3 L (kst L.bt k) w) :
    Calls Tryz.prog 8 #[.pointer (some ⟨L.bm, 0, none⟩), .int .i64 0] w fun e w' => e = .returned (.int .i64 0) ∧ MA W3 L (kst L.bt (k + 1)) w' := by
  obtain rfl | rfl | rfl | rfl : k = 0 ∨ k = 1 ∨ k = 2 ∨ k = 3 := by omega
  · exact run_begin (s := kst L.bt 0) a rfl rfl rfl rfl (show (0 : Nat) ≤ 100000 by decide) (show (0 : Int) ≠ 20000 by decide) (show (0 : Int) ≤ 0 ∧ (0 : Int) ≤ 20000 by decide)
  · have := run_const (s := kst L.bt 1) a rfl rfl rfl rfl rfl hc h0 l0.1 l0.2.1 (j := 0) l0.2.2.1 (show 0 < 4 by decide) (show 0 ≤ 1000 by decide) (show (1 : Int) ≠ 20000 by decide) (show (0 : Int) ≤ 1 ∧ (1 : Int) ≤ 20000 by decide)
    rw [l0.2.2.2] at this
    exact this
  · have := run_store (s := kst L.bt 2) a rfl rfl rfl rfl rfl hc h1 l1.1 l1.2.1 (j := 0) (i := 0) l1.2.2.1 (show 0 < 4 by decide) l1.2.2.2.1 (show 0 < 1 by decide) (show 1 ≤ 1000 by decide) (show (1 : Nat) ≤ 100000 by decide) (show (2 : Int) ≠ 20000 by decide) (show (0 : Int) ≤ 2 ∧ (2 : Int) ≤ 20000 by decide)
    rw [l1.2.2.2.2] at this
    exact this
  · exact run_ret (s := kst L.bt 3) a rfl rfl rfl rfl rfl hc h2 l2.1 l2.2 (show 2 ≤ 1000 by decide) (show (2 : Nat) ≤ 100000 by decide) (show (3 : Int) ≠ 20000 by decide) (show (0 : Int) ≤ 3 ∧ (3 : Int) ≤ 20000 by decide)
end
end Go.Proofs.YtfljmdpigckpkaaGreatDoor

namespace Go.Proofs.YtfljmdpigckpkaaGreatDoor
open Go.RowKit Go.Shelf
attribute [local go_sem] Oper.semAt_some
def sited (s : Nat) (x : Ins) : Ins := { x with site := if siteO x.op then (s : Int) else -1 }
def dIns : Ins := ⟨0, 0, 0, 0, 0, none, 0, [], 0, 0⟩
def sitN (L : List Ins) : Nat → List Sit
  | 0 => []
  | n + 1 => if siteO (L.getD n dIns).op then sitN L n ++ [⟨0, n⟩] else sitN L n
def codN (L : List Ins) : Nat → List Ins
  | 0 => []
  | n + 1 => codN L n ++ [sited (sitN L n).length (L.getD n dIns)]
def P0 (b1 b2 : Nat) (As : Option Addr) (cs : Nat) (S : List Sit) : Prg := { loopsA := some ⟨b1, 0, none⟩, loopsC := 2, loops := [⟨#[117, 105]⟩, ⟨#[98, 103]⟩], clssA := none, clssC := 0, clss := [], glbsA := some ⟨b2, 0, none⟩, glbsC := 1, glbs := [⟨⟨#[103]⟩, 1⟩], fnsA := none, fnsC := 0, fns := [], cmpsA := none, cmpsC := 0, cmps := [], evtsA := none, evtsC := 0, evts := [], main := 0, sitsA := As, sitsC := cs, sits := S }
def F0 (Ac : Option Addr) (cc : Nat) (C : List Ins) : Fn := ⟨⟨#[102]⟩, 0, 4, Ac, cc, C⟩
structure Base (n b1 b2 : Nat) (w : World) : Prop where
  h0 : w.heap[n]? = some zprg
  h1 : w.heap[b1]? = some (.cells #[.string ⟨#[117, 105]⟩, .string ⟨#[98, 103]⟩] 9 (0, 0))
  h2 : w.heap[b2]? = some (.cells #[.string ⟨#[103]⟩, .int .i64 1] 90 (0, 0))
def mkS (W : World) : World := ((((W.alloc zprg).alloc (.cells #[.string ⟨#[117, 105]⟩, .string ⟨#[98, 103]⟩] 9 (0, 0))).alloc (.cells #[.string ⟨#[103]⟩, .int .i64 1] 90 (0, 0))).alloc (P0 (W.heap.size + 1) (W.heap.size + 2) none 0 []).o).alloc (F0 none 0 []).o
theorem alloc_old {w : World} {o ob : Obj} {b : Nat} (h : w.heap[b]? = some ob) : (w.alloc o).heap[b]? = some ob := ((Ext.one w o).kept (fun _ _ => true)).same _ _ h rfl
theorem alloc_new' {w : World} {o : Obj} {n : Nat} (h : w.heap.size = n) : (w.alloc o).heap[n]? = some o := by rw [← h]; exact World.alloc_heap_new _ _
theorem mkS_ok (W : World) {n b1 b2 b6 b7 : Nat} (h0 : n = W.heap.size) (h1 : b1 = n + 1) (h2 : b2 = n + 2) (h6 : b6 = n + 3) (h7 : b7 = n + 4) : Base n b1 b2 (mkS W) ∧ (mkS W).heap[b6]? = some (P0 b1 b2 none 0 []).o ∧ (mkS W).heap[b7]? = some (F0 none 0 []).o ∧ Ext W (mkS W) ∧ (mkS W).heap.size = n + 5 := by
  subst h1 h2 h6 h7 h0
  refine ⟨⟨?_, ?_, ?_⟩, ?_, ?_, ?_, ?_⟩
  case refine_6 =>
    unfold mkS
    repeat (refine Ext.trans ?_ (Ext.one _ _))
    exact Ext.refl _
  case refine_7 => simp only [mkS, World.size_alloc, Nat.add_assoc]
  all_goals
    unfold mkS
    repeat (first | exact alloc_new' (by simp only [World.size_alloc, Nat.add_assoc]; try rfl) | refine alloc_old ?_)
structure Bd (n b1 b2 b6 b7 : Nat) : Prop where
  h1 : n + 1 = b1
  h2 : n + 2 = b2
  h6 : n + 3 = b6
  h7 : n + 4 = b7
structure Inv (n b1 b2 b6 b7 : Nat) (S : List Sit) (C : List Ins) (As : Option Addr) (cs : Nat) (Ac : Option Addr) (cc : Nat) (w : World) : Prop where
  b : Base n b1 b2 w
  p : w.heap[b6]? = some (P0 b1 b2 As cs S).o
  f : w.heap[b7]? = some (F0 Ac cc C).o
  s : w.ownsRow (n + 5) 95 2 (.slice As S.length cs) S.length (S.flatMap Sit.cells)
  c : w.ownsRow (n + 5) 25 8 (.slice Ac C.length cc) C.length (C.flatMap Ins.cells)
def nb (r : Option Nat) : Nat → Option TypeId → Bool := fun b _ => decide (r ≠ some b)
section
variable {n b1 b2 b6 b7 : Nat} {S : List Sit} {C : List Ins} {As : Option Addr} {cs : Nat} {Ac : Option Addr} {cc : Nat} {w w1 : World}
theorem Base.keep (h : Base n b1 b2 w) (hb : Bd n b1 b2 b6 b7) {p : Nat → Option TypeId → Bool} (kk : Kept p w w1) (hp : ∀ b t, b < n + 3 → p b t = true) : Base n b1 b2 w1 := by
  obtain ⟨e1, e2, e6, e7⟩ := hb
  exact ⟨kk.same _ _ h.h0 (hp _ _ (by omega)), kk.same _ _ h.h1 (hp _ _ (by omega)), kk.same _ _ h.h2 (hp _ _ (by omega))⟩
theorem Inv.ext (h : Inv n b1 b2 b6 b7 S C As cs Ac cc w) (hb : Bd n b1 b2 b6 b7) (k : Ext w w1) : Inv n b1 b2 b6 b7 S C As cs Ac cc w1 :=
  ⟨h.b.keep hb (k.kept (fun _ _ => true)) fun _ _ _ => rfl, (k.kept (fun _ _ => true)).same _ _ h.p rfl, (k.kept (fun _ _ => true)).same _ _ h.f rfl, (k.kept (fun _ _ => true)).row h.s fun _ _ => rfl, (k.kept (fun _ _ => true)).row h.c fun _ _ => rfl⟩
theorem Inv.apart (h : Inv n b1 b2 b6 b7 S C As cs Ac cc w) {g : Nat} (h1 : (Value.slice As S.length cs).ownBlock = some g) (h2 : (Value.slice Ac C.length cc).ownBlock = some g) : False := by
  obtain ⟨o, q, _⟩ := own_is h.s g h1
  have t1 := (own_tag h.s g o h1 q).1
  have t2 := (own_tag h.c g o h2 q).1
  rw [t1] at t2
  simp at t2
theorem Inv.app_c (h : Inv n b1 b2 b6 b7 S C As cs Ac cc w) (hb : Bd n b1 b2 b6 b7) {x : Ins} {A1 : Option Addr} {c1 m : Nat} (hm : m = C.length + 1) (hg : w.grownBy w1 (Value.slice Ac C.length cc).ownBlock) (ho : w1.ownsRow (n + 5) 25 8 (.slice A1 m c1) m ((C ++ [x]).flatMap Ins.cells)) :
    w1.heap[b7]? = some (F0 Ac cc C).o ∧ Inv n b1 b2 b6 b7 S (C ++ [x]) As cs A1 c1 (w1.setCell ⟨b7, 3, none⟩ (.slice A1 m c1)) ∧ (Ext w w → ∀ W, Ext W w → W.heap.size ≤ n → Ext W (w1.setCell ⟨b7, 3, none⟩ (.slice A1 m c1))) := by
  subst hm
  have kk : Kept (nb (Value.slice Ac C.length cc).ownBlock) w w1 := Kept.grown hg fun j o e _ => by simp [nb, e]
  have hlo := own_base h.c
  have hnb : ∀ b t, b < n + 5 → nb (Value.slice Ac C.length cc).ownBlock b t = true := fun b t hlt => by
    simp only [nb, decide_eq_true_eq]
    intro e
    have := hlo b e
    omega
  have hf1 := kk.same _ _ h.f (hnb _ _ (by have := hb.h7; omega))
  have k2 : Kept (ne' b7) w1 (w1.setCell ⟨b7, 3, none⟩ (.slice A1 (C.length + 1) c1)) := Kept.setCell _ fun o ho => by simp [ne']
  have h7 := hb.h7
  have h6 := hb.h6
  refine ⟨hf1, ⟨?_, ?_, ?_, ?_, ?_⟩, ?_⟩
  · exact (h.b.keep hb kk fun b t hlt => hnb b t (by omega)).keep hb k2 fun b t hlt => by
      have : b ≠ b7 := by omega
      simp [ne', this]
  · refine k2.same _ _ (kk.same _ _ h.p (hnb _ _ (by omega))) ?_
    have : b6 ≠ b7 := by omega
    simp [ne', this]
  · rw [heap_setCell_same w1 b7 3 _ _ _ hf1]
    simp [F0, Fn.o]
  · refine k2.row (kk.row h.s fun b hbk => ?_) fun b hbk => ?_
    · simp only [nb, decide_eq_true_eq]
      exact fun e => h.apart hbk e
    · have := own_base h.s b hbk
      have : b ≠ b7 := by omega
      simp [ne', this]
  · have : (C ++ [x]).length = C.length + 1 := by simp
    rw [this]
    refine k2.row ho fun b hbk => ?_
    have := own_base ho b hbk
    have : b ≠ b7 := by omega
    simp [ne', this]
  · intro _ W hx hn
    exact ext_ne (grown_ext hx hg fun b hbk => by have := hlo b hbk; omega) k2 (by omega)
theorem Inv.app_s (h : Inv n b1 b2 b6 b7 S C As cs Ac cc w) (hb : Bd n b1 b2 b6 b7) {x : Sit} {A1 : Option Addr} {c1 m : Nat} (hm : m = S.length + 1) (hg : w.grownBy w1 (Value.slice As S.length cs).ownBlock) (ho : w1.ownsRow (n + 5) 95 2 (.slice A1 m c1) m ((S ++ [x]).flatMap Sit.cells)) :
    w1.heap[b6]? = some (P0 b1 b2 As cs S).o ∧ Inv n b1 b2 b6 b7 (S ++ [x]) C A1 c1 Ac cc (w1.setCell ⟨b6, 7, none⟩ (.slice A1 m c1)) ∧ (∀ W, Ext W w → W.heap.size ≤ n → Ext W (w1.setCell ⟨b6, 7, none⟩ (.slice A1 m c1))) ∧ (∀ b o, n + 5 ≤ b → (∀ g, (Value.slice As S.length cs).ownBlock = some g → g ≠ b) → w.heap[b]? = some o → (w1.setCell ⟨b6, 7, none⟩ (.slice A1 m c1)).heap[b]? = some o) := by
  subst hm
  have kk : Kept (nb (Value.slice As S.length cs).ownBlock) w w1 := Kept.grown hg fun j o e _ => by simp [nb, e]
  have hlo := own_base h.s
  have hnb : ∀ b t, b < n + 5 → nb (Value.slice As S.length cs).ownBlock b t = true := fun b t hlt => by
    simp only [nb, decide_eq_true_eq]
    intro e
    have := hlo b e
    omega
  have hf1 := kk.same _ _ h.p (hnb _ _ (by have := hb.h6; omega))
  have k2 : Kept (ne' b6) w1 (w1.setCell ⟨b6, 7, none⟩ (.slice A1 (S.length + 1) c1)) := Kept.setCell _ fun o ho => by simp [ne']
  have h7 := hb.h7
  have h6 := hb.h6
  refine ⟨hf1, ⟨?_, ?_, ?_, ?_, ?_⟩, ?_, ?_⟩
  · exact (h.b.keep hb kk fun b t hlt => hnb b t (by omega)).keep hb k2 fun b t hlt => by
      have : b ≠ b6 := by omega
      simp [ne', this]
  · rw [heap_setCell_same w1 b6 7 _ _ _ hf1]
    simp [P0, Prg.o]
  · refine k2.same _ _ (kk.same _ _ h.f (hnb _ _ (by omega))) ?_
    have : b7 ≠ b6 := by omega
    simp [ne', this]
  · have : (S ++ [x]).length = S.length + 1 := by simp
    rw [this]
    refine k2.row ho fun b hbk => ?_
    have := own_base ho b hbk
    have : b ≠ b6 := by omega
    simp [ne', this]
  · refine k2.row (kk.row h.c fun b hbk => ?_) fun b hbk => ?_
    · simp only [nb, decide_eq_true_eq]
      exact fun e => h.apart e hbk
    · have := own_base h.c b hbk
      have : b ≠ b6 := by omega
      simp [ne', this]
  · intro W hx hn
    exact ext_ne (grown_ext hx hg fun b hbk => by have := hlo b hbk; omega) k2 (by omega)
  · intro b o hbl hne hbo
    refine k2.same _ _ (kk.same _ _ hbo ?_) ?_
    · simp only [nb, decide_eq_true_eq]
      exact fun e => hne b e rfl
    · have : b ≠ b6 := by omega
      simp [ne', this]
end

end Go.Proofs.YtfljmdpigckpkaaGreatDoor
