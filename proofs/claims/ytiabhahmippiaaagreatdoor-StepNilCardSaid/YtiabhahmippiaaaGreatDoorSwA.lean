/- The document's small program. -/
import Derived.Test.YtiabhahmippiaaaGreatDoorSwB
namespace Go.Proofs.YtiabhahmippiaaaGreatDoor
open Go.RowKit Go.Shelf
attribute [local go_sem] Oper.semAt_some
def sited (s : Nat) (x : Ins) : Ins := { x with site := if siteO x.op then (s : Int) else -1 }
def dIns : Ins := ⟨0, 0, 0, 0, 0, none, 0, [], 0, 0⟩
def sitN (L : List Ins) : Nat → List Sit
  | 0 => []
  | n + 1 => if siteO (L.getD n dIns).op then sitN L n ++ [⟨0, n⟩] else sitN L n
def codN (L : List Ins) : Nat → List Ins
  | 0 => []
  | n + 1 => codN L n ++ [sited (sitN L n).length (L.getD n dIns)]
def sCls (b2 b3 : Nat) : Cls := ⟨⟨#[99]⟩, some ⟨b2, 0, none⟩, 2, [⟨#[97]⟩, ⟨#[98]⟩], some ⟨b3, 0, none⟩, 2, [1, 1]⟩
def P0 (b1 b2 b3 b4 b5 : Nat) (As : Option Addr) (cs : Nat) (S : List Sit) : Prg := { loopsA := some ⟨b1, 0, none⟩, loopsC := 1, loops := [⟨#[117, 105]⟩], clssA := some ⟨b4, 0, none⟩, clssC := 1, clss := [sCls b2 b3], glbsA := some ⟨b5, 0, none⟩, glbsC := 1, glbs := [⟨⟨#[103]⟩, 1⟩], fnsA := none, fnsC := 0, fns := [], cmpsA := none, cmpsC := 0, cmps := [], evtsA := none, evtsC := 0, evts := [], main := 0, sitsA := As, sitsC := cs, sits := S }
def F0 (Ac : Option Addr) (cc : Nat) (C : List Ins) : Fn := ⟨⟨#[109, 97, 105, 110]⟩, 0, 4, Ac, cc, C⟩
structure Base (n b1 b2 b3 b4 b5 : Nat) (w : World) : Prop where
  h0 : w.heap[n]? = some zprg
  h1 : w.heap[b1]? = some (.cells #[.string ⟨#[117, 105]⟩] 9 (0, 0))
  h2 : w.heap[b2]? = some (.cells #[.string ⟨#[97]⟩, .string ⟨#[98]⟩] 9 (0, 0))
  h3 : w.heap[b3]? = some (.cells #[.int .i64 1, .int .i64 1] 139 (0, 0))
  h4 : w.heap[b4]? = some (.cells #[.string ⟨#[99]⟩, .slice (some ⟨b2, 0, none⟩) 2 2, .slice (some ⟨b3, 0, none⟩) 2 2] 142 (0, 0))
  h5 : w.heap[b5]? = some (.cells #[.string ⟨#[103]⟩, .int .i64 1] 144 (0, 0))
def mkS (_n b1 b2 b3 b4 b5 : Nat) (W : World) : World := (((((((W.alloc zprg).alloc (.cells #[.string ⟨#[117, 105]⟩] 9 (0, 0))).alloc (.cells #[.string ⟨#[97]⟩, .string ⟨#[98]⟩] 9 (0, 0))).alloc (.cells #[.int .i64 1, .int .i64 1] 139 (0, 0))).alloc (.cells #[.string ⟨#[99]⟩, .slice (some ⟨b2, 0, none⟩) 2 2, .slice (some ⟨b3, 0, none⟩) 2 2] 142 (0, 0))).alloc (.cells #[.string ⟨#[103]⟩, .int .i64 1] 144 (0, 0))).alloc (P0 b1 b2 b3 b4 b5 none 0 []).o).alloc (F0 none 0 []).o
theorem alloc_old {w : World} {o ob : Obj} {b : Nat} (h : w.heap[b]? = some ob) : (w.alloc o).heap[b]? = some ob := ((Ext.one w o).kept (fun _ _ => true)).same _ _ h rfl
theorem alloc_new' {w : World} {o : Obj} {n : Nat} (h : w.heap.size = n) : (w.alloc o).heap[n]? = some o := by rw [← h]; exact World.alloc_heap_new _ _
theorem mkS_ok (W : World) {n b1 b2 b3 b4 b5 b6 b7 : Nat} (h0 : n = W.heap.size) (h1 : b1 = n + 1) (h2 : b2 = n + 2) (h3 : b3 = n + 3) (h4 : b4 = n + 4) (h5 : b5 = n + 5) (h6 : b6 = n + 6) (h7 : b7 = n + 7) : Base n b1 b2 b3 b4 b5 (mkS n b1 b2 b3 b4 b5 W) ∧ (mkS n b1 b2 b3 b4 b5 W).heap[b6]? = some (P0 b1 b2 b3 b4 b5 none 0 []).o ∧ (mkS n b1 b2 b3 b4 b5 W).heap[b7]? = some (F0 none 0 []).o ∧ Ext W (mkS n b1 b2 b3 b4 b5 W) ∧ (mkS n b1 b2 b3 b4 b5 W).heap.size = n + 8 := by
  subst h1 h2 h3 h4 h5 h6 h7 h0
  refine ⟨⟨?_, ?_, ?_, ?_, ?_, ?_⟩, ?_, ?_, ?_, ?_⟩
  case refine_9 =>
    unfold mkS
    repeat (refine Ext.trans ?_ (Ext.one _ _))
    exact Ext.refl _
  case refine_10 => simp only [mkS, World.size_alloc, Nat.add_assoc]
  all_goals
    unfold mkS
    repeat (first | exact alloc_new' (by simp only [World.size_alloc, Nat.add_assoc]; try rfl) | refine alloc_old ?_)
structure Bd (n b1 b2 b3 b4 b5 b6 b7 : Nat) : Prop where
  h1 : n + 1 = b1
  h2 : n + 2 = b2
  h3 : n + 3 = b3
  h4 : n + 4 = b4
  h5 : n + 5 = b5
  h6 : n + 6 = b6
  h7 : n + 7 = b7
structure Inv (n b1 b2 b3 b4 b5 b6 b7 : Nat) (S : List Sit) (C : List Ins) (As : Option Addr) (cs : Nat) (Ac : Option Addr) (cc : Nat) (w : World) : Prop where
  b : Base n b1 b2 b3 b4 b5 w
  p : w.heap[b6]? = some (P0 b1 b2 b3 b4 b5 As cs S).o
  f : w.heap[b7]? = some (F0 Ac cc C).o
  s : w.ownsRow (n + 8) 91 2 (.slice As S.length cs) S.length (S.flatMap Sit.cells)
  c : w.ownsRow (n + 8) 77 8 (.slice Ac C.length cc) C.length (C.flatMap Ins.cells)
def nb (r : Option Nat) : Nat → Option TypeId → Bool := fun b _ => decide (r ≠ some b)
section
variable {n b1 b2 b3 b4 b5 b6 b7 : Nat} {S : List Sit} {C : List Ins} {As : Option Addr} {cs : Nat} {Ac : Option Addr} {cc : Nat} {w w1 : World}
theorem Base.keep (h : Base n b1 b2 b3 b4 b5 w) (hb : Bd n b1 b2 b3 b4 b5 b6 b7) {p : Nat → Option TypeId → Bool} (kk : Kept p w w1) (hp : ∀ b t, b < n + 6 → p b t = true) : Base n b1 b2 b3 b4 b5 w1 := by
  obtain ⟨e1, e2, e3, e4, e5, e6, e7⟩ := hb
  exact ⟨kk.same _ _ h.h0 (hp _ _ (by omega)), kk.same _ _ h.h1 (hp _ _ (by omega)), kk.same _ _ h.h2 (hp _ _ (by omega)), kk.same _ _ h.h3 (hp _ _ (by omega)), kk.same _ _ h.h4 (hp _ _ (by omega)), kk.same _ _ h.h5 (hp _ _ (by omega))⟩
theorem Inv.ext (h : Inv n b1 b2 b3 b4 b5 b6 b7 S C As cs Ac cc w) (hb : Bd n b1 b2 b3 b4 b5 b6 b7) (k : Ext w w1) : Inv n b1 b2 b3 b4 b5 b6 b7 S C As cs Ac cc w1 :=
  ⟨h.b.keep hb (k.kept (fun _ _ => true)) fun _ _ _ => rfl, (k.kept (fun _ _ => true)).same _ _ h.p rfl, (k.kept (fun _ _ => true)).same _ _ h.f rfl, (k.kept (fun _ _ => true)).row h.s fun _ _ => rfl, (k.kept (fun _ _ => true)).row h.c fun _ _ => rfl⟩
theorem Inv.apart (h : Inv n b1 b2 b3 b4 b5 b6 b7 S C As cs Ac cc w) {g : Nat} (h1 : (Value.slice As S.length cs).ownBlock = some g) (h2 : (Value.slice Ac C.length cc).ownBlock = some g) : False := by
  obtain ⟨o, q, _⟩ := own_is h.s g h1
  have t1 := (own_tag h.s g o h1 q).1
  have t2 := (own_tag h.c g o h2 q).1
  rw [t1] at t2
  simp at t2
theorem Inv.app_c (h : Inv n b1 b2 b3 b4 b5 b6 b7 S C As cs Ac cc w) (hb : Bd n b1 b2 b3 b4 b5 b6 b7) {x : Ins} {A1 : Option Addr} {c1 m : Nat} (hm : m = C.length + 1) (hg : w.grownBy w1 (Value.slice Ac C.length cc).ownBlock) (ho : w1.ownsRow (n + 8) 77 8 (.slice A1 m c1) m ((C ++ [x]).flatMap Ins.cells)) :
    w1.heap[b7]? = some (F0 Ac cc C).o ∧ Inv n b1 b2 b3 b4 b5 b6 b7 S (C ++ [x]) As cs A1 c1 (w1.setCell ⟨b7, 3, none⟩ (.slice A1 m c1)) ∧ (Ext w w → ∀ W, Ext W w → W.heap.size ≤ n → Ext W (w1.setCell ⟨b7, 3, none⟩ (.slice A1 m c1))) := by
  subst hm
  have kk : Kept (nb (Value.slice Ac C.length cc).ownBlock) w w1 := Kept.grown hg fun j o e _ => by simp [nb, e]
  have hlo := own_base h.c
  have hnb : ∀ b t, b < n + 8 → nb (Value.slice Ac C.length cc).ownBlock b t = true := fun b t hlt => by
    simp only [nb, decide_eq_true_eq]
    intro e
    have := hlo b e
    omega
  have hf1 := kk.same _ _ h.f (hnb _ _ (by have := hb.h7; omega))
  have k2 : Kept (ne' b7) w1 (w1.setCell ⟨b7, 3, none⟩ (.slice A1 (C.length + 1) c1)) := Kept.setCell _ fun o ho => by simp [ne']
  have h7 := hb.h7
  have h6 := hb.h6
  refine ⟨hf1, ⟨?_, ?_, ?_, ?_, ?_⟩, ?_⟩
  · exact (h.b.keep hb kk fun b t hlt => hnb b t (by omega)).keep hb k2 fun b t hlt => by
      have : b ≠ b7 := by omega
      simp [ne', this]
  · refine k2.same _ _ (kk.same _ _ h.p (hnb _ _ (by omega))) ?_
    have : b6 ≠ b7 := by omega
    simp [ne', this]
  · rw [heap_setCell_same w1 b7 3 _ _ _ hf1]
    simp [F0, Fn.o]
  · refine k2.row (kk.row h.s fun b hbk => ?_) fun b hbk => ?_
    · simp only [nb, decide_eq_true_eq]
      exact fun e => h.apart hbk e
    · have := own_base h.s b hbk
      have : b ≠ b7 := by omega
      simp [ne', this]
  · have : (C ++ [x]).length = C.length + 1 := by simp
    rw [this]
    refine k2.row ho fun b hbk => ?_
    have := own_base ho b hbk
    have : b ≠ b7 := by omega
    simp [ne', this]
  · intro _ W hx hn
    exact ext_ne (grown_ext hx hg fun b hbk => by have := hlo b hbk; omega) k2 (by omega)
theorem Inv.app_s (h : Inv n b1 b2 b3 b4 b5 b6 b7 S C As cs Ac cc w) (hb : Bd n b1 b2 b3 b4 b5 b6 b7) {x : Sit} {A1 : Option Addr} {c1 m : Nat} (hm : m = S.length + 1) (hg : w.grownBy w1 (Value.slice As S.length cs).ownBlock) (ho : w1.ownsRow (n + 8) 91 2 (.slice A1 m c1) m ((S ++ [x]).flatMap Sit.cells)) :
    w1.heap[b6]? = some (P0 b1 b2 b3 b4 b5 As cs S).o ∧ Inv n b1 b2 b3 b4 b5 b6 b7 (S ++ [x]) C A1 c1 Ac cc (w1.setCell ⟨b6, 7, none⟩ (.slice A1 m c1)) ∧ (∀ W, Ext W w → W.heap.size ≤ n → Ext W (w1.setCell ⟨b6, 7, none⟩ (.slice A1 m c1))) ∧ (∀ b o, n + 8 ≤ b → (∀ g, (Value.slice As S.length cs).ownBlock = some g → g ≠ b) → w.heap[b]? = some o → (w1.setCell ⟨b6, 7, none⟩ (.slice A1 m c1)).heap[b]? = some o) := by
  subst hm
  have kk : Kept (nb (Value.slice As S.length cs).ownBlock) w w1 := Kept.grown hg fun j o e _ => by simp [nb, e]
  have hlo := own_base h.s
  have hnb : ∀ b t, b < n + 8 → nb (Value.slice As S.length cs).ownBlock b t = true := fun b t hlt => by
    simp only [nb, decide_eq_true_eq]
    intro e
    have := hlo b e
    omega
  have hf1 := kk.same _ _ h.p (hnb _ _ (by have := hb.h6; omega))
  have k2 : Kept (ne' b6) w1 (w1.setCell ⟨b6, 7, none⟩ (.slice A1 (S.length + 1) c1)) := Kept.setCell _ fun o ho => by simp [ne']
  have h7 := hb.h7
  have h6 := hb.h6
  refine ⟨hf1, ⟨?_, ?_, ?_, ?_, ?_⟩, ?_, ?_⟩
  · exact (h.b.keep hb kk fun b t hlt => hnb b t (by omega)).keep hb k2 fun b t hlt => by
      have : b ≠ b6 := by omega
      simp [ne', this]
  · rw [heap_setCell_same w1 b6 7 _ _ _ hf1]
    simp [P0, Prg.o]
  · refine k2.same _ _ (kk.same _ _ h.f (hnb _ _ (by omega))) ?_
    have : b7 ≠ b6 := by omega
    simp [ne', this]
  · have : (S ++ [x]).length = S.length + 1 := by simp
    rw [this]
    refine k2.row ho fun b hbk => ?_
    have := own_base ho b hbk
    have : b ≠ b6 := by omega
    simp [ne', this]
  · refine k2.row (kk.row h.c fun b hbk => ?_) fun b hbk => ?_
    · simp only [nb, decide_eq_true_eq]
      exact fun e => h.apart e hbk
    · have := own_base h.c b hbk
      have : b ≠ b6 := by omega
      simp [ne', this]
  · intro W hx hn
    exact ext_ne (grown_ext hx hg fun b hbk => by have := hlo b hbk; omega) k2 (by omega)
  · intro b o hbl hne hbo
    refine k2.same _ _ (kk.same _ _ hbo ?_) ?_
    · simp only [nb, decide_eq_true_eq]
      exact fun e => hne b e rfl
    · have : b ≠ b6 := by omega
      simp [ne', this]
end
/-! the walk -/
def retI : Ins := ⟨33, 0, 0, 0, 0, none, 0, [], -1, 0⟩
def evtE : Evt := ⟨⟨#[101]⟩, 0, false, 0⟩
def evtO : Obj := .cells #[.string ⟨#[101]⟩, .int .i64 0, .bool false, .int .i64 0] 146 (0, 0)
def P1 (b1 b2 b3 b4 b5 bF : Nat) (As : Option Addr) (cs : Nat) (S : List Sit) (F : Fn) : Prg := { P0 b1 b2 b3 b4 b5 As cs S with fnsA := some ⟨bF, 0, none⟩, fnsC := 1, fns := [F] }
def P2 (b1 b2 b3 b4 b5 bF be : Nat) (As : Option Addr) (cs : Nat) (S : List Sit) (F : Fn) : Prg := { P1 b1 b2 b3 b4 b5 bF As cs S F with evtsA := some ⟨be, 0, none⟩, evtsC := 1, evts := [evtE] }
structure Fin (n b1 b2 b3 b4 b5 b6 : Nat) (P : Prg) (S : List Sit) (C : List Ins) (As : Option Addr) (cs : Nat) (Ac : Option Addr) (cc : Nat) (w : World) : Prop where
  b : Base n b1 b2 b3 b4 b5 w
  p : w.heap[b6]? = some P.o
  s : w.ownsRow (n + 8) 91 2 (.slice As S.length cs) S.length (S.flatMap Sit.cells)
  c : w.ownsRow (n + 8) 77 8 (.slice Ac C.length cc) C.length (C.flatMap Ins.cells)
theorem Fin.put {n b1 b2 b3 b4 b5 b6 b7 k : Nat} {P P' : Prg} {S : List Sit} {C : List Ins} {As : Option Addr} {cs : Nat} {Ac : Option Addr} {cc : Nat} {w : World} {v : Value} {o : Obj} (h : Fin n b1 b2 b3 b4 b5 b6 P S C As cs Ac cc w) (hb : Bd n b1 b2 b3 b4 b5 b6 b7) (hp : (w.setCell ⟨b6, k, none⟩ v).heap[b6]? = some P'.o) :
    Fin n b1 b2 b3 b4 b5 b6 P' S C As cs Ac cc ((w.setCell ⟨b6, k, none⟩ v).alloc o) ∧ ((w.setCell ⟨b6, k, none⟩ v).alloc o).heap[w.heap.size]? = some o ∧ (∀ W, Ext W w → W.heap.size ≤ n → Ext W ((w.setCell ⟨b6, k, none⟩ v).alloc o)) ∧ (∀ b ob, n + 8 ≤ b → w.heap[b]? = some ob → ((w.setCell ⟨b6, k, none⟩ v).alloc o).heap[b]? = some ob) := by
  have h6 := hb.h6
  have k1 : Kept (ne' b6) w (w.setCell ⟨b6, k, none⟩ v) := Kept.setCell _ fun o ho => by simp [ne']
  have k2 := ((Ext.one (w.setCell ⟨b6, k, none⟩ v) o).kept (fun _ _ => true))
  have hs : (w.setCell ⟨b6, k, none⟩ v).heap.size = w.heap.size := by simp
  have hn : ∀ b t, b ≠ b6 → ne' b6 b t = true := fun b t hne => by simp [ne', hne]
  refine ⟨⟨?_, k2.same _ _ hp rfl, ?_, ?_⟩, alloc_new' hs, ?_, ?_⟩
  · exact (h.b.keep hb k1 fun b t hlt => hn b t (by omega)).keep hb k2 fun b t hlt => rfl
  · exact k2.row (k1.row h.s fun b hbk => hn b _ (by have := own_base h.s b hbk; omega)) fun _ _ => rfl
  · exact k2.row (k1.row h.c fun b hbk => hn b _ (by have := own_base h.c b hbk; omega)) fun _ _ => rfl
  · intro W hx hn'
    exact (ext_ne hx k1 (by omega)).trans (Ext.one _ _)
  · intro b ob hbl hbo
    exact k2.same _ _ (k1.same _ _ hbo (hn b _ (by omega))) rfl
structure Fin2 (n b1 b2 b3 b4 b5 bF be : Nat) (S : List Sit) (C : List Ins) (As : Option Addr) (cs : Nat) (Ac : Option Addr) (cc : Nat) (w : World) : Prop where
  h1 : w.heap[b1]? = some (.cells #[.string ⟨#[117, 105]⟩] 9 (0, 0))
  h2 : w.heap[b2]? = some (.cells #[.string ⟨#[97]⟩, .string ⟨#[98]⟩] 9 (0, 0))
  h3 : w.heap[b3]? = some (.cells #[.int .i64 1, .int .i64 1] 139 (0, 0))
  h4 : w.heap[b4]? = some (.cells #[.string ⟨#[99]⟩, .slice (some ⟨b2, 0, none⟩) 2 2, .slice (some ⟨b3, 0, none⟩) 2 2] 142 (0, 0))
  h5 : w.heap[b5]? = some (.cells #[.string ⟨#[103]⟩, .int .i64 1] 144 (0, 0))
  hF : w.heap[bF]? = some (F0 Ac cc C).o
  hE : w.heap[be]? = some evtO
  s : w.ownsRow (n + 8) 91 2 (.slice As S.length cs) S.length (S.flatMap Sit.cells)
  c : w.ownsRow (n + 8) 77 8 (.slice Ac C.length cc) C.length (C.flatMap Ins.cells)
theorem Fin2.keep {n b1 b2 b3 b4 b5 b6 b7 bF be : Nat} {S : List Sit} {C : List Ins} {As : Option Addr} {cs : Nat} {Ac : Option Addr} {cc : Nat} {w w1 : World} (h : Fin2 n b1 b2 b3 b4 b5 bF be S C As cs Ac cc w) (hb : Bd n b1 b2 b3 b4 b5 b6 b7) (k : Kept (ne' n) w w1) (hF : n < bF) (hE : n < be) : Fin2 n b1 b2 b3 b4 b5 bF be S C As cs Ac cc w1 := by
  have hn : ∀ b t, n < b → ne' n b t = true := fun b t hlt => by
    have : b ≠ n := by omega
    simp [ne', this]
  obtain ⟨e1, e2, e3, e4, e5, e6, e7⟩ := hb
  exact ⟨k.same _ _ h.h1 (hn _ _ (by omega)), k.same _ _ h.h2 (hn _ _ (by omega)), k.same _ _ h.h3 (hn _ _ (by omega)), k.same _ _ h.h4 (hn _ _ (by omega)), k.same _ _ h.h5 (hn _ _ (by omega)), k.same _ _ h.hF (hn _ _ hF), k.same _ _ h.hE (hn _ _ hE), k.row h.s fun b hbk => hn b _ (by have := own_base h.s b hbk; omega), k.row h.c fun b hbk => hn b _ (by have := own_base h.c b hbk; omega)⟩
theorem rowN_one {α : Type} {f : α → List Value} {s : Nat} {P : α → Prop} {w : World} {g c : Nat} {t : TypeId} {x : α} (h : w.heap[g]? = some (.cells (f x).toArray t (0, 0))) (hP : P x) : RowN f s P w (some ⟨g, 0, none⟩) 1 c [x] := by
  refine ⟨rfl, (fun e => by cases e), fun i y hi => ?_⟩
  cases i with
  | zero =>
    obtain rfl : x = y := by simpa using hi
    refine ⟨g, 0, rfl, (Array.getElem?_eq_some_iff.1 h).1, hP, fun j u hj => ?_⟩
    simp only [World.cell?, h]
    simpa using hj
  | succ i => simp at hi
theorem row1_of {α : Type} {f : α → Value} {w : World} {g c : Nat} {t : TypeId} {l : List α} (h : w.heap[g]? = some (.cells (rowV f l).toArray t (0, 0))) : Row1 f w (some ⟨g, 0, none⟩) l.length c l := by
  refine ⟨rfl, (fun e => by cases e), fun i y hi => ?_⟩
  refine ⟨g, 0, rfl, (Array.getElem?_eq_some_iff.1 h).1, trivial, fun j u hj => ?_⟩
  cases j with
  | zero =>
    obtain rfl : f y = u := by simpa using hj
    simp only [World.cell?, h]
    simp [rowV, hi]
  | succ j => simp at hj
theorem Fin2.inP {n b1 b2 b3 b4 b5 bF be : Nat} {S : List Sit} {C : List Ins} {As : Option Addr} {cs : Nat} {Ac : Option Addr} {cc : Nat} {w : World} (h : Fin2 n b1 b2 b3 b4 b5 bF be S C As cs Ac cc w) (hC : ∀ x ∈ C, Ins.In w x) (hl : C.length ≤ 100) (hs : S.length ≤ 100) : (P2 b1 b2 b3 b4 b5 bF be As cs S (F0 Ac cc C)).In w where
  loops := row1_of (f := sV) (l := [⟨#[117, 105]⟩]) h.h1
  clss := rowN_one (f := Cls.cells) (x := sCls b2 b3) h.h4 ⟨row1_of (f := sV) (l := [⟨#[97]⟩, ⟨#[98]⟩]) h.h2, row1_of (f := iV) (l := [1, 1]) h.h3, by show (2 : Nat) ≤ _; omega, by show (2 : Nat) ≤ _; omega⟩
  glbs := rowN_one (f := Glb.cells) (x := ⟨⟨#[103]⟩, 1⟩) h.h5 trivial
  fns := rowN_one (f := Fn.cells) (x := F0 Ac cc C) h.hF ⟨own_rowN (fun _ => rfl) h.c hC, show C.length ≤ _ by omega⟩
  cmps := ⟨rfl, fun _ => ⟨rfl, rfl⟩, fun i x hi => by simp [P2, P1, P0] at hi⟩
  evts := rowN_one (f := Evt.cells) (x := evtE) h.hE trivial
  sits := own_rowN (fun _ => rfl) h.s fun _ _ => trivial
  loopsL := by show (1 : Nat) ≤ _; omega
  clssL := by show (1 : Nat) ≤ _; omega
  glbsL := by show (1 : Nat) ≤ _; omega
  fnsL := by show (1 : Nat) ≤ _; omega
  cmpsL := by show (0 : Nat) ≤ _; omega
  evtsL := by show (1 : Nat) ≤ _; omega
  sitsL := by show S.length ≤ _; omega
theorem codN_mem (L : List Ins) : ∀ k, k ≤ L.length → ∀ x ∈ codN L k, ∃ s, ∃ y ∈ L, x = sited s y
  | 0, _, x, hx => by simp [codN] at hx
  | k + 1, hk, x, hx => by
    simp only [codN, List.mem_append, List.mem_singleton] at hx
    rcases hx with hx | hx
    · exact codN_mem L k (by omega) x hx
    · have hk' : k < L.length := hk
      exact ⟨(sitN L k).length, L[k], List.getElem_mem _, by rw [hx]; simp [hk']⟩
theorem codN_in {L : List Ins} {w : World} (h : ∀ x ∈ L, Ins.In w x) : ∀ x ∈ codN L L.length ++ [retI], Ins.In w x := by
  intro x hx
  rcases List.mem_append.1 hx with hx | hx
  · obtain ⟨s, y, hy, rfl⟩ := codN_mem L _ (Nat.le_refl _) x hx
    exact ⟨(h y hy).l, (h y hy).lL⟩
  · obtain rfl : x = retI := by simpa using hx
    exact ⟨⟨rfl, fun _ => ⟨rfl, rfl⟩, fun i x hi => by simp [retI] at hi⟩, by show (0 : Nat) ≤ _; omega⟩
theorem rowN_mem {α : Type} {f : α → List Value} {s : Nat} {P : α → Prop} {w : World} {A : Option Addr} {m c : Nat} {T : List α} (h : RowN f s P w A m c T) : ∀ x ∈ T, P x := by
  intro x hx
  obtain ⟨i, hi, rfl⟩ := List.getElem_of_mem hx
  obtain ⟨_, _, _, _, h3, _⟩ := h.2.2 i _ (List.getElem?_eq_getElem hi)
  exact h3
def dPrg : Prg := ⟨none, 0, [], none, 0, [], none, 0, [], none, 0, [], none, 0, [], none, 0, [], 0, none, 0, []⟩
def putP (w : World) (b : Nat) (P : Prg) : World := (((((((w.setCell ⟨b, 0, none⟩ (.slice P.loopsA P.loops.length P.loopsC)).setCell ⟨b, 1, none⟩ (.slice P.clssA P.clss.length P.clssC)).setCell ⟨b, 2, none⟩ (.slice P.glbsA P.glbs.length P.glbsC)).setCell ⟨b, 3, none⟩ (.slice P.fnsA P.fns.length P.fnsC)).setCell ⟨b, 4, none⟩ (.slice P.cmpsA P.cmps.length P.cmpsC)).setCell ⟨b, 5, none⟩ (.slice P.evtsA P.evts.length P.evtsC)).setCell ⟨b, 6, none⟩ (.int .i64 P.main)).setCell ⟨b, 7, none⟩ (.slice P.sitsA P.sits.length P.sitsC)
theorem putP_ok {w : World} {b : Nat} {P : Prg} (h : w.heap[b]? = some zprg) : (putP w b P).heap[b]? = some P.o ∧ Kept (ne' b) w (putP w b P) :=
  set_range (b := b) (t := 30) [.slice P.loopsA P.loops.length P.loopsC, .slice P.clssA P.clss.length P.clssC, .slice P.glbsA P.glbs.length P.glbsC, .slice P.fnsA P.fns.length P.fnsC, .slice P.cmpsA P.cmps.length P.cmpsC, .slice P.evtsA P.evts.length P.evtsC, .int .i64 P.main, .slice P.sitsA P.sits.length P.sitsC] [] [.slice none 0 0, .slice none 0 0, .slice none 0 0, .slice none 0 0, .slice none 0 0, .slice none 0 0, .int .i64 0, .slice none 0 0] w h rfl
theorem codN_len (L : List Ins) : ∀ n, (codN L n).length = n
  | 0 => rfl
  | n + 1 => by simp [codN, codN_len L n]
theorem sitN_len (L : List Ins) : ∀ n, (sitN L n).length ≤ n
  | 0 => Nat.le_refl _
  | n + 1 => by
    have := sitN_len L n
    simp only [sitN]
    split
    · simp; omega
    · omega
theorem src_ins {w : World} {b c : Nat} {x : Ins} (h : w.heap[b]? = some x.o) : Src w (.slice (some ⟨b, 0, none⟩) 1 c) 1 x.cells := .inr ⟨_, _, rfl, World.news_of_block h⟩
theorem Inv.other {n b1 b2 b3 b4 b5 b6 b7 d : Nat} {S : List Sit} {C : List Ins} {As : Option Addr} {cs : Nat} {Ac : Option Addr} {cc : Nat} {w w1 : World} (h : Inv n b1 b2 b3 b4 b5 b6 b7 S C As cs Ac cc w) (hb : Bd n b1 b2 b3 b4 b5 b6 b7) (kk : Kept (ne' d) w w1) (hd : n + 8 ≤ d) (h1 : ∀ g, (Value.slice As S.length cs).ownBlock = some g → g < d) (h2 : ∀ g, (Value.slice Ac C.length cc).ownBlock = some g → g < d) : Inv n b1 b2 b3 b4 b5 b6 b7 S C As cs Ac cc w1 := by
  have h6 := hb.h6
  have h7 := hb.h7
  have hn : ∀ b t, b < n + 8 → ne' d b t = true := fun b t hlt => by
    have : b ≠ d := by omega
    simp [ne', this]
  exact ⟨h.b.keep hb kk fun b t hlt => hn b t (by omega), kk.same _ _ h.p (hn _ _ (by omega)), kk.same _ _ h.f (hn _ _ (by omega)), kk.row h.s fun b hbk => by
    have := Nat.ne_of_lt (h1 b hbk)
    simp [ne', this], kk.row h.c fun b hbk => by
    have := Nat.ne_of_lt (h2 b hbk)
    simp [ne', this]⟩
set_option maxHeartbeats 8000000 in
set_option maxRecDepth 100000 in
theorem small_ok {L : List Ins} {A : Option Addr} {c : Nat} {W : World} (h : RowN Ins.cells 8 (Ins.In W) W A L.length c L) (hop : ∀ x ∈ L, 1 ≤ x.op ∧ x.op ≤ 33) (hn : L.length ≤ 8) : Calls Tryz.prog 23 #[.slice A L.length c] W fun e W' => ∃ (b1 b2 b3 b4 b5 bF be : Nat) (As : Option Addr) (cs : Nat) (Ac : Option Addr) (cc : Nat) (P : Prg), P = P2 b1 b2 b3 b4 b5 bF be As cs (sitN L L.length) (F0 Ac cc (codN L L.length ++ [retI])) ∧ e = .returned P.v ∧ P.In W' ∧ Ext W W' := by
  obtain ⟨i0, hi0, hz0, hz1, hz2⟩ := infoParts infoInss
  obtain ⟨j0, hj0, hy0, hy1, hy2⟩ := infoParts infoSits
  have hm := mkS_ok W rfl rfl rfl rfl rfl rfl rfl rfl
  have HM := Lib.hid hm
  have HROW := Lib.hid h
  have HOP := Lib.hid hop
  have HN := Lib.hid hn
  clear hm h hop hn
  go_enter Tryz.func23, Tryz.ntmps23
  go_upto_region 4 with (fail)
  change Code.wp _ _ _ _ (mkS W.heap.size (W.heap.size + 1) (W.heap.size + 2) (W.heap.size + 3) (W.heap.size + 4) (W.heap.size + 5) W)
  generalize hw0 : mkS _ _ _ _ _ _ W = w0 at *
  clear hw0
  generalize h7 : W.heap.size + 7 = b7 at *
  generalize h6 : W.heap.size + 6 = b6 at *
  generalize h5 : W.heap.size + 5 = b5 at *
  generalize h4 : W.heap.size + 4 = b4 at *
  generalize h3 : W.heap.size + 3 = b3 at *
  generalize h2 : W.heap.size + 2 = b2 at *
  generalize h1 : W.heap.size + 1 = b1 at *
  have HBD := Lib.hid (Bd.mk h1 h2 h3 h4 h5 h6 h7)
  clear h1 h2 h3 h4 h5 h6 h7
  go_loopg [5] L.length (fun k v5 wr => ∃ (i : Nat) (As : Option Addr) (cs : Nat) (Ac : Option Addr) (cc : Nat), i + k = L.length ∧ v5 = .int .i64 i ∧ Ext W wr ∧ Inv W.heap.size b1 b2 b3 b4 b5 b6 b7 (sitN L i) (codN L i) As cs Ac cc wr)
  case atStart =>
    obtain ⟨m1, m2, m3, m4, m5⟩ := HM.out
    exact ⟨0, none, 0, none, 0, by omega, rfl, m4, ⟨m1, m2, m3, World.ownsRow_nil _ _ _ _, World.ownsRow_nil _ _ _ _⟩⟩
  case round =>
    clear HM
    obtain ⟨i, As, cs, Ac, cc, hik, rfl, hx, hv⟩ := hrel
    obtain ⟨wq, rfl⟩ : ∃ y, y = wr := ⟨_, rfl⟩
    have HX := Lib.hid hx
    have HV := Lib.hid hv
    have hl := HN.out
    rcases Nat.lt_or_ge i L.length with hi | hi
    · have z0 : (i : Int) < (L.length : Int) := by omega
      obtain ⟨g, off, e1, hgl, _, d0, d1, d2, d3, d4, d5, d6, d7⟩ := Fn.ins_at (f := F0 A c L) ⟨HROW.out.mono (hx.kept _) fun _ => Ins.In.kept (hx.kept _), show L.length ≤ _ by omega⟩ hi
      have hop : 1 ≤ (F0 A c L).code[i].op ∧ (F0 A c L).code[i].op ≤ 33 := HOP.out L[i] (List.getElem_mem hi)
      have hgd : L.getD i dIns = (F0 A c L).code[i] := by simp [hi, F0]
      change A = _ at e1
      generalize (F0 A c L).code[i] = y at d0 d1 d2 d3 d4 d5 d6 d7 hop hgd
      have HGD := Lib.hid hgd
      have HOI := Lib.hid hop
      have HE := Lib.hid e1
      have HGK := Lib.hid hik
      rw [e1]
      clear hx hv hop hgd e1 hik
      go_upto_region 8 with (fail)
      obtain ⟨W5, hW5⟩ : ∃ W5, W5 = wq.alloc ({ y with site := -1 } : Ins).o := ⟨_, rfl⟩
      change Code.wp _ _ _ _ (wq.alloc ({ y with site := -1 } : Ins).o)
      rw [← hW5]
      have hx5 : Ext wq W5 := by rw [hW5]; exact Ext.one _ _
      have hb5 : W5.heap[wq.heap.size]? = some ({ y with site := -1 } : Ins).o := by rw [hW5]; exact World.alloc_heap_new _ _
      have HIS := Lib.hid (fun w => IsSite_ok y.op HOI.out.1 HOI.out.2 w)
      have HV5 := Lib.hid (HV.out.ext HBD.out hx5)
      have HX5 := Lib.hid (HX.out.trans hx5)
      have HLO := Lib.hid (show W.heap.size + 8 ≤ wq.heap.size by have := HBD.out.h7; have := (Array.getElem?_eq_some_iff.1 HV.out.f).1; omega)
      have HO1 := Lib.hid (own_lt HV.out.s)
      have HO2 := Lib.hid (own_lt HV.out.c)
      have HB5 := Lib.hid hb5
      clear hW5 hx5 hb5 d0 d1 d2 d3 d4 d5 d6 d7 hgl
      generalize wq.heap.size = bx at *
      obtain ⟨x0, x1, x2, x3, x4, x5, x6, x7, xl⟩ := Ins.o_cells HB5.out
      cases hsi : siteO y.op with
      | false =>
        have hx : sited (sitN L i).length (L.getD i dIns) = { y with site := -1 } := by rw [HGD.out]; simp [sited, hsi]
        have hs1 : sitN L (i + 1) = sitN L i := by simp only [sitN, HGD.out, hsi]; rfl
        rw [hsi] at HIS
        go_upto_region 11 with (go_at_call 31; refine (HIS.out _).mono ?_; rintro e w2 ⟨rfl, hw⟩; rw [hw]; clear hw)
        clear x0 x1 x2 x3 x4 x5 x6 x7 xl
        have HVT := Lib.hid (show Inv W.heap.size b1 b2 b3 b4 b5 b6 b7 (sitN L (i + 1)) (codN L i) As cs Ac cc W5 by rw [hs1]; exact HV5.out)
        have HXT := HX5
        have HBT := Lib.hid HB5.out
        have HS1 := Lib.hid hs1
        generalize ({ y with site := -1 } : Ins) = x at *
        have HXE := Lib.hid hx
        obtain ⟨Wt, rfl⟩ : ∃ y, y = W5 := ⟨_, rfl⟩
        clear hx hs1 HB5 HX5 HV5 hsi
        obtain ⟨x0, x1, x2, x3, x4, x5, x6, x7, xl⟩ := Ins.o_cells HBT.out
        obtain ⟨y0, y1, y2, y3, yl⟩ := Fn.o_cells HVT.out.f
        have hb7 : (Wt.alloc x.o).heap[Wt.heap.size]? = some x.o := World.alloc_heap_new _ _
        have HSRC := Lib.hid (src_ins (c := 1) hb7)
        have HV7 := Lib.hid (HVT.out.ext HBD.out (Ext.one Wt x.o))
        have HX7 := Lib.hid (HXT.out.trans (Ext.one Wt x.o))
        have HCL := Lib.hid (codN_len L i)
        have hsz := HV7.out.s
        have HBS := Lib.hid (show W.heap.size + 8 ≤ (Wt.alloc x.o).heap.size by rw [World.size_alloc]; have := HBD.out.h7; have := (Array.getElem?_eq_some_iff.1 HVT.out.f).1; omega)
        have HAPP := Lib.hid (show (codN L i).flatMap Ins.cells ++ x.cells = ((codN L i) ++ [x]).flatMap Ins.cells by simp)
        clear hb7 hsz
        unfold F0 at y0 y1 y2 y3
        go_wp2_with (at_builtin; refine wpList_append_any rfl _ _ 85 rfl (W.heap.size + 8) 77 i0 (.agg #[.int .i64 0, .int .i64 0, .int .i64 0, .int .i64 0, .int .i64 0, .slice none 0 0, .int .i64 0, .int .i64 0]) 8 80 Tryz.underlying85 hi0 hz0 hz1 hz2 rfl (by decide) (.slice Ac (codN L i).length cc) (codN L i).length _ rfl HV7.out.c (.slice (some ⟨Wt.heap.size, 0, none⟩) 1 1) 1 x.cells rfl (by simp [Ins.cells]) HSRC.out (by simp [Ins.cells, iV, Value.oneCell']) (by unfold maxLen; have := HCL.out; omega) (by have := HCL.out; omega) HBS.out ((codN L i).length + 1) rfl _ HAPP.out ?_; intro A1 c1 w1 hown1 hgrow1 hat1; obtain ⟨q1, q2, q3⟩ := HV7.out.app_c HBD.out rfl hgrow1 hown1; have HQ2 := Lib.hid q2; have HQ3 := Lib.hid (q3 (Ext.refl _) _ HX7.out (Nat.le_refl _)); clear y0 y1 y2 y3 yl; obtain ⟨y0, y1, y2, y3, yl⟩ := Fn.o_cells q1; have hz7 := fun n => frozen_of_row w1 b7 n _ _ (show w1.heap[b7]? = some (.cells _ _ _) from q1); clear q1 q2 q3 hown1 hgrow1 hat1)
        generalize w1.setCell _ _ = w8 at *
        rw [← HE.out]
        have hgk := HGK.out
        have hcN : codN L (i + 1) = codN L i ++ [x] := by simp only [codN, HXE.out]
        go_roundg (gk - 1)
        case measure => omega
        case rel => exact ⟨i + 1, As, cs, A1, c1, by omega, by go_num, HQ3.out, by rw [hcN]; exact HQ2.out⟩
      | true =>
        have hs1 : sitN L (i + 1) = sitN L i ++ [⟨0, i⟩] := by simp only [sitN, HGD.out, hsi]; rfl
        have hx : sited (sitN L i).length (L.getD i dIns) = { y with site := ((sitN L i).length : Int) } := by rw [HGD.out]; simp [sited, hsi]
        have hzx := fun n => frozen_of_row W5 bx n _ _ (show W5.heap[bx]? = some (.cells _ _ _) from HB5.out)
        obtain ⟨p0, p1, p2, p3, p4, p5, p6, p7, pl⟩ := Prg.o_cells HV5.out.p
        unfold P0 at p7
        rw [hsi] at HIS
        go_upto_region 10 with (go_at_call 31; refine (HIS.out _).mono ?_; rintro e w2 ⟨rfl, hw⟩; rw [hw]; clear hw)
        have hb6 : (W5.setCell ⟨bx, 6, none⟩ (.int .i64 ((sitN L i).length : Int))).heap[bx]? = some ({ y with site := ((sitN L i).length : Int) } : Ins).o := by
          rw [heap_setCell_same W5 bx 6 _ _ _ HB5.out]
          rfl
        have hk6 : Kept (ne' bx) W5 (W5.setCell ⟨bx, 6, none⟩ (.int .i64 ((sitN L i).length : Int))) := Kept.setCell _ fun o ho => by simp [ne']
        have HV6 := Lib.hid (HV5.out.other HBD.out hk6 HLO.out HO1.out HO2.out)
        have HX6 := Lib.hid (ext_ne HX5.out hk6 (by have := HLO.out; omega))
        have HB6 := Lib.hid hb6
        clear hzx p0 p1 p2 p3 p4 p5 p6 p7 pl x0 x1 x2 x3 x4 x5 x6 x7 xl hb6 hk6 HB5 HX5 HV5 hsi
        generalize W5.setCell _ _ = W6 at *
        obtain ⟨p0, p1, p2, p3, p4, p5, p6, p7, pl⟩ := Prg.o_cells HV6.out.p
        unfold P0 at p7
        have hb8 : (W6.alloc (.cells #[.int .i64 0, .int .i64 i] 91 (0, 0))).heap[W6.heap.size]? = some (.cells #[.int .i64 0, .int .i64 i] 91 (0, 0)) := World.alloc_heap_new _ _
        have hx8 : Ext W6 (W6.alloc (.cells #[.int .i64 0, .int .i64 i] 91 (0, 0))) := Ext.one _ _
        have HSRS := Lib.hid (src_two (c := 1) hb8)
        have HV8 := Lib.hid (HV6.out.ext HBD.out hx8)
        have HX8 := Lib.hid (HX6.out.trans hx8)
        have HB8 := Lib.hid ((hx8.kept (fun _ _ => true)).same _ _ HB6.out rfl)
        have HSL := Lib.hid (sitN_len L i)
        have HBS8 := Lib.hid (show W.heap.size + 8 ≤ (W6.alloc (.cells #[.int .i64 0, .int .i64 i] 91 (0, 0))).heap.size by rw [World.size_alloc]; have := HLO.out; have := (Array.getElem?_eq_some_iff.1 HB6.out).1; omega)
        have HAPS := Lib.hid (show (sitN L i).flatMap Sit.cells ++ [.int .i64 0, .int .i64 i] = (sitN L i ++ [(⟨0, (i : Int)⟩ : Sit)]).flatMap Sit.cells by simp [Sit.cells, iV])
        clear hb8 hx8
        go_upto_region 11 with (at_builtin; refine wpList_append_any rfl _ _ 28 rfl (W.heap.size + 8) 91 j0 (.agg #[.int .i64 0, .int .i64 0]) 2 16 Tryz.underlying28 hj0 hy0 hy1 hy2 rfl (by decide) (.slice As (sitN L i).length cs) (sitN L i).length _ rfl HV8.out.s (.slice (some ⟨W6.heap.size, 0, none⟩) 1 1) 1 [.int .i64 0, .int .i64 i] rfl (by simp) HSRS.out (by simp [Value.oneCell']) (by unfold maxLen; have := HSL.out; omega) (by have := HSL.out; omega) HBS8.out ((sitN L i).length + 1) rfl _ HAPS.out ?_; intro A2 c2 w2 hown2 hgrow2 hat2; obtain ⟨q1, q2, q3, q4⟩ := HV8.out.app_s HBD.out rfl hgrow2 hown2; have HR2 := Lib.hid q2; have HR3 := Lib.hid (q3 _ HX8.out (Nat.le_refl _)); have HR4 := Lib.hid (q4 _ _ HLO.out (fun g hg => Nat.ne_of_lt (HO1.out g hg)) HB8.out); clear p0 p1 p2 p3 p4 p5 p6 p7 pl; obtain ⟨p0, p1, p2, p3, p4, p5, p6, p7, pl⟩ := Prg.o_cells q1; unfold P0 at p7; have hz6 := fun n => frozen_of_row w2 b6 n _ _ (show w2.heap[b6]? = some (.cells _ _ _) from q1); clear q1 q2 q3 q4 hown2 hgrow2 hat2)
        have HVT := Lib.hid (show Inv W.heap.size b1 b2 b3 b4 b5 b6 b7 (sitN L (i + 1)) (codN L i) A2 c2 Ac cc _ by rw [hs1]; exact HR2.out)
        have HXT := HR3
        have HBT := HR4
        clear p0 p1 p2 p3 p4 p5 p6 p7 pl hz6 HR2 HR3 HR4 HV8 HX8 HB8 HBS8 HSRS HV6 HX6 HB6 HAPS HSL
        generalize ({ y with site := ((sitN L i).length : Int) } : Ins) = x at *
        have HXE := Lib.hid hx
        generalize w2.setCell _ _ = Wt at *
        clear hx hs1
        obtain ⟨x0, x1, x2, x3, x4, x5, x6, x7, xl⟩ := Ins.o_cells HBT.out
        obtain ⟨y0, y1, y2, y3, yl⟩ := Fn.o_cells HVT.out.f
        have hb7 : (Wt.alloc x.o).heap[Wt.heap.size]? = some x.o := World.alloc_heap_new _ _
        have HSRC := Lib.hid (src_ins (c := 1) hb7)
        have HV7 := Lib.hid (HVT.out.ext HBD.out (Ext.one Wt x.o))
        have HX7 := Lib.hid (HXT.out.trans (Ext.one Wt x.o))
        have HCL := Lib.hid (codN_len L i)
        have hsz := HV7.out.s
        have HBS := Lib.hid (show W.heap.size + 8 ≤ (Wt.alloc x.o).heap.size by rw [World.size_alloc]; have := HBD.out.h7; have := (Array.getElem?_eq_some_iff.1 HVT.out.f).1; omega)
        have HAPP := Lib.hid (show (codN L i).flatMap Ins.cells ++ x.cells = ((codN L i) ++ [x]).flatMap Ins.cells by simp)
        clear hb7 hsz
        unfold F0 at y0 y1 y2 y3
        go_wp2_with (at_builtin; refine wpList_append_any rfl _ _ 85 rfl (W.heap.size + 8) 77 i0 (.agg #[.int .i64 0, .int .i64 0, .int .i64 0, .int .i64 0, .int .i64 0, .slice none 0 0, .int .i64 0, .int .i64 0]) 8 80 Tryz.underlying85 hi0 hz0 hz1 hz2 rfl (by decide) (.slice Ac (codN L i).length cc) (codN L i).length _ rfl HV7.out.c (.slice (some ⟨Wt.heap.size, 0, none⟩) 1 1) 1 x.cells rfl (by simp [Ins.cells]) HSRC.out (by simp [Ins.cells, iV, Value.oneCell']) (by unfold maxLen; have := HCL.out; omega) (by have := HCL.out; omega) HBS.out ((codN L i).length + 1) rfl _ HAPP.out ?_; intro A1 c1 w1 hown1 hgrow1 hat1; obtain ⟨q1, q2, q3⟩ := HV7.out.app_c HBD.out rfl hgrow1 hown1; have HQ2 := Lib.hid q2; have HQ3 := Lib.hid (q3 (Ext.refl _) _ HX7.out (Nat.le_refl _)); clear y0 y1 y2 y3 yl; obtain ⟨y0, y1, y2, y3, yl⟩ := Fn.o_cells q1; have hz7 := fun n => frozen_of_row w1 b7 n _ _ (show w1.heap[b7]? = some (.cells _ _ _) from q1); clear q1 q2 q3 hown1 hgrow1 hat1)
        generalize w1.setCell _ _ = w8 at *
        rw [← HE.out]
        have hgk := HGK.out
        have hcN : codN L (i + 1) = codN L i ++ [x] := by simp only [codN, HXE.out]
        go_roundg (gk - 1)
        case measure => omega
        case rel => exact ⟨i + 1, A2, c2, A1, c1, by omega, by go_num, HQ3.out, by rw [hcN]; exact HQ2.out⟩
    · have z0 : ¬ (i : Int) < (L.length : Int) := by omega
      have hii : i = L.length := by omega
      subst hii
      have HXQ := Lib.hid hx
      clear hx hv z0 hik hi
      go_upto_region 12 with (fail)
      obtain ⟨Wt, rfl⟩ : ∃ y, y = wq := ⟨_, rfl⟩
      obtain ⟨y0, y1, y2, y3, yl⟩ := Fn.o_cells HV.out.f
      have hb7 : (Wt.alloc retI.o).heap[Wt.heap.size]? = some retI.o := World.alloc_heap_new _ _
      have HSRC := Lib.hid (src_ins (c := 1) hb7)
      have HV7 := Lib.hid (HV.out.ext HBD.out (Ext.one Wt retI.o))
      have HX7 := Lib.hid (HXQ.out.trans (Ext.one Wt retI.o))
      have HCL := Lib.hid (codN_len L L.length)
      have HBS := Lib.hid (show W.heap.size + 8 ≤ (Wt.alloc retI.o).heap.size by rw [World.size_alloc]; have := HBD.out.h7; have := (Array.getElem?_eq_some_iff.1 HV.out.f).1; omega)
      have HAPP := Lib.hid (show (codN L L.length).flatMap Ins.cells ++ retI.cells = ((codN L L.length) ++ [retI]).flatMap Ins.cells by simp)
      clear hb7
      unfold F0 at y0 y1 y2 y3
      go_upto_region 13 with (at_builtin; refine wpList_append_any rfl _ _ 85 rfl (W.heap.size + 8) 77 i0 (.agg #[.int .i64 0, .int .i64 0, .int .i64 0, .int .i64 0, .int .i64 0, .slice none 0 0, .int .i64 0, .int .i64 0]) 8 80 Tryz.underlying85 hi0 hz0 hz1 hz2 rfl (by decide) (.slice Ac (codN L L.length).length cc) (codN L L.length).length _ rfl HV7.out.c (.slice (some ⟨Wt.heap.size, 0, none⟩) 1 1) 1 retI.cells rfl (by simp [Ins.cells]) HSRC.out (by simp [Ins.cells, retI, iV, Value.oneCell']) (by unfold maxLen; have := HCL.out; omega) (by have := HCL.out; omega) HBS.out ((codN L L.length).length + 1) rfl _ HAPP.out ?_; intro A1 c1 w1 hown1 hgrow1 hat1; obtain ⟨q1, q2, q3⟩ := HV7.out.app_c HBD.out rfl hgrow1 hown1; have HQ2 := Lib.hid q2; have HQ3 := Lib.hid (q3 (Ext.refl _) _ HX7.out (Nat.le_refl _)); clear y0 y1 y2 y3 yl; obtain ⟨y0, y1, y2, y3, yl⟩ := Fn.o_cells q1; have hz7 := fun n => frozen_of_row w1 b7 n _ _ (show w1.heap[b7]? = some (.cells _ _ _) from q1); clear q1 q2 q3 hown1 hgrow1 hat1)
      clear y0 y1 y2 y3 yl hz7
      generalize w1.setCell _ _ = w8 at *
      have HCC := Lib.hid (show (codN L L.length ++ [retI]).length = (codN L L.length).length + 1 by simp)
      obtain ⟨y0, y1, y2, y3, yl⟩ := Fn.o_cells HQ2.out.f
      obtain ⟨p0, p1, p2, p3, p4, p5, p6, p7, pl⟩ := Prg.o_cells HQ2.out.p
      have HIN := Lib.hid (fun w (k : Ext W w) => codN_in (rowN_mem (HROW.out.mono (k.kept _) fun _ => Ins.In.kept (k.kept _))))
      have HC8 := Lib.hid (show (codN L L.length ++ [retI]).length ≤ 100 by rw [HCC.out]; have := HCL.out; omega)
      have HS8 := Lib.hid (show (sitN L L.length).length ≤ 100 by have := sitN_len L L.length; omega)
      generalize hCe : codN L L.length ++ [retI] = C at *
      generalize hSe : sitN L L.length = S at *
      have HCE := Lib.hid hCe
      have HSE := Lib.hid hSe
      clear hCe hSe
      unfold F0 at y0 y1 y2 y3
      unfold P0 at p0 p1 p2 p3 p4 p5 p6 p7
      have hzp := fun n => frozen_of_row w8 b6 n _ _ (show w8.heap[b6]? = some (.cells _ _ _) from HQ2.out.p)
      go_upto_region 14 with (fail)
      have hp10 : (w8.setCell ⟨b6, 3, none⟩ (.slice (some ⟨w8.heap.size, 0, none⟩) 1 1)).heap[b6]? = some (P1 b1 b2 b3 b4 b5 w8.heap.size As cs S (F0 A1 c1 C)).o := by
        rw [heap_setCell_same w8 b6 3 _ _ _ HQ2.out.p]
        rfl
      have hf10 := Fin.put (o := (F0 A1 c1 C).o) (Fin.mk HQ2.out.b HQ2.out.p HQ2.out.s HQ2.out.c) HBD.out hp10
      change Code.wp _ _ _ _ ((w8.setCell ⟨b6, 3, none⟩ (.slice (some ⟨w8.heap.size, 0, none⟩) 1 1)).alloc (F0 A1 c1 C).o)
      have HLF := Lib.hid (show W.heap.size + 8 ≤ w8.heap.size by have := HBD.out.h7; have := (Array.getElem?_eq_some_iff.1 HQ2.out.f).1; omega)
      have HF := Lib.hid hf10
      have HX10 := Lib.hid (hf10.2.2.1 W HQ3.out (Nat.le_refl _))
      clear p0 p1 p2 p3 p4 p5 p6 p7 pl y0 y1 y2 y3 yl hzp hp10 hf10
      generalize w8.heap.size = bF at *
      generalize (w8.setCell _ _).alloc _ = w10 at *
      obtain ⟨p0, p1, p2, p3, p4, p5, p6, p7, pl⟩ := Prg.o_cells HF.out.1.p
      unfold P1 P0 at p0 p1 p2 p3 p4 p5 p6 p7
      have hzp := fun n => frozen_of_row w10 b6 n _ _ (show w10.heap[b6]? = some (.cells _ _ _) from HF.out.1.p)
      go_upto_region 15 with (fail)
      have hp12 : (w10.setCell ⟨b6, 5, none⟩ (.slice (some ⟨w10.heap.size, 0, none⟩) 1 1)).heap[b6]? = some (P2 b1 b2 b3 b4 b5 bF w10.heap.size As cs S (F0 A1 c1 C)).o := by
        rw [heap_setCell_same w10 b6 5 _ _ _ HF.out.1.p]
        rfl
      have hf12 := Fin.put (o := evtO) HF.out.1 HBD.out hp12
      have HG2 := Lib.hid (hf12.2.2.2 _ _ HLF.out HF.out.2.1)
      change Code.wp _ _ _ _ ((w10.setCell ⟨b6, 5, none⟩ (.slice (some ⟨w10.heap.size, 0, none⟩) 1 1)).alloc evtO)
      have HLE := Lib.hid (show W.heap.size + 8 ≤ w10.heap.size by have := HLF.out; have := (Array.getElem?_eq_some_iff.1 HF.out.2.1).1; omega)
      have HH := Lib.hid hf12
      have HX12 := Lib.hid (hf12.2.2.1 W HX10.out (Nat.le_refl _))
      clear p0 p1 p2 p3 p4 p5 p6 p7 pl hzp hp12 hf12
      generalize w10.heap.size = be at *
      generalize (w10.setCell _ _).alloc _ = w12 at *
      have h12 := Fin2.mk HH.out.1.b.h1 HH.out.1.b.h2 HH.out.1.b.h3 HH.out.1.b.h4 HH.out.1.b.h5 HG2.out HH.out.2.1 HH.out.1.s HH.out.1.c
      have H12 := Lib.hid h12
      clear h12
      obtain ⟨p0, p1, p2, p3, p4, p5, p6, p7, pl⟩ := Prg.o_cells HH.out.1.p
      have h0 := HH.out.1.b.h0
      have hz0 := fun m => frozen_of_row w12 W.heap.size m _ _ (show w12.heap[W.heap.size]? = some (.cells _ _ _) from h0)
      obtain ⟨n0, n1, n2, n3, n4, n5, n6, n7, nl⟩ := Prg.o_cells (P := dPrg) h0
      go_wp2_with fail
      change bodyPost _ _ _ _ _ (putP w12 W.heap.size (P2 b1 b2 b3 b4 b5 bF be As cs S (F0 A1 c1 C)))
      obtain ⟨q1, q2⟩ := putP_ok (P := P2 b1 b2 b3 b4 b5 bF be As cs S (F0 A1 c1 C)) h0
      have hx13 := ext_ne HX12.out q2 (Nat.le_refl _)
      have h13 := H12.out.keep HBD.out q2 (by have := HLF.out; omega) (by have := HLE.out; omega)
      clear p0 p1 p2 p3 p4 p5 p6 p7 pl n0 n1 n2 n3 n4 n5 n6 n7 nl h0 hz0 q2
      generalize putP _ _ _ = w13 at *
      have hin := h13.inP (HIN.out _ hx13) HC8.out HS8.out
      obtain ⟨p0, p1, p2, p3, p4, p5, p6, p7, pl⟩ := Prg.o_cells q1
      refine bodyPost_ret (v := (P2 b1 b2 b3 b4 b5 bF be As cs S (F0 A1 c1 C)).v) (by simp [results, Tryz.results23, go_sem, Prg.v, p0, p1, p2, p3, p4, p5, p6, p7]) rfl ⟨b1, b2, b3, b4, b5, bF, be, As, cs, A1, c1, _, ?_, rfl, hin, hx13⟩
      rw [HCE.out, HSE.out]
end Go.Proofs.YtiabhahmippiaaaGreatDoor
