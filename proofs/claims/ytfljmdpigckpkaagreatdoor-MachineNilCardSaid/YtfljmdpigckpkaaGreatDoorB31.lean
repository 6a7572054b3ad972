/- The first task of a new machine: add. Written by genMcT.py. -/
import Derived.Test.YtfljmdpigckpkaaGreatDoorB30
import Derived.Test.YtfljmdpigckpkaaGreatDoorB09
import Derived.Test.YtfljmdpigckpkaaGreatDoorB12
namespace Go.Proofs.YtfljmdpigckpkaaGreatDoor
open Go.RowKit Go.Shelf
attribute [local go_sem] Oper.semAt_some
def tbx (st : Int) : Obj := .cells #[.int .i64 1, .int .i64 0, .int .i64 0, .int .i64 0, .int .i64 0, .int .i64 0, .int .i64 0, .bool false, .int .i64 0, .int .i64 0, .int .i64 0, .int .i64 st, .int .i64 0, .int .i64 (-1), .int .i64 0] 118 (0, 0)
def tav (st : Int) : Value := .agg #[.int .i64 1, .int .i64 0, .int .i64 0, .int .i64 0, .int .i64 0, .int .i64 0, .int .i64 0, .bool false, .int .i64 0, .int .i64 0, .int .i64 0, .int .i64 st, .int .i64 0, .int .i64 (-1), .int .i64 0]
theorem tbx_cells {w : World} {b : Nat} {st : Int} (h : w.heap[b]? = some (tbx st)) : w.cell? ⟨b, 0, none⟩ = some (.int .i64 1) ∧ w.cell? ⟨b, 1, none⟩ = some (.int .i64 0) ∧ w.cell? ⟨b, 2, none⟩ = some (.int .i64 0) ∧ w.cell? ⟨b, 3, none⟩ = some (.int .i64 0) ∧ w.cell? ⟨b, 4, none⟩ = some (.int .i64 0) ∧ w.cell? ⟨b, 5, none⟩ = some (.int .i64 0) ∧ w.cell? ⟨b, 6, none⟩ = some (.int .i64 0) ∧ w.cell? ⟨b, 7, none⟩ = some (.bool false) ∧ w.cell? ⟨b, 8, none⟩ = some (.int .i64 0) ∧ w.cell? ⟨b, 9, none⟩ = some (.int .i64 0) ∧ w.cell? ⟨b, 10, none⟩ = some (.int .i64 0) ∧ w.cell? ⟨b, 11, none⟩ = some (.int .i64 st) ∧ w.cell? ⟨b, 12, none⟩ = some (.int .i64 0) ∧ w.cell? ⟨b, 13, none⟩ = some (.int .i64 (-1)) ∧ w.cell? ⟨b, 14, none⟩ = some (.int .i64 0) ∧ b < w.heap.size ∧ ∀ n, w.frozen? ⟨b, n, none⟩ = false := by
  refine ⟨?_, ?_, ?_, ?_, ?_, ?_, ?_, ?_, ?_, ?_, ?_, ?_, ?_, ?_, ?_, (Array.getElem?_eq_some_iff.1 h).1, fun n => frozen_of_row w b n _ _ h⟩
  all_goals simp [World.cell?, h, tbx]
theorem own_at {W : World} {B : Nat} {e : TypeId} {size : Nat} {A : Option Addr} {c n : Nat} {xs : List Value} (h : W.ownsRow B e size (.slice A n c) n xs) (hn : 0 < n) : ∃ g, A = some ⟨g, 0, none⟩ := by
  rcases h.2 with ⟨h1, h0⟩ | ⟨g, cap, _, h1, _⟩
  · injection h1 with h1 h2 h3; omega
  · injection h1 with h1 h2 h3; exact ⟨g, h1⟩
theorem LP.other {W2 w6 w w' : World} {bm bc bd bh gG : Nat} {R : Prg} {lv tu mlp : Value} {ls : List (Nat × Nat)} {A : Option Addr} {c x : Nat} {o : Obj} (h : LP W2 w6 bm bc bd bh gG R lv tu mlp ls A c w) (hx : w.heap[x]? = some o) (ht : tag o = some 118) (k : Kept (ne' x) w w') (h6 : w6.heap.size ≤ x) : LP W2 w6 bm bc bd bh gG R lv tu mlp ls A c w' :=
  ⟨h.n.other k h6 (tags_ne h.n.m hx (by rw [MV.tag, ht]; decide)), row_of k hx h.g (by rw [ht]; decide), row_of k hx h.r (by rw [ht]; decide), fun y hy => ⟨same_of k hx (h.o y hy).1 (by rw [LV.tag, ht]; decide), same_of k hx (h.o y hy).2.1 (by rw [ht]; decide), (h.o y hy).2.2⟩, h.d⟩
/-- The thread that began, as it lies. -/
def ThB (W : World) (bc bt : Nat) (w : World) : Prop := ∃ g bf gr, Th bt g bf gr bc 0 0 (List.replicate 4 0) 0 w ∧ W.heap.size ≤ bt ∧ W.heap.size ≤ g ∧ W.heap.size ≤ bf ∧ W.heap.size ≤ gr ∧ bt ≠ g ∧ bf ≠ g ∧ bf ≠ bt ∧ gr ≠ bt ∧ gr ≠ g ∧ gr ≠ bf
theorem ThB.ext {W w w' : World} {bc bt : Nat} (h : ThB W bc bt w) (k : Ext w w') : ThB W bc bt w' := by
  obtain ⟨g, bf, gr, h1, h2⟩ := h
  exact ⟨g, bf, gr, h1.ext k, h2⟩
theorem ThB.other {W w w' : World} {bc bt x : Nat} {o : Obj} (h : ThB W bc bt w) (hx : w.heap[x]? = some o) (ht : tag o = some 118) (k : Kept (ne' x) w w') : ThB W bc bt w' := by
  obtain ⟨g, bf, gr, h1, h2⟩ := h
  exact ⟨g, bf, gr, th_of k hx (by rw [ht]; decide) h1, h2⟩
def tk1 (bt : Nat) : TV := ⟨1, 0, 0, 0, 0, 0, 0, false, 0, 0, 0, 1, 0, -1, 0, .pointer (some ⟨bt, 0, none⟩)⟩
/-- The machine with its task, ahead of the queue. -/
theorem made_ok {W2 w6 w W0 : World} {bm bc bd bh gG l0 l1 q0 q1 b1 bt c c2 : Nat} {Q R : Prg} {lv tu : Value} {A A2 : Option Addr} (h : LP W2 w6 bm bc bd bh gG R lv tu (.slice A 2 c) [(l0, q0), (l1, q1)] A c w) (hnx : NX W2 bc bd bh Q R w6) (hT : ThB W0 bc bt w) (h06 : w6.heap.size ≤ W0.heap.size) (hG0 : gG < W0.heap.size) (ho : w.ownsRow w6.heap.size 113 1 (.slice A2 1 c2) 1 [.pointer (some ⟨b1, 0, none⟩)]) (ht : w.heap[b1]? = some (tk1 bt).o) (hb1 : w6.heap.size ≤ b1) :
    ∃ gT gL g bf gr, A = some ⟨gL, 0, none⟩ ∧ MA W2 ⟨bm, bc, bd, bh, gG, 1, gT, c2, gL, c, b1, bt, g, bf, gr, l0, l1, q0, q1, R, lv, tu⟩ ⟨1, 0, .pointer (some ⟨bt, 0, none⟩), [0], 0, [], [], [], 0, false, some (0, [0, 0, 0, 0])⟩ (w.setCell ⟨bm, 15, none⟩ (.slice A2 1 c2)) ∧ Ext w6 (w.setCell ⟨bm, 15, none⟩ (.slice A2 1 c2)) ∧ QQ.QV (newQ q0) q0 [] 0 (w.setCell ⟨bm, 15, none⟩ (.slice A2 1 c2)) ∧ QQ.QV (newQ q1) q1 [] 0 (w.setCell ⟨bm, 15, none⟩ (.slice A2 1 c2)) ∧ (∀ b, newQ q0 b = true → newQ q1 b = false ∧ b ≠ bd ∧ W2.heap.size ≤ b) ∧ ∀ b, newQ q1 b = true → b ≠ bd := by
  obtain ⟨g, bf, gr, t1, t2, t3, t4, t5, t6, t7, t8, t9, t10, t11⟩ := hT
  obtain ⟨gL, rfl⟩ := own_at h.r (by simp)
  obtain ⟨gT, rfl⟩ := own_at ho (by decide)
  have h26 := hnx.x3.size
  have k := Kept.one bm w 15 (.slice (some ⟨gT, 0, none⟩) 1 c2)
  have hm := h.n.m
  have hn := h.n.set (MV.set_tasks h.n.m (.slice (some ⟨gT, 0, none⟩) 1 c2))
  obtain ⟨a1, a2, a3, a4⟩ := h.o (l0, q0) (by simp)
  obtain ⟨e1, e2, e3, e4⟩ := h.o (l1, q1) (by simp)
  dsimp only at a1 a2 a3 a4 e1 e2 e3 e4
  have kx := hn.x.kept (fun _ _ => true)
  have hd := kx.same _ _ hnx.d rfl
  have u2 := same_of k hm a2 (by rw [MV.tag]; decide)
  have v2 := same_of k hm e2 (by rw [MV.tag]; decide)
  have hq0 : q0 ≠ bd := tags_ne u2 hd (by decide)
  have hq1 : q1 ≠ bd := tags_ne v2 hd (by decide)
  have hqq : q0 ≠ q1 := by have := h.d.2; simpa using this
  have hll : l0 ≠ l1 := by have := h.d.1; simpa using this
  have z1 := newQV u2
  have z2 := newQV v2
  have z3 : ∀ b, newQ q0 b = true → newQ q1 b = false ∧ b ≠ bd ∧ W2.heap.size ≤ b := fun b hb => by
    have e : b = q0 := by simpa [newQ] using hb
    subst e
    exact ⟨by simp [newQ, hqq], hq0, Nat.le_trans h26 a4⟩
  have z4 : ∀ b, newQ q1 b = true → b ≠ bd := fun b hb => by
    have e : b = q1 := by simpa [newQ] using hb
    subst e
    exact hq1
  have hth := th_of k hm (by rw [MV.tag]; decide) t1
  have hrl := own_lt t1.r gr rfl
  refine ⟨gT, gL, g, bf, gr, rfl, ⟨hnx.x3.trans hn.x, ⟨.slice none 0 0, .slice none 0 0, hn.m, World.ownsRow_nil _ _ _ _, World.ownsRow_nil _ _ _ _, by simp [Value.ownBlock]⟩, hd, kx.same _ _ hnx.h rfl, row_of k hm h.g (by rw [MV.tag]; decide), own_low h26 (row_of k hm ho (by rw [MV.tag]; decide)), same_of k hm ht (by rw [MV.tag, TV.tag]; decide), own_low h26 (row_of k hm h.r (by rw [MV.tag]; decide)), same_of k hm a1 (by rw [MV.tag, LV.tag]; decide), same_of k hm e1 (by rw [MV.tag, LV.tag]; decide), ⟨newQ q0, newQ q1, 0, 0, z1, z2, z3, z4⟩, by intro x hx; simp at hx, ⟨Nat.le_trans h26 h.n.lo, Nat.le_trans h26 hb1, Nat.le_trans h26 a3⟩, ⟨hll, ?_⟩, fun k' R' hk' => ?_⟩, hn.x, z1, z2, z3, z4⟩
  · show gG ≠ gr
    omega
  · simp only [Option.some.injEq, Prod.mk.injEq] at hk'
    obtain ⟨rfl, rfl⟩ := hk'
    refine ⟨hth, ⟨Nat.lt_of_lt_of_le hrl k.size, ?_, ?_, ?_, ?_, ?_, ?_⟩, ?_⟩
    all_goals first | assumption | (show _ ≠ _; intro e; simp_all) | (dsimp only; omega)
theorem infoTk : (Tryz.prog.info? 113).map (fun i => (i.zero, i.size, i.bytes)) = some (some (.pointer none), 1, 8) := by kernel_rfl

section
variable {W2 w6 w w' : World} {bm bc bd bh gG l0 l1 q0 q1 : Nat} {Q R : Prg} {lv tu mlp : Value} {A : Option Addr} {c : Nat}
set_option maxRecDepth 100000
set_option maxHeartbeats 4000000
theorem add_m (h : LP W2 w6 bm bc bd bh gG R lv tu (.slice A 2 c) [(l0, q0), (l1, q1)] A c w) (hrl : R.glbs.length = 1 ∧ R.evts.length = 1 ∧ R.loops.length = 2 ∧ R.main = 0) (hnx : NX W2 bc bd bh Q R w6) (hfn : 0 < Q.fns.length) (hca : Q.fns[0].caps = 0) (hre : Q.fns[0].regs = 4) :
    Calls Tryz.prog 60 #[.pointer (some ⟨bm, 0, none⟩), tav 0, .slice none 0 0] w fun e w' => e = .returned (.tuple #[.int .i64 1, .int .i64 0]) ∧ Ext w6 w' ∧ ∃ L : Lay, L.bm = bm ∧ L.bc = bc ∧ MA W2 L ⟨1, 0, .pointer (some ⟨L.bt, 0, none⟩), [0], 0, [⟨1, false, 0, 0⟩], [], [], 0, false, some (0, [0, 0, 0, 0])⟩ w' := by
  have HRL := Lib.hid hrl
  have HNX := Lib.hid hnx
  have HB := Lib.hid (fun (w' : World) (k : Ext w6 w') => Begin_ok (hnx.c.ext k) hfn hca hre (by decide) none 0)
  have hx1 : Ext w (w.alloc (tbx 0)) := Ext.one _ _
  have hb1 : (w.alloc (tbx 0)).heap[w.heap.size]? = some (tbx 0) := World.alloc_heap_new _ _
  have HLP := Lib.hid (h.ext hx1)
  have HX6 := Lib.hid h.n.x
  have HB1 := Lib.hid hb1
  have HLW := Lib.hid (show gG < w.heap.size ∧ w6.heap.size ≤ q0 from ⟨own_lt h.g gG rfl, (h.o (l0, q0) (by simp)).2.2.2⟩)
  clear hrl hnx hfn hca hre h hx1 hb1
  unfold tav
  go_enter Tryz.func60, Tryz.ntmps60
  go_upto_region 1 with (fail)
  change Code.wp _ _ _ _ (w.alloc (tbx 0))
  have hsz : w.heap.size ≤ (w.alloc (tbx 0)).heap.size := by simp
  generalize hbk : w.heap.size = bk at *
  generalize w.alloc (tbx 0) = w1 at *
  obtain ⟨x0, -, -, -, -, -, -, -, -, -, -, -, xl, xz⟩ := mvn_cells HLP.out.n.m HRL.out
  obtain ⟨-, -, -, y3, -, -, -, -, -, -, -, -, -, -, -, yl, -⟩ := tbx_cells HB1.out
  go_region_held3 (fun w' => w'.cell? ⟨bm, 0, none⟩ = some (.pointer (some ⟨bc, 0, none⟩)) ∧ w'.cell? ⟨bk, 3, none⟩ = some (.int .i64 0)) (first | go_keep | with_reducible exact ⟨x0, y3⟩ | with_reducible exact ⟨z0, z3⟩) (first
    | (go_at_call 112; refine (HB.out _ (HLP.out.n.x.trans (Ext.drew _))).mono ?_; rintro e w5 ⟨bt, g, bf, gr, rfl, ht, hx5, b1, b2, b3, b4, b5⟩; have hx15 := (Ext.drew w1).trans hx5; have HLP2 := Lib.hid (HLP.out.ext hx15); have HB2 := Lib.hid ((hx15.kept (fun _ _ => true)).same _ _ HB1.out rfl); have HT := Lib.hid (show ThB w1 bc bt w5 from ⟨g, bf, gr, ht, b1, b2, b3, b4, b5⟩); clear ht hx5 b1 b2 b3 b4 b5 hx15; obtain ⟨z0, -⟩ := mvn_cells HLP2.out.n.m HRL.out; obtain ⟨-, -, -, z3, -⟩ := tbx_cells HB2.out))
  rename_i hh
  clear hh x0 xl xz y3 yl z0 z3 HLP HB1 HB
  obtain ⟨x0, x1, x3, x5, x6, x7, x11, x13, x14, x15, x16, x18, xl, xz⟩ := mvn_cells HLP2.out.n.m HRL.out
  obtain ⟨y0, y1, y2, y3, y4, y5, y6, y7, y8, y9, y10, y11, y12, y13, y14, yl, yz⟩ := tbx_cells HB2.out
  go_upto_region 7 with (fail)
  go_rounds 1
  have hw0 : IntKind.i64.wrap 0 = 0 := rfl
  clear x0 x1 x3 x5 x6 x7 x11 x13 x14 x15 x16 y0 y1 y2 y3 y4 y5 y6 y7 y10 y12 y13 y14
  go_region
  obtain ⟨k7, b7⟩ : Kept (ne' bk) w5 ((w5.setCell ⟨bk, 11, none⟩ (.int .i64 1)).setCell ⟨bk, 9, none⟩ (.int .i64 0)).drew ∧ ((w5.setCell ⟨bk, 11, none⟩ (.int .i64 1)).setCell ⟨bk, 9, none⟩ (.int .i64 0)).drew.heap[bk]? = some (tbx 1) := by
    refine ⟨((Kept.one bk w5 11 _).trans (Kept.one bk _ 9 _)).trans ((Ext.drew _).kept _), ?_⟩
    have q1 := heap_setCell_same w5 bk 11 _ _ (.int .i64 1) HB2.out
    have q2 := heap_setCell_same _ bk 9 _ _ (.int .i64 0) q1
    exact q2
  have h6k : w6.heap.size ≤ bk := Nat.le_trans HX6.out.size (Nat.le_of_eq hbk)
  have HLP7 := Lib.hid (HLP2.out.other HB2.out rfl k7 h6k)
  have HB7 := Lib.hid b7
  have HT7 := Lib.hid (HT.out.other HB2.out rfl k7)
  have hsz7 : w.heap.size ≤ w5.heap.size := by have := (Array.getElem?_eq_some_iff.1 HB2.out).1; omega
  have hsz8 := Nat.le_trans hsz7 k7.size
  clear k7 b7 HLP2 HB2 HT x18 xl xz y8 y9 y11 yl yz hsz7 hw0
  generalize ((w5.setCell ⟨bk, 11, none⟩ (.int .i64 1)).setCell ⟨bk, 9, none⟩ (.int .i64 0)).drew = w7 at *
  go_upto_region 15 with (fail)
  obtain ⟨x0, x1, x3, x5, x6, x7, x11, x13, x14, x15, x16, x18, xl, xz⟩ := mvn_cells HLP7.out.n.m HRL.out
  obtain ⟨y0, y1, y2, y3, y4, y5, y6, y7, y8, y9, y10, y11, y12, y13, y14, yl, yz⟩ := tbx_cells HB7.out
  clear x0 x1 x3 x5 x6 x7 x11 x13 x14 x16 x18
  obtain ⟨i0, hi0, hz0, hz1, hz2⟩ := infoParts infoTk
  have HM6 := Lib.hid HLP7.out.n.x.size
  have hm8 : ∀ w8, ((w7.alloc (tk1 bt).o).alloc (.cells #[.pointer (some ⟨w7.heap.size, 0, none⟩)] 113)).drew.grownBy w8 none → Ext w7 w8 ∧ w8.heap[w7.heap.size]? = some (tk1 bt).o := fun w8 hg => by
    have h1 : Ext w7 ((w7.alloc (tk1 bt).o).alloc (.cells #[.pointer (some ⟨w7.heap.size, 0, none⟩)] 113)).drew := (Ext.two _ _ _).trans (Ext.drew _)
    have h2 : ((w7.alloc (tk1 bt).o).alloc (.cells #[.pointer (some ⟨w7.heap.size, 0, none⟩)] 113)).drew.heap[w7.heap.size]? = some (tk1 bt).o := (Below.heap_alloc _ _ _ (by simp)).trans (World.alloc_heap_new _ _)
    have h3 := grown_ext (Ext.refl _) hg (by intro b hb; cases hb)
    exact ⟨h1.trans h3, (h3.kept (fun _ _ => true)).same _ _ h2 rfl⟩
  have HM := Lib.hid hm8
  clear hm8
  go_region_law (
    (refine step_append_any (by rfl) _ _ _ (by rfl) w6.heap.size 113 i0 (.pointer none) 1 8 Tryz.underlying67 hi0 hz0 hz1 hz2 rfl (by omega) (.slice none 0 0) 0 [] (by rfl) (World.ownsRow_nil _ _ _ _) (.slice (some ⟨w7.heap.size + 1, 0, none⟩) 1 1) 1 [.pointer (some ⟨w7.heap.size, 0, none⟩)] (by rfl) (by rfl) (src_one (t := 113) (by have := heap_alloc_new (w7.drew.alloc (tk1 bt).o) (.cells #[.pointer (some ⟨w7.heap.size, 0, none⟩)] 113); rwa [World.size_alloc] at this)) (by simp [Value.oneCell']) (by unfold maxLen; omega) (by omega) (by have := HM6.out; simp; omega) 1 rfl [.pointer (some ⟨w7.heap.size, 0, none⟩)] (by simp) ?_; intro A2 c2 w8 hown8 hgrow8 hat8; obtain ⟨hx8, ht8⟩ := HM.out _ hgrow8; have HX8 := Lib.hid hx8; have HLP8 := Lib.hid (HLP7.out.ext hx8); have HT8 := Lib.hid (HT7.out.ext hx8); have HO8 := Lib.hid hown8; have HK8 := Lib.hid ht8; clear hown8 hgrow8 hat8 ht8 hx8; obtain ⟨-, -, -, -, -, -, -, -, -, z15, -, -, zl, zz⟩ := mvn_cells HLP8.out.n.m HRL.out))
  all_goals
    have hsw : bk ≤ w1.heap.size := hsz
    have hg0 := HLW.out.1
    have h60 := HX6.out.size
    have h67 := HM6.out
    have hb9 : bk ≠ bm := (tags_ne HLP7.out.n.m HB7.out (by rw [MV.tag]; decide)).symm
    have hB9 : (w8.setCell ⟨bm, 15, none⟩ (.slice A2 1 c2)).heap[bk]? = some (tbx 1) := (Kept.one bm w8 15 _).same _ _ ((HX8.out.kept (fun _ _ => true)).same _ _ HB7.out rfl) (by simp [ne', hb9])
    obtain ⟨gT, gL, g', bf', gr', rfl, hma, hx9, z1, z2, z3, z4⟩ := made_ok HLP8.out HNX.out HT8.out (by omega) (by omega) HO8.out HK8.out h67
    have HMA := Lib.hid hma
    have HX9 := Lib.hid hx9
    have HB9 := Lib.hid hB9
    have HZ := Lib.hid (And.intro z1 (And.intro z2 (And.intro z3 z4)))
    have HQ6 := Lib.hid HLW.out.2
    clear hsw hg0 h60 h67 hb9 hB9 hma hx9 z1 z2 z3 z4 z15 zl zz HLP8 HT8 HO8 HK8 HX8 HLP7 HB7 HT7 HM HM6 y0 y1 y2 y3 y4 y5 y6 y7 y8 y9 y10 y11 y12 y13 y14 yl yz x15 xl xz hi0 hz0 hz1 hz2
    generalize w8.setCell ⟨bm, 15, none⟩ (.slice A2 1 c2) = w9 at *
    obtain ⟨lv9, mv9, m9, _⟩ := HMA.out.m
    obtain ⟨c0, c9, c10, c11, c12, c15, c16, c17, c18, c19, c20, cl, cz⟩ := mv_cells m9
    have cp := HMA.out.loop0
    obtain ⟨p0, p1, pl, pz⟩ := LV.cells HMA.out.l0
    obtain ⟨y0, y1, y2, y3, y4, y5, y6, y7, y8, y9, y10, y11, y12, y13, y14, yl, yz⟩ := tbx_cells HB9.out
    dsimp only at c0 c9 c10 c11 c12 c15 c16 c17 c18 c19 c20 cl cz cp p0 p1 pl pz
    have HPUT := Lib.hid (fun w' (k : Ext w9 w') => QQ.Put_new (HZ.out.1.ext (extDn k)) 1 0 false (by omega) (by decide) (by omega) rfl (by simp) ⟨by omega, by omega⟩)
    clear m9
    go_upto_region 18 with (fail)
    go_still_tail 17, (by kernel_rfl)
    go_wp2_with (go_at_call 114; refine (HPUT.out _ (Ext.drew w9)).mono ?_; rintro e w10 ⟨rfl, own', l', r1, r2, r3, r4⟩; have HPU := Lib.hid (And.intro r1 (And.intro r2 (And.intro r3 r4))); clear r1 r2 r3 r4 c0 c9 c10 c11 c12 c15 c16 c17 c18 c19 c20 cl cz cp p0 p1 pl pz y0 y1 y2 y3 y4 y5 y6 y7 y8 y9 y10 y11 y12 y13 y14 yl yz)
    go_ret2
    obtain ⟨r1, r2, r3, r4⟩ := HPU.out
    obtain rfl : l' = [⟨1, false, 0, 0⟩] := List.perm_singleton.1 (by simpa using r2)
    obtain ⟨z1, z2, z3, z4⟩ := HZ.out
    have hd := extDn (Ext.drew w9)
    refine ⟨rfl, Kept.trans (HX9.out.trans (Ext.drew w9)) ((keptUp r3).mono fun b t _ hp => ?_), _, ?_, ?_, (HMA.out.ext (Ext.drew w9)).setQ (z1.ext hd) (z2.ext hd) z3 z4 r3 r1 r4 (by intro x hx y hy _ _; simp at hx hy; rw [hx, hy])⟩
    · have := HQ6.out
      simp only [pOld, decide_eq_true_eq] at hp
      simp only [QQ.pQ, newQ, Bool.not_eq_true', beq_eq_false_iff_ne]
      omega
    · rfl
    · rfl
end
end Go.Proofs.YtfljmdpigckpkaaGreatDoor
