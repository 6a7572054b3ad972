/- The chapter's rows, walked. -/
import Derived.Test.YtiabhahmippiaaaGreatDoorSwF
namespace Go.Proofs.YtiabhahmippiaaaGreatDoor
open Go.RowKit Go.Shelf
attribute [local go_sem] Oper.semAt_some
def oK : Obj := .cells ([iConst, iAdd, iGet].flatMap Ins.cells).toArray 77 (0, 0)
/-- A round of the two steps. -/
structure KS (bt g bf gr bc bh : Nat) (Q : Prg) (W3 : World) (k : Nat) (R : List Int) (w : World) : Prop where
  th : Th bt g bf gr bc ((0 : Nat) : Int) ((k : Nat) : Int) R 0 w
  ap : Apart bt g bf gr w
  hp : w.heap[bh]? = some heapo
  ex : Ext W3 w
theorem KS.ext {bt g bf gr bc bh : Nat} {Q : Prg} {W3 : World} {k : Nat} {R : List Int} {w w' : World} (h : KS bt g bf gr bc bh Q W3 k R w) (x : Ext w w') : KS bt g bf gr bc bh Q W3 k R w' := ⟨h.th.ext x, h.ap.ext x.size, (x.kept (fun _ _ => true)).same _ _ h.hp rfl, h.ex.trans x⟩
theorem KS.step {bt g bf gr bc bh : Nat} {Q : Prg} {W3 : World} {k : Nat} {R R' : List Int} {w w' : World} (h : KS bt g bf gr bc bh Q W3 k R w) (t : Th bt g bf gr bc ((0 : Nat) : Int) ((k : Int) + 1) R' 0 w') (kk : Kept (nF gr bf) w w') (h1 : W3.heap.size ≤ gr) (h2 : W3.heap.size ≤ bf) (h3 : bh ≠ gr) (h4 : bh ≠ bf) : KS bt g bf gr bc bh Q W3 (k + 1) R' w' :=
  ⟨t, h.ap.ext kk.size, kk.same _ _ h.hp (by simp [nF, h3, h4]), ext_nF h.ex kk h1 h2⟩
section
variable {bt g bf gr bc bh : Nat} {Q : Prg} {W3 w : World} {task it : Int}
theorem KS.const (h : KS bt g bf gr bc bh Q W3 0 [0, 0, 0, 0] w) (hc : Cod bc Q W3) (hi : 0 < Q.fns.length) (hl : ∃ hk : 0 < Q.fns[0].code.length, Ins.like ⟨1, 0, 0, 0, 7, none, 0, [], -1, 0⟩ Q.fns[0].code[0]) (h1 : W3.heap.size ≤ gr) (h2 : W3.heap.size ≤ bf) (h3 : bh ≠ gr) (h4 : bh ≠ bf) :
    Calls Tryz.prog 21 #[.pointer (some ⟨bt, 0, none⟩), .pointer (some ⟨bh, 0, none⟩), .int .i64 task, .int .i64 it] w fun e W' => e = .returned (.tuple #[zaskV, .int .i64 0]) ∧ KS bt g bf gr bc bh Q W3 1 [7, 0, 0, 0] W' := by
  obtain ⟨hk, l⟩ := hl
  have q := Step_const (bh := bh) (task := task) (it := it) (a := 0) h.th h.ap (hc.ext h.ex) hi hk rfl (by omega) l.1 l.2.1 (by decide)
  rw [l.2.2.2.2.1] at q
  exact q.mono fun e w' ⟨e1, t, kk⟩ => ⟨e1, h.step t kk h1 h2 h3 h4⟩
theorem KS.add (h : KS bt g bf gr bc bh Q W3 1 [7, 0, 0, 0] w) (hc : Cod bc Q W3) (hi : 0 < Q.fns.length) (hl : ∃ hk : 1 < Q.fns[0].code.length, Ins.like ⟨3, 0, 0, 0, 0, none, 0, [], -1, 0⟩ Q.fns[0].code[1]) (h1 : W3.heap.size ≤ gr) (h2 : W3.heap.size ≤ bf) (h3 : bh ≠ gr) (h4 : bh ≠ bf) :
    Calls Tryz.prog 21 #[.pointer (some ⟨bt, 0, none⟩), .pointer (some ⟨bh, 0, none⟩), .int .i64 task, .int .i64 it] w fun e W' => e = .returned (.tuple #[zaskV, .int .i64 0]) ∧ KS bt g bf gr bc bh Q W3 2 [14, 0, 0, 0] W' := by
  obtain ⟨hk, l⟩ := hl
  have q := Step_add (bh := bh) (task := task) (it := it) (a := 0) (b := 0) (c := 0) h.th h.ap (hc.ext h.ex) hi hk rfl (by omega) l.1 l.2.1 (by decide) l.2.2.1 (by decide) l.2.2.2.1 (by decide) (by decide)
  exact q.mono fun e w' ⟨e1, t, kk⟩ => ⟨e1, h.step t kk h1 h2 h3 h4⟩
theorem KS.get (h : KS bt g bf gr bc bh Q W3 2 [14, 0, 0, 0] w) (hc : Cod bc Q W3) (hi : 0 < Q.fns.length) (hl : ∃ hk : 2 < Q.fns[0].code.length, Ins.like ⟨12, 1, 0, 0, 0, none, 0, [], 0, 0⟩ Q.fns[0].code[2]) (h1 : W3.heap.size ≤ bt) :
    Calls Tryz.prog 21 #[.pointer (some ⟨bt, 0, none⟩), .pointer (some ⟨bh, 0, none⟩), .int .i64 task, .int .i64 it] w fun e W' => e = .returned (.tuple #[zaskV, .int .i64 0]) ∧ Th bt g bf gr bc ((0 : Nat) : Int) ((2 : Nat) : Int) [14, 0, 0, 0] 1 W' ∧ Ext W3 W' := by
  obtain ⟨hk, l⟩ := hl
  have q := Step_get (bh := bh) (task := task) (it := it) (b := 0) h.th h.ap h.hp (hc.ext h.ex) hi hk rfl (by omega) l.1 l.2.2.1 (by decide)
  exact q.mono fun e w' ⟨e1, t, kk⟩ => ⟨e1, t, ext_ne h.ex kk h1⟩
end
set_option maxHeartbeats 8000000 in
set_option maxRecDepth 100000 in
theorem known_ok {W : World} (hT : Tab W) : Calls Tryz.prog 8 #[] W fun e W' => e = .returned (.bool true) ∧ Ext W W' := by
  obtain ⟨W1, hW1⟩ : ∃ W1, W1 = W.alloc oK := ⟨_, rfl⟩
  have hx1 : Ext W W1 := by rw [hW1]; exact Ext.one _ _
  have hb1 : W1.heap[W.heap.size]? = some oK := by rw [hW1]; exact World.alloc_heap_new _ _
  have HS := Lib.hid (smallK W1 hb1)
  have HN := Lib.hid (fun (w : World) (k : Ext W1 w) (P : Prg) (hp : P.In w) (hg : GoodP P) (hL : NoL P) => New_ok ((hT.ext hx1).ext k) hp hg hL)
  have HX1 := Lib.hid hx1
  have HW := Lib.hid hW1
  clear hx1 hb1 hW1 hT
  go_enter Tryz.func8, Tryz.ntmps8
  go_upto_region 4 with (first
    | (go_at_call 23; (change Calls _ _ #[Value.slice (some ⟨W.heap.size, 0, none⟩) 3 3] (W.alloc oK) _); rw [← HW.out]; refine HS.out.mono ?_; rintro e w2 ⟨P, rfl, hin, hg, hL, hx2, F, hF, hca, hre, hco⟩; have HNW := Lib.hid (HN.out w2 hx2 P hin hg hL); have HX2 := Lib.hid (HX1.out.trans hx2); have HFF := Lib.hid (And.intro hF (And.intro hca (And.intro hre hco))); clear hin hg hL hx2 hF hca hre hco)
    | (go_at_call 9; refine HNW.out.mono ?_; rintro e w3 ⟨bc, Q, rfl, hcd, hlk, hx3, hbc⟩; have HCD := Lib.hid hcd; have HLK := Lib.hid hlk; have HX3 := Lib.hid (HX2.out.trans hx3); clear hcd hlk hx3 hbc))
  obtain ⟨hq1, h0, hfl⟩ := like_fn HLK.out HFF.out.1
  have hca : Q.fns[0].caps = 0 := hfl.2.1.trans HFF.out.2.1
  have hre : Q.fns[0].regs = ((4 : Nat) : Int) := hfl.2.2.1.trans HFF.out.2.2.1
  have HI0 := Lib.hid (like_ins hfl (k := 0) (by rw [HFF.out.2.2.2]; rfl))
  have HI1 := Lib.hid (like_ins hfl (k := 1) (by rw [HFF.out.2.2.2]; rfl))
  have HI2 := Lib.hid (like_ins hfl (k := 2) (by rw [HFF.out.2.2.2]; rfl))
  have HBG := Lib.hid (show Calls Tryz.prog 10 #[.pointer (some ⟨bc, 0, none⟩), .int .i64 0, .slice none 0 0] w3 _ from Begin_ok HCD.out h0 hca hre (by omega) none 0)
  have H0 := Lib.hid h0
  clear hq1 hfl hca hre
  go_upto_region 8 with (first
    | (go_at_call 10; refine HBG.out.mono ?_; rintro e w4 ⟨bt, g, bf, gr, rfl, ht, hx4, n1, n2, n3, n4, n5, n6, n7, n8, n9, n10⟩; have HTH := Lib.hid ht; have HX4 := Lib.hid hx4; have HNN := Lib.hid (And.intro n1 (And.intro n2 (And.intro n3 n4))); have HAP := Lib.hid (Apart.mk (own_lt ht.r gr rfl) n5 n6 n7 n8 n9 n10); clear ht hx4 n1 n2 n3 n4 n5 n6 n7 n8 n9 n10)
    | (go_at_call 12; refine (heapNew_ok _).mono ?_; rintro e w5 ⟨rfl, hh, hx5⟩; have HH := Lib.hid hh; have HX5 := Lib.hid hx5; clear hh hx5))
  have HBH := Lib.hid (show bt < w4.heap.size ∧ g < w4.heap.size ∧ bf < w4.heap.size ∧ gr < w4.heap.size from ⟨HTH.out.lt.1, HTH.out.lt.2.1, HTH.out.lt.2.2, HAP.out.lr⟩)
  have hks : KS bt g bf gr bc w4.heap.size Q w3 0 [0, 0, 0, 0] w5 := ⟨HTH.out.ext HX5.out, HAP.out.ext HX5.out.size, HH.out, HX4.out.trans HX5.out⟩
  generalize w4.heap.size = bh at *
  have HKS := Lib.hid hks
  have HC0 := Lib.hid (fun w (h : KS bt g bf gr bc bh Q w3 0 [0, 0, 0, 0] w) => h.const (task := 1) (it := 0) HCD.out h0 HI0.out HNN.out.2.2.2 HNN.out.2.2.1 (by have := HBH.out; omega) (by have := HBH.out; omega))
  have HC1 := Lib.hid (fun w (h : KS bt g bf gr bc bh Q w3 1 [7, 0, 0, 0] w) => h.add (task := 1) (it := 0) HCD.out h0 HI1.out HNN.out.2.2.2 HNN.out.2.2.1 (by have := HBH.out; omega) (by have := HBH.out; omega))
  have HC2 := Lib.hid (fun w (h : KS bt g bf gr bc bh Q w3 2 [14, 0, 0, 0] w) => h.get (task := 1) (it := 0) HCD.out h0 HI2.out HNN.out.1)
  clear hks HTH HH HX4 HX5
  go_upto_region 9 with (fail)
  go_loopg [6] 2 (fun k v6 wr => (k = 2 ∧ v6 = .int .i64 0 ∧ KS bt g bf gr bc bh Q w3 0 [0, 0, 0, 0] wr) ∨ (k = 1 ∧ v6 = .int .i64 1 ∧ KS bt g bf gr bc bh Q w3 1 [7, 0, 0, 0] wr) ∨ (k = 0 ∧ v6 = .int .i64 2 ∧ KS bt g bf gr bc bh Q w3 2 [14, 0, 0, 0] wr))
  case atStart => exact .inl ⟨rfl, rfl, HKS.out⟩
  case round =>
    clear HKS
    rcases hrel with ⟨rfl, rfl, hv⟩ | ⟨rfl, rfl, hv⟩ | ⟨rfl, rfl, hv⟩
    · have HV := Lib.hid (HC0.out _ hv)
      unfold zaskV at HV
      clear hv
      go_wp2_with (go_at_call 21; refine HV.out.mono ?_; rintro e w6 ⟨rfl, hv6⟩; have HV6 := Lib.hid hv6; clear hv6)
      have hv7 := HV6.out.ext (Ext.one w6 zask)
      go_roundg 1
      case measure => omega
      case rel => exact .inr (.inl ⟨rfl, rfl, hv7⟩)
    · have HV := Lib.hid (HC1.out _ hv)
      unfold zaskV at HV
      clear hv
      go_wp2_with (go_at_call 21; refine HV.out.mono ?_; rintro e w6 ⟨rfl, hv6⟩; have HV6 := Lib.hid hv6; clear hv6)
      have hv7 := HV6.out.ext (Ext.one w6 zask)
      go_roundg 0
      case measure => omega
      case rel => exact .inr (.inr ⟨rfl, rfl, hv7⟩)
    · have HV := Lib.hid hv
      have HF := Lib.hid (Frames_th hv.th (by decide))
      clear hv
      unfold zaskV at HC2
      go_upto_region 17 with (go_at_call 27; refine HF.out.mono ?_; rintro e w6 ⟨b, A, c, rfl, hb6, hr6, hx6⟩; have HS2 := Lib.hid (HC2.out _ (HV.out.ext hx6)); obtain ⟨d0, d1, d2, dl⟩ := frmo_cells hb6; obtain ⟨q, c', e1, e2, ql⟩ := own1_cell hr6 (i := 0) (by decide); cases e1; replace e2 : w6.cell? ⟨q, 0, none⟩ = some (.int .i64 14) := e2; replace d1 : w6.cell? ⟨b, 1, none⟩ = some (.int .i64 2) := d1; replace d2 : w6.cell? ⟨b, 2, none⟩ = some (.slice (some ⟨q, 0, none⟩) 4 c) := d2; clear hb6 hr6 hx6)
      go_upto_region 18 with (go_at_call 21; refine HS2.out.mono ?_; rintro e w7 ⟨rfl, ht7, hx7⟩; have HO7 := Lib.hid (fun w (k : Ext w7 w) => show Calls Tryz.prog 24 #[.pointer (some ⟨bt, 0, none⟩)] w (fun e W' => e = .returned (.bool true) ∧ W' = w) from Over_th (ht7.ext k)); have HT7 := Lib.hid (fun w (k : Ext w7 w) => Trap_th (ht7.ext k)); have HX7 := Lib.hid hx7; clear ht7 hx7)
      go_wp2_with (first
        | (go_at_call 24; refine (HO7.out _ (Ext.one _ _)).mono ?_; rintro e w8 ⟨rfl, hw⟩; rw [hw]; clear hw)
        | (go_at_call 25; refine (HT7.out _ (Ext.one _ _)).mono ?_; rintro e w8 ⟨rfl, hw⟩; rw [hw]; clear hw))
      go_ret
      exact ⟨rfl, HX3.out.trans (HX7.out.trans (Ext.one _ _))⟩
end Go.Proofs.YtiabhahmippiaaaGreatDoor
