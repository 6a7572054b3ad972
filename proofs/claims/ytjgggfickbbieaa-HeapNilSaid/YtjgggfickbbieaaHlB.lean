/- The law's do: Make, Get. -/
import Derived.Test.YtjgggfickbbieaaHlA
namespace Go.Proofs.Ytjgggfickbbieaa
open Go.RowKit Go.Shelf
attribute [local go_sem] Oper.semAt_some
/-- An act. -/
structure ActD where
  k : Int
  wh : Int
  of : Int
  sz : Int
  si : Int
  by' : Int
  id : Int
  at' : Int
  n : Int
  A : Option Addr
  m : Nat
  c : Nat
def ActD.cells (a : ActD) : List Value := [.int .i64 a.k, .int .i64 a.wh, .int .i64 a.of, .int .i64 a.sz, .int .i64 a.si, .int .i64 a.by', .int .i64 a.id, .int .i64 a.at', .int .i64 a.n, .slice a.A a.m a.c]
def acto (a : ActD) : Obj := .cells #[.int .i64 a.k, .int .i64 a.wh, .int .i64 a.of, .int .i64 a.sz, .int .i64 a.si, .int .i64 a.by', .int .i64 a.id, .int .i64 a.at', .int .i64 a.n, .slice a.A a.m a.c] 35 (0, 0)
structure ActC (b : Nat) (a : ActD) (W : World) : Prop where
  x0 : W.cell? ⟨b, 0, none⟩ = some (.int .i64 a.k)
  x1 : W.cell? ⟨b, 1, none⟩ = some (.int .i64 a.wh)
  x2 : W.cell? ⟨b, 2, none⟩ = some (.int .i64 a.of)
  x3 : W.cell? ⟨b, 3, none⟩ = some (.int .i64 a.sz)
  x4 : W.cell? ⟨b, 4, none⟩ = some (.int .i64 a.si)
  x5 : W.cell? ⟨b, 5, none⟩ = some (.int .i64 a.by')
  x6 : W.cell? ⟨b, 6, none⟩ = some (.int .i64 a.id)
  x7 : W.cell? ⟨b, 7, none⟩ = some (.int .i64 a.at')
  x8 : W.cell? ⟨b, 8, none⟩ = some (.int .i64 a.n)
  x9 : W.cell? ⟨b, 9, none⟩ = some (.slice a.A a.m a.c)
  lt : b < W.heap.size
theorem acto_cells {W : World} {b : Nat} {a : ActD} (h : W.heap[b]? = some (acto a)) : ActC b a W := by
  constructor
  all_goals first | exact (Array.getElem?_eq_some_iff.1 h).1 | simp [World.cell?, h, acto]
section
variable {oP oR : Nat → Bool} {bh bw : Nat} {ps : List Nat} {L M : List Ob} {W : World}
def argsD (bh bw : Nat) (a : ActD) : Array Value := #[.pointer (some ⟨bh, 0, none⟩), .pointer (some ⟨bw, 0, none⟩), .agg #[.int .i64 a.k, .int .i64 a.wh, .int .i64 a.of, .int .i64 a.sz, .int .i64 a.si, .int .i64 a.by', .int .i64 a.id, .int .i64 a.at', .int .i64 a.n, .slice a.A a.m a.c]]
set_option maxHeartbeats 4000000 in
set_option maxRecDepth 100000 in
theorem do_make (h : Both oP oR bh bw ps L M W) (a : ActD) (hk : a.k = 1) (hwf : (Lit.int .i64 a.by').wf = true) :
    Calls Try.prog 10 (argsD bh bw a) W fun e W' => e = .returned (.bool true) ∧ Next2 oP oR bh bw W W' := by
  unfold argsD
  obtain ⟨k, wh, oo, sz, si, bb, id, aa, n, A, m, c⟩ := a
  dsimp only at hk hwf ⊢
  subst hk
  obtain ⟨a, ha⟩ : ∃ a : ActD, a = ⟨1, wh, oo, sz, si, bb, id, aa, n, A, m, c⟩ := ⟨_, rfl⟩
  obtain ⟨W1, hW1⟩ : ∃ W1, W1 = W.alloc (acto a) := ⟨_, rfl⟩
  have hE1 : Ext W W1 := by rw [hW1]; exact Ext.one _ _
  have hr1 : W1.heap[W.heap.size]? = some (acto a) := by rw [hW1]; exact World.alloc_heap_new _ _
  have h1 := h.ext hE1
  obtain ⟨x0, x1, x2, x3, x4, x5, _, _, _, _, xl⟩ := acto_cells hr1
  rw [ha] at x0 x1 x2 x3 x4 x5
  have hno : oP W.heap.size = false := h.p.fresh (Nat.le_refl _)
  have HMK := Lib.hid (Make_all h1.p wh oo sz si bb hwf)
  have HRF := Lib.hid (fun (w : World) (hw : RH oR bw M w) => refMake_all hw wh oo sz si bb)
  rw [← key_len h.key, ← mkK_eq h.key] at HRF
  obtain ⟨z, hz⟩ : ∃ z, z = (mkR L.length wh sz).1 := ⟨_, rfl⟩
  obtain ⟨r, hr⟩ : ∃ r, r = (mkR L.length wh sz).2 := ⟨_, rfl⟩
  rw [← hz, ← hr] at HMK HRF
  have HE1 := Lib.hid hE1
  have HR1 := Lib.hid hr1
  have HW := Lib.hid hW1
  have HH1 := Lib.hid h1
  have HNO := Lib.hid hno
  have HA := Lib.hid ha
  clear h h1 hE1 hr1 hW1 hno hz hr hwf ha
  dsimp only at x0 x1 x2 x3 x4 x5
  go_enter Try.func10, Try.ntmps10
  go_upto_region 1 with (fail)
  change Code.wp _ _ _ _ (W.alloc (acto ⟨1, wh, oo, sz, si, bb, id, aa, n, A, m, c⟩))
  rw [← HA.out, ← HW.out]
  go_upto_region 4 with (go_at_call 16; refine HMK.out.mono ?_; rintro e w3 ⟨rfl, hs3⟩; have hk3 : Kept (pQ oP) W1 w3 := (by obtain ⟨_, _, _, _, _, q, _⟩ := hs3; exact q); have hb3 := hk3.same _ _ HR1.out (by simp [pQ, HNO.out]); obtain ⟨y0, y1, y2, y3, y4, y5, _, _, _, _, yl⟩ := acto_cells hb3; rw [HA.out] at y1 y2 y3 y4 y5; dsimp only at y1 y2 y3 y4 y5; have HRC := Lib.hid (HRF.out w3 (HH1.out.ref hk3)); have HS3 := Lib.hid hs3; clear hs3 hk3 hb3 x0 x1 x2 x3 x4 x5 y0)
  go_wp2_with (go_at_call 25; refine HRC.out.mono ?_; rintro e w4 ⟨rfl, hs4⟩; have HS4 := Lib.hid hs4; clear hs4)
  go_ret
  exact ⟨rfl, (both_step HH1.out HS3.out HS4.out).pre HE1.out⟩
set_option maxHeartbeats 4000000 in
set_option maxRecDepth 100000 in
theorem do_get (h : Both oP oR bh bw ps L M W) (a : ActD) (hk : a.k = 3) :
    Calls Try.prog 10 (argsD bh bw a) W fun e W' => e = .returned (.bool true) ∧ Next2 oP oR bh bw W W' := by
  unfold argsD
  obtain ⟨k, wh, oo, sz, si, bb, id, aa, n, A, m, c⟩ := a
  dsimp only at hk ⊢
  subst hk
  obtain ⟨a, ha⟩ : ∃ a : ActD, a = ⟨3, wh, oo, sz, si, bb, id, aa, n, A, m, c⟩ := ⟨_, rfl⟩
  obtain ⟨W1, hW1⟩ : ∃ W1, W1 = W.alloc (acto a) := ⟨_, rfl⟩
  have hE1 : Ext W W1 := by rw [hW1]; exact Ext.one _ _
  have hr1 : W1.heap[W.heap.size]? = some (acto a) := by rw [hW1]; exact World.alloc_heap_new _ _
  have h1 := h.ext hE1
  obtain ⟨x0, _, _, _, _, _, x6, x7, _, _, xl⟩ := acto_cells hr1
  rw [ha] at x0 x6 x7
  have hg1 := Get_ok h1.p id aa
  have hg2 := refGet_ok h1.r id aa
  rw [← getO_eq h.key] at hg2
  obtain ⟨z, hz⟩ : ∃ z, z = (getO L id aa).1 := ⟨_, rfl⟩
  obtain ⟨r, hr⟩ : ∃ r, r = (getO L id aa).2 := ⟨_, rfl⟩
  rw [← hz, ← hr] at hg1 hg2
  have HG1 := Lib.hid hg1
  have HG2 := Lib.hid hg2
  have HE1 := Lib.hid hE1
  have HW := Lib.hid hW1
  have HH := Lib.hid h
  have HA := Lib.hid ha
  clear h h1 hE1 hr1 hW1 hz hr ha hg1 hg2
  dsimp only at x0 x6 x7
  go_enter Try.func10, Try.ntmps10
  go_upto_region 1 with (fail)
  change Code.wp _ _ _ _ (W.alloc (acto ⟨3, wh, oo, sz, si, bb, id, aa, n, A, m, c⟩))
  rw [← HA.out, ← HW.out]
  go_wp2_with (first
    | (go_at_call 20; refine HG1.out.mono ?_; rintro e w3 ⟨rfl, rfl⟩)
    | (go_at_call 27; refine HG2.out.mono ?_; rintro e w4 ⟨rfl, rfl⟩))
  go_ret
  exact ⟨rfl, HH.out.same HE1.out⟩
end
end Go.Proofs.Ytjgggfickbbieaa
