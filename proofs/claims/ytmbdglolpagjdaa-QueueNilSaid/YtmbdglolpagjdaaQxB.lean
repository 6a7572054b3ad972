/- The law's do: Put. -/
import Derived.Test.YtmbdglolpagjdaaQxA
namespace Go.Proofs.Ytmbdglolpagjdaa
open Go.RowKit Go.Shelf
attribute [local go_sem] Oper.semAt_some

def acto (k : Int) (x : Ent) (n : Int) : Obj := .cells #[.int .i64 k, .int .i64 x.task, .bool x.front, .int .i64 x.due, .int .i64 n] 34 (0, 0)
theorem acto_cells {W : World} {b : Nat} {k n : Int} {x : Ent} (h : W.heap[b]? = some (acto k x n)) : W.cell? ⟨b, 0, none⟩ = some (.int .i64 k) ∧ W.cell? ⟨b, 1, none⟩ = some (.int .i64 x.task) ∧ W.cell? ⟨b, 2, none⟩ = some (.bool x.front) ∧ W.cell? ⟨b, 3, none⟩ = some (.int .i64 x.due) ∧ W.cell? ⟨b, 4, none⟩ = some (.int .i64 n) := by
  simp [World.cell?, h, acto]
def actV (k : Int) (x : Ent) (n : Int) : Value := .agg #[.int .i64 k, .int .i64 x.task, .bool x.front, .int .i64 x.due, .int .i64 n]
section
variable {own : Nat → Bool} {bq bw : Nat} {l E : List Ent} {pu : Int} {W : World}
set_option maxHeartbeats 4000000 in
set_option maxRecDepth 100000 in
theorem do_put (h : Both own bq bw l E pu W) (x : Ent) (hx : x.nth = pu) (n : Int) (ht : (Lit.int .i64 x.task).wf = true) (hpu : 0 ≤ pu ∧ pu ≤ 10000) :
    Calls Try.prog 10 #[.pointer (some ⟨bq, 0, none⟩), .pointer (some ⟨bw, 0, none⟩), .agg #[.int .i64 1, .int .i64 x.task, .bool x.front, .int .i64 x.due, .int .i64 n]] W fun e W' => e = .returned (.bool true) ∧ Next2 own bq bw pu W W' := by
  obtain ⟨W1, hW1⟩ : ∃ W1, W1 = W.alloc (acto 1 x n) := ⟨_, rfl⟩
  have hE1 : Ext W W1 := by rw [hW1]; exact Ext.one _ _
  have hr0 : W1.heap[W.heap.size]? = some (acto 1 x n) := by rw [hW1]; exact World.alloc_heap_new _ _
  obtain ⟨x0, x1, x2, x3, x4⟩ := acto_cells hr0
  have h1 := h.ext (hE1.trans (Ext.drew W1))
  have hlen : E.length ≤ 10000 := by have := h.pl.len; omega
  have hlen2 : l.length ≤ 10000 := by rw [← h.pl.perm.length_eq]; exact hlen
  have hput := Put_any h1.q x hx ht (by omega) ⟨hpu.1, by omega⟩
  have hlt := (Array.getElem?_eq_some_iff.1 hr0).1
  have hno : own W.heap.size = false := by
    cases hc : own W.heap.size with
    | false => rfl
    | true => have := h.q.lt hc; omega
  have hbw := h.r.lt
  have HPE := Lib.hid (show putR E x.task x.due = putR l x.task x.due by unfold putR; rw [hasE_perm h.pl.perm])
  have HE1 := Lib.hid hE1
  have HR0 := Lib.hid hr0
  have HW := Lib.hid hW1
  have HH1 := Lib.hid h1
  have HPUT := Lib.hid hput
  have HNO := Lib.hid hno
  have HX := Lib.hid hx
  clear h h1 hE1 hr0 hW1 hput hno hx ht
  go_enter Try.func10, Try.ntmps10
  go_upto_region 1 with (fail)
  change Code.wp _ _ _ _ (W.alloc (acto 1 x n))
  rw [← HW.out]
  go_upto_region 3 with (fail)
  go_region_with (first
    | (go_at_call 17; refine HPUT.out.mono ?_; rintro e w3 ⟨rfl, own', l', hq3, hp3, hk3, ho3⟩; have hb3 := hk3.same _ _ (show W1.drew.heap[W.heap.size]? = _ from HR0.out) (by rw [pQ, HNO.out]; rfl); obtain ⟨y0, y1, y2, y3, y4⟩ := acto_cells hb3; have hr3 := HH1.out.r.prog HH1.out.q hk3; have hl3 := (Array.getElem?_eq_some_iff.1 hb3).1; have HQ3 := Lib.hid hq3; have HP3 := Lib.hid hp3; have HK3 := Lib.hid hk3; have HO3 := Lib.hid ho3; have HR3 := Lib.hid hr3; have HB3 := Lib.hid hb3; clear hq3 hp3 hk3 ho3 hr3 hb3)
    | (go_at_call 24; refine (refPut_any HR3.out x (by omega)).mono ?_; rintro e w4 ⟨he4, hr4, hk4⟩; rw [HPE.out] at he4; subst he4; have HR4 := Lib.hid hr4; have HK4 := Lib.hid hk4; clear hr4 hk4))
  all_goals
    have hq4 := HQ3.out.ref HR3.out HK4.out
    obtain ⟨hpl, _⟩ := HH1.out.pl.put_any HX.out HP3.out
    have hk : Kept (pB own bw) W w4 := ((HE1.out.kept _).trans (Kept.trans ((Ext.drew W1).kept _) (HK3.out.qB bw))).trans (HK4.out.wB own)
    have hz := HE1.out.size
    have HN := Lib.hid (show Next2 own bq bw pu W w4 from ⟨own', l', putL E x, _, ⟨hq4, HR4.out, hpl⟩, by split <;> omega, hk, fun b hb => (HO3.out b hb).imp id fun h => by
      have : W1.drew.heap.size = W1.heap.size := rfl
      omega⟩)
    clear hq4 hpl hk x0 x1 x2 x3 x4 y0 y1 y2 y3 y4
    go_wp2_with fail
    go_ret
    exact ⟨rfl, HN.out⟩
end
end Go.Proofs.Ytmbdglolpagjdaa
