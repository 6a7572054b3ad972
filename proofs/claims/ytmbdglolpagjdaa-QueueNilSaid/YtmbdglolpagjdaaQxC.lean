/- The law's do: Take, Due. -/
import Derived.Test.YtmbdglolpagjdaaQxB
namespace Go.Proofs.Ytmbdglolpagjdaa
open Go.RowKit Go.Shelf
attribute [local go_sem] Oper.semAt_some
section
variable {own : Nat → Bool} {bq bw : Nat} {l E : List Ent} {pu : Int} {W : World}
theorem dueW_form (R : Option Ent) : ∃ t f d b, dueW R = .tuple #[.agg #[.int .i64 t, .bool f, .int .i64 d], .bool b] := by
  cases R with
  | none => exact ⟨_, _, _, _, rfl⟩
  | some x => exact ⟨_, _, _, _, rfl⟩
set_option maxHeartbeats 4000000 in
set_option maxRecDepth 100000 in
theorem do_take (h : Both own bq bw l E pu W) (x : Ent) (n : Int) (hpu : 0 ≤ pu ∧ pu ≤ 10000) :
    Calls Try.prog 10 #[.pointer (some ⟨bq, 0, none⟩), .pointer (some ⟨bw, 0, none⟩), .agg #[.int .i64 2, .int .i64 x.task, .bool x.front, .int .i64 x.due, .int .i64 n]] W fun e W' => e = .returned (.bool true) ∧ Next2 own bq bw pu W W' := by
  obtain ⟨W1, hW1⟩ : ∃ W1, W1 = W.alloc (acto 2 x n) := ⟨_, rfl⟩
  have hE1 : Ext W W1 := by rw [hW1]; exact Ext.one _ _
  have hr0 : W1.heap[W.heap.size]? = some (acto 2 x n) := by rw [hW1]; exact World.alloc_heap_new _ _
  obtain ⟨x0, x1, x2, x3, x4⟩ := acto_cells hr0
  have h1 := h.ext hE1
  have hlen : E.length ≤ 10000 := by have := h.pl.len; omega
  obtain ⟨t, f, d, b, hR⟩ := dueW_form (duP n l)
  have htk := Take_ok (now := n) h1.q h1.pl.tri
  rw [hR] at htk
  have hrf : ∀ w, RQ bw E w → Calls Try.prog 25 #[.pointer (some ⟨bw, 0, none⟩), .int .i64 n] w fun e W' => e = .returned (.tuple #[.agg #[.int .i64 t, .bool f, .int .i64 d], .bool b]) ∧ RQ bw (tkE n E) W' ∧ Kept (pW bw) w W' := fun w hw => by
    have := refTake_ok (now := n) hw h1.pl.ord h1.pl.dst (by omega)
    rwa [h1.pl.duP, hR] at this
  have hlt := (Array.getElem?_eq_some_iff.1 hr0).1
  have hno : own W.heap.size = false := by
    cases hc : own W.heap.size with
    | false => rfl
    | true => have := h.q.lt hc; omega
  have hbw := h.r.lt
  have hz := hE1.size
  have HE1 := Lib.hid hE1
  have HR0 := Lib.hid hr0
  have HW := Lib.hid hW1
  have HH1 := Lib.hid h1
  have HTK := Lib.hid htk
  have HRF := Lib.hid hrf
  have HNO := Lib.hid hno
  clear h h1 hE1 hr0 hW1 htk hrf hno hR
  go_enter Try.func10, Try.ntmps10
  go_upto_region 1 with (fail)
  change Code.wp _ _ _ _ (W.alloc (acto 2 x n))
  rw [← HW.out]
  go_upto_region 6 with (go_at_call 20; refine HTK.out.mono ?_; rintro e w3 ⟨rfl, own', l', hq3, hp3, hk3, ho3⟩; have hb3 := hk3.same _ _ HR0.out (by rw [pQ, HNO.out]; rfl); have hr3 := HH1.out.r.prog HH1.out.q hk3; have hz3 := hk3.size; have HQ3 := Lib.hid hq3; have HP3 := Lib.hid hp3; have HK3 := Lib.hid hk3; have HO3 := Lib.hid ho3; have HR3 := Lib.hid hr3; have HB3 := Lib.hid hb3; clear hq3 hp3 hk3 ho3 hr3 hb3 x0 x1 x2 x3 x4)
  obtain ⟨w4, hw4⟩ : ∃ w4, w4 = w3.alloc (itmo t f d) := ⟨_, rfl⟩
  have hE4 : Ext w3 w4 := by rw [hw4]; exact Ext.one _ _
  have hb4 : w4.heap[w3.heap.size]? = some (itmo t f d) := by rw [hw4]; exact World.alloc_heap_new _ _
  have ha4 := (hE4.kept (fun _ _ => true)).same _ _ HB3.out rfl
  obtain ⟨x0, x1, x2, x3, x4⟩ := acto_cells ha4
  have hr4 := HRF.out _ (HR3.out.ext hE4)
  have hl4 := (Array.getElem?_eq_some_iff.1 hb4).1
  have hla := (Array.getElem?_eq_some_iff.1 ha4).1
  change Code.wp _ _ _ _ (w3.alloc (itmo t f d))
  rw [← hw4]
  have HE4 := Lib.hid hE4
  have HB4 := Lib.hid hb4
  have HR4 := Lib.hid hr4
  clear hw4 hE4 hb4 ha4 hr4 HRF HTK
  go_upto_region 7 with (go_at_call 25; refine HR4.out.mono ?_; rintro e w5 ⟨rfl, hr5, hk5⟩; have hb5 := hk5.same _ _ HB4.out (by simp [pW]; omega); have hz5 := hk5.size; have HB5 := Lib.hid hb5; have HK5 := Lib.hid hk5; have HR5 := Lib.hid hr5; clear hr5 hk5 hb5 x0 x1 x2 x3 x4)
  obtain ⟨⟨y0, y1, y2⟩, _, hl5⟩ := itmo_cells HB5.out
  go_wp2_with fail
  go_ret
  have hq4 := HQ3.out.ext HE4.out
  have hq5 := hq4.ref (HR3.out.ext HE4.out) HK5.out
  have hk : Kept (pB own bw) W w5 := (((HE1.out.kept _).trans (HK3.out.qB bw)).trans (HE4.out.kept _)).trans (HK5.out.wB own)
  have hx := Ext.one w5 (itmo t f d)
  exact ⟨rfl, own', l', tkE n E, pu, ⟨hq5.ext hx, HR5.out.ext hx, HH1.out.pl.take HP3.out⟩, by omega, hk.trans (hx.kept _), fun b hb => (HO3.out b hb).imp id fun h => by omega⟩
set_option maxHeartbeats 4000000 in
set_option maxRecDepth 100000 in
theorem do_due (h : Both own bq bw l E pu W) (x : Ent) (n : Int) (hpu : 0 ≤ pu ∧ pu ≤ 10000) :
    Calls Try.prog 10 #[.pointer (some ⟨bq, 0, none⟩), .pointer (some ⟨bw, 0, none⟩), .agg #[.int .i64 4, .int .i64 x.task, .bool x.front, .int .i64 x.due, .int .i64 n]] W fun e W' => e = .returned (.bool true) ∧ Next2 own bq bw pu W W' := by
  obtain ⟨W1, hW1⟩ : ∃ W1, W1 = W.alloc (acto 4 x n) := ⟨_, rfl⟩
  have hE1 : Ext W W1 := by rw [hW1]; exact Ext.one _ _
  have hr0 : W1.heap[W.heap.size]? = some (acto 4 x n) := by rw [hW1]; exact World.alloc_heap_new _ _
  obtain ⟨x0, x1, x2, x3, x4⟩ := acto_cells hr0
  have h1 := h.ext hE1
  have hlen : E.length ≤ 10000 := by have := h.pl.len; omega
  obtain ⟨t, f, d, b, hR⟩ := dueW_form (duP n l)
  have htk := Due_ok (now := n) h1.pl.tri h1.q.hp h1.q.len W1 h1.q.ev
  rw [due_eq, dueV_eq, hR] at htk
  have hrf : ∀ w, RQ bw E w → Calls Try.prog 27 #[.pointer (some ⟨bw, 0, none⟩), .int .i64 n] w fun e W' => e = .returned (.tuple #[.agg #[.int .i64 t, .bool f, .int .i64 d], .bool b]) ∧ Ext w W' := fun w hw => by
    have := refDue_ok (now := n) hw h1.pl.ord (by omega)
    rwa [h1.pl.duP, hR] at this
  have hlt := (Array.getElem?_eq_some_iff.1 hr0).1
  have HE1 := Lib.hid hE1
  have HR0 := Lib.hid hr0
  have HW := Lib.hid hW1
  have HH := Lib.hid h
  have HTK := Lib.hid htk
  have HRF := Lib.hid hrf
  clear h h1 hE1 hr0 hW1 htk hrf hR
  go_enter Try.func10, Try.ntmps10
  go_upto_region 1 with (fail)
  change Code.wp _ _ _ _ (W.alloc (acto 4 x n))
  rw [← HW.out]
  go_upto_region 12 with (go_at_call 23; refine HTK.out.mono ?_; rintro e w3 ⟨rfl, hx3⟩; have HX3 := Lib.hid hx3; clear hx3 x0 x1 x2 x3 x4)
  have hb3 := (HX3.out.kept (fun _ _ => true)).same _ _ HR0.out rfl
  have hr3 := HH.out.r.ext (HE1.out.trans HX3.out)
  obtain ⟨w4, hw4⟩ : ∃ w4, w4 = w3.alloc (itmo t f d) := ⟨_, rfl⟩
  have hE4 : Ext w3 w4 := by rw [hw4]; exact Ext.one _ _
  have hb4 : w4.heap[w3.heap.size]? = some (itmo t f d) := by rw [hw4]; exact World.alloc_heap_new _ _
  have ha4 := (hE4.kept (fun _ _ => true)).same _ _ hb3 rfl
  obtain ⟨x0, x1, x2, x3, x4⟩ := acto_cells ha4
  have hr4 := HRF.out _ (hr3.ext hE4)
  have hl4 := (Array.getElem?_eq_some_iff.1 hb4).1
  have hla := (Array.getElem?_eq_some_iff.1 ha4).1
  change Code.wp _ _ _ _ (w3.alloc (itmo t f d))
  rw [← hw4]
  have HE4 := Lib.hid hE4
  have HB4 := Lib.hid hb4
  have HR4 := Lib.hid hr4
  clear hw4 hE4 hb4 ha4 hr4 HRF HTK hb3 hr3
  go_upto_region 13 with (go_at_call 27; refine HR4.out.mono ?_; rintro e w5 ⟨rfl, hx5⟩; have HX5 := Lib.hid hx5; clear hx5 x0 x1 x2 x3 x4)
  have hb5 := (HX5.out.kept (fun _ _ => true)).same _ _ HB4.out rfl
  obtain ⟨⟨y0, y1, y2⟩, _, hl5⟩ := itmo_cells hb5
  clear hb5
  go_wp2_with fail
  go_ret
  have hx := Ext.one w5 (itmo t f d)
  exact ⟨rfl, HH.out.same ((((HE1.out.trans HX3.out).trans HE4.out).trans HX5.out).trans hx)⟩
/-- What Next tells. -/
theorem nextV_eq (o : Option Ent) : nextV o = nxW (o.map (·.due)) := by cases o <;> rfl
theorem nxW_form (o : Option Int) : ∃ d b, nxW o = .tuple #[.int .i64 d, .bool b] := by
  cases o with
  | none => exact ⟨_, _, rfl⟩
  | some x => exact ⟨_, _, rfl⟩
set_option maxHeartbeats 4000000 in
set_option maxRecDepth 100000 in
theorem do_next (h : Both own bq bw l E pu W) (x : Ent) (n : Int) (hpu : 0 ≤ pu ∧ pu ≤ 10000) :
    Calls Try.prog 10 #[.pointer (some ⟨bq, 0, none⟩), .pointer (some ⟨bw, 0, none⟩), .agg #[.int .i64 5, .int .i64 x.task, .bool x.front, .int .i64 x.due, .int .i64 n]] W fun e W' => e = .returned (.bool true) ∧ Next2 own bq bw pu W W' := by
  obtain ⟨W1, hW1⟩ : ∃ W1, W1 = W.alloc (acto 5 x n) := ⟨_, rfl⟩
  have hE1 : Ext W W1 := by rw [hW1]; exact Ext.one _ _
  have hr0 : W1.heap[W.heap.size]? = some (acto 5 x n) := by rw [hW1]; exact World.alloc_heap_new _ _
  obtain ⟨x0, x1, x2, x3, x4⟩ := acto_cells hr0
  have h1 := h.ext hE1
  have hlen : E.length ≤ 10000 := by have := h.pl.len; omega
  obtain ⟨d, b, hR⟩ := nxW_form (nxP l)
  have htk := Next_ok h1.pl.tri h1.q.hp h1.q.len W1 h1.q.ev
  rw [nextV_eq, show ((srt l).find? fun x => !x.front).map (·.due) = nxP l from rfl, hR] at htk
  have hrf : ∀ w, RQ bw E w → Calls Try.prog 28 #[.pointer (some ⟨bw, 0, none⟩)] w fun e W' => e = .returned (.tuple #[.int .i64 d, .bool b]) ∧ W' = w := fun w hw => by
    have := refNext_ok hw (by omega)
    rwa [show nxP E = nxP l by unfold nxP; rw [h1.pl.srt], hR] at this
  have HE1 := Lib.hid hE1
  have HW := Lib.hid hW1
  have HH := Lib.hid h
  have HTK := Lib.hid htk
  have HRF := Lib.hid hrf
  clear h h1 hE1 hr0 hW1 htk hrf hR
  go_enter Try.func10, Try.ntmps10
  go_upto_region 1 with (fail)
  change Code.wp _ _ _ _ (W.alloc (acto 5 x n))
  rw [← HW.out]
  go_upto_region 16 with (go_at_call 22; refine HTK.out.mono ?_; rintro e w3 ⟨rfl, hx3⟩; have HX3 := Lib.hid hx3; clear hx3 x0 x1 x2 x3 x4)
  have HR4 := Lib.hid (HRF.out _ (HH.out.r.ext (HE1.out.trans HX3.out)))
  clear HRF HTK
  go_wp2_with (go_at_call 28; refine HR4.out.mono ?_; rintro e w5 ⟨rfl, rfl⟩)
  go_ret
  exact ⟨rfl, HH.out.same (HE1.out.trans HX3.out)⟩
end
end Go.Proofs.Ytmbdglolpagjdaa
