/- The law's do, whole; same; New. -/
import Derived.Test.YtmbdglolpagjdaaQxC
import Derived.Test.YtmbdglolpagjdaaQxD
namespace Go.Proofs.Ytmbdglolpagjdaa
open Go.RowKit Go.Shelf
attribute [local go_sem] Oper.semAt_some
section
variable {own : Nat → Bool} {bq bw : Nat} {l E : List Ent} {pu : Int} {W : World}
theorem do_ok (h : Both own bq bw l E pu W) (k t d n : Int) (f : Bool) (ht : (Lit.int .i64 t).wf = true) (hpu : 0 ≤ pu ∧ pu ≤ 10000) :
    Calls Try.prog 10 #[.pointer (some ⟨bq, 0, none⟩), .pointer (some ⟨bw, 0, none⟩), .agg #[.int .i64 k, .int .i64 t, .bool f, .int .i64 d, .int .i64 n]] W fun e W' => e = .returned (.bool true) ∧ Next2 own bq bw pu W W' := by
  by_cases h1 : k = 1
  · subst h1; exact do_put h ⟨t, f, d, pu⟩ rfl n ht hpu
  by_cases h2 : k = 2
  · subst h2; exact do_take h ⟨t, f, d, pu⟩ n hpu
  by_cases h3 : k = 3
  · subst h3; exact do_drop h ⟨t, f, d, pu⟩ n ht hpu
  by_cases h4 : k = 4
  · subst h4; exact do_due h ⟨t, f, d, pu⟩ n hpu
  by_cases h5 : k = 5
  · subst h5; exact do_next h ⟨t, f, d, pu⟩ n hpu
  by_cases h6 : k = 6
  · subst h6; exact do_all h ⟨t, f, d, pu⟩ n hpu
  exact do_other h k ⟨t, f, d, pu⟩ n ⟨h1, h2, h3, h4, h5, h6⟩
set_option maxHeartbeats 4000000 in
set_option maxRecDepth 100000 in
theorem same_ok (h : Both own bq bw l E pu W) (hpu : 0 ≤ pu ∧ pu ≤ 10000) :
    Calls Try.prog 11 #[.pointer (some ⟨bq, 0, none⟩), .pointer (some ⟨bw, 0, none⟩)] W fun e W' => e = .returned (.bool true) ∧ Ext W W' := by
  have hlen : E.length ≤ 10000 := by have := h.pl.len; omega
  obtain ⟨S, hS⟩ : ∃ S, S = srt l := ⟨_, rfl⟩
  have hls := list_ok (most := -1) h.pl.tri h.q.hp h.q.len W h.q.ev
  rw [if_neg (by omega), ← hS] at hls
  have hal : ∀ w, RQ bw E w → Calls Try.prog 16 #[.pointer (some ⟨bw, 0, none⟩)] w fun e W' => ∃ A c, e = .returned (.slice A S.length c) ∧ Ext w W' ∧ W'.ownsRow w.heap.size 32 3 (.slice A S.length c) S.length (row3 S) := fun w hw => by
    have := refAll_ok hw h.pl.ord h.pl.dst (by omega)
    rwa [h.pl.srt, ← hS] at this
  have hSl : S.length ≤ 10000 := by rw [hS, (srt_perm l).length_eq, ← h.pl.perm.length_eq]; exact hlen
  have hel : (l.length : Int) = (E.length : Int) := by rw [h.pl.perm.length_eq]
  have HH := Lib.hid h
  have HLS := Lib.hid hls
  have HAL := Lib.hid hal
  have HEL := Lib.hid hel
  clear h hls hal hS hel
  go_enter Try.func11, Try.ntmps11
  go_upto_region 2 with (go_at_call 19; refine HLS.out.mono ?_; rintro e w3 ⟨P, A, c, rfl, rfl, hx3, ho3⟩; have HX3 := Lib.hid hx3; have HO3 := Lib.hid ho3; clear hx3 ho3)
  have hq3 := HH.out.ext (HX3.out.trans (Ext.drew w3))
  have hln := Len_ok hq3.q.ev
  rw [HEL.out] at hln
  have hal3 := HAL.out _ hq3.r
  obtain ⟨A2, c2, ⟨c0, _⟩, _⟩ := (HH.out.r.ext HX3.out).src
  have hbw := (HH.out.r.ext HX3.out).lt
  have HLN := Lib.hid hln
  have HAL3 := Lib.hid hal3
  clear hq3 hln hal3 HAL HLS
  go_region_with (first
    | (go_at_call 21; refine HLN.out.mono ?_; rintro e w4 ⟨rfl, rfl⟩)
    | (go_at_call 16; refine HAL3.out.mono ?_; rintro e w4 ⟨B, d, rfl, hx4, ho4⟩; have hsm := refSame_ok (L := P) (M := P) ((((Ext.drew w3).trans hx4).kept (fun _ _ => true)).row HO3.out fun _ _ => rfl) ho4 (by omega); rw [show sameE P P = true from same_all rfl fun _ _ => rfl] at hsm; have HX4 := Lib.hid hx4; have HSM := Lib.hid hsm; clear hx4 ho4 hsm)
    | (go_at_call 15; refine HSM.out.mono ?_; rintro e w5 ⟨rfl, hx5⟩; have HX5 := Lib.hid hx5; clear hx5))
  all_goals
    go_wp2_with fail
    go_ret
    exact ⟨rfl, ((HX3.out.trans (Ext.drew _)).trans HX4.out).trans HX5.out⟩
/-- A queue's own block, as New makes it. -/
def newQ (b : Nat) : Nat → Bool := fun k => k == b
theorem QV.new (W : World) {w : World} (h : w.heap[W.heap.size]? = some (.cells #[.slice none 0 0, .map none, .int .i64 0] 59 (0, 0))) : QV (newQ W.heap.size) W.heap.size [] 0 w :=
  ⟨⟨_, _, h, World.ownsRow_nil _ _ _ _, fun g hg => by simp [Value.ownBlock] at hg, .inl ⟨rfl, rfl⟩⟩, by simp [newQ], fun b hb => by
    have e : b = W.heap.size := by simpa [newQ] using hb
    subst e; exact ⟨_, h, .inr (.inl rfl)⟩, fun k _ hk => absurd hk (by simp), by simp⟩
theorem New_ok (W : World) : Calls Try.prog 9 #[] W fun e W' => e = .returned (.pointer (some ⟨W.heap.size, 0, none⟩)) ∧ Ext W W' ∧ QV (newQ W.heap.size) W.heap.size [] 0 W' := by
  go_enter Try.func9, Try.ntmps9
  go_wp2
  go_ret
  exact ⟨rfl, Ext.one _ _, QV.new W (World.alloc_heap_new _ _)⟩
end
end Go.Proofs.Ytmbdglolpagjdaa
