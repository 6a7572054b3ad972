/- maps.Clone of a queue's map; Queue.Copy. -/
import Derived.Test.YtmbdglolpagjdaaQwE
import Derived.Laws.Externs
import Derived.MapKept
import Derived.Shelf.SlMaps.Clone
namespace Go.Proofs.Ytmbdglolpagjdaa
open Go.RowKit Go.Shelf
attribute [local go_sem] Oper.semAt_some
theorem asMap (v : Value) (w : World) : (Instr.typeAssert (.iface 57 v) 20 57 false).run Try.prog w = .ok v w := by kernel_rfl
section
variable {own : Nat → Bool} {bq bm : Nat} {l : List Ent} {pu : Int} {W w : World} {D : DM}
set_option maxHeartbeats 4000000 in
set_option maxRecDepth 100000 in
theorem mclone_ok (w : World) {b : Nat} {es : Array MapEntry} {clock : Nat} (hb : w.heap[b]? = some (.map es clock)) :
    Calls Try.prog 30 #[.map (some b)] w fun e w' => e = .returned (.map (some w.heap.size)) ∧ w' = w.alloc (.map es clock) := by
  go_enter Try.func30, Try.ntmps30
  go_wp2
  rw [run_callFunc_extern Try.func43 (by kernel_rfl) (by kernel_rfl) (by kernel_rfl) (e := Extern.MapsClone.clone) (by kernel_rfl), run_maps_clone_sl _ 57 hb]
  simp only [Result.andThen]
  rw [Oper.upon_value]
  go_wp2
  rw [asMap]
  simp only [Result.andThen]
  rw [Oper.upon_value]
  go_wp2
  go_ret
  exact ⟨rfl, rfl⟩
theorem mclone_nil (w : World) : Calls Try.prog 30 #[.map none] w fun e w' => e = .returned (.map none) ∧ w' = w := by
  go_enter Try.func30, Try.ntmps30
  go_wp2
  go_ret
  exact ⟨rfl, rfl⟩
/-- A map, or none, is copied. -/
theorem mclone_any {mv : Value} (w : World) (h : (mv = .map none ∧ l = []) ∨ ∃ bm D, mv = .map (some bm) ∧ w.ownsMap Try.prog 3 (plainElem Try.prog 3) bm (Maps.size D) D ∧ CQ l D) :
    Calls Try.prog 30 #[mv] w fun e w' => ∃ r' : Option Nat, e = .returned (.map r') ∧ Ext w w' ∧ ((r' = none ∧ l = []) ∨ ∃ bm D, r' = some bm ∧ w.heap.size ≤ bm ∧ w'.ownsMap Try.prog 3 (plainElem Try.prog 3) bm (Maps.size D) D ∧ CQ l D) := by
  rcases h with ⟨rfl, hl⟩ | ⟨bm, D, rfl, hm, hc⟩
  · exact (mclone_nil w).mono fun e w' k => ⟨_, k.1, by rw [k.2]; exact Ext.refl _, .inl ⟨rfl, hl⟩⟩
  · obtain ⟨es, clock, hb, F, hs, hD⟩ := hm
    refine (mclone_ok w hb).mono fun e w' k => ?_
    obtain ⟨k1, rfl⟩ := k
    exact ⟨_, k1, Ext.one _ _, .inr ⟨_, D, rfl, Nat.le_refl _, ⟨es, clock, World.alloc_heap_new _ _, F, hs, hD⟩, hc⟩⟩
/-- A queue whose blocks are new. -/
theorem QV.made {B bc : Nat} {v : Value} {r : Option Nat} {w : World} (h1 : w.heap[bc]? = some (.cells #[v, .map r, .int .i64 pu] 59 (0, 0))) (hb : B ≤ bc) (h2 : w.ownsRow B 63 4 v l.length (row4 l))
    (h4 : (r = none ∧ l = []) ∨ ∃ bm D, r = some bm ∧ B ≤ bm ∧ w.ownsMap Try.prog 3 (plainElem Try.prog 3) bm (Maps.size D) D ∧ CQ l D) (hh : Heap eLt (nth l) l.length) (hl : l.length ≤ 900000) : ∃ own', QV own' bc l pu w ∧ ∀ b, own' b = true → B ≤ b := by
  have ow : ∀ bm b, ownB bc bm v b = true → b = bc ∨ b = bm ∨ v.ownBlock = some b := fun bm b hb => by
    unfold ownB at hb
    rcases Bool.or_eq_true_iff.1 hb with hb | hb
    · rcases Bool.or_eq_true_iff.1 hb with hb | hb
      · exact .inl (by simpa using hb)
      · exact .inr (.inl (by simpa using hb))
    · exact .inr (.inr (by simpa using hb))
  have tr : ∀ b, v.ownBlock = some b → ∃ o, w.heap[b]? = some o ∧ (tag o = none ∨ tag o = some 59 ∨ tag o = some 63) := fun b hv => by
    obtain ⟨o, k1, k2⟩ := own_is h2 b hv
    exact ⟨o, k1, .inr (.inr k2)⟩
  rcases h4 with ⟨rfl, hl0⟩ | ⟨bm, D, rfl, hbm, hm, hc⟩
  · refine ⟨ownB bc bc v, ⟨⟨v, _, h1, own_zero h2, fun g hv => by simp [ownB, hv], .inl ⟨rfl, hl0⟩⟩, by simp [ownB], fun b hb' => ?_, hh, hl⟩, fun b hb' => ?_⟩
    · rcases ow _ b hb' with rfl | rfl | hv
      · exact ⟨_, h1, .inr (.inl rfl)⟩
      · exact ⟨_, h1, .inr (.inl rfl)⟩
      · exact tr b hv
    · rcases ow _ b hb' with rfl | rfl | hv
      · exact hb
      · exact hb
      · exact own_base h2 b hv
  · obtain ⟨es, clock, h10, _⟩ := id hm
    refine ⟨ownB bc bm v, ⟨⟨v, _, h1, own_zero h2, fun g hv => by simp [ownB, hv], .inr ⟨bm, D, rfl, by simp [ownB], hm, hc⟩⟩, by simp [ownB], fun b hb' => ?_, hh, hl⟩, fun b hb' => ?_⟩
    · rcases ow _ b hb' with rfl | rfl | hv
      · exact ⟨_, h1, .inr (.inl rfl)⟩
      · exact ⟨_, h10, .inl rfl⟩
      · exact tr b hv
    · rcases ow _ b hb' with rfl | rfl | hv
      · exact hb
      · exact hbm
      · exact own_base h2 b hv
set_option maxHeartbeats 4000000 in
set_option maxRecDepth 100000 in
theorem Copy_ok (h : QV own bq l pu W) :
    Calls Try.prog 12 #[.pointer (some ⟨bq, 0, none⟩)] W fun e W' => ∃ bc, e = .returned (.pointer (some ⟨bc, 0, none⟩)) ∧ W.heap.size ≤ bc ∧ Ext W W' ∧ ∃ own', QV own' bc l pu W' ∧ ∀ b, own' b = true → W.heap.size ≤ b := by
  obtain ⟨v, mv, h1, h2, h3, h4⟩ := h.ex
  obtain ⟨A, c, rfl⟩ := own4 h2
  have hlt := (Array.getElem?_eq_some_iff.1 h1).1
  obtain ⟨r0, rfl⟩ : ∃ r0, mv = .map r0 := by
    rcases h4 with ⟨rfl, _⟩ | ⟨bm, D, rfl, _⟩ <;> exact ⟨_, rfl⟩
  have c0 : W.cell? ⟨bq, 0, none⟩ = some (.slice A l.length c) := by simp [World.cell?, h1]
  have c1 : W.cell? ⟨bq, 1, none⟩ = some (.map r0) := by simp [World.cell?, h1]
  have c2 : W.cell? ⟨bq, 2, none⟩ = some (.int .i64 pu) := by simp [World.cell?, h1]
  have hcl : ∀ w, Ext W w → Calls Try.prog 29 #[.slice A l.length c] w fun e W' => ∃ A' c', e = .returned (.slice A' l.length c') ∧ Ext w W' ∧ W'.ownsRow w.heap.size 63 4 (.slice A' l.length c') l.length (row4 l) := fun w hw => clone_ok A c w ((hw.kept (fun _ _ => true)).row h2 fun _ _ => rfl) h.len
  have hmc : ∀ w, Ext W w → Calls Try.prog 30 #[.map r0] w fun e w' => ∃ r' : Option Nat, e = .returned (.map r') ∧ Ext w w' ∧ ((r' = none ∧ l = []) ∨ ∃ bm D, r' = some bm ∧ w.heap.size ≤ bm ∧ w'.ownsMap Try.prog 3 (plainElem Try.prog 3) bm (Maps.size D) D ∧ CQ l D) := fun w hw => mclone_any w (h4.imp id fun ⟨bm, D, k1, _, k2, k3⟩ => ⟨bm, D, k1, (hw.kept (fun _ _ => true)).map k2 rfl, k3⟩)
  have HCL := Lib.hid hcl
  have HMC := Lib.hid hmc
  have HP := Lib.hid h.hp
  have HLEN := Lib.hid h.len
  clear h h1 h2 h3 h4 hcl hmc
  go_enter Try.func12, Try.ntmps12
  go_upto_region 3 with (fail)
  go_region_with (first
    | (go_at_call 29; refine (HCL.out _ ?_).mono ?_; exact Ext.drew _; rintro e w3 ⟨A', c', rfl, hx3, hr3⟩; have hxx := (Ext.drew W).trans hx3; have d1 := (hxx.kept (fun _ _ => true)).cell c1 (fun _ _ => rfl); have d2 := (hxx.kept (fun _ _ => true)).cell c2 (fun _ _ => rfl); have hl3 := hxx.size; have HX3 := Lib.hid hxx; have HR3 := Lib.hid hr3; clear hx3 hxx hr3)
    | (go_at_call 30; refine (HMC.out _ HX3.out).mono ?_; rintro e w4 ⟨r', rfl, hx4, hm4⟩; have d24 := (hx4.kept (fun _ _ => true)).cell d2 (fun _ _ => rfl); have hl4 := hx4.size; have HX4 := Lib.hid hx4; have HM4 := Lib.hid hm4; clear hx4 hm4))
  all_goals
    have hx := Ext.one w4 (.cells #[.slice A' l.length c', .map r', .int .i64 pu] 59 (0, 0))
    have hk := hx.kept (fun _ _ => true)
    have hm := QV.made (B := W.heap.size) (l := l) (World.alloc_heap_new w4 (.cells #[.slice A' l.length c', .map r', .int .i64 pu] 59 (0, 0))) (by omega) (hk.row ((HX4.out.kept (fun _ _ => true)).row HR3.out fun _ _ => rfl) fun _ _ => rfl) (HM4.out.imp id fun ⟨bm, D, k1, k2, k3, k4⟩ => ⟨bm, D, k1, by omega, hk.map k3 rfl, k4⟩) HP.out HLEN.out
    have HMM := Lib.hid hm
    have hsz : W.heap.size ≤ w4.heap.size := by omega
    clear hm hx hk d1 d2 d24 c0 c1 c2
    go_wp2_with fail
    go_ret
    exact ⟨_, rfl, hsz, (HX3.out.trans HX4.out).trans (Ext.one _ _), HMM.out⟩
end
end Go.Proofs.Ytmbdglolpagjdaa
