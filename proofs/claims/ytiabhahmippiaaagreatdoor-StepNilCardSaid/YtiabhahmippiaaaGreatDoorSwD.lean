/- The program's Frames, of a thread of one frame. -/
import Derived.Test.YtiabhahmippiaaaGreatDoorSwC
namespace Go.Proofs.YtiabhahmippiaaaGreatDoor
open Go.RowKit Go.Shelf
attribute [local go_sem] Oper.semAt_some
@[go_sem] theorem eqnilI64_some (ad : Addr) (n c : Nat) (w : World) : (binOp .eql 52 (.slice (some ad) n c) (.slice none 0 0)).run Tryz.prog w = .ok (.bool false) w := by kernel_rfl
set_option maxHeartbeats 1000000 in
set_option maxRecDepth 100000 in
theorem cloneI64_ok {W : World} (l : List Int) (ad : Addr) (c : Nat) (hs : Src W (.slice (some ad) l.length c) l.length (rowV iV l)) (hl : l.length ≤ 100000) :
    Calls Tryz.prog 126 #[.slice (some ad) l.length c] W fun e W' => ∃ A' c', e = .returned (.slice A' l.length c') ∧ Ext W W' ∧ W'.ownsRow W.heap.size 2 1 (.slice A' l.length c') l.length (rowV iV l) := by
  obtain ⟨i0, hi0, hz0, hz1, hz2⟩ := infoParts infoL
  have hn : (W.alloc (.cells #[] 2 (0, 0))).ownsRow W.heap.size 2 1 (.slice (some ⟨W.heap.size, 0, none⟩) 0 0) 0 [] := ⟨rfl, .inr ⟨W.heap.size, 0, #[], rfl, Nat.le_refl _, World.alloc_heap_new _ _, Nat.le_refl _, by unfold maxLen; omega, rfl, rfl⟩⟩
  have HN := Lib.hid hn
  have HS := Lib.hid (hs.ext (Ext.one W (.cells #[] 2 (0, 0))))
  have HONE := Lib.hid (rowV_one (f := iV) (l := l) fun _ => rfl)
  have HLEN := Lib.hid (rowV_len (f := iV) (l := l))
  clear hs hn
  go_enter Tryz.func126, Tryz.ntmps126
  go_wp2_with (at_builtin; refine wpList_append_any rfl _ _ 52 rfl W.heap.size 2 i0 (.int .i64 0) 1 8 Tryz.underlying52 hi0 hz0 hz1 hz2 rfl (by decide) (.slice (some ⟨W.heap.size, 0, none⟩) 0 0) 0 [] rfl HN.out (.slice (some ad) l.length c) l.length (rowV iV l) rfl HLEN.out HS.out HONE.out (by unfold maxLen; omega) (by omega) (by simp) l.length (by omega) (rowV iV l) (by simp) ?_; intro A1 c1 w1 hown1 hgrow1 hat1; have HX1 := Lib.hid (grown_ext (Ext.one W (.cells #[] 2 (0, 0))) hgrow1 (by intro b hb; simp [Value.ownBlock] at hb; omega)); have HO1 := Lib.hid hown1; clear hown1 hgrow1 hat1)
  go_ret
  exact ⟨A1, c1, rfl, HX1.out, HO1.out⟩
def frmo (fn at' : Int) (v : Value) : Obj := .cells #[.int .i64 fn, .int .i64 at', v] 93 (0, 0)
theorem frmo_cells {w : World} {b : Nat} {fn at' : Int} {v : Value} (h : w.heap[b]? = some (frmo fn at' v)) : w.cell? ⟨b, 0, none⟩ = some (.int .i64 fn) ∧ w.cell? ⟨b, 1, none⟩ = some (.int .i64 at') ∧ w.cell? ⟨b, 2, none⟩ = some v ∧ b < w.heap.size := by
  refine ⟨?_, ?_, ?_, (Array.getElem?_eq_some_iff.1 h).1⟩
  all_goals simp [World.cell?, h, frmo]
set_option maxHeartbeats 2000000 in
set_option maxRecDepth 100000 in
theorem apartF_ok {bf gr : Nat} {fn at' : Int} {R : List Int} {W : World} (h : W.heap[bf]? = some (frmo fn at' (.slice (some ⟨gr, 0, none⟩) R.length R.length))) (hr : W.ownsRow 0 2 1 (.slice (some ⟨gr, 0, none⟩) R.length R.length) R.length (rowV iV R)) (hl : R.length ≤ 1000) :
    Calls Tryz.prog 46 #[.pointer (some ⟨bf, 0, none⟩)] W fun e W' => ∃ b A c, e = .returned (.pointer (some ⟨b, 0, none⟩)) ∧ W'.heap[b]? = some (frmo fn at' (.slice A R.length c)) ∧ W'.ownsRow W.heap.size 2 1 (.slice A R.length c) R.length (rowV iV R) ∧ Ext W W' := by
  have HC := Lib.hid (fun (w : World) (k : Ext W w) => cloneI64_ok R ⟨gr, 0, none⟩ R.length ((Src.of hr rowV_len).ext k) (by omega))
  have HB := Lib.hid h
  obtain ⟨c0, c1, c2, cl⟩ := frmo_cells h
  clear h hr
  go_enter Tryz.func46, Tryz.ntmps46
  go_upto_region 1 with (fail)
  go_region_with (go_at_call 126; refine (HC.out _ (Ext.drew _)).mono ?_; rintro e w2 ⟨A2, c2, rfl, hx2, ho2⟩; obtain ⟨d0, d1, d2, dl⟩ := frmo_cells ((((Ext.drew _).trans hx2).kept (fun _ _ => true)).same _ _ HB.out rfl); have HX2 := Lib.hid ((Ext.drew _).trans hx2); have HO2 := Lib.hid ho2; clear hx2 ho2)
  all_goals
    go_wp2_with fail
    exact bodyPost_ret (v := .pointer (some ⟨w2.heap.size, 0, none⟩)) (by simp [results, Tryz.results46, go_sem]) rfl ⟨w2.heap.size, A2, c2, rfl, World.alloc_heap_new _ _, ((Ext.one w2 _).kept (fun _ _ => true)).row HO2.out fun _ _ => rfl, HX2.out.trans (Ext.one _ _)⟩
end Go.Proofs.YtiabhahmippiaaaGreatDoor
