/- slices.Clone at the seat, of switches and of numbers. -/
import Derived.Test.YtecehjcombkkaaaDoorRwA
namespace Go.Proofs.YtecehjcombkkaaaDoor
open Go.RowKit Go.Shelf
attribute [local go_sem] Oper.semAt_some
@[go_sem] theorem eqnilB_none (n c : Nat) (w : World) : (binOp .eql 22 (.slice none n c) (.slice none 0 0)).run Tryd.prog w = .ok (.bool true) w := by kernel_rfl
@[go_sem] theorem eqnilB_some (ad : Addr) (n c : Nat) (w : World) : (binOp .eql 22 (.slice (some ad) n c) (.slice none 0 0)).run Tryd.prog w = .ok (.bool false) w := by kernel_rfl
@[go_sem] theorem eqnilI_none (n c : Nat) (w : World) : (binOp .eql 39 (.slice none n c) (.slice none 0 0)).run Tryd.prog w = .ok (.bool true) w := by kernel_rfl
@[go_sem] theorem eqnilI_some (ad : Addr) (n c : Nat) (w : World) : (binOp .eql 39 (.slice (some ad) n c) (.slice none 0 0)).run Tryd.prog w = .ok (.bool false) w := by kernel_rfl
set_option maxHeartbeats 1000000 in
set_option maxRecDepth 100000 in
theorem cloneB_ok {W : World} (l : List Bool) (A : Option Addr) (c : Nat) (hs : Src W (.slice A l.length c) l.length (rowV bV l)) (hl : l.length ≤ 100000) :
    Calls Tryd.prog 23 #[.slice A l.length c] W fun e W' => ∃ A' c', e = .returned (.slice A' l.length c') ∧ Ext W W' ∧ W'.ownsRow W.heap.size 4 1 (.slice A' l.length c') l.length (rowV bV l) := by
  obtain ⟨i0, hi0, hz0, hz1, hz2⟩ := infoParts infoBool
  cases A with
  | none =>
    have hnil : c = 0 ∧ l = [] := by
      rcases hs with ⟨e, h2, h3⟩ | ⟨ad, c', e, _⟩
      · injection e with _ _ e
        exact ⟨e, List.eq_nil_of_length_eq_zero h2⟩
      · injection e with e
        cases e
    obtain ⟨rfl, rfl⟩ := hnil
    go_enter Tryd.func23, Tryd.ntmps23
    go_wp2_with fail
    exact bodyPost_ret (v := .slice none 0 0) (by simp [results, Tryd.results23, go_sem]) rfl ⟨none, 0, rfl, Ext.refl _, World.ownsRow_nil _ _ _ _⟩
  | some ad =>
    have hn : (W.alloc (.cells #[] 4 (0, 0))).ownsRow W.heap.size 4 1 (.slice (some ⟨W.heap.size, 0, none⟩) 0 0) 0 [] := ⟨rfl, .inr ⟨W.heap.size, 0, #[], rfl, Nat.le_refl _, World.alloc_heap_new _ _, Nat.le_refl _, by unfold maxLen; omega, rfl, rfl⟩⟩
    have HN := Lib.hid hn
    have HS := Lib.hid (hs.ext (Ext.one W (.cells #[] 4 (0, 0))))
    have HONE := Lib.hid (rowV_one (f := bV) (l := l) fun _ => rfl)
    have HLEN := Lib.hid (rowV_len (f := bV) (l := l))
    clear hs hn
    go_enter Tryd.func23, Tryd.ntmps23
    go_wp2_with (at_builtin; refine wpList_append_any rfl _ _ 22 rfl W.heap.size 4 i0 (.bool false) 1 1 Tryd.underlying22 hi0 hz0 hz1 hz2 rfl (by decide) (.slice (some ⟨W.heap.size, 0, none⟩) 0 0) 0 [] rfl HN.out (.slice (some ad) l.length c) l.length (rowV bV l) rfl HLEN.out HS.out HONE.out (by unfold maxLen; omega) (by omega) (by simp) l.length (by omega) (rowV bV l) (by simp) ?_; intro A1 c1 w1 hown1 hgrow1 hat1; have HX1 := Lib.hid (grown_ext (Ext.one W (.cells #[] 4 (0, 0))) hgrow1 (by intro b hb; simp [Value.ownBlock] at hb; omega)); have HO1 := Lib.hid hown1; clear hown1 hgrow1 hat1)
    go_ret
    exact ⟨A1, c1, rfl, HX1.out, HO1.out⟩
end Go.Proofs.YtecehjcombkkaaaDoor
