/- slices.Clone of entries; Queue.All. -/
import Derived.Test.YtmbdglolpagjdaaQuT
namespace Go.Proofs.Ytmbdglolpagjdaa
open Go.RowKit Go.Shelf
attribute [local go_sem] Oper.semAt_some

@[go_sem] theorem eqnil_none (n c : Nat) (w : World) : (binOp .eql 56 (.slice none n c) (.slice none 0 0)).run Try.prog w = .ok (.bool true) w := by kernel_rfl
@[go_sem] theorem eqnil_some (ad : Addr) (n c : Nat) (w : World) : (binOp .eql 56 (.slice (some ad) n c) (.slice none 0 0)).run Try.prog w = .ok (.bool false) w := by kernel_rfl
theorem add_block (g j : Nat) : ((⟨g, 0, none⟩ : Addr).add j).block = g := by unfold Addr.add; split <;> rfl
theorem row4_one (l : List Ent) : ∀ u ∈ row4 l, u.oneCell' = true := by
  intro u hu
  unfold row4 at hu
  obtain ⟨x, _, hx⟩ := List.mem_flatMap.1 hu
  simp [Ent.cells] at hx
  rcases hx with rfl | rfl | rfl | rfl <;> rfl
theorem own_slice {W : World} {base : Nat} {e : TypeId} {size : Nat} {v : Value} {n : Nat} {xs : List Value} (h : W.ownsRow base e size v n xs) : ∃ A c, v = .slice A n c := by
  rcases h.2 with ⟨rfl, h0⟩ | ⟨g, cap, _, rfl, _⟩
  · exact ⟨none, 0, by rw [h0]⟩
  · exact ⟨_, cap, rfl⟩
section
variable {l : List Ent} {qv : Value}
set_option maxHeartbeats 1000000 in
set_option maxRecDepth 100000 in
theorem clone_ok (A : Option Addr) (c : Nat) (W : World) (how : W.ownsRow 0 63 4 (.slice A l.length c) l.length (row4 l)) (hsm : l.length ≤ 900000) :
    Calls Try.prog 29 #[.slice A l.length c] W fun e W' => ∃ A' c', e = .returned (.slice A' l.length c') ∧ Ext W W' ∧ W'.ownsRow W.heap.size 63 4 (.slice A' l.length c') l.length (row4 l) := by
  cases A with
  | none =>
    have h0 : l = [] := by
      rcases how.2 with ⟨_, h⟩ | ⟨g, cap, cur, e, _⟩
      · exact List.eq_nil_of_length_eq_zero h
      · cases e
    subst h0
    have hc0 : c = 0 := by
      rcases how.2 with ⟨h, _⟩ | ⟨g, cap, cur, e, _⟩
      · cases h; rfl
      · cases e
    subst hc0
    clear how
    go_enter Try.func29, Try.ntmps29
    go_wp2
    go_ret
    exact ⟨none, 0, rfl, Ext.refl _, World.ownsRow_nil _ _ _ _⟩
  | some ad =>
    obtain ⟨i0, hi0, hz0, hz1, hz2⟩ := info_parts infoEnt
    obtain ⟨g, rfl, hglt⟩ : ∃ g, ad = ⟨g, 0, none⟩ ∧ g < W.heap.size := by
      rcases how.2 with ⟨h, _⟩ | ⟨g, cap, cur, e, _, h2, _⟩
      · cases h
      · injection e with e _ _; injection e with e; exact ⟨g, e, (Array.getElem?_eq_some_iff.1 h2).1⟩
    have hcs : ∀ (o : Obj) (j : Nat) (u : Value), (row4 l)[j]? = some u → (W.alloc o).cell? ((⟨g, 0, none⟩ : Addr).add j) = some u := fun o j u hj => (World.cell?_of_block (a := (⟨g, 0, none⟩ : Addr).add j) (by rw [add_block]; exact Below.heap_alloc W o g hglt)).trans (how.cells (g := g) rfl j u hj)
    have hnew : (W.alloc (.cells #[] 63 (0, 0))).ownsRow W.heap.size 63 4 (.slice (some ⟨W.heap.size, 0, none⟩) 0 0) 0 [] := ⟨rfl, .inr ⟨W.heap.size, 0, #[], rfl, Nat.le_refl _, World.alloc_heap_new _ _, Nat.le_refl _, by unfold maxLen; omega, rfl, rfl⟩⟩
    have HOW := Lib.hid hcs
    have HN := Lib.hid hnew
    have HONE := Lib.hid (row4_one l)
    have HLEN := Lib.hid (row4_len l)
    clear how hcs hnew
    go_enter Try.func29, Try.ntmps29
    go_wp2_with (at_builtin; refine wpList_append_own_at _ rfl _ _ 56 rfl W.heap.size 63 i0 (.agg #[.int .i64 0, .bool false, .int .i64 0, .int .i64 0]) 4 32 Try.underlying56 hi0 hz0 hz1 hz2 rfl (by decide) (.slice (some ⟨W.heap.size, 0, none⟩) 0 0) 0 [] rfl HN.out ⟨g, 0, none⟩ l.length c (row4 l) rfl HLEN.out (HOW.out _) HONE.out (by unfold maxLen; omega) (by omega) (by simp) ?_; intro v' w1 hown1 hgrow1 hnil1 hat1)
    obtain ⟨A', c', rfl⟩ := own_slice hown1
    have e : (Value.slice A' (0 + l.length) c') = .slice A' l.length c' := by rw [Nat.zero_add]
    rw [e] at hown1 ⊢
    go_ret
    refine ⟨A', c', rfl, ?_, by rw [Nat.zero_add, List.nil_append] at hown1; exact hown1⟩
    have k1 : Kept (pOld W.heap.size) W (W.alloc (.cells #[] 63 (0, 0))) := Kept.alloc _ _ _
    exact k1.trans (Kept.grown hgrow1 fun j o e _ => by injection e with e; subst e; simp [pOld])
set_option maxHeartbeats 1000000 in
set_option maxRecDepth 100000 in
theorem All_ok (W : World) (hE : EV qv l W) (hsm : l.length ≤ 900000) :
    Calls Try.prog 33 #[qv] W fun e W' => ∃ bl A c, e = .returned (.func (.func 45) #[] #[.pointer (some ⟨bl, 0, none⟩)]) ∧ Ext W W' ∧ W.heap.size ≤ bl ∧ W'.heap[bl]? = some (.cells #[.slice A l.length c] 56 (0, 0)) ∧ W'.ownsRow W.heap.size 63 4 (.slice A l.length c) l.length (row4 l) := by
  have hmf : ∀ (fn : Fn) (first cap : Array Value) (w : World), (Instr.makeFunc fn first cap).run Try.prog w = .ok (.func fn first cap) w := fun _ _ _ _ => rfl
  have hen := entries_ok hE
  go_enter Try.func33, Try.ntmps33
  go_wp2_with fail
  refine hen.mono ?_
  rintro e w1 ⟨A, c, rfl, hw1, how⟩
  subst hw1
  clear hen
  go_wp2_with fail
  refine (clone_ok A c _ how hsm).mono ?_
  rintro e w2 ⟨A', c', rfl, hx, how2⟩
  have HX := Lib.hid hx
  have HOW := Lib.hid how2
  clear hx how how2
  go_wp2_with fail
  go_ret
  exact ⟨_, A', c', rfl, HX.out.trans (Ext.one _ _), HX.out.size, World.alloc_heap_new _ _, ((Ext.one _ _).kept (fun _ _ => true)).row HOW.out fun _ _ => rfl⟩
theorem eg45 (args : Array Value) (w : World) : (callFunc 45 args).run Try.prog w = .ok (.enter 45 args) w := by kernel_rfl
end
end Go.Proofs.Ytmbdglolpagjdaa
