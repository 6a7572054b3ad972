/- Entries; what is ahead of what. -/
import Derived.Test.YtmbdglolpagjdaaQuW
namespace Go.Proofs.Ytmbdglolpagjdaa
open Go.RowKit Go.Shelf

/-- What was there is as it was. -/
def Ext (W W' : World) : Prop := Kept (pOld W.heap.size) W W'
theorem Ext.kept {W W' : World} (h : Ext W W') (p : Nat → Option TypeId → Bool) : Kept p W W' := h.mono fun _ _ hb _ => by simp [pOld, hb]
theorem Ext.of {W W' : World} (h : Below W.heap.size W W') : Ext W W' := Kept.of_below h fun _ _ hb _ => hb
theorem Ext.refl (W : World) : Ext W W := Kept.refl _ W
theorem Ext.trans {A B C : World} (h : Ext A B) (k : Ext B C) : Ext A C := Kept.trans h (k.kept _)
theorem Ext.one (w : World) (o : Obj) : Ext w (w.alloc o) := Kept.alloc _ _ _
theorem Ext.two (w : World) (o o' : Obj) : Ext w ((w.alloc o).alloc o') := (Ext.one w o).trans (Ext.one _ o')
theorem Ext.drew (w : World) : Ext w w.drew := Kept.drew _ _

structure Ent where
  task : Int
  front : Bool
  due : Int
  nth : Int
deriving Inhabited, DecidableEq
def Ent.cells (x : Ent) : List Value := [.int .i64 x.task, .bool x.front, .int .i64 x.due, .int .i64 x.nth]
def Ent.val (x : Ent) : Value := .agg #[.int .i64 x.task, .bool x.front, .int .i64 x.due, .int .i64 x.nth]
/-- x comes ahead of y. -/
def eLt (x y : Ent) : Bool :=
  if x.front != y.front then x.front else if x.front then decide (x.nth > y.nth) else if x.due != y.due then decide (x.due < y.due) else decide (x.nth < y.nth)
theorem eLt_swo : Swo eLt := by
  constructor
  · rintro ⟨_, f, d, n⟩ ⟨_, f', d', n'⟩ h
    cases f <;> cases f' <;> simp [eLt] at h ⊢ <;> (try split at h) <;> (try split) <;> (try simp_all) <;> (try omega)
  · rintro ⟨_, f, d, n⟩ ⟨_, f', d', n'⟩ ⟨_, f2, d2, n2⟩ h h2
    cases f <;> cases f' <;> cases f2 <;> simp [eLt] at h h2 ⊢ <;> (try split at h) <;> (try split at h2) <;> (try split) <;> (try simp_all) <;> (try omega)

set_option maxHeartbeats 1000000 in
set_option maxRecDepth 100000 in
theorem ahead_ok (x y : Ent) (w : World) : Calls Try.prog 47 #[x.val, y.val] w fun e w' => e = .returned (.bool (eLt x y)) ∧ Ext w w' := by
  obtain ⟨t, f, d, n⟩ := x
  obtain ⟨t', f', d', n'⟩ := y
  unfold Ent.val
  dsimp only
  go_enter Try.func47, Try.ntmps47
  cases f with
  | true =>
    cases f' with
    | true =>
      go_wp2
      go_ret
      exact ⟨by simp [eLt], Ext.two _ _ _⟩
    | false =>
      go_wp2
      go_ret
      exact ⟨by simp [eLt], Ext.two _ _ _⟩
  | false =>
    cases f' with
    | true =>
      go_wp2
      go_ret
      exact ⟨by simp [eLt], Ext.two _ _ _⟩
    | false =>
      by_cases h : d = d'
      · subst h
        go_wp2
        go_ret
        exact ⟨by simp [eLt], Ext.two _ _ _⟩
      · have h1 : (d != d') = true := by simpa using h
        go_wp2
        go_ret
        exact ⟨by simp [eLt, h], Ext.two _ _ _⟩
end Go.Proofs.Ytmbdglolpagjdaa
