/- The program's registersMayBe: yes of an instruction that may be and names no cells. -/
import Derived.Test.YtfljmdpigckpkaaGreatDoorSvE
import Derived.Deep.Upon
namespace Go.Proofs.YtfljmdpigckpkaaGreatDoor
open Go.RowKit Go.Shelf
attribute [local go_sem] Oper.semAt_some
theorem append0 (b n : Nat) (A : Option Addr) (c : Nat) (ty : TypeId) (w : World) : (Builtin.append_ #[23, 23] ty #[.slice (some ⟨b, 0, none⟩) n n, .slice A 0 c]).run Tryz.prog w = .ok (.slice (some ⟨b, 0, none⟩) n n) w := by
  obtain ⟨i0, hi0, hz0, hz1, hz2⟩ := infoParts infoInts
  refine Go.run_append_nothing w _ _ ty 3 i0 Tryz.underlying23 hi0 (some ⟨b, 0, none⟩) n n (Nat.le_refl _) _ ?_
  cases A with
  | none => exact Go.Src.ofNil w Tryz.underlying23 c
  | some ad => exact Go.Src.ofSlice w Tryz.underlying23 ad 0 c [] (by simp) (fun j u hj => by simp at hj) (fun u hu => by cases hu)
theorem quiet_append {P : Program} {C : World → Prop} {K : Act → Prop} {a : Act} {o : Oper} (s x : Operand) (t : TypeId) (ho : o.op = .call { callee := .builtin .append, args := #[s, x], argTypes := #[t, t] }) (v xv r : Value) (hs : a.eval s = v) (hx : a.eval x = xv)
    (h : ∀ w, (Builtin.append_ #[t, t] o.type #[v, xv]).run P w = .ok r w) (hk : K (a.put o.dst r)) : o.quiet P a C K :=
  ⟨r, fun w _ => by unfold Oper.quietAt; simp [execOp, ho, resolve, invoke, builtin, hs, hx, h, Result.andThen, Oper.quietUpon], hk⟩
theorem named_tab {o : Int} (h : 1 ≤ o) (h2 : o ≤ 33) : ∃ k : Nat, o = k ∧ k < 34 ∧ tabN.getD k 0 = namedO o := by
  rcases ops33 h h2 with rfl | rfl | rfl | rfl | rfl | rfl | rfl | rfl | rfl | rfl | rfl | rfl | rfl | rfl | rfl | rfl | rfl | rfl | rfl | rfl | rfl | rfl | rfl | rfl | rfl | rfl | rfl | rfl | rfl | rfl | rfl | rfl | rfl
  all_goals first
    | exact ⟨1, rfl, by decide, rfl⟩
    | exact ⟨2, rfl, by decide, rfl⟩
    | exact ⟨3, rfl, by decide, rfl⟩
    | exact ⟨4, rfl, by decide, rfl⟩
    | exact ⟨5, rfl, by decide, rfl⟩
    | exact ⟨6, rfl, by decide, rfl⟩
    | exact ⟨7, rfl, by decide, rfl⟩
    | exact ⟨8, rfl, by decide, rfl⟩
    | exact ⟨9, rfl, by decide, rfl⟩
    | exact ⟨10, rfl, by decide, rfl⟩
    | exact ⟨11, rfl, by decide, rfl⟩
    | exact ⟨12, rfl, by decide, rfl⟩
    | exact ⟨13, rfl, by decide, rfl⟩
    | exact ⟨14, rfl, by decide, rfl⟩
    | exact ⟨15, rfl, by decide, rfl⟩
    | exact ⟨16, rfl, by decide, rfl⟩
    | exact ⟨17, rfl, by decide, rfl⟩
    | exact ⟨18, rfl, by decide, rfl⟩
    | exact ⟨19, rfl, by decide, rfl⟩
    | exact ⟨20, rfl, by decide, rfl⟩
    | exact ⟨21, rfl, by decide, rfl⟩
    | exact ⟨22, rfl, by decide, rfl⟩
    | exact ⟨23, rfl, by decide, rfl⟩
    | exact ⟨24, rfl, by decide, rfl⟩
    | exact ⟨25, rfl, by decide, rfl⟩
    | exact ⟨26, rfl, by decide, rfl⟩
    | exact ⟨27, rfl, by decide, rfl⟩
    | exact ⟨28, rfl, by decide, rfl⟩
    | exact ⟨29, rfl, by decide, rfl⟩
    | exact ⟨30, rfl, by decide, rfl⟩
    | exact ⟨31, rfl, by decide, rfl⟩
    | exact ⟨32, rfl, by decide, rfl⟩
    | exact ⟨33, rfl, by decide, rfl⟩
structure Box2 (B : Nat) (f : Fn) (x : Ins) (w : World) : Prop where
  bf : w.heap[B]? = some f.o
  bx : w.heap[B + 1]? = some x.o
theorem Box2.new (f : Fn) (x : Ins) (W : World) : Box2 W.heap.size f x ((W.alloc f.o).alloc x.o) := by
  have k3 : Ext (W.alloc f.o) ((W.alloc f.o).alloc x.o) := Ext.one _ _
  refine ⟨(k3.kept (fun _ _ => true)).same _ _ (World.alloc_heap_new _ _) rfl, ?_⟩
  have := World.alloc_heap_new (W.alloc f.o) x.o
  rwa [World.size_alloc] at this
theorem Box2.ext {B : Nat} {f : Fn} {x : Ins} {w w' : World} (h : Box2 B f x w) (k : Ext w w') : Box2 B f x w' := ⟨(k.kept (fun _ _ => true)).same _ _ h.bf rfl, (k.kept (fun _ _ => true)).same _ _ h.bx rfl⟩
set_option maxHeartbeats 8000000 in
set_option maxRecDepth 100000 in
theorem registers_ok {P : Prg} {f : Fn} {x : Ins} {W : World} (hT : Tab W) (hi : InsOk P f x) (hl : x.l = []) : Calls Tryz.prog 284 #[f.v, x.v] W fun e W' => e = .returned (.bool true) ∧ Ext W W' := by
  obtain ⟨k, hk, hk34, hkn⟩ := named_tab hi.op1 hi.op2
  have hn := namedO_le x.op
  have hrg := hi.rg
  rw [← hkn] at hn hrg
  unfold Fn.v Ins.v
  obtain ⟨W2, hW2⟩ : ∃ W2, W2 = (W.alloc f.o).alloc x.o := ⟨_, rfl⟩
  have hE2 : Ext W W2 := by rw [hW2]; exact (Ext.one _ _).trans (Ext.one _ _)
  have hb2 : Box2 W.heap.size f x W2 := by rw [hW2]; exact Box2.new f x W
  obtain ⟨i0, i1, i2, i3, i4, i5, i6, i7, il⟩ := Ins.o_cells hb2.bx
  have hl0 : x.l.length = 0 := by rw [hl]; rfl
  rw [hl0] at i5
  rw [hk] at i0
  have HE2 := Lib.hid hE2
  have HB2 := Lib.hid hb2
  have HW := Lib.hid hW2
  have HT := Lib.hid (hT.ext hE2)
  have HR := Lib.hid hrg
  have HOP := Lib.hid (And.intro hk hl0)
  clear hE2 hb2 hW2 hT hi hl hl0 hkn hrg hk
  go_enter Tryz.func284, Tryz.ntmps284
  go_upto_region 1 with (fail)
  change Code.wp _ _ _ _ ((W.alloc f.o).alloc x.o)
  rw [← HW.out]
  go_upto_region 4 with (fail)
  obtain ⟨W3, hW3⟩ : ∃ W3, W3 = W2.alloc (.cells #[.int .i64 x.a, .int .i64 x.b, .int .i64 x.c] 402 (0, 0)) := ⟨_, rfl⟩
  change Code.wp _ _ _ _ (W2.alloc (.cells #[.int .i64 x.a, .int .i64 x.b, .int .i64 x.c] 402 (0, 0)))
  rw [← hW3]
  have hE3 : Ext W2 W3 := by rw [hW3]; exact Ext.one _ _
  have hr3 : W3.heap[W2.heap.size]? = some (.cells #[.int .i64 x.a, .int .i64 x.b, .int .i64 x.c] 402 (0, 0)) := by rw [hW3]; exact World.alloc_heap_new _ _
  have hb3 := HB2.out.ext hE3
  have hT3 := HT.out.ext hE3
  have tk := hT3.at' k hk34
  have tl := hT3.lt
  clear i0 i1 i2 i3 i4 i5 i6 i7 il
  obtain ⟨i0, i1, i2, i3, i4, i5, i6, i7, il⟩ := Ins.o_cells hb3.bx
  have r0 : W3.cell? ⟨W2.heap.size, 0, none⟩ = some (.int .i64 x.a) := by simp [World.cell?, hr3]
  have r1 : W3.cell? ⟨W2.heap.size, 1, none⟩ = some (.int .i64 x.b) := by simp [World.cell?, hr3]
  have r2 : W3.cell? ⟨W2.heap.size, 2, none⟩ = some (.int .i64 x.c) := by simp [World.cell?, hr3]
  have rl := (Array.getElem?_eq_some_iff.1 hr3).1
  have z34 : (k : Int) < 34 := by omega
  have hop := HOP.out
  rw [hop.1] at i0
  rw [hop.2] at i5
  obtain ⟨m, hm⟩ : ∃ m : Nat, tabN.getD k 0 = (m : Int) := ⟨(tabN.getD k 0).toNat, by omega⟩
  have hm3 : m ≤ 3 := by omega
  rw [hm] at tk
  have HR2 := Lib.hid (hm ▸ HR.out)
  have HX3 := Lib.hid (HE2.out.trans hE3)
  have HB3 := Lib.hid hb3
  have HR3 := Lib.hid hr3
  generalize W2.heap.size = bR at *
  clear HE2 HB2 HW HT hE3 hr3 hb3 hT3 hop hm HR hW3
  rcases (show m = 0 ∨ m = 1 ∨ m = 2 ∨ m = 3 by omega) with rfl | rfl | rfl | rfl
  · refine wp_region_quiet_lit (by kernel_rfl) (by kernel_rfl) ?_
    repeat (quiet_step (fail))
    refine Go.BigFrame.wpQuiet_want rfl fun K hK => quiet_append _ _ _ rfl _ _ _ rfl rfl (fun w => append0 _ _ _ _ _ w) (hK _ ?_)
    clear hK K
    repeat (quiet_step (fail))
    refine wpQuiet_nil ?_
    rintro _ ⟨nq, rfl⟩
    have HQ := Lib.hid (Ext.drewN W3 nq)
    generalize W3.drewN nq = W4 at *
    clear i0 i1 i2 i3 i4 i5 i6 i7 il r0 r1 r2 rl tk tl z34
    go_wp2_with fail
    go_loopg [37] 3 (fun k v37 wr => ∃ (n : Nat), n ≤ 0 ∧ n + k = 3 ∧ v37 = .int .i64 n ∧ Ext W3 wr)
    case atStart => exact ⟨0, by omega, by omega, rfl, HQ.out⟩
    case round =>
      obtain ⟨n, hnm, hnk, rfl, hx⟩ := hrel
      rcases Nat.lt_or_ge n 0 with hn | hn
      · exact absurd hn (Nat.not_lt_zero n)
      · have z1 : ¬ (n : Int) < 0 := by omega
        have HX := Lib.hid hx
        clear hnk hn hnm hx
        go_wp2_with fail
        go_ret
        exact ⟨rfl, HX3.out.trans HX.out⟩
  · refine wp_region_quiet_lit (by kernel_rfl) (by kernel_rfl) ?_
    repeat (quiet_step (fail))
    refine Go.BigFrame.wpQuiet_want rfl fun K hK => quiet_append _ _ _ rfl _ _ _ rfl rfl (fun w => append0 _ _ _ _ _ w) (hK _ ?_)
    clear hK K
    repeat (quiet_step (fail))
    refine wpQuiet_nil ?_
    rintro _ ⟨nq, rfl⟩
    have HQ := Lib.hid (Ext.drewN W3 nq)
    generalize W3.drewN nq = W4 at *
    clear i0 i1 i2 i3 i4 i5 i6 i7 il r0 r1 r2 rl tk tl z34
    go_wp2_with fail
    go_loopg [37] 3 (fun k v37 wr => ∃ (n : Nat), n ≤ 1 ∧ n + k = 3 ∧ v37 = .int .i64 n ∧ Ext W3 wr)
    case atStart => exact ⟨0, by omega, by omega, rfl, HQ.out⟩
    case round =>
      obtain ⟨n, hnm, hnk, rfl, hx⟩ := hrel
      rcases Nat.lt_or_ge n 1 with hn | hn
      · have z1 : (n : Int) < 1 := by omega
        have hv : wr.cell? ⟨bR, n, none⟩ = some (.int .i64 (rgA x n)) ∧ bR < wr.heap.size := by
          refine ⟨?_, Nat.lt_of_lt_of_le (Array.getElem?_eq_some_iff.1 HR3.out).1 hx.size⟩
          have hc := (hx.kept (fun _ _ => true)).same _ _ HR3.out rfl
          match n, hn with
          | 0, _ => simp [World.cell?, hc, rgA]
        obtain ⟨v0, vl⟩ := hv
        obtain ⟨f0, f1, f2, f3, fl⟩ := Fn.o_cells (HB3.out.ext hx).bf
        have HA := Lib.hid (HR2.out n (by omega) ▸ amongI_ok (rgA x n) f.regs wr)
        have HX := Lib.hid hx
        generalize rgA x n = v at v0 HA
        clear hx
        go_wp2_with (go_at_call 272; refine HA.out.mono ?_; rintro e w2 ⟨rfl, hw⟩; rw [hw]; clear hw)
        go_roundg (gk - 1)
        case measure => omega
        case rel => exact ⟨n + 1, by omega, by omega, by go_num, HX.out⟩
      · have z1 : ¬ (n : Int) < 1 := by omega
        have HX := Lib.hid hx
        clear hnk hn hnm hx
        go_wp2_with fail
        go_ret
        exact ⟨rfl, HX3.out.trans HX.out⟩
  · refine wp_region_quiet_lit (by kernel_rfl) (by kernel_rfl) ?_
    repeat (quiet_step (fail))
    refine Go.BigFrame.wpQuiet_want rfl fun K hK => quiet_append _ _ _ rfl _ _ _ rfl rfl (fun w => append0 _ _ _ _ _ w) (hK _ ?_)
    clear hK K
    repeat (quiet_step (fail))
    refine wpQuiet_nil ?_
    rintro _ ⟨nq, rfl⟩
    have HQ := Lib.hid (Ext.drewN W3 nq)
    generalize W3.drewN nq = W4 at *
    clear i0 i1 i2 i3 i4 i5 i6 i7 il r0 r1 r2 rl tk tl z34
    go_wp2_with fail
    go_loopg [37] 3 (fun k v37 wr => ∃ (n : Nat), n ≤ 2 ∧ n + k = 3 ∧ v37 = .int .i64 n ∧ Ext W3 wr)
    case atStart => exact ⟨0, by omega, by omega, rfl, HQ.out⟩
    case round =>
      obtain ⟨n, hnm, hnk, rfl, hx⟩ := hrel
      rcases Nat.lt_or_ge n 2 with hn | hn
      · have z1 : (n : Int) < 2 := by omega
        have hv : wr.cell? ⟨bR, n, none⟩ = some (.int .i64 (rgA x n)) ∧ bR < wr.heap.size := by
          refine ⟨?_, Nat.lt_of_lt_of_le (Array.getElem?_eq_some_iff.1 HR3.out).1 hx.size⟩
          have hc := (hx.kept (fun _ _ => true)).same _ _ HR3.out rfl
          match n, hn with
          | 0, _ => simp [World.cell?, hc, rgA]
          | 1, _ => simp [World.cell?, hc, rgA]
        obtain ⟨v0, vl⟩ := hv
        obtain ⟨f0, f1, f2, f3, fl⟩ := Fn.o_cells (HB3.out.ext hx).bf
        have HA := Lib.hid (HR2.out n (by omega) ▸ amongI_ok (rgA x n) f.regs wr)
        have HX := Lib.hid hx
        generalize rgA x n = v at v0 HA
        clear hx
        go_wp2_with (go_at_call 272; refine HA.out.mono ?_; rintro e w2 ⟨rfl, hw⟩; rw [hw]; clear hw)
        go_roundg (gk - 1)
        case measure => omega
        case rel => exact ⟨n + 1, by omega, by omega, by go_num, HX.out⟩
      · have z1 : ¬ (n : Int) < 2 := by omega
        have HX := Lib.hid hx
        clear hnk hn hnm hx
        go_wp2_with fail
        go_ret
        exact ⟨rfl, HX3.out.trans HX.out⟩
  · refine wp_region_quiet_lit (by kernel_rfl) (by kernel_rfl) ?_
    repeat (quiet_step (fail))
    refine Go.BigFrame.wpQuiet_want rfl fun K hK => quiet_append _ _ _ rfl _ _ _ rfl rfl (fun w => append0 _ _ _ _ _ w) (hK _ ?_)
    clear hK K
    repeat (quiet_step (fail))
    refine wpQuiet_nil ?_
    rintro _ ⟨nq, rfl⟩
    have HQ := Lib.hid (Ext.drewN W3 nq)
    generalize W3.drewN nq = W4 at *
    clear i0 i1 i2 i3 i4 i5 i6 i7 il r0 r1 r2 rl tk tl z34
    go_wp2_with fail
    go_loopg [37] 3 (fun k v37 wr => ∃ (n : Nat), n ≤ 3 ∧ n + k = 3 ∧ v37 = .int .i64 n ∧ Ext W3 wr)
    case atStart => exact ⟨0, by omega, by omega, rfl, HQ.out⟩
    case round =>
      obtain ⟨n, hnm, hnk, rfl, hx⟩ := hrel
      rcases Nat.lt_or_ge n 3 with hn | hn
      · have z1 : (n : Int) < 3 := by omega
        have hv : wr.cell? ⟨bR, n, none⟩ = some (.int .i64 (rgA x n)) ∧ bR < wr.heap.size := by
          refine ⟨?_, Nat.lt_of_lt_of_le (Array.getElem?_eq_some_iff.1 HR3.out).1 hx.size⟩
          have hc := (hx.kept (fun _ _ => true)).same _ _ HR3.out rfl
          match n, hn with
          | 0, _ => simp [World.cell?, hc, rgA]
          | 1, _ => simp [World.cell?, hc, rgA]
          | 2, _ => simp [World.cell?, hc, rgA]
        obtain ⟨v0, vl⟩ := hv
        obtain ⟨f0, f1, f2, f3, fl⟩ := Fn.o_cells (HB3.out.ext hx).bf
        have HA := Lib.hid (HR2.out n (by omega) ▸ amongI_ok (rgA x n) f.regs wr)
        have HX := Lib.hid hx
        generalize rgA x n = v at v0 HA
        clear hx
        go_wp2_with (go_at_call 272; refine HA.out.mono ?_; rintro e w2 ⟨rfl, hw⟩; rw [hw]; clear hw)
        go_roundg (gk - 1)
        case measure => omega
        case rel => exact ⟨n + 1, by omega, by omega, by go_num, HX.out⟩
      · have z1 : ¬ (n : Int) < 3 := by omega
        have HX := Lib.hid hx
        clear hnk hn hnm hx
        go_wp2_with fail
        go_ret
        exact ⟨rfl, HX3.out.trans HX.out⟩
end Go.Proofs.YtfljmdpigckpkaaGreatDoor
