/- The program's registersMayBe: yes of an instruction that may be and names no cells; The program's codeMayBe: yes of a program that may be and whose closures capture nothing; slices.Equal of places at the seat; the program's sitesMayBe: yes of a program that may be; The program's mayBe: yes of a program that may be; What stays true whatever is done to one block; rows of many cells, a cell of which is set; programs that are alike but for where they lie. Of no law of its own but for the kinds. -/
import Derived.Test.YtfljmdpigckpkaaGreatDoorB05
import Derived.Deep.Upon
namespace Go.Proofs.YtfljmdpigckpkaaGreatDoor
open Go.RowKit Go.Shelf
attribute [local go_sem] Oper.semAt_some
theorem append0 (b n : Nat) (A : Option Addr) (c : Nat) (ty : TypeId) (w : World) : (Builtin.append_ #[23, 23] ty #[.slice (some ⟨b, 0, none⟩) n n, .slice A 0 c]).run Tryz.prog w = .ok (.slice (some ⟨b, 0, none⟩) n n) w := by
  obtain ⟨i0, hi0, hz0, hz1, hz2⟩ := infoParts infoInts
  refine Go.run_append_nothing w _ _ ty 3 i0 Tryz.underlying23 hi0 (some ⟨b, 0, none⟩) n n (Nat.le_refl _) _ ?_
  cases A with
  | none => exact Go.Src.ofNil w Tryz.underlying23 c
  | some ad => exact Go.Src.ofSlice w Tryz.underlying23 ad 0 c [] (by simp) (fun j u hj => by simp at hj) (fun u hu => by cases hu)
theorem quiet_append {P : Program} {C : World → Prop} {K : Act → Prop} {a : Act} {o : Oper} (s x : Operand) (t : TypeId) (ho : o.op = .call { callee := .builtin .append, args := #[s, x], argTypes := #[t, t] }) (v xv r : Value) (hs : a.eval s = v) (hx : a.eval x = xv)
    (h : ∀ w, (Builtin.append_ #[t, t] o.type #[v, xv]).run P w = .ok r w) (hk : K (a.put o.dst r)) : o.quiet P a C K :=
  ⟨r, fun w _ => by unfold Oper.quietAt; simp [execOp, ho, resolve, invoke, builtin, hs, hx, h, Result.andThen, Oper.quietUpon], hk⟩
theorem named_tab {o : Int} (h : 1 ≤ o) (h2 : o ≤ 33) : ∃ k : Nat, o = k ∧ k < 34 ∧ tabN.getD k 0 = namedO o := by
  rcases ops33 h h2 with rfl | rfl | rfl | rfl | rfl | rfl | rfl | rfl | rfl | rfl | rfl | rfl | rfl | rfl | rfl | rfl | rfl | rfl | rfl | rfl | rfl | rfl | rfl | rfl | rfl | rfl | rfl | rfl | rfl | rfl | rfl | rfl | rfl
  all_goals first
    | exact ⟨1, rfl, by decide, rfl⟩
    | exact ⟨2, rfl, by decide, rfl⟩
    | exact ⟨3, rfl, by decide, rfl⟩
    | exact ⟨4, rfl, by decide, rfl⟩
    | exact ⟨5, rfl, by decide, rfl⟩
    | exact ⟨6, rfl, by decide, rfl⟩
    | exact ⟨7, rfl, by decide, rfl⟩
    | exact ⟨8, rfl, by decide, rfl⟩
    | exact ⟨9, rfl, by decide, rfl⟩
    | exact ⟨10, rfl, by decide, rfl⟩
    | exact ⟨11, rfl, by decide, rfl⟩
    | exact ⟨12, rfl, by decide, rfl⟩
    | exact ⟨13, rfl, by decide, rfl⟩
    | exact ⟨14, rfl, by decide, rfl⟩
    | exact ⟨15, rfl, by decide, rfl⟩
    | exact ⟨16, rfl, by decide, rfl⟩
    | exact ⟨17, rfl, by decide, rfl⟩
    | exact ⟨18, rfl, by decide, rfl⟩
    | exact ⟨19, rfl, by decide, rfl⟩
    | exact ⟨20, rfl, by decide, rfl⟩
    | exact ⟨21, rfl, by decide, rfl⟩
    | exact ⟨22, rfl, by decide, rfl⟩
    | exact ⟨23, rfl, by decide, rfl⟩
    | exact ⟨24, rfl, by decide, rfl⟩
    | exact ⟨25, rfl, by decide, rfl⟩
    | exact ⟨26, rfl, by decide, rfl⟩
    | exact ⟨27, rfl, by decide, rfl⟩
    | exact ⟨28, rfl, by decide, rfl⟩
    | exact ⟨29, rfl, by decide, rfl⟩
    | exact ⟨30, rfl, by decide, rfl⟩
    | exact ⟨31, rfl, by decide, rfl⟩
    | exact ⟨32, rfl, by decide, rfl⟩
    | exact ⟨33, rfl, by decide, rfl⟩
structure Box2 (B : Nat) (f : Fn) (x : Ins) (w : World) : Prop where
  bf : w.heap[B]? = some f.o
  bx : w.heap[B + 1]? = some x.o
theorem Box2.new (f : Fn) (x : Ins) (W : World) : Box2 W.heap.size f x ((W.alloc f.o).alloc x.o) := by
  have k3 : Ext (W.alloc f.o) ((W.alloc f.o).alloc x.o) := Ext.one _ _
  refine ⟨(k3.kept (fun _ _ => true)).same _ _ (World.alloc_heap_new _ _) rfl, ?_⟩
  have := World.alloc_heap_new (W.alloc f.o) x.o
  rwa [World.size_alloc] at this
theorem Box2.ext {B : Nat} {f : Fn} {x : Ins} {w w' : World} (h : Box2 B f x w) (k : Ext w w') : Box2 B f x w' := ⟨(k.kept (fun _ _ => true)).same _ _ h.bf rfl, (k.kept (fun _ _ => true)).same _ _ h.bx rfl⟩
set_option maxHeartbeats 8000000 in
set_option maxRecDepth 100000 in
theorem registers_ok {P : Prg} {f : Fn} {x : Ins} {W : World} (hT : Tab W) (hi : InsOk P f x) (hl : x.l = []) : Calls Tryz.prog 284 #[f.v, x.v] W fun e W' => e = .returned (.bool true) ∧ Ext W W' := by
  obtain ⟨k, hk, hk34, hkn⟩ := named_tab hi.op1 hi.op2
  have hn := namedO_le x.op
  have hrg := hi.rg
  rw [← hkn] at hn hrg
  unfold Fn.v Ins.v
  obtain ⟨W2, hW2⟩ : ∃ W2, W2 = (W.alloc f.o).alloc x.o := ⟨_, rfl⟩
  have hE2 : Ext W W2 := by rw [hW2]; exact (Ext.one _ _).trans (Ext.one _ _)
  have hb2 : Box2 W.heap.size f x W2 := by rw [hW2]; exact Box2.new f x W
  obtain ⟨i0, i1, i2, i3, i4, i5, i6, i7, il⟩ := Ins.o_cells hb2.bx
  have hl0 : x.l.length = 0 := by rw [hl]; rfl
  rw [hl0] at i5
  rw [hk] at i0
  have HE2 := Lib.hid hE2
  have HB2 := Lib.hid hb2
  have HW := Lib.hid hW2
  have HT := Lib.hid (hT.ext hE2)
  have HR := Lib.hid hrg
  have HOP := Lib.hid (And.intro hk hl0)
  clear hE2 hb2 hW2 hT hi hl hl0 hkn hrg hk
  go_enter Tryz.func284, Tryz.ntmps284
  go_upto_region 1 with (fail)
  change Code.wp _ _ _ _ ((W.alloc f.o).alloc x.o)
  rw [← HW.out]
  go_upto_region 4 with (fail)
  obtain ⟨W3, hW3⟩ : ∃ W3, W3 = W2.alloc (.cells #[.int .i64 x.a, .int .i64 x.b, .int .i64 x.c] 402 (0, 0)) := ⟨_, rfl⟩
  change Code.wp _ _ _ _ (W2.alloc (.cells #[.int .i64 x.a, .int .i64 x.b, .int .i64 x.c] 402 (0, 0)))
  rw [← hW3]
  have hE3 : Ext W2 W3 := by rw [hW3]; exact Ext.one _ _
  have hr3 : W3.heap[W2.heap.size]? = some (.cells #[.int .i64 x.a, .int .i64 x.b, .int .i64 x.c] 402 (0, 0)) := by rw [hW3]; exact World.alloc_heap_new _ _
  have hb3 := HB2.out.ext hE3
  have hT3 := HT.out.ext hE3
  have tk := hT3.at' k hk34
  have tl := hT3.lt
  clear i0 i1 i2 i3 i4 i5 i6 i7 il
  obtain ⟨i0, i1, i2, i3, i4, i5, i6, i7, il⟩ := Ins.o_cells hb3.bx
  have r0 : W3.cell? ⟨W2.heap.size, 0, none⟩ = some (.int .i64 x.a) := by simp [World.cell?, hr3]
  have r1 : W3.cell? ⟨W2.heap.size, 1, none⟩ = some (.int .i64 x.b) := by simp [World.cell?, hr3]
  have r2 : W3.cell? ⟨W2.heap.size, 2, none⟩ = some (.int .i64 x.c) := by simp [World.cell?, hr3]
  have rl := (Array.getElem?_eq_some_iff.1 hr3).1
  have z34 : (k : Int) < 34 := by omega
  have hop := HOP.out
  rw [hop.1] at i0
  rw [hop.2] at i5
  obtain ⟨m, hm⟩ : ∃ m : Nat, tabN.getD k 0 = (m : Int) := ⟨(tabN.getD k 0).toNat, by omega⟩
  have hm3 : m ≤ 3 := by omega
  rw [hm] at tk
  have HR2 := Lib.hid (hm ▸ HR.out)
  have HX3 := Lib.hid (HE2.out.trans hE3)
  have HB3 := Lib.hid hb3
  have HR3 := Lib.hid hr3
  generalize W2.heap.size = bR at *
  clear HE2 HB2 HW HT hE3 hr3 hb3 hT3 hop hm HR hW3
  rcases (show m = 0 ∨ m = 1 ∨ m = 2 ∨ m = 3 by omega) with rfl | rfl | rfl | rfl
  · refine wp_region_quiet_lit (by kernel_rfl) (by kernel_rfl) ?_
    repeat (quiet_step (fail))
    refine Go.BigFrame.wpQuiet_want rfl fun K hK => quiet_append _ _ _ rfl _ _ _ rfl rfl (fun w => append0 _ _ _ _ _ w) (hK _ ?_)
    clear hK K
    repeat (quiet_step (fail))
    refine wpQuiet_nil ?_
    rintro _ ⟨nq, rfl⟩
    have HQ := Lib.hid (Ext.drewN W3 nq)
    generalize W3.drewN nq = W4 at *
    clear i0 i1 i2 i3 i4 i5 i6 i7 il r0 r1 r2 rl tk tl z34
    go_wp2_with fail
    go_loopg [37] 3 (fun k v37 wr => ∃ (n : Nat), n ≤ 0 ∧ n + k = 3 ∧ v37 = .int .i64 n ∧ Ext W3 wr)
    case atStart => exact ⟨0, by omega, by omega, rfl, HQ.out⟩
    case round =>
      obtain ⟨n, hnm, hnk, rfl, hx⟩ := hrel
      rcases Nat.lt_or_ge n 0 with hn | hn
      · exact absurd hn (Nat.not_lt_zero n)
      · have z1 : ¬ (n : Int) < 0 := by omega
        have HX := Lib.hid hx
        clear hnk hn hnm hx
        go_wp2_with fail
        go_ret
        exact ⟨rfl, HX3.out.trans HX.out⟩
  · refine wp_region_quiet_lit (by kernel_rfl) (by kernel_rfl) ?_
    repeat (quiet_step (fail))
    refine Go.BigFrame.wpQuiet_want rfl fun K hK => quiet_append _ _ _ rfl _ _ _ rfl rfl (fun w => append0 _ _ _ _ _ w) (hK _ ?_)
    clear hK K
    repeat (quiet_step (fail))
    refine wpQuiet_nil ?_
    rintro _ ⟨nq, rfl⟩
    have HQ := Lib.hid (Ext.drewN W3 nq)
    generalize W3.drewN nq = W4 at *
    clear i0 i1 i2 i3 i4 i5 i6 i7 il r0 r1 r2 rl tk tl z34
    go_wp2_with fail
    go_loopg [37] 3 (fun k v37 wr => ∃ (n : Nat), n ≤ 1 ∧ n + k = 3 ∧ v37 = .int .i64 n ∧ Ext W3 wr)
    case atStart => exact ⟨0, by omega, by omega, rfl, HQ.out⟩
    case round =>
      obtain ⟨n, hnm, hnk, rfl, hx⟩ := hrel
      rcases Nat.lt_or_ge n 1 with hn | hn
      · have z1 : (n : Int) < 1 := by omega
        have hv : wr.cell? ⟨bR, n, none⟩ = some (.int .i64 (rgA x n)) ∧ bR < wr.heap.size := by
          refine ⟨?_, Nat.lt_of_lt_of_le (Array.getElem?_eq_some_iff.1 HR3.out).1 hx.size⟩
          have hc := (hx.kept (fun _ _ => true)).same _ _ HR3.out rfl
          match n, hn with
          | 0, _ => simp [World.cell?, hc, rgA]
        obtain ⟨v0, vl⟩ := hv
        obtain ⟨f0, f1, f2, f3, fl⟩ := Fn.o_cells (HB3.out.ext hx).bf
        have HA := Lib.hid (HR2.out n (by omega) ▸ amongI_ok (rgA x n) f.regs wr)
        have HX := Lib.hid hx
        generalize rgA x n = v at v0 HA
        clear hx
        go_wp2_with (go_at_call 272; refine HA.out.mono ?_; rintro e w2 ⟨rfl, hw⟩; rw [hw]; clear hw)
        go_roundg (gk - 1)
        case measure => omega
        case rel => exact ⟨n + 1, by omega, by omega, by go_num, HX.out⟩
      · have z1 : ¬ (n : Int) < 1 := by omega
        have HX := Lib.hid hx
        clear hnk hn hnm hx
        go_wp2_with fail
        go_ret
        exact ⟨rfl, HX3.out.trans HX.out⟩
  · refine wp_region_quiet_lit (by kernel_rfl) (by kernel_rfl) ?_
    repeat (quiet_step (fail))
    refine Go.BigFrame.wpQuiet_want rfl fun K hK => quiet_append _ _ _ rfl _ _ _ rfl rfl (fun w => append0 _ _ _ _ _ w) (hK _ ?_)
    clear hK K
    repeat (quiet_step (fail))
    refine wpQuiet_nil ?_
    rintro _ ⟨nq, rfl⟩
    have HQ := Lib.hid (Ext.drewN W3 nq)
    generalize W3.drewN nq = W4 at *
    clear i0 i1 i2 i3 i4 i5 i6 i7 il r0 r1 r2 rl tk tl z34
    go_wp2_with fail
    go_loopg [37] 3 (fun k v37 wr => ∃ (n : Nat), n ≤ 2 ∧ n + k = 3 ∧ v37 = .int .i64 n ∧ Ext W3 wr)
    case atStart => exact ⟨0, by omega, by omega, rfl, HQ.out⟩
    case round =>
      obtain ⟨n, hnm, hnk, rfl, hx⟩ := hrel
      rcases Nat.lt_or_ge n 2 with hn | hn
      · have z1 : (n : Int) < 2 := by omega
        have hv : wr.cell? ⟨bR, n, none⟩ = some (.int .i64 (rgA x n)) ∧ bR < wr.heap.size := by
          refine ⟨?_, Nat.lt_of_lt_of_le (Array.getElem?_eq_some_iff.1 HR3.out).1 hx.size⟩
          have hc := (hx.kept (fun _ _ => true)).same _ _ HR3.out rfl
          match n, hn with
          | 0, _ => simp [World.cell?, hc, rgA]
          | 1, _ => simp [World.cell?, hc, rgA]
        obtain ⟨v0, vl⟩ := hv
        obtain ⟨f0, f1, f2, f3, fl⟩ := Fn.o_cells (HB3.out.ext hx).bf
        have HA := Lib.hid (HR2.out n (by omega) ▸ amongI_ok (rgA x n) f.regs wr)
        have HX := Lib.hid hx
        generalize rgA x n = v at v0 HA
        clear hx
        go_wp2_with (go_at_call 272; refine HA.out.mono ?_; rintro e w2 ⟨rfl, hw⟩; rw [hw]; clear hw)
        go_roundg (gk - 1)
        case measure => omega
        case rel => exact ⟨n + 1, by omega, by omega, by go_num, HX.out⟩
      · have z1 : ¬ (n : Int) < 2 := by omega
        have HX := Lib.hid hx
        clear hnk hn hnm hx
        go_wp2_with fail
        go_ret
        exact ⟨rfl, HX3.out.trans HX.out⟩
  · refine wp_region_quiet_lit (by kernel_rfl) (by kernel_rfl) ?_
    repeat (quiet_step (fail))
    refine Go.BigFrame.wpQuiet_want rfl fun K hK => quiet_append _ _ _ rfl _ _ _ rfl rfl (fun w => append0 _ _ _ _ _ w) (hK _ ?_)
    clear hK K
    repeat (quiet_step (fail))
    refine wpQuiet_nil ?_
    rintro _ ⟨nq, rfl⟩
    have HQ := Lib.hid (Ext.drewN W3 nq)
    generalize W3.drewN nq = W4 at *
    clear i0 i1 i2 i3 i4 i5 i6 i7 il r0 r1 r2 rl tk tl z34
    go_wp2_with fail
    go_loopg [37] 3 (fun k v37 wr => ∃ (n : Nat), n ≤ 3 ∧ n + k = 3 ∧ v37 = .int .i64 n ∧ Ext W3 wr)
    case atStart => exact ⟨0, by omega, by omega, rfl, HQ.out⟩
    case round =>
      obtain ⟨n, hnm, hnk, rfl, hx⟩ := hrel
      rcases Nat.lt_or_ge n 3 with hn | hn
      · have z1 : (n : Int) < 3 := by omega
        have hv : wr.cell? ⟨bR, n, none⟩ = some (.int .i64 (rgA x n)) ∧ bR < wr.heap.size := by
          refine ⟨?_, Nat.lt_of_lt_of_le (Array.getElem?_eq_some_iff.1 HR3.out).1 hx.size⟩
          have hc := (hx.kept (fun _ _ => true)).same _ _ HR3.out rfl
          match n, hn with
          | 0, _ => simp [World.cell?, hc, rgA]
          | 1, _ => simp [World.cell?, hc, rgA]
          | 2, _ => simp [World.cell?, hc, rgA]
        obtain ⟨v0, vl⟩ := hv
        obtain ⟨f0, f1, f2, f3, fl⟩ := Fn.o_cells (HB3.out.ext hx).bf
        have HA := Lib.hid (HR2.out n (by omega) ▸ amongI_ok (rgA x n) f.regs wr)
        have HX := Lib.hid hx
        generalize rgA x n = v at v0 HA
        clear hx
        go_wp2_with (go_at_call 272; refine HA.out.mono ?_; rintro e w2 ⟨rfl, hw⟩; rw [hw]; clear hw)
        go_roundg (gk - 1)
        case measure => omega
        case rel => exact ⟨n + 1, by omega, by omega, by go_num, HX.out⟩
      · have z1 : ¬ (n : Int) < 3 := by omega
        have HX := Lib.hid hx
        clear hnk hn hnm hx
        go_wp2_with fail
        go_ret
        exact ⟨rfl, HX3.out.trans HX.out⟩
end Go.Proofs.YtfljmdpigckpkaaGreatDoor

namespace Go.Proofs.YtfljmdpigckpkaaGreatDoor
open Go.RowKit Go.Shelf
attribute [local go_sem] Oper.semAt_some
/-- No closure captures anything. -/
def NoL (P : Prg) : Prop := ∀ (i : Nat) (h : i < P.fns.length) (k : Nat) (hk : k < P.fns[i].code.length), P.fns[i].code[k].l = []
set_option maxHeartbeats 16000000 in
set_option maxRecDepth 100000 in
theorem codeMayBe_ok {P : Prg} {W : World} (hT : Tab W) (h : P.In W) (hg : GoodP P) (hL : NoL P) : Calls Tryz.prog 200 #[P.v] W fun e W' => e = .returned (.bool true) ∧ Ext W W' := by
  have HNU := Lib.hid (fun (w : World) (k : Ext W w) (f : Fn) (x : Ins) (hi : InsOk P f x) (ht : x.op = 11 → typB P x.n = true) => numbers_ok (h.kept k) hi ht)
  unfold Prg.v at HNU ⊢
  obtain ⟨W1, hW1⟩ : ∃ W1, W1 = W.alloc P.o := ⟨_, rfl⟩
  have hE1 : Ext W W1 := by rw [hW1]; exact Ext.one _ _
  have hb1 : W1.heap[W.heap.size]? = some P.o := by rw [hW1]; exact World.alloc_heap_new _ _
  obtain ⟨x0, x1, x2, x3, x4, x5, x6, x7, xl⟩ := Prg.o_cells hb1
  have HE1 := Lib.hid hE1
  have HB1 := Lib.hid hb1
  have HW := Lib.hid hW1
  have HP := Lib.hid h
  have HG := Lib.hid (And.intro hg hL)
  have HTB := Lib.hid hT
  clear hE1 hb1 hW1 h hg hL hT
  go_enter Tryz.func200, Tryz.ntmps200
  go_upto_region 1 with (fail)
  change Code.wp _ _ _ _ (W.alloc P.o)
  rw [← HW.out]
  go_wp2_with fail
  clear x0 x1 x2 x3 x4 x5 x6 x7 xl HW
  go_loopg [11] P.fns.length (fun k v11 wr => ∃ (i : Nat), i + k = P.fns.length ∧ v11 = .int .i64 i ∧ Ext W wr ∧ wr.heap[W.heap.size]? = some P.o)
  case atStart => exact ⟨0, by omega, rfl, HE1.out, HB1.out⟩
  case round =>
    clear HE1 HB1
    obtain ⟨i, hik, rfl, hx, hb⟩ := hrel
    obtain ⟨wq, rfl⟩ : ∃ y, y = wr := ⟨_, rfl⟩
    obtain ⟨x0, x1, x2, x3, x4, x5, x6, x7, xl⟩ := Prg.o_cells hb
    have HX := Lib.hid hx
    have HB := Lib.hid hb
    have hll := HP.out.fnsL
    rcases Nat.lt_or_ge i P.fns.length with hi | hi
    · have z0 : (i : Int) < (P.fns.length : Int) := by omega
      obtain ⟨g, off, e1, hgl, hin, c0, c1, c2, c3⟩ := Prg.fn_at (HP.out.kept hx) hi
      have hf := HG.out.1.may.fns i hi
      have HF := Lib.hid (And.intro (HG.out.1.cel i hi) (And.intro (HG.out.2 i hi) hf.ins))
      have HIN := Lib.hid (fun (w : World) (k : Ext wq w) => hin.kept k)
      have hr := hf.regs
      have hc := hf.caps
      have hd := hf.code
      have hla := hf.last
      generalize P.fns[i] = f at c0 c1 c2 c3 HF HIN hr hc hd hla
      obtain ⟨G, hG⟩ : ∃ G, G = gk := ⟨_, rfl⟩
      have HGK := Lib.hid hG
      have HE := Lib.hid e1
      have HLA := Lib.hid hla
      rw [e1]
      clear e1 hx hb hG hf hin hla
      go_upto_region 4 with (fail)
      change Code.wp _ _ _ _ (wq.alloc f.o)
      obtain ⟨W2, hW2⟩ : ∃ W2, W2 = wq.alloc f.o := ⟨_, rfl⟩
      rw [← hW2]
      have hE2 : Ext wq W2 := by rw [hW2]; exact Ext.one _ _
      have hb2 : W2.heap[wq.heap.size]? = some f.o := by rw [hW2]; exact World.alloc_heap_new _ _
      obtain ⟨f0, f1, f2, f3, fl⟩ := Fn.o_cells hb2
      have HX2 := Lib.hid (HX.out.trans hE2)
      have HY2 := Lib.hid hE2
      have HB2 := Lib.hid ((hE2.kept (fun _ _ => true)).same _ _ HB.out rfl)
      have HF2 := Lib.hid hb2
      obtain ⟨k, hk⟩ : ∃ k, f.code.length = k + 1 := ⟨f.code.length - 1, by omega⟩
      obtain ⟨g2, off2, e2, hl2, d0⟩ := Fn.op_at (HIN.out _ hE2) (show k < f.code.length by omega)
      have ho : f.code[k].op = 33 ∨ f.code[k].op = 31 := by
        have := HLA.out (by omega)
        simpa [hk] using this
      generalize f.code[k].op = o at d0 ho
      have HE2 := Lib.hid e2
      have HK := Lib.hid hk
      clear hE2 hb2 hW2 x0 x1 x2 x3 x4 x5 x6 x7 xl c0 c1 c2 c3 z0 hll hgl HLA
      rw [e2] at f3
      clear e2
      have z1 : ((f.code.length : Int) - 1) = k := by omega
      clear hk
      go_upto_region 9 with (fail)
      rw [← HE2.out]
      clear f0 f1 f2 f3 fl d0 hl2 z1
      obtain ⟨f0, f1, f2, f3, fl⟩ := Fn.o_cells HF2.out
      rcases ho with rfl | rfl
      all_goals
        go_wp2_with fail
        clear f0 f1 f2 f3 fl
        go_loopg [63] f.code.length (fun k v63 wz => ∃ (n : Nat), n + k = f.code.length ∧ v63 = .int .i64 n ∧ Ext W wz ∧ Ext wq wz ∧ wz.heap[W.heap.size]? = some P.o ∧ wz.heap[wq.heap.size]? = some f.o)
        case atStart => exact ⟨0, by omega, rfl, HX2.out, HY2.out, HB2.out, HF2.out⟩
        case round =>
          obtain ⟨n, hnk, rfl, hx, hy, hb, hfb⟩ := hrel
          clear HX2 HY2 HB2 HF2
          have HX2 := Lib.hid hx
          have HY2 := Lib.hid hy
          have HB2 := Lib.hid hb
          have HF2 := Lib.hid hfb
          rcases Nat.lt_or_ge n f.code.length with hn | hn
          · have z1 : (n : Int) < (f.code.length : Int) := by omega
            obtain ⟨g3, off3, e3, hl3, _, d0, d1, d2, d3, d4, d5, d6, d7⟩ := Fn.ins_at (HIN.out _ hy) hn
            obtain ⟨hcel, hnol, hins⟩ := HF.out
            have HI := Lib.hid (And.intro (hcel n hn) (And.intro (hnol n hn) (hins n hn).1))
            generalize f.code[n] = y at d0 d1 d2 d3 d4 d5 d6 d7 HI
            have HE3 := Lib.hid e3
            rw [e3]
            clear e3 hx hb hy hfb hcel hnol hins
            go_upto_region 14 with (fail)
            change Code.wp _ _ _ _ (wr.alloc y.o)
            obtain ⟨W5, hW5⟩ : ∃ W5, W5 = wr.alloc y.o := ⟨_, rfl⟩
            rw [← hW5]
            have hE5 : Ext wr W5 := by rw [hW5]; exact Ext.one _ _
            have hb5 : W5.heap[wr.heap.size]? = some y.o := by rw [hW5]; exact World.alloc_heap_new _ _
            have hB5 := (hE5.kept (fun _ _ => true)).same _ _ HB2.out rfl
            have hF5 := (hE5.kept (fun _ _ => true)).same _ _ HF2.out rfl
            clear d0 d1 d2 d3 d4 d5 d6 d7
            obtain ⟨x0, x1, x2, x3, x4, x5, x6, x7, xl⟩ := Prg.o_cells hB5
            obtain ⟨f0, f1, f2, f3, fl⟩ := Fn.o_cells hF5
            obtain ⟨d0, d1, d2, d3, d4, d5, d6, d7, dl⟩ := Ins.o_cells hb5
            have HX5 := Lib.hid (HX2.out.trans hE5)
            have HY5 := Lib.hid (HY2.out.trans hE5)
            have HO := Lib.hid (fun w => isOp_ok y.op HI.out.2.2.op1 HI.out.2.2.op2 w)
            have HN2 := Lib.hid (fun (w : World) (k : Ext W w) => HNU.out w k f y HI.out.2.2 HI.out.1)
            have HR2 := Lib.hid (fun (w : World) (k : Ext W w) => registers_ok (HTB.out.ext k) HI.out.2.2 HI.out.2.1)
            have HB5 := Lib.hid hB5
            have HF5 := Lib.hid hF5
            have HXB := Lib.hid hb5
            clear hE5 hb5 hW5 hB5 hF5
            unfold Fn.v Ins.v at HN2 HR2
            go_wp2_with (first
              | (go_at_call 284; refine (HR2.out _ HX6.out).mono ?_; rintro e w2 ⟨rfl, hx2⟩; have HX7 := Lib.hid hx2; clear hx2)
              | (go_at_call 283; refine (HN2.out _ HX5.out).mono ?_; rintro e w2 ⟨rfl, hx2⟩; have HX6 := Lib.hid (HX5.out.trans hx2); have HY6 := Lib.hid hx2; obtain ⟨p0, p1, p2, p3, pl⟩ := Fn.o_cells ((hx2.kept (fun _ _ => true)).same _ _ HF5.out rfl); obtain ⟨q0, q1, q2, q3, q4, q5, q6, q7, ql⟩ := Ins.o_cells ((hx2.kept (fun _ _ => true)).same _ _ HXB.out rfl); clear hx2)
              | (go_at_call 282; refine (HO.out _).mono ?_; rintro e w2 ⟨rfl, hw⟩; rw [hw]; clear hw))
            rw [← HE3.out]
            go_roundg (gk - 1)
            case measure => omega
            case rel => exact ⟨n + 1, by omega, by go_num, HX6.out.trans HX7.out, (HY5.out.trans HY6.out).trans HX7.out, ((HY6.out.trans HX7.out).kept (fun _ _ => true)).same _ _ HB5.out rfl, ((HY6.out.trans HX7.out).kept (fun _ _ => true)).same _ _ HF5.out rfl⟩
          · have z1 : ¬ (n : Int) < (f.code.length : Int) := by omega
            have hll := HP.out.fnsL
            have z0 : (i : Int) < P.fns.length := by omega
            clear hnk hn hx hb hy hfb
            go_wp2_with fail
            rw [← HE.out]
            have hg := HGK.out
            go_roundg (G - 1)
            case measure => omega
            case rel => exact ⟨i + 1, by omega, by go_num, HX2.out, HB2.out⟩
    · have z0 : ¬ (i : Int) < (P.fns.length : Int) := by omega
      clear hx hb hik hi
      go_wp2_with fail
      go_ret
      exact ⟨rfl, HX.out⟩
end Go.Proofs.YtfljmdpigckpkaaGreatDoor

namespace Go.Proofs.YtfljmdpigckpkaaGreatDoor
open Go.RowKit Go.Shelf
attribute [local go_sem] Oper.semAt_some
theorem sit_at {w : World} {A : Option Addr} {m c : Nat} {T : List Sit} {Q : Sit → Prop} (h : RowN Sit.cells 2 Q w A m c T) {i : Nat} (hi : i < T.length) : ∃ g off, A = some ⟨g, off, none⟩ ∧ g < w.heap.size ∧ w.cell? ⟨g, off + i * 2, none⟩ = some (.int .i64 T[i].fn) ∧ w.cell? ⟨g, off + i * 2 + 1, none⟩ = some (.int .i64 T[i].at') := by
  obtain ⟨g, off, h1, h2, _, h4⟩ := h.2.2 i _ (List.getElem?_eq_getElem hi)
  exact ⟨g, off, h1, h2, h4 0 _ rfl, h4 1 _ rfl⟩
set_option maxHeartbeats 4000000 in
set_option maxRecDepth 100000 in
theorem eqSits_ok {W : World} {T : List Sit} {A A' : Option Addr} {c c' : Nat} {Q Q' : Sit → Prop} (h : RowN Sit.cells 2 Q W A T.length c T) (h' : RowN Sit.cells 2 Q' W A' T.length c' T) (hl : T.length ≤ 100000) :
    Calls Tryz.prog 286 #[.slice A T.length c, .slice A' T.length c'] W fun e W' => e = .returned (.bool true) ∧ Ext W W' := by
  have z0 : ((T.length : Int) != (T.length : Int)) = false := by simp
  have H := Lib.hid h
  have H' := Lib.hid h'
  clear h h'
  go_enter Tryz.func286, Tryz.ntmps286
  go_wp2_with fail
  go_loopg [13] T.length (fun k v13 wr => ∃ (i : Nat), i + k = T.length ∧ v13 = .int .i64 i ∧ ∃ m, wr = W.drewN m)
  case atStart => exact ⟨0, by omega, rfl, 0, rfl⟩
  case round =>
    obtain ⟨i, hik, rfl, m, rfl⟩ := hrel
    rcases Nat.lt_or_ge i T.length with hi | hi
    · have z1 : (i : Int) < (T.length : Int) := by omega
      obtain ⟨g, off, e1, hl1, c0, c1⟩ := sit_at H.out hi
      obtain ⟨g', off', e1', hl1', c0', c1'⟩ := sit_at H'.out hi
      generalize T[i] = s at c0 c1 c0' c1'
      have HE := Lib.hid e1
      have HE' := Lib.hid e1'
      rw [e1, e1']
      clear e1 e1'
      have z2 : (s.fn == s.fn) = true := by simp
      have z3 : (s.at' == s.at') = true := by simp
      go_wp2_with fail
      go_quiet (fail)
      go_wp2_with fail
      rw [← HE.out, ← HE'.out]
      go_roundg (gk - 1)
      case measure => omega
      case rel => exact ⟨i + 1, by omega, by go_num, _, rfl⟩
    · have z1 : ¬ (i : Int) < (T.length : Int) := by omega
      clear hik hi
      go_wp2_with fail
      go_ret
      exact ⟨rfl, Ext.drewN _ _⟩
theorem src_two {w : World} {b c : Nat} {x y : Value} {t : TypeId} (h : w.heap[b]? = some (.cells #[x, y] t (0, 0))) : Src w (.slice (some ⟨b, 0, none⟩) 1 c) 1 [x, y] := .inr ⟨_, _, rfl, World.news_of_block h⟩
theorem grow_same {w w' : World} {v : Value} {b : Nat} {o : Obj} (hg : w.grownBy w' v.ownBlock) (hb : w.heap[b]? = some o) (hne : ∀ g, v.ownBlock = some g → g ≠ b) : w'.heap[b]? = some o :=
  (hg.block b (Array.getElem?_eq_some_iff.1 hb).1 fun e => hne b e.symm rfl).trans hb
/-- The places so far, in a row of our own. -/
def SoFar (P : Prg) (B m : Nat) (v : Value) (w : World) : Prop := w.ownsRow B 95 2 v m ((P.sits.take m).flatMap Sit.cells)
theorem SoFar.ext {P : Prg} {B m : Nat} {v : Value} {w w' : World} (h : SoFar P B m v w) (k : Ext w w') : SoFar P B m v w' := (k.kept (fun _ _ => true)).row h fun _ _ => rfl
set_option maxHeartbeats 16000000 in
set_option maxRecDepth 100000 in
theorem sitesMayBe_ok {P : Prg} {W : World} (h : P.In W) (hg : GoodP P) : Calls Tryz.prog 201 #[P.v] W fun e W' => e = .returned (.bool true) ∧ Ext W W' := by
  obtain ⟨i0, hi0, hz0, hz1, hz2⟩ := infoParts infoSits
  unfold Prg.v
  obtain ⟨W1, hW1⟩ : ∃ W1, W1 = W.alloc P.o := ⟨_, rfl⟩
  have hE1 : Ext W W1 := by rw [hW1]; exact Ext.one _ _
  have hb1 : W1.heap[W.heap.size]? = some P.o := by rw [hW1]; exact World.alloc_heap_new _ _
  obtain ⟨x0, x1, x2, x3, x4, x5, x6, x7, xl⟩ := Prg.o_cells hb1
  have HE1 := Lib.hid hE1
  have HB1 := Lib.hid hb1
  have HW := Lib.hid hW1
  have HP := Lib.hid h
  have HG := Lib.hid hg.may
  have HNIL := Lib.hid (show SoFar P (W.heap.size + 1) (siteBase P 0) (.slice none 0 0) W1 from World.ownsRow_nil _ _ _ _)
  clear hE1 hb1 hW1 h hg
  go_enter Tryz.func201, Tryz.ntmps201
  go_upto_region 1 with (fail)
  change Code.wp _ _ _ _ (W.alloc P.o)
  rw [← HW.out]
  go_wp2_with fail
  clear x0 x1 x2 x3 x4 x5 x6 x7 xl HW
  go_loopg [11, 3] P.fns.length (fun k v11 v3 wr => ∃ (i : Nat) (A : Option Addr) (c : Nat), i + k = P.fns.length ∧ v11 = .int .i64 i ∧ v3 = .slice A (siteBase P i) c ∧ Ext W wr ∧ wr.heap[W.heap.size]? = some P.o ∧ SoFar P (W.heap.size + 1) (siteBase P i) (.slice A (siteBase P i) c) wr)
  case atStart => exact ⟨0, none, 0, by omega, rfl, rfl, HE1.out, HB1.out, HNIL.out⟩
  case round =>
    clear HE1 HB1 HNIL
    obtain ⟨i, A, c, hik, rfl, rfl, hx, hb, hs⟩ := hrel
    obtain ⟨wq, rfl⟩ : ∃ y, y = wr := ⟨_, rfl⟩
    obtain ⟨x0, x1, x2, x3, x4, x5, x6, x7, xl⟩ := Prg.o_cells hb
    have HX := Lib.hid hx
    have HB := Lib.hid hb
    have HS := Lib.hid hs
    have hll := HP.out.fnsL
    rcases Nat.lt_or_ge i P.fns.length with hi | hi
    · have z0 : (i : Int) < (P.fns.length : Int) := by omega
      obtain ⟨g, off, e1, hgl, _, c0, c1, c2, c3⟩ := Prg.fn_at (HP.out.kept hx) hi
      have hf := HG.out.fns i hi
      have hd := hf.code
      have hsb := siteBase_succ P hi
      have HF := Lib.hid hf.ins
      have HIN := Lib.hid (fun (w : World) (k : Ext W w) => Prg.fn_in (HP.out.kept k) hi)
      generalize P.fns[i] = f at c0 c1 c2 c3 HF HIN hd hsb
      obtain ⟨G, hG⟩ : ∃ G, G = gk := ⟨_, rfl⟩
      have HGK := Lib.hid hG
      have HSB := Lib.hid hsb
      rw [e1] at x3
      clear e1 hx hb hG hf hs hsb
      go_wp2_with fail
      clear x0 x1 x2 x3 x4 x5 x6 x7 xl c0 c1 c2 c3 z0 hll hgl
      go_loopg [21, 3] f.code.length (fun k v21 v3 wz => ∃ (n m : Nat) (A : Option Addr) (c : Nat), n + k = f.code.length ∧ m = siteBase P i + cntS (f.code.take n) ∧ v21 = .int .i64 n ∧ v3 = .slice A m c ∧ Ext W wz ∧ wz.heap[W.heap.size]? = some P.o ∧ SoFar P (W.heap.size + 1) m (.slice A m c) wz)
      case atStart => exact ⟨0, siteBase P i, A, c, by omega, by simp [cntS], rfl, rfl, HX.out, HB.out, HS.out⟩
      case round =>
        obtain ⟨n, m, A, c, hnk, hm, rfl, rfl, hx, hb, hs⟩ := hrel
        clear HX HB HS
        have HX := Lib.hid hx
        have HB := Lib.hid hb
        rcases Nat.lt_or_ge n f.code.length with hn | hn
        · have z1 : (n : Int) < (f.code.length : Int) := by omega
          obtain ⟨g3, off3, e3, hl3, _, d0, d1, d2, d3, d4, d5, d6, d7⟩ := Fn.ins_at (HIN.out _ hx) hn
          have hpl := (HF.out n hn).2
          have hio := (HF.out n hn).1
          unfold placeP at hpl
          rw [← hm] at hpl
          have hcs := cntS_succ f.code hn
          generalize f.code[n] = y at d0 d1 d2 d3 d4 d5 d6 d7 hpl hio hcs
          have HE3 := Lib.hid e3
          have HIS := Lib.hid (fun w => pIsSite_ok y.op hio.op1 hio.op2 w)
          have HPL := Lib.hid hpl
          have HCS := Lib.hid hcs
          have HM := Lib.hid hm
          rw [e3]
          clear e3 hx hb hpl hio hcs hm
          go_upto_region 8 with (fail)
          change Code.wp _ _ _ _ (wr.alloc y.o)
          obtain ⟨W5, hW5⟩ : ∃ W5, W5 = wr.alloc y.o := ⟨_, rfl⟩
          rw [← hW5]
          have hE5 : Ext wr W5 := by rw [hW5]; exact Ext.one _ _
          have hb5 : W5.heap[wr.heap.size]? = some y.o := by rw [hW5]; exact World.alloc_heap_new _ _
          have HX5 := Lib.hid (HX.out.trans hE5)
          have HB5 := Lib.hid ((hE5.kept (fun _ _ => true)).same _ _ HB.out rfl)
          have HS5 := Lib.hid (hs.ext hE5)
          have HI5 := Lib.hid hb5
          have HLT := Lib.hid (own_lt hs)
          have HSZ := Lib.hid (show W.heap.size + 1 ≤ W5.heap.size from (Array.getElem?_eq_some_iff.1 HB5.out).1)
          clear d0 d1 d2 d3 d4 d5 d6 d7 hs hl3
          obtain ⟨d0, d1, d2, d3, d4, d5, d6, d7, dl⟩ := Ins.o_cells hb5
          clear hE5 hb5 hW5
          cases hso : siteO y.op with
          | false =>
            have hst := HPL.out.1 hso
            have HCS2 := Lib.hid (show siteBase P i + cntS (f.code.take (n + 1)) = m by rw [HCS.out, hso, HM.out]; simp)
            rw [hso] at HIS
            rw [hst] at d6
            clear hst hso
            go_wp2_with (go_at_call 285; refine (HIS.out _).mono ?_; rintro e w2 ⟨rfl, hw⟩; rw [hw]; clear hw)
            rw [← HE3.out]
            go_roundg (gk - 1)
            case measure => omega
            case rel => exact ⟨n + 1, m, A, c, by omega, HCS2.out.symm, by go_num, rfl, HX5.out, HB5.out, HS5.out⟩
          | true =>
            obtain ⟨hst, s, hsi, hs1, hs2⟩ := HPL.out.2 hso
            have HCS2 := Lib.hid (show siteBase P i + cntS (f.code.take (n + 1)) = m + 1 by rw [HCS.out, hso, HM.out]; simp; omega)
            have hml : m < P.sits.length := (List.getElem?_eq_some_iff.1 hsi).1
            have h512 := HG.out.sites.2
            have hrow : (P.sits.take m).flatMap Sit.cells ++ [.int .i64 i, .int .i64 n] = (P.sits.take (m + 1)).flatMap Sit.cells := by
              rw [List.take_add_one, hsi, List.flatMap_append]
              simp [Sit.cells, iV, hs1, hs2]
            have hrl : ((P.sits.take m).flatMap Sit.cells).length = m * 2 := by rw [flat_len (s := 2) fun _ => rfl]; simp; omega
            rw [hso] at HIS
            rw [hst] at d6
            have HROW := Lib.hid hrow
            have hb6 : (W5.alloc (.cells #[.int .i64 i, .int .i64 n] 95 (0, 0))).heap[W5.heap.size]? = some (.cells #[.int .i64 i, .int .i64 n] 95 (0, 0)) := World.alloc_heap_new _ _
            have HSRC := Lib.hid (src_two (c := 1) hb6)
            have HS6 := Lib.hid (HS5.out.ext (Ext.one W5 (.cells #[.int .i64 i, .int .i64 n] 95 (0, 0))))
            unfold SoFar at HS6
            have hsz6 := HSZ.out
            have HST := Lib.hid hst
            clear hst hso hsi hs1 hs2 hrow hb6
            go_wp2_with (first
              | (go_at_call 285; refine (HIS.out _).mono ?_; rintro e w2 ⟨rfl, hw⟩; rw [hw]; clear hw)
              | (at_builtin; refine wpList_append_any rfl _ _ 33 rfl (W.heap.size + 1) 95 i0 (.agg #[.int .i64 0, .int .i64 0]) 2 16 Tryz.underlying33 hi0 hz0 hz1 hz2 rfl (by decide) (.slice A m c) m _ rfl HS6.out (.slice (some ⟨W5.heap.size, 0, none⟩) 1 1) 1 [.int .i64 i, .int .i64 n] rfl (by simp) HSRC.out (by simp [Value.oneCell']) (by unfold maxLen; omega) (by omega) (by simp; omega) (m + 1) (by omega) _ HROW.out ?_; intro A1 c1 w1 hown1 hgrow1 hat1; have HX7 := Lib.hid (grown_ext (HX5.out.trans (Ext.one _ _)) hgrow1 fun b hb => Nat.le_trans (Nat.le_succ _) (own_base HS6.out b hb)); have HB7 := Lib.hid (grow_same hgrow1 (((Ext.one W5 _).kept (fun _ _ => true)).same _ _ HB5.out rfl) fun g hg => by have := own_base HS6.out g hg; omega); obtain ⟨q0, q1, q2, q3, q4, q5, q6, q7, ql⟩ := Ins.o_cells (grow_same hgrow1 (((Ext.one W5 _).kept (fun _ _ => true)).same _ _ HI5.out rfl) fun g hg => by have := HLT.out g hg; omega); rw [HST.out] at q6; have HO1 := Lib.hid hown1; clear hown1 hgrow1 hat1))
            rw [← HE3.out]
            go_roundg (gk - 1)
            case measure => omega
            case rel => exact ⟨n + 1, m + 1, A1, c1, by omega, HCS2.out.symm, by go_num, rfl, HX7.out, HB7.out, HO1.out⟩
        · have z1 : ¬ (n : Int) < (f.code.length : Int) := by omega
          have hll := HP.out.fnsL
          have z0 : (i : Int) < P.fns.length := by omega
          have hm2 : m = siteBase P (i + 1) := by
            rw [hm, HSB.out]
            have : n = f.code.length := by omega
            subst this
            rw [List.take_length]
          subst hm2
          have HS := Lib.hid hs
          clear hnk hn hx hb hs hm
          go_wp2_with fail
          have hg := HGK.out
          go_roundg (G - 1)
          case measure => omega
          case rel => exact ⟨i + 1, A, c, by omega, by go_num, rfl, HX.out, HB.out, HS.out⟩
    · have z0 : ¬ (i : Int) < (P.fns.length : Int) := by omega
      have hii : i = P.fns.length := by omega
      have h512 := HG.out.sites.2
      have hsb := HG.out.sites.1
      rw [← hii] at hsb
      rw [hsb] at hs
      unfold SoFar at hs
      rw [List.take_length] at hs
      have HEQ := Lib.hid (eqSits_ok (Q := fun _ => True) (Q' := fun _ => True) ((HP.out.kept hx).sits.mono (Kept.refl _ _) fun _ _ => trivial) (own_rowN (fun _ => rfl) hs fun _ _ => trivial) (by omega))
      rw [hsb]
      clear hx hb hik hi hii hsb hs HS
      go_wp2_with (go_at_call 286; refine HEQ.out.mono ?_; rintro e w2 ⟨rfl, hx2⟩; have HX2 := Lib.hid hx2; clear hx2)
      go_ret
      exact ⟨rfl, HX.out.trans HX2.out⟩
end Go.Proofs.YtfljmdpigckpkaaGreatDoor

namespace Go.Proofs.YtfljmdpigckpkaaGreatDoor
open Go.RowKit Go.Shelf
attribute [local go_sem] Oper.semAt_some
set_option maxHeartbeats 8000000 in
set_option maxRecDepth 100000 in
theorem mayBe_ok {P : Prg} {W : World} (hT : Tab W) (h : P.In W) (hg : GoodP P) (hL : NoL P) : Calls Tryz.prog 135 #[P.v] W fun e W' => e = .returned (.bool true) ∧ Ext W W' := by
  have H1 := Lib.hid (fun w => countsMayBe_ok w hg)
  have H2 := Lib.hid (fun (w : World) (k : Ext W w) => valuesMayBe_ok (h.kept k) hg)
  have H3 := Lib.hid (fun (w : World) (k : Ext W w) => tasksMayBe_ok (h.kept k) hg)
  have H4 := Lib.hid (fun (w : World) (k : Ext W w) => codeMayBe_ok (hT.ext k) (h.kept k) hg hL)
  have H5 := Lib.hid (fun (w : World) (k : Ext W w) => sitesMayBe_ok (h.kept k) hg)
  unfold Prg.v at H1 H2 H3 H4 H5 ⊢
  obtain ⟨W1, hW1⟩ : ∃ W1, W1 = W.alloc P.o := ⟨_, rfl⟩
  have hE1 : Ext W W1 := by rw [hW1]; exact Ext.one _ _
  have hb1 : W1.heap[W.heap.size]? = some P.o := by rw [hW1]; exact World.alloc_heap_new _ _
  obtain ⟨x0, x1, x2, x3, x4, x5, x6, x7, xl⟩ := Prg.o_cells hb1
  have E1 := Lib.hid hE1
  have HB1 := Lib.hid hb1
  have HW := Lib.hid hW1
  clear hE1 hb1 hW1 h hg hT hL
  go_enter Tryz.func135, Tryz.ntmps135
  go_upto_region 1 with (fail)
  change Code.wp _ _ _ _ (W.alloc P.o)
  rw [← HW.out]
  go_wp2_with (first
    | (go_at_call 201; refine (H5.out _ E5.out).mono ?_; rintro e w2 ⟨rfl, hx2⟩; have E6 := Lib.hid (E5.out.trans hx2); clear hx2)
    | (go_at_call 200; refine (H4.out _ E4.out).mono ?_; rintro e w2 ⟨rfl, hx2⟩; have E5 := Lib.hid (E4.out.trans hx2); have HB5 := Lib.hid ((hx2.kept (fun _ _ => true)).same _ _ HB4.out rfl); obtain ⟨t0, t1, t2, t3, t4, t5, t6, t7, tl⟩ := Prg.o_cells HB5.out; clear hx2)
    | (go_at_call 199; refine (H3.out _ E3.out).mono ?_; rintro e w2 ⟨rfl, hx2⟩; have E4 := Lib.hid (E3.out.trans hx2); have HB4 := Lib.hid ((hx2.kept (fun _ _ => true)).same _ _ HB3.out rfl); obtain ⟨s0, s1, s2, s3, s4, s5, s6, s7, sl⟩ := Prg.o_cells HB4.out; clear hx2)
    | (go_at_call 198; refine (H2.out _ E2.out).mono ?_; rintro e w2 ⟨rfl, hx2⟩; have E3 := Lib.hid (E2.out.trans hx2); have HB3 := Lib.hid ((hx2.kept (fun _ _ => true)).same _ _ HB2.out rfl); obtain ⟨r0, r1, r2, r3, r4, r5, r6, r7, rl⟩ := Prg.o_cells HB3.out; clear hx2)
    | (go_at_call 197; refine (H1.out _).mono ?_; rintro e w2 ⟨rfl, hx2⟩; have E2 := Lib.hid (E1.out.trans hx2); have HB2 := Lib.hid ((hx2.kept (fun _ _ => true)).same _ _ HB1.out rfl); obtain ⟨q0, q1, q2, q3, q4, q5, q6, q7, ql⟩ := Prg.o_cells HB2.out; clear hx2))
  go_ret
  exact ⟨rfl, E6.out⟩
end Go.Proofs.YtfljmdpigckpkaaGreatDoor

namespace Go.Proofs.YtfljmdpigckpkaaGreatDoor
open Go.RowKit Go.Shelf
def ne' (g : Nat) : Nat → Option TypeId → Bool := fun b _ => b != g
/-- It holds, and goes on holding whatever is done to the block g. -/
def Rob (g : Nat) (w : World) (X : World → Prop) : Prop := ∀ w', Kept (ne' g) w w' → X w'
section
variable {g : Nat} {w w' : World} {X Y : World → Prop}
theorem Rob.here (h : Rob g w X) : X w := h _ (Kept.refl _ _)
theorem Rob.kept (h : Rob g w X) (k : Kept (ne' g) w w') : Rob g w' X := fun _ k2 => h _ (k.trans k2)
theorem Rob.ext (h : Rob g w X) (k : Ext w w') : Rob g w' X := h.kept (k.kept _)
theorem Rob.mono (h : Rob g w X) (hx : ∀ w, X w → Y w) : Rob g w Y := fun _ k => hx _ (h _ k)
theorem Rob.and (h : Rob g w X) (k : Rob g w Y) : Rob g w fun w => X w ∧ Y w := fun _ q => ⟨h _ q, k _ q⟩
theorem Rob.old {W : World} (h : ∀ w, Ext W w → X w) (k : Ext W w) (hg : W.heap.size ≤ g) : Rob g w X := fun w' q => h w' (Kept.trans k (q.mono fun b t _ hp => by
  simp [pOld] at hp
  simp [ne']; omega))
theorem Rob.row {B : Nat} {t : TypeId} {s : Nat} {v : Value} {n : Nat} {xs : List Value} (h : w.ownsRow B t s v n xs) (hne : ∀ b, v.ownBlock = some b → b ≠ g) : Rob g w fun w => w.ownsRow B t s v n xs := fun _ q => q.row h fun b hb => by
  simp [ne', hne b hb]
theorem Rob.obj {b : Nat} {o : Obj} (h : w.heap[b]? = some o) (hne : b ≠ g) : Rob g w fun w => w.heap[b]? = some o := fun _ q => q.same _ _ h (by simp [ne', hne])
end
/-- A cell of a row is set. -/
theorem ownN_set {W : World} {B : Nat} {t : TypeId} {s : Nat} {v : Value} {n : Nat} {xs : List Value} (h : W.ownsRow B t s v n xs) {k : Nat} (hk : k < xs.length) (u : Value) :
    ∃ g c, v = .slice (some ⟨g, 0, none⟩) n c ∧ (W.setCell ⟨g, k, none⟩ u).ownsRow B t s v n (xs.set k u) ∧ (∀ m, W.frozen? ⟨g, m, none⟩ = false) ∧ W.cell? ⟨g, k, none⟩ = some xs[k] ∧ g < W.heap.size ∧ B ≤ g ∧ Kept (ne' g) W (W.setCell ⟨g, k, none⟩ u) := by
  rcases h.2 with ⟨_, h0⟩ | ⟨g, cap, cur, e, hb, h1, h2, h3, h4, h5⟩
  · have := h.1
    rw [h0, Nat.zero_mul] at this
    omega
  · refine ⟨g, cap, e, ⟨by simpa using h.1, .inr ⟨g, cap, _, e, hb, heap_setCell_same W g k _ _ _ h1, h2, h3, by simpa using h4, ?_⟩⟩, fun n => frozen_of_row W g n _ _ h1, ?_, (Array.getElem?_eq_some_iff.1 h1).1, hb, Kept.setCell _ fun o ho => by simp [ne']⟩
    · simp only [Array.toList_setIfInBounds, List.take_set, h5]
    · have h6 : cur.toList[k]? = xs[k]? := by rw [← h5, List.getElem?_take, if_pos (by have := h.1; omega)]
      rw [List.getElem?_eq_getElem hk] at h6
      simp only [World.cell?, h1]
      simpa using h6
theorem flat_set {α : Type} {f : α → List Value} {s : Nat} (hfs : ∀ x, (f x).length = s) : ∀ (T : List α) (i r : Nat) (x y : α) (u : Value), T[i]? = some x → r < s → f y = (f x).set r u → (T.flatMap f).set (i * s + r) u = (T.set i y).flatMap f
  | [], i, r, x, y, u, h, _, _ => by simp at h
  | z :: T, 0, r, x, y, u, h, hr, he => by
    obtain rfl : z = x := by simpa using h
    rw [List.set_cons_zero, List.flatMap_cons, List.flatMap_cons, he, Nat.zero_mul, Nat.zero_add, List.set_append_left _ _ (by rw [hfs]; exact hr)]
  | z :: T, i + 1, r, x, y, u, h, hr, he => by
    have ih := flat_set hfs T i r x y u (by simpa using h) hr he
    rw [List.set_cons_succ, List.flatMap_cons, List.flatMap_cons, ← ih, List.set_append_right _ _ (by rw [hfs, Nat.succ_mul]; omega), hfs]
    rw [show (i + 1) * s + r - s = i * s + r by rw [Nat.succ_mul]; omega]
/-- Alike but for where they lie. -/
def Cls.like (x y : Cls) : Prop := y.name = x.name ∧ y.names = x.names ∧ y.flds = x.flds
def Ins.like (x y : Ins) : Prop := y.op = x.op ∧ y.a = x.a ∧ y.b = x.b ∧ y.c = x.c ∧ y.n = x.n ∧ y.l = x.l ∧ y.site = x.site ∧ y.line = x.line
def allLike {α : Type} (R : α → α → Prop) (S T : List α) : Prop := T.length = S.length ∧ ∀ (i : Nat) (x y : α), S[i]? = some x → T[i]? = some y → R x y
def Fn.like (x y : Fn) : Prop := y.name = x.name ∧ y.caps = x.caps ∧ y.regs = x.regs ∧ allLike Ins.like x.code y.code
theorem allLike.refl {α : Type} {R : α → α → Prop} (hr : ∀ x, R x x) (S : List α) : allLike R S S := ⟨rfl, fun i x y h h' => by rw [h] at h'; cases h'; exact hr x⟩
theorem Cls.like.refl (x : Cls) : Cls.like x x := ⟨rfl, rfl, rfl⟩
theorem Ins.like.refl (x : Ins) : Ins.like x x := ⟨rfl, rfl, rfl, rfl, rfl, rfl, rfl, rfl⟩
theorem Fn.like.refl (x : Fn) : Fn.like x x := ⟨rfl, rfl, rfl, .refl Ins.like.refl _⟩
theorem allLike.set {α : Type} {R : α → α → Prop} {S T : List α} (h : allLike R S T) {i : Nat} {x y : α} (hx : S[i]? = some x) (hr : R x y) : allLike R S (T.set i y) := by
  refine ⟨by simp [h.1], fun j a b ha hb => ?_⟩
  rw [List.getElem?_set] at hb
  by_cases e : i = j
  · subst e
    rw [hx] at ha
    cases ha
    have hlt : i < T.length := by rw [h.1]; exact (List.getElem?_eq_some_iff.1 hx).1
    simp [hlt] at hb
    rw [← hb]
    exact hr
  · rw [if_neg e] at hb
    exact h.2 j a b ha hb
/-- Programs that are alike but for where they lie. -/
structure PrgLike (P Q : Prg) : Prop where
  loops : Q.loops = P.loops
  clss : allLike Cls.like P.clss Q.clss
  glbs : Q.glbs = P.glbs
  fns : allLike Fn.like P.fns Q.fns
  cmps : Q.cmps = P.cmps
  evts : Q.evts = P.evts
  main : Q.main = P.main
  sits : Q.sits = P.sits
theorem allLike.all {α : Type} {T : List α} {X : α → Prop} {i : Nat} {y : α} (h : ∀ x ∈ T, X x) (hy : X y) : ∀ x ∈ T.set i y, X x := fun x hx => by
  rcases List.mem_or_eq_of_mem_set hx with h1 | h1
  · exact h x h1
  · rw [h1]; exact hy
end Go.Proofs.YtfljmdpigckpkaaGreatDoor
