/- The program's codeMayBe: yes of a program that may be and whose closures capture nothing. -/
import Derived.Test.YtfljmdpigckpkaaGreatDoorSvF
namespace Go.Proofs.YtfljmdpigckpkaaGreatDoor
open Go.RowKit Go.Shelf
attribute [local go_sem] Oper.semAt_some
/-- No closure captures anything. -/
def NoL (P : Prg) : Prop := ∀ (i : Nat) (h : i < P.fns.length) (k : Nat) (hk : k < P.fns[i].code.length), P.fns[i].code[k].l = []
set_option maxHeartbeats 16000000 in
set_option maxRecDepth 100000 in
theorem codeMayBe_ok {P : Prg} {W : World} (hT : Tab W) (h : P.In W) (hg : GoodP P) (hL : NoL P) : Calls Tryz.prog 200 #[P.v] W fun e W' => e = .returned (.bool true) ∧ Ext W W' := by
  have HNU := Lib.hid (fun (w : World) (k : Ext W w) (f : Fn) (x : Ins) (hi : InsOk P f x) (ht : x.op = 11 → typB P x.n = true) => numbers_ok (h.kept k) hi ht)
  unfold Prg.v at HNU ⊢
  obtain ⟨W1, hW1⟩ : ∃ W1, W1 = W.alloc P.o := ⟨_, rfl⟩
  have hE1 : Ext W W1 := by rw [hW1]; exact Ext.one _ _
  have hb1 : W1.heap[W.heap.size]? = some P.o := by rw [hW1]; exact World.alloc_heap_new _ _
  obtain ⟨x0, x1, x2, x3, x4, x5, x6, x7, xl⟩ := Prg.o_cells hb1
  have HE1 := Lib.hid hE1
  have HB1 := Lib.hid hb1
  have HW := Lib.hid hW1
  have HP := Lib.hid h
  have HG := Lib.hid (And.intro hg hL)
  have HTB := Lib.hid hT
  clear hE1 hb1 hW1 h hg hL hT
  go_enter Tryz.func200, Tryz.ntmps200
  go_upto_region 1 with (fail)
  change Code.wp _ _ _ _ (W.alloc P.o)
  rw [← HW.out]
  go_wp2_with fail
  clear x0 x1 x2 x3 x4 x5 x6 x7 xl HW
  go_loopg [11] P.fns.length (fun k v11 wr => ∃ (i : Nat), i + k = P.fns.length ∧ v11 = .int .i64 i ∧ Ext W wr ∧ wr.heap[W.heap.size]? = some P.o)
  case atStart => exact ⟨0, by omega, rfl, HE1.out, HB1.out⟩
  case round =>
    clear HE1 HB1
    obtain ⟨i, hik, rfl, hx, hb⟩ := hrel
    obtain ⟨wq, rfl⟩ : ∃ y, y = wr := ⟨_, rfl⟩
    obtain ⟨x0, x1, x2, x3, x4, x5, x6, x7, xl⟩ := Prg.o_cells hb
    have HX := Lib.hid hx
    have HB := Lib.hid hb
    have hll := HP.out.fnsL
    rcases Nat.lt_or_ge i P.fns.length with hi | hi
    · have z0 : (i : Int) < (P.fns.length : Int) := by omega
      obtain ⟨g, off, e1, hgl, hin, c0, c1, c2, c3⟩ := Prg.fn_at (HP.out.kept hx) hi
      have hf := HG.out.1.may.fns i hi
      have HF := Lib.hid (And.intro (HG.out.1.cel i hi) (And.intro (HG.out.2 i hi) hf.ins))
      have HIN := Lib.hid (fun (w : World) (k : Ext wq w) => hin.kept k)
      have hr := hf.regs
      have hc := hf.caps
      have hd := hf.code
      have hla := hf.last
      generalize P.fns[i] = f at c0 c1 c2 c3 HF HIN hr hc hd hla
      obtain ⟨G, hG⟩ : ∃ G, G = gk := ⟨_, rfl⟩
      have HGK := Lib.hid hG
      have HE := Lib.hid e1
      have HLA := Lib.hid hla
      rw [e1]
      clear e1 hx hb hG hf hin hla
      go_upto_region 4 with (fail)
      change Code.wp _ _ _ _ (wq.alloc f.o)
      obtain ⟨W2, hW2⟩ : ∃ W2, W2 = wq.alloc f.o := ⟨_, rfl⟩
      rw [← hW2]
      have hE2 : Ext wq W2 := by rw [hW2]; exact Ext.one _ _
      have hb2 : W2.heap[wq.heap.size]? = some f.o := by rw [hW2]; exact World.alloc_heap_new _ _
      obtain ⟨f0, f1, f2, f3, fl⟩ := Fn.o_cells hb2
      have HX2 := Lib.hid (HX.out.trans hE2)
      have HY2 := Lib.hid hE2
      have HB2 := Lib.hid ((hE2.kept (fun _ _ => true)).same _ _ HB.out rfl)
      have HF2 := Lib.hid hb2
      obtain ⟨k, hk⟩ : ∃ k, f.code.length = k + 1 := ⟨f.code.length - 1, by omega⟩
      obtain ⟨g2, off2, e2, hl2, d0⟩ := Fn.op_at (HIN.out _ hE2) (show k < f.code.length by omega)
      have ho : f.code[k].op = 33 ∨ f.code[k].op = 31 := by
        have := HLA.out (by omega)
        simpa [hk] using this
      generalize f.code[k].op = o at d0 ho
      have HE2 := Lib.hid e2
      have HK := Lib.hid hk
      clear hE2 hb2 hW2 x0 x1 x2 x3 x4 x5 x6 x7 xl c0 c1 c2 c3 z0 hll hgl HLA
      rw [e2] at f3
      clear e2
      have z1 : ((f.code.length : Int) - 1) = k := by omega
      clear hk
      go_upto_region 9 with (fail)
      rw [← HE2.out]
      clear f0 f1 f2 f3 fl d0 hl2 z1
      obtain ⟨f0, f1, f2, f3, fl⟩ := Fn.o_cells HF2.out
      rcases ho with rfl | rfl
      all_goals
        go_wp2_with fail
        clear f0 f1 f2 f3 fl
        go_loopg [63] f.code.length (fun k v63 wz => ∃ (n : Nat), n + k = f.code.length ∧ v63 = .int .i64 n ∧ Ext W wz ∧ Ext wq wz ∧ wz.heap[W.heap.size]? = some P.o ∧ wz.heap[wq.heap.size]? = some f.o)
        case atStart => exact ⟨0, by omega, rfl, HX2.out, HY2.out, HB2.out, HF2.out⟩
        case round =>
          obtain ⟨n, hnk, rfl, hx, hy, hb, hfb⟩ := hrel
          clear HX2 HY2 HB2 HF2
          have HX2 := Lib.hid hx
          have HY2 := Lib.hid hy
          have HB2 := Lib.hid hb
          have HF2 := Lib.hid hfb
          rcases Nat.lt_or_ge n f.code.length with hn | hn
          · have z1 : (n : Int) < (f.code.length : Int) := by omega
            obtain ⟨g3, off3, e3, hl3, _, d0, d1, d2, d3, d4, d5, d6, d7⟩ := Fn.ins_at (HIN.out _ hy) hn
            obtain ⟨hcel, hnol, hins⟩ := HF.out
            have HI := Lib.hid (And.intro (hcel n hn) (And.intro (hnol n hn) (hins n hn).1))
            generalize f.code[n] = y at d0 d1 d2 d3 d4 d5 d6 d7 HI
            have HE3 := Lib.hid e3
            rw [e3]
            clear e3 hx hb hy hfb hcel hnol hins
            go_upto_region 14 with (fail)
            change Code.wp _ _ _ _ (wr.alloc y.o)
            obtain ⟨W5, hW5⟩ : ∃ W5, W5 = wr.alloc y.o := ⟨_, rfl⟩
            rw [← hW5]
            have hE5 : Ext wr W5 := by rw [hW5]; exact Ext.one _ _
            have hb5 : W5.heap[wr.heap.size]? = some y.o := by rw [hW5]; exact World.alloc_heap_new _ _
            have hB5 := (hE5.kept (fun _ _ => true)).same _ _ HB2.out rfl
            have hF5 := (hE5.kept (fun _ _ => true)).same _ _ HF2.out rfl
            clear d0 d1 d2 d3 d4 d5 d6 d7
            obtain ⟨x0, x1, x2, x3, x4, x5, x6, x7, xl⟩ := Prg.o_cells hB5
            obtain ⟨f0, f1, f2, f3, fl⟩ := Fn.o_cells hF5
            obtain ⟨d0, d1, d2, d3, d4, d5, d6, d7, dl⟩ := Ins.o_cells hb5
            have HX5 := Lib.hid (HX2.out.trans hE5)
            have HY5 := Lib.hid (HY2.out.trans hE5)
            have HO := Lib.hid (fun w => isOp_ok y.op HI.out.2.2.op1 HI.out.2.2.op2 w)
            have HN2 := Lib.hid (fun (w : World) (k : Ext W w) => HNU.out w k f y HI.out.2.2 HI.out.1)
            have HR2 := Lib.hid (fun (w : World) (k : Ext W w) => registers_ok (HTB.out.ext k) HI.out.2.2 HI.out.2.1)
            have HB5 := Lib.hid hB5
            have HF5 := Lib.hid hF5
            have HXB := Lib.hid hb5
            clear hE5 hb5 hW5 hB5 hF5
            unfold Fn.v Ins.v at HN2 HR2
            go_wp2_with (first
              | (go_at_call 284; refine (HR2.out _ HX6.out).mono ?_; rintro e w2 ⟨rfl, hx2⟩; have HX7 := Lib.hid hx2; clear hx2)
              | (go_at_call 283; refine (HN2.out _ HX5.out).mono ?_; rintro e w2 ⟨rfl, hx2⟩; have HX6 := Lib.hid (HX5.out.trans hx2); have HY6 := Lib.hid hx2; obtain ⟨p0, p1, p2, p3, pl⟩ := Fn.o_cells ((hx2.kept (fun _ _ => true)).same _ _ HF5.out rfl); obtain ⟨q0, q1, q2, q3, q4, q5, q6, q7, ql⟩ := Ins.o_cells ((hx2.kept (fun _ _ => true)).same _ _ HXB.out rfl); clear hx2)
              | (go_at_call 282; refine (HO.out _).mono ?_; rintro e w2 ⟨rfl, hw⟩; rw [hw]; clear hw))
            rw [← HE3.out]
            go_roundg (gk - 1)
            case measure => omega
            case rel => exact ⟨n + 1, by omega, by go_num, HX6.out.trans HX7.out, (HY5.out.trans HY6.out).trans HX7.out, ((HY6.out.trans HX7.out).kept (fun _ _ => true)).same _ _ HB5.out rfl, ((HY6.out.trans HX7.out).kept (fun _ _ => true)).same _ _ HF5.out rfl⟩
          · have z1 : ¬ (n : Int) < (f.code.length : Int) := by omega
            have hll := HP.out.fnsL
            have z0 : (i : Int) < P.fns.length := by omega
            clear hnk hn hx hb hy hfb
            go_wp2_with fail
            rw [← HE.out]
            have hg := HGK.out
            go_roundg (G - 1)
            case measure => omega
            case rel => exact ⟨i + 1, by omega, by go_num, HX2.out, HB2.out⟩
    · have z0 : ¬ (i : Int) < (P.fns.length : Int) := by omega
      clear hx hb hik hi
      go_wp2_with fail
      go_ret
      exact ⟨rfl, HX.out⟩
end Go.Proofs.YtfljmdpigckpkaaGreatDoor
