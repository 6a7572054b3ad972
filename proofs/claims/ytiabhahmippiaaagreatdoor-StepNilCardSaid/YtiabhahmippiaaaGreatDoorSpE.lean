/- The document's May: may a program be? -/
import Derived.Test.YtiabhahmippiaaaGreatDoorSpD
namespace Go.Proofs.YtiabhahmippiaaaGreatDoor
open Go.RowKit Go.Shelf
attribute [local go_sem] Oper.semAt_some
def cntS (l : List Ins) : Nat := l.countP fun x => siteO x.op
def siteBase (P : Prg) (i : Nat) : Nat := ((P.fns.take i).map fun f => cntS f.code).sum
/-- What an instruction's place is. -/
def placeP (P : Prg) (i : Nat) (f : Fn) (at' : Nat) (x : Ins) : Prop :=
  (siteO x.op = false → x.site = -1) ∧ (siteO x.op = true → x.site = ((siteBase P i + cntS (f.code.take at') : Nat) : Int) ∧ ∃ s, P.sits[siteBase P i + cntS (f.code.take at')]? = some s ∧ s.fn = i ∧ s.at' = at')
/-- A function that may be. -/
structure FnOk (P : Prg) (i : Nat) (f : Fn) : Prop where
  regs : 0 ≤ f.regs ∧ f.regs ≤ 256
  caps : 0 ≤ f.caps ∧ f.caps ≤ f.regs
  code : 1 ≤ f.code.length ∧ f.code.length ≤ 512
  ins : ∀ (k : Nat) (h : k < f.code.length), InsOk P f f.code[k] ∧ placeP P i f k f.code[k]
  last : ∀ (h : f.code.length - 1 < f.code.length), f.code[f.code.length - 1].op = 33 ∨ f.code[f.code.length - 1].op = 31
/-- A program that may be. -/
structure MayP (P : Prg) : Prop where
  parts : PartsOk P
  fns : ∀ (i : Nat) (h : i < P.fns.length), FnOk P i P.fns[i]
  sites : siteBase P P.fns.length = P.sits.length ∧ P.sits.length ≤ 512
theorem siteBase_succ (P : Prg) {i : Nat} (h : i < P.fns.length) : siteBase P (i + 1) = siteBase P i + cntS P.fns[i].code := by
  unfold siteBase
  rw [List.take_succ_eq_append_getElem h, List.map_append, List.sum_append]
  simp
theorem cntS_succ (l : List Ins) {k : Nat} (h : k < l.length) : cntS (l.take (k + 1)) = cntS (l.take k) + if siteO l[k].op = true then 1 else 0 := by
  unfold cntS
  rw [List.take_succ_eq_append_getElem h, List.countP_append]
  simp [List.countP_cons]
theorem cntS_le (l : List Ins) (k : Nat) : cntS (l.take k) ≤ l.length := by
  unfold cntS
  exact Nat.le_trans List.countP_le_length (by simp; omega)
section
variable {w : World} {P : Prg}
theorem Fn.ins_at {f : Fn} (h : f.In w) {k : Nat} (hk : k < f.code.length) : ∃ g off, f.codeA = some ⟨g, off, none⟩ ∧ g < w.heap.size ∧ Ins.In w f.code[k] ∧ w.cell? ⟨g, off + k * 8, none⟩ = some (.int .i64 f.code[k].op) ∧ w.cell? ⟨g, off + k * 8 + 1, none⟩ = some (.int .i64 f.code[k].a) ∧ w.cell? ⟨g, off + k * 8 + 2, none⟩ = some (.int .i64 f.code[k].b) ∧ w.cell? ⟨g, off + k * 8 + 3, none⟩ = some (.int .i64 f.code[k].c) ∧ w.cell? ⟨g, off + k * 8 + 4, none⟩ = some (.int .i64 f.code[k].n) ∧ w.cell? ⟨g, off + k * 8 + 5, none⟩ = some (.slice f.code[k].lA f.code[k].l.length f.code[k].lC) ∧ w.cell? ⟨g, off + k * 8 + 6, none⟩ = some (.int .i64 f.code[k].site) ∧ w.cell? ⟨g, off + k * 8 + 7, none⟩ = some (.int .i64 f.code[k].line) := by
  obtain ⟨g, off, h1, h2, h3, h4⟩ := h.code.2.2 k _ (List.getElem?_eq_getElem hk)
  exact ⟨g, off, h1, h2, h3, h4 0 _ rfl, h4 1 _ rfl, h4 2 _ rfl, h4 3 _ rfl, h4 4 _ rfl, h4 5 _ rfl, h4 6 _ rfl, h4 7 _ rfl⟩
theorem Fn.op_at {f : Fn} (h : f.In w) {k : Nat} (hk : k < f.code.length) : ∃ g off, f.codeA = some ⟨g, off, none⟩ ∧ g < w.heap.size ∧ w.cell? ⟨g, off + k * 8, none⟩ = some (.int .i64 f.code[k].op) := by
  obtain ⟨g, off, h1, h2, h3, h4⟩ := h.code.2.2 k _ (List.getElem?_eq_getElem hk)
  exact ⟨g, off, h1, h2, h4 0 _ rfl⟩
theorem Prg.fn_in (h : P.In w) {i : Nat} (hi : i < P.fns.length) : Fn.In w P.fns[i] := by
  obtain ⟨g, off, h1, h2, h3, h4⟩ := Prg.fn_at h hi
  exact h3
theorem Prg.sit_at (h : P.In w) {k : Nat} (hk : k < P.sits.length) : ∃ g off, P.sitsA = some ⟨g, off, none⟩ ∧ g < w.heap.size ∧ w.cell? ⟨g, off + k * 2, none⟩ = some (.int .i64 P.sits[k].fn) ∧ w.cell? ⟨g, off + k * 2 + 1, none⟩ = some (.int .i64 P.sits[k].at') := by
  obtain ⟨g, off, h1, h2, h3, h4⟩ := h.sits.2.2 k _ (List.getElem?_eq_getElem hk)
  exact ⟨g, off, h1, h2, h4 0 _ rfl, h4 1 _ rfl⟩
end
set_option maxHeartbeats 16000000 in
set_option maxRecDepth 100000 in
theorem May_ok {P : Prg} {W : World} (h : P.In W) : Calls Tryz.prog 6 #[P.v] W (AnsB (MayP P) W) := by
  have HPA := Lib.hid (fun (w : World) (k : Ext W w) => parts_ok (h.kept k))
  unfold Prg.v at HPA ⊢
  obtain ⟨W1, hW1⟩ : ∃ W1, W1 = W.alloc P.o := ⟨_, rfl⟩
  have hE1 : Ext W W1 := by rw [hW1]; exact Ext.one _ _
  have hb1 : W1.heap[W.heap.size]? = some P.o := by rw [hW1]; exact World.alloc_heap_new _ _
  obtain ⟨x0, x1, x2, x3, x4, x5, x6, x7, xl⟩ := Prg.o_cells hb1
  have HE1 := Lib.hid hE1
  have HB1 := Lib.hid hb1
  have HW := Lib.hid hW1
  have HP := Lib.hid h
  clear hE1 hb1 hW1 h
  go_enter Tryz.func6, Tryz.ntmps6
  go_upto_region 1 with (fail)
  change Code.wp _ _ _ _ (W.alloc P.o)
  rw [← HW.out]
  go_upto_region 3 with (go_at_call 29; refine (HPA.out W1 HE1.out).mono ?_; rintro e w2 ⟨b, rfl, hq, hx2⟩; have HQ2 := Lib.hid hq; have HX2 := Lib.hid (HE1.out.trans hx2); have HB2 := Lib.hid ((hx2.kept (fun _ _ => true)).same _ _ HB1.out rfl); clear hq hx2; cases b)
  · go_wp2_with fail
    go_ret
    exact AnsB.no HX2.out
  · have HPO := Lib.hid (show PartsOk P by first | exact HQ2.out rfl | exact HQ2.out trivial)
    clear HQ2 HPA HW HB1 HE1 x0 x1 x2 x3 x4 x5 x6 x7 xl
    go_wp2_with fail
    go_loopg [3, 4] P.fns.length (fun k v3 v4 wr => ∃ (i : Nat), i + k = P.fns.length ∧ v3 = .int .i64 (siteBase P i : Nat) ∧ v4 = .int .i64 i ∧ Ext W wr ∧ wr.heap[W.heap.size]? = some P.o ∧ Go.RowKit.Hid (∀ (j : Nat) (h : j < P.fns.length), j < i → FnOk P j P.fns[j]))
    case atStart => exact ⟨0, by omega, rfl, rfl, HX2.out, HB2.out, Lib.hid (fun j _ hj => absurd hj (Nat.not_lt_zero _))⟩
    case round =>
      clear HX2 HB2
      obtain ⟨i, hik, rfl, rfl, hx, hb, HR⟩ := hrel
      obtain ⟨x0, x1, x2, x3, x4, x5, x6, x7, xl⟩ := Prg.o_cells hb
      have HX := Lib.hid hx
      have HB := Lib.hid hb
      have hf64 := HPO.out.n5.2
      rcases Nat.lt_or_ge i P.fns.length with hi | hi
      · have z0 : (i : Int) < (P.fns.length : Int) := by omega
        obtain ⟨g, off, e1, hgl, hfi, c0, c1, c2, c3⟩ := Prg.fn_at (HP.out.kept hx) hi
        have hfW := Prg.fn_in HP.out hi
        have HFI := Lib.hid hfW
        have HRi := Lib.hid (fun (q : FnOk P i P.fns[i]) (j : Nat) (h : j < P.fns.length) (hj : j < i + 1) => show FnOk P j P.fns[j] by
          rcases Nat.lt_or_ge j i with q1 | q1
          · exact HR.out j h q1
          · have : j = i := by omega
            subst this
            exact q)
        have HSB := Lib.hid (siteBase_succ P hi)
        rw [e1] at x3
        generalize P.fns[i] = f at c0 c1 c2 c3 hfi hfW HFI HRi HSB
        obtain ⟨G, hG⟩ : ∃ G, G = gk := ⟨_, rfl⟩
        have HG := Lib.hid hG
        have HIK := Lib.hid hik
        clear e1 hx hb hfi hfW hG
        go_upto_region 8 with (fail)
        obtain ⟨w5, hw5⟩ : ∃ w5, w5 = wr.alloc f.o := ⟨_, rfl⟩
        change Code.wp _ _ _ _ (wr.alloc f.o)
        rw [← hw5]
        have k5 : Ext wr w5 := by rw [hw5]; exact Ext.one _ _
        have hf5 : w5.heap[wr.heap.size]? = some f.o := by rw [hw5]; exact World.alloc_heap_new _ _
        have HX5 := Lib.hid (HX.out.trans k5)
        have HB5 := Lib.hid ((k5.kept (fun _ _ => true)).same _ _ HB.out rfl)
        have HF5 := Lib.hid hf5
        obtain ⟨f0, f1, f2, f3, fl⟩ := Fn.o_cells hf5
        clear hw5 k5 hf5 HX HB x0 x1 x2 x3 x4 x5 x6 x7 xl c0 c1 c2 c3 hgl
        generalize wr.heap.size = bF at *
        by_cases r0 : f.regs < 0
        · go_wp2_with fail
          go_ret
          exact AnsB.no HX5.out
        by_cases r1 : f.regs > 256
        · go_wp2_with fail
          go_ret
          exact AnsB.no HX5.out
        by_cases r2 : f.caps < 0
        · go_wp2_with fail
          go_ret
          exact AnsB.no HX5.out
        by_cases r3 : f.caps > f.regs
        · go_wp2_with fail
          go_ret
          exact AnsB.no HX5.out
        by_cases r4 : (f.code.length : Int) < 1
        · go_wp2_with fail
          go_ret
          exact AnsB.no HX5.out
        by_cases r5 : (f.code.length : Int) > 512
        · go_wp2_with fail
          go_ret
          exact AnsB.no HX5.out
        have HRC := Lib.hid (show (0 ≤ f.regs ∧ f.regs ≤ 256) ∧ (0 ≤ f.caps ∧ f.caps ≤ f.regs) ∧ 1 ≤ f.code.length ∧ f.code.length ≤ 512 by omega)
        have hcl : f.code.length ≤ 512 := by omega
        go_wp2_with fail
        clear f0 f1 f2 f3 fl r0 r1 r2 r3 r4 r5
        go_loopg [3, 6] f.code.length (fun k v3 v6 wr => ∃ (n : Nat), n + k = f.code.length ∧ v3 = .int .i64 (siteBase P i + cntS (f.code.take n) : Nat) ∧ v6 = .int .i64 n ∧ Ext W wr ∧ wr.heap[W.heap.size]? = some P.o ∧ wr.heap[bF]? = some f.o ∧ Go.RowKit.Hid (∀ (j : Nat) (h : j < f.code.length), j < n → InsOk P f f.code[j] ∧ placeP P i f j f.code[j]))
        case atStart => exact ⟨0, by omega, by simp [cntS], rfl, HX5.out, HB5.out, HF5.out, Lib.hid (fun j _ hj => absurd hj (Nat.not_lt_zero _))⟩
        case round =>
          clear HX5 HB5 HF5
          obtain ⟨n, hnk, rfl, rfl, hx, hb, hf, HS⟩ := hrel
          obtain ⟨N, hN⟩ : ∃ N : Nat, N = siteBase P i + cntS (f.code.take n) := ⟨_, rfl⟩
          rw [← hN]
          have HNN := Lib.hid hN
          clear hN
          obtain ⟨x0, x1, x2, x3, x4, x5, x6, x7, xl⟩ := Prg.o_cells hb
          obtain ⟨f0, f1, f2, f3, fl⟩ := Fn.o_cells hf
          have HX := Lib.hid hx
          have HB := Lib.hid hb
          have HF := Lib.hid hf
          rcases Nat.lt_or_ge n f.code.length with hn | hn
          · have z1 : (n : Int) < (f.code.length : Int) := by omega
            obtain ⟨g, off, e2, hgl, hin, y0, y1, y2, y3, y4, y5, y6, y7⟩ := Fn.ins_at (HFI.out.kept hx) hn
            have HSi := Lib.hid (fun (q : InsOk P f f.code[n] ∧ placeP P i f n f.code[n]) (j : Nat) (h : j < f.code.length) (hj : j < n + 1) => show InsOk P f f.code[j] ∧ placeP P i f j f.code[j] by
              rcases Nat.lt_or_ge j n with q1 | q1
              · exact HS.out j h q1
              · have : j = n := by omega
                subst this
                exact q)
            have HCS := Lib.hid (cntS_succ f.code hn)
            have hNle := cntS_le f.code n
            generalize f.code[n] = x at hin y0 y1 y2 y3 y4 y5 y6 y7 HSi HCS
            have HINS := Lib.hid (fun (w : World) (k : Ext wr w) => instr_ok (f := f) (HP.out.kept (hx.trans k)) (hin.kept k))
            have HE2 := Lib.hid e2
            rw [e2] at f3
            clear e2 hx hb hf hin
            go_upto_region 14 with (fail)
            obtain ⟨w6, hw6⟩ : ∃ w6, w6 = wr.alloc x.o := ⟨_, rfl⟩
            change Code.wp _ _ _ _ (wr.alloc x.o)
            rw [← hw6]
            have k6 : Ext wr w6 := by rw [hw6]; exact Ext.one _ _
            have hx6 : w6.heap[wr.heap.size]? = some x.o := by rw [hw6]; exact World.alloc_heap_new _ _
            have kk6 := k6.kept (fun _ _ => true)
            have HX6 := Lib.hid (HX.out.trans k6)
            have HB6 := Lib.hid (kk6.same _ _ HB.out rfl)
            have HF6 := Lib.hid (kk6.same _ _ HF.out rfl)
            have HXB := Lib.hid hx6
            have hins := HINS.out w6 k6
            unfold Prg.v Fn.v Ins.v at hins
            have HIN := Lib.hid hins
            clear hins HINS x0 x1 x2 x3 x4 x5 x6 x7 xl f0 f1 f2 f3 fl y0 y1 y2 y3 y4 y5 y6 y7 hgl HX HB HF k6 kk6
            obtain ⟨x0, x1, x2, x3, x4, x5, x6, x7, xl⟩ := Prg.o_cells HB6.out
            obtain ⟨f0, f1, f2, f3, fl⟩ := Fn.o_cells HF6.out
            obtain ⟨y0, y1, y2, y3, y4, y5, y6, y7, yl⟩ := Ins.o_cells hx6
            clear hw6 hx6
            generalize wr.heap.size = bX at *
            go_upto_region 16 with (go_at_call 30; refine HIN.out.mono ?_; rintro e w7 ⟨b, rfl, hq, hx7⟩; have HQ7 := Lib.hid hq; have HX7 := Lib.hid (HX6.out.trans hx7); have k7 := hx7.kept (fun _ _ => true); have HB7 := Lib.hid (k7.same _ _ HB6.out rfl); have HF7 := Lib.hid (k7.same _ _ HF6.out rfl); have HXB7 := Lib.hid (k7.same _ _ HXB.out rfl); clear hq hx7 k7; cases b)
            · go_wp2_with fail
              go_ret
              exact AnsB.no HX7.out
            · have HIO := Lib.hid (show InsOk P f x by first | exact HQ7.out rfl | exact HQ7.out trivial)
              clear HQ7 HIN HX6 HB6 HF6 HXB x0 x1 x2 x3 x4 x5 x6 x7 xl f0 f1 f2 f3 fl y0 y1 y2 y3 y4 y5 y6 y7 yl
              obtain ⟨y0, y1, y2, y3, y4, y5, y6, y7, yl⟩ := Ins.o_cells HXB7.out
              have his := fun w => IsSite_ok x.op HIO.out.op1 HIO.out.op2 w
              cases hsi : siteO x.op with
              | false =>
                rw [hsi] at his
                have HIS := Lib.hid his
                have hcs := HCS.out
                rw [hsi] at hcs
                have HC2 := Lib.hid (show cntS (f.code.take (n + 1)) = cntS (f.code.take n) by simpa using hcs)
                clear his hcs
                by_cases hs1 : x.site = -1
                · have HS2 := Lib.hid (HSi.out ⟨HIO.out, fun _ => hs1, fun q => by rw [hsi] at q; cases q⟩)
                  have z2 : (x.site != -1) = false := by simp [hs1]
                  clear hsi hs1
                  go_wp2_with (go_at_call 31; refine (HIS.out _).mono ?_; rintro e w8 ⟨rfl, hw⟩; rw [hw]; clear hw)
                  go_roundg (gk - 1)
                  case measure => omega
                  case rel => exact ⟨n + 1, by omega, by rw [HC2.out, ← HNN.out], by go_num, HX7.out, HB7.out, HF7.out, HS2⟩
                · have z2 : (x.site != -1) = true := by simp [hs1]
                  clear hsi hs1 hnk
                  go_wp2_with (go_at_call 31; refine (HIS.out _).mono ?_; rintro e w8 ⟨rfl, hw⟩; rw [hw]; clear hw)
                  go_ret
                  exact AnsB.no HX7.out
              | true =>
                rw [hsi] at his
                have HIS := Lib.hid his
                have hcs := HCS.out
                rw [hsi] at hcs
                have HC2 := Lib.hid (show siteBase P i + cntS (f.code.take (n + 1)) = N + 1 by rw [HNN.out]; simp at hcs; omega)
                have hsl := HP.out.sitsL
                obtain ⟨x0, x1, x2, x3, x4, x5, x6, x7, xl⟩ := Prg.o_cells HB7.out
                clear his hcs x0 x1 x2 x3 x4 x5 x6
                by_cases hs1 : x.site = (N : Int)
                · have z2 : (x.site != (N : Int)) = false := by simp [hs1]
                  rcases Nat.lt_or_ge N P.sits.length with hN | hN
                  · have z3 : ¬ (N : Int) ≥ (P.sits.length : Int) := by omega
                    have HS2 := Lib.hid (fun (h1 : P.sits[N].fn = i) (h2 : P.sits[N].at' = n) => HSi.out ⟨HIO.out, fun q => (by rw [hsi] at q; cases q), fun _ => (by rw [← HNN.out]; exact ⟨hs1, P.sits[N], List.getElem?_eq_getElem hN, h1, h2⟩)⟩)
                    obtain ⟨g, off, e3, hgl, s0, s1⟩ := Prg.sit_at (HP.out.kept HX7.out) hN
                    generalize P.sits[N].fn = sf at s0 HS2
                    generalize P.sits[N].at' = sa at s1 HS2
                    rw [e3] at x7
                    clear e3 hsi hs1
                    by_cases h1 : sf = (i : Int)
                    · subst h1
                      by_cases h2 : sa = (n : Int)
                      · subst h2
                        have HS3 := Lib.hid (HS2.out rfl rfl)
                        have HNK := Lib.hid hnk
                        have hNl : N ≤ 9223372036854775806 := by omega
                        clear hnk HS2
                        go_wp2_with (go_at_call 31; refine (HIS.out _).mono ?_; rintro e w8 ⟨rfl, hw⟩; rw [hw]; clear hw)
                        have hnk := HNK.out
                        go_roundg (gk - 1)
                        case measure => omega
                        case rel => exact ⟨n + 1, by omega, by rw [HC2.out]; go_num, by go_num, HX7.out, HB7.out, HF7.out, HS3.out⟩
                      · clear hnk HS2
                        go_wp2_with (go_at_call 31; refine (HIS.out _).mono ?_; rintro e w8 ⟨rfl, hw⟩; rw [hw]; clear hw)
                        go_ret
                        exact AnsB.no HX7.out
                    · clear hnk HS2
                      go_wp2_with (go_at_call 31; refine (HIS.out _).mono ?_; rintro e w8 ⟨rfl, hw⟩; rw [hw]; clear hw)
                      go_ret
                      exact AnsB.no HX7.out
                  · have z3 : (N : Int) ≥ (P.sits.length : Int) := by omega
                    clear hsi hs1 hnk
                    go_wp2_with (go_at_call 31; refine (HIS.out _).mono ?_; rintro e w8 ⟨rfl, hw⟩; rw [hw]; clear hw)
                    go_ret
                    exact AnsB.no HX7.out
                · have z2 : (x.site != (N : Int)) = true := by simp [hs1]
                  clear hsi hs1 hnk
                  go_wp2_with (go_at_call 31; refine (HIS.out _).mono ?_; rintro e w8 ⟨rfl, hw⟩; rw [hw]; clear hw)
                  go_ret
                  exact AnsB.no HX7.out
          · have z1 : ¬ (n : Int) < (f.code.length : Int) := by omega
            have hrc := HRC.out
            obtain ⟨m, hm⟩ : ∃ m, f.code.length = m + 1 := ⟨f.code.length - 1, by omega⟩
            have hml : m < f.code.length := by omega
            obtain ⟨g, off, e2, hgl, y0⟩ := Fn.op_at (HFI.out.kept hx) hml
            have hw1 : IntKind.i64.wrap ((f.code.length : Int) - 1) = (m : Int) := by rw [IntKind.wrap_i64]; omega
            have z4 : (m : Int) < (f.code.length : Int) := by omega
            have hfin : f.code[m].op = 33 ∨ f.code[m].op = 31 → FnOk P i f := fun q => by
              refine ⟨hrc.1, hrc.2.1, hrc.2.2, fun k h => HS.out k h (by omega), fun h => ?_⟩
              have : f.code.length - 1 = m := by omega
              simp only [this]
              exact q
            have hN2 : N = siteBase P (i + 1) := by
              rw [HSB.out, HNN.out, List.take_of_length_le (by omega)]
            have HFIN := Lib.hid hfin
            have HN2 := Lib.hid hN2
            generalize f.code[m].op = lo at y0 HFIN
            rw [e2] at f3
            clear e2 hx hb hf hnk hn hrc hm hml hfin hN2 HS x0 x1 x2 x3 x4 x5 x6 x7 xl
            by_cases l33 : lo = 33
            · have HR2 := Lib.hid (HRi.out (HFIN.out (.inl l33)))
              have z5 : (lo != 33) = false := by simp [l33]
              clear l33
              go_wp2_with fail
              have hG := HG.out
              have hik := HIK.out
              go_roundg (G - 1)
              case measure => omega
              case rel => exact ⟨i + 1, by omega, by rw [HN2.out], by go_num, HX.out, HB.out, HR2⟩
            · have z5 : (lo != 33) = true := by simp [l33]
              by_cases l31 : lo = 31
              · have HR2 := Lib.hid (HRi.out (HFIN.out (.inr l31)))
                have z6 : (lo != 31) = false := by simp [l31]
                clear l33 l31
                go_wp2_with fail
                have hG := HG.out
                have hik := HIK.out
                go_roundg (G - 1)
                case measure => omega
                case rel => exact ⟨i + 1, by omega, by rw [HN2.out], by go_num, HX.out, HB.out, HR2⟩
              · have z6 : (lo != 31) = true := by simp [l31]
                clear l33 l31
                go_wp2_with fail
                go_ret
                exact AnsB.no HX.out
      · have z0 : ¬ (i : Int) < (P.fns.length : Int) := by omega
        have hie : i = P.fns.length := by omega
        have HALL := Lib.hid (fun (j : Nat) (h : j < P.fns.length) => HR.out j h (by omega))
        obtain ⟨N, hN⟩ : ∃ N : Nat, N = siteBase P i := ⟨_, rfl⟩
        rw [← hN]
        have HFIN := Lib.hid (fun (h1 : N = P.sits.length) (h2 : N ≤ 512) => (⟨HPO.out, HALL.out, by rw [← hie, ← hN]; exact ⟨h1, by omega⟩⟩ : MayP P))
        clear hx hb hik hi HR hN hie
        by_cases h1 : N = P.sits.length
        · have z1 : ((N : Int) == (P.sits.length : Int)) = true := by simp [h1]
          by_cases h2 : (N : Int) ≤ 512
          · have HF := Lib.hid (HFIN.out h1 (by omega))
            clear h1
            go_wp2_with fail
            go_ret
            exact AnsB.of _ (fun _ => HF.out) HX.out
          · have z9 : decide ((N : Int) ≤ 512) = false := decide_eq_false h2
            clear h1
            go_wp2_with fail
            go_ret
            exact AnsB.of _ (fun q => absurd q (by first | exact Bool.false_ne_true | (rw [z9]; exact Bool.false_ne_true) | simp [h2])) HX.out
        · have z1 : ((N : Int) == (P.sits.length : Int)) = false := by simp; omega
          clear h1
          go_wp2_with fail
          go_ret
          exact AnsB.no HX.out
end Go.Proofs.YtiabhahmippiaaaGreatDoor
