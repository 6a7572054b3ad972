/- slices.Equal of places at the seat; the program's sitesMayBe: yes of a program that may be. -/
import Derived.Test.YtfljmdpigckpkaaGreatDoorSvC
namespace Go.Proofs.YtfljmdpigckpkaaGreatDoor
open Go.RowKit Go.Shelf
attribute [local go_sem] Oper.semAt_some
theorem sit_at {w : World} {A : Option Addr} {m c : Nat} {T : List Sit} {Q : Sit → Prop} (h : RowN Sit.cells 2 Q w A m c T) {i : Nat} (hi : i < T.length) : ∃ g off, A = some ⟨g, off, none⟩ ∧ g < w.heap.size ∧ w.cell? ⟨g, off + i * 2, none⟩ = some (.int .i64 T[i].fn) ∧ w.cell? ⟨g, off + i * 2 + 1, none⟩ = some (.int .i64 T[i].at') := by
  obtain ⟨g, off, h1, h2, _, h4⟩ := h.2.2 i _ (List.getElem?_eq_getElem hi)
  exact ⟨g, off, h1, h2, h4 0 _ rfl, h4 1 _ rfl⟩
set_option maxHeartbeats 4000000 in
set_option maxRecDepth 100000 in
theorem eqSits_ok {W : World} {T : List Sit} {A A' : Option Addr} {c c' : Nat} {Q Q' : Sit → Prop} (h : RowN Sit.cells 2 Q W A T.length c T) (h' : RowN Sit.cells 2 Q' W A' T.length c' T) (hl : T.length ≤ 100000) :
    Calls Tryz.prog 286 #[.slice A T.length c, .slice A' T.length c'] W fun e W' => e = .returned (.bool true) ∧ Ext W W' := by
  have z0 : ((T.length : Int) != (T.length : Int)) = false := by simp
  have H := Lib.hid h
  have H' := Lib.hid h'
  clear h h'
  go_enter Tryz.func286, Tryz.ntmps286
  go_wp2_with fail
  go_loopg [13] T.length (fun k v13 wr => ∃ (i : Nat), i + k = T.length ∧ v13 = .int .i64 i ∧ ∃ m, wr = W.drewN m)
  case atStart => exact ⟨0, by omega, rfl, 0, rfl⟩
  case round =>
    obtain ⟨i, hik, rfl, m, rfl⟩ := hrel
    rcases Nat.lt_or_ge i T.length with hi | hi
    · have z1 : (i : Int) < (T.length : Int) := by omega
      obtain ⟨g, off, e1, hl1, c0, c1⟩ := sit_at H.out hi
      obtain ⟨g', off', e1', hl1', c0', c1'⟩ := sit_at H'.out hi
      generalize T[i] = s at c0 c1 c0' c1'
      have HE := Lib.hid e1
      have HE' := Lib.hid e1'
      rw [e1, e1']
      clear e1 e1'
      have z2 : (s.fn == s.fn) = true := by simp
      have z3 : (s.at' == s.at') = true := by simp
      go_wp2_with fail
      go_quiet (fail)
      go_wp2_with fail
      rw [← HE.out, ← HE'.out]
      go_roundg (gk - 1)
      case measure => omega
      case rel => exact ⟨i + 1, by omega, by go_num, _, rfl⟩
    · have z1 : ¬ (i : Int) < (T.length : Int) := by omega
      clear hik hi
      go_wp2_with fail
      go_ret
      exact ⟨rfl, Ext.drewN _ _⟩
theorem src_two {w : World} {b c : Nat} {x y : Value} {t : TypeId} (h : w.heap[b]? = some (.cells #[x, y] t (0, 0))) : Src w (.slice (some ⟨b, 0, none⟩) 1 c) 1 [x, y] := .inr ⟨_, _, rfl, World.news_of_block h⟩
theorem grow_same {w w' : World} {v : Value} {b : Nat} {o : Obj} (hg : w.grownBy w' v.ownBlock) (hb : w.heap[b]? = some o) (hne : ∀ g, v.ownBlock = some g → g ≠ b) : w'.heap[b]? = some o :=
  (hg.block b (Array.getElem?_eq_some_iff.1 hb).1 fun e => hne b e.symm rfl).trans hb
/-- The places so far, in a row of our own. -/
def SoFar (P : Prg) (B m : Nat) (v : Value) (w : World) : Prop := w.ownsRow B 95 2 v m ((P.sits.take m).flatMap Sit.cells)
theorem SoFar.ext {P : Prg} {B m : Nat} {v : Value} {w w' : World} (h : SoFar P B m v w) (k : Ext w w') : SoFar P B m v w' := (k.kept (fun _ _ => true)).row h fun _ _ => rfl
set_option maxHeartbeats 16000000 in
set_option maxRecDepth 100000 in
theorem sitesMayBe_ok {P : Prg} {W : World} (h : P.In W) (hg : GoodP P) : Calls Tryz.prog 201 #[P.v] W fun e W' => e = .returned (.bool true) ∧ Ext W W' := by
  obtain ⟨i0, hi0, hz0, hz1, hz2⟩ := infoParts infoSits
  unfold Prg.v
  obtain ⟨W1, hW1⟩ : ∃ W1, W1 = W.alloc P.o := ⟨_, rfl⟩
  have hE1 : Ext W W1 := by rw [hW1]; exact Ext.one _ _
  have hb1 : W1.heap[W.heap.size]? = some P.o := by rw [hW1]; exact World.alloc_heap_new _ _
  obtain ⟨x0, x1, x2, x3, x4, x5, x6, x7, xl⟩ := Prg.o_cells hb1
  have HE1 := Lib.hid hE1
  have HB1 := Lib.hid hb1
  have HW := Lib.hid hW1
  have HP := Lib.hid h
  have HG := Lib.hid hg.may
  have HNIL := Lib.hid (show SoFar P (W.heap.size + 1) (siteBase P 0) (.slice none 0 0) W1 from World.ownsRow_nil _ _ _ _)
  clear hE1 hb1 hW1 h hg
  go_enter Tryz.func201, Tryz.ntmps201
  go_upto_region 1 with (fail)
  change Code.wp _ _ _ _ (W.alloc P.o)
  rw [← HW.out]
  go_wp2_with fail
  clear x0 x1 x2 x3 x4 x5 x6 x7 xl HW
  go_loopg [11, 3] P.fns.length (fun k v11 v3 wr => ∃ (i : Nat) (A : Option Addr) (c : Nat), i + k = P.fns.length ∧ v11 = .int .i64 i ∧ v3 = .slice A (siteBase P i) c ∧ Ext W wr ∧ wr.heap[W.heap.size]? = some P.o ∧ SoFar P (W.heap.size + 1) (siteBase P i) (.slice A (siteBase P i) c) wr)
  case atStart => exact ⟨0, none, 0, by omega, rfl, rfl, HE1.out, HB1.out, HNIL.out⟩
  case round =>
    clear HE1 HB1 HNIL
    obtain ⟨i, A, c, hik, rfl, rfl, hx, hb, hs⟩ := hrel
    obtain ⟨wq, rfl⟩ : ∃ y, y = wr := ⟨_, rfl⟩
    obtain ⟨x0, x1, x2, x3, x4, x5, x6, x7, xl⟩ := Prg.o_cells hb
    have HX := Lib.hid hx
    have HB := Lib.hid hb
    have HS := Lib.hid hs
    have hll := HP.out.fnsL
    rcases Nat.lt_or_ge i P.fns.length with hi | hi
    · have z0 : (i : Int) < (P.fns.length : Int) := by omega
      obtain ⟨g, off, e1, hgl, _, c0, c1, c2, c3⟩ := Prg.fn_at (HP.out.kept hx) hi
      have hf := HG.out.fns i hi
      have hd := hf.code
      have hsb := siteBase_succ P hi
      have HF := Lib.hid hf.ins
      have HIN := Lib.hid (fun (w : World) (k : Ext W w) => Prg.fn_in (HP.out.kept k) hi)
      generalize P.fns[i] = f at c0 c1 c2 c3 HF HIN hd hsb
      obtain ⟨G, hG⟩ : ∃ G, G = gk := ⟨_, rfl⟩
      have HGK := Lib.hid hG
      have HSB := Lib.hid hsb
      rw [e1] at x3
      clear e1 hx hb hG hf hs hsb
      go_wp2_with fail
      clear x0 x1 x2 x3 x4 x5 x6 x7 xl c0 c1 c2 c3 z0 hll hgl
      go_loopg [21, 3] f.code.length (fun k v21 v3 wz => ∃ (n m : Nat) (A : Option Addr) (c : Nat), n + k = f.code.length ∧ m = siteBase P i + cntS (f.code.take n) ∧ v21 = .int .i64 n ∧ v3 = .slice A m c ∧ Ext W wz ∧ wz.heap[W.heap.size]? = some P.o ∧ SoFar P (W.heap.size + 1) m (.slice A m c) wz)
      case atStart => exact ⟨0, siteBase P i, A, c, by omega, by simp [cntS], rfl, rfl, HX.out, HB.out, HS.out⟩
      case round =>
        obtain ⟨n, m, A, c, hnk, hm, rfl, rfl, hx, hb, hs⟩ := hrel
        clear HX HB HS
        have HX := Lib.hid hx
        have HB := Lib.hid hb
        rcases Nat.lt_or_ge n f.code.length with hn | hn
        · have z1 : (n : Int) < (f.code.length : Int) := by omega
          obtain ⟨g3, off3, e3, hl3, _, d0, d1, d2, d3, d4, d5, d6, d7⟩ := Fn.ins_at (HIN.out _ hx) hn
          have hpl := (HF.out n hn).2
          have hio := (HF.out n hn).1
          unfold placeP at hpl
          rw [← hm] at hpl
          have hcs := cntS_succ f.code hn
          generalize f.code[n] = y at d0 d1 d2 d3 d4 d5 d6 d7 hpl hio hcs
          have HE3 := Lib.hid e3
          have HIS := Lib.hid (fun w => pIsSite_ok y.op hio.op1 hio.op2 w)
          have HPL := Lib.hid hpl
          have HCS := Lib.hid hcs
          have HM := Lib.hid hm
          rw [e3]
          clear e3 hx hb hpl hio hcs hm
          go_upto_region 8 with (fail)
          change Code.wp _ _ _ _ (wr.alloc y.o)
          obtain ⟨W5, hW5⟩ : ∃ W5, W5 = wr.alloc y.o := ⟨_, rfl⟩
          rw [← hW5]
          have hE5 : Ext wr W5 := by rw [hW5]; exact Ext.one _ _
          have hb5 : W5.heap[wr.heap.size]? = some y.o := by rw [hW5]; exact World.alloc_heap_new _ _
          have HX5 := Lib.hid (HX.out.trans hE5)
          have HB5 := Lib.hid ((hE5.kept (fun _ _ => true)).same _ _ HB.out rfl)
          have HS5 := Lib.hid (hs.ext hE5)
          have HI5 := Lib.hid hb5
          have HLT := Lib.hid (own_lt hs)
          have HSZ := Lib.hid (show W.heap.size + 1 ≤ W5.heap.size from (Array.getElem?_eq_some_iff.1 HB5.out).1)
          clear d0 d1 d2 d3 d4 d5 d6 d7 hs hl3
          obtain ⟨d0, d1, d2, d3, d4, d5, d6, d7, dl⟩ := Ins.o_cells hb5
          clear hE5 hb5 hW5
          cases hso : siteO y.op with
          | false =>
            have hst := HPL.out.1 hso
            have HCS2 := Lib.hid (show siteBase P i + cntS (f.code.take (n + 1)) = m by rw [HCS.out, hso, HM.out]; simp)
            rw [hso] at HIS
            rw [hst] at d6
            clear hst hso
            go_wp2_with (go_at_call 285; refine (HIS.out _).mono ?_; rintro e w2 ⟨rfl, hw⟩; rw [hw]; clear hw)
            rw [← HE3.out]
            go_roundg (gk - 1)
            case measure => omega
            case rel => exact ⟨n + 1, m, A, c, by omega, HCS2.out.symm, by go_num, rfl, HX5.out, HB5.out, HS5.out⟩
          | true =>
            obtain ⟨hst, s, hsi, hs1, hs2⟩ := HPL.out.2 hso
            have HCS2 := Lib.hid (show siteBase P i + cntS (f.code.take (n + 1)) = m + 1 by rw [HCS.out, hso, HM.out]; simp; omega)
            have hml : m < P.sits.length := (List.getElem?_eq_some_iff.1 hsi).1
            have h512 := HG.out.sites.2
            have hrow : (P.sits.take m).flatMap Sit.cells ++ [.int .i64 i, .int .i64 n] = (P.sits.take (m + 1)).flatMap Sit.cells := by
              rw [List.take_add_one, hsi, List.flatMap_append]
              simp [Sit.cells, iV, hs1, hs2]
            have hrl : ((P.sits.take m).flatMap Sit.cells).length = m * 2 := by rw [flat_len (s := 2) fun _ => rfl]; simp; omega
            rw [hso] at HIS
            rw [hst] at d6
            have HROW := Lib.hid hrow
            have hb6 : (W5.alloc (.cells #[.int .i64 i, .int .i64 n] 95 (0, 0))).heap[W5.heap.size]? = some (.cells #[.int .i64 i, .int .i64 n] 95 (0, 0)) := World.alloc_heap_new _ _
            have HSRC := Lib.hid (src_two (c := 1) hb6)
            have HS6 := Lib.hid (HS5.out.ext (Ext.one W5 (.cells #[.int .i64 i, .int .i64 n] 95 (0, 0))))
            unfold SoFar at HS6
            have hsz6 := HSZ.out
            have HST := Lib.hid hst
            clear hst hso hsi hs1 hs2 hrow hb6
            go_wp2_with (first
              | (go_at_call 285; refine (HIS.out _).mono ?_; rintro e w2 ⟨rfl, hw⟩; rw [hw]; clear hw)
              | (at_builtin; refine wpList_append_any rfl _ _ 33 rfl (W.heap.size + 1) 95 i0 (.agg #[.int .i64 0, .int .i64 0]) 2 16 Tryz.underlying33 hi0 hz0 hz1 hz2 rfl (by decide) (.slice A m c) m _ rfl HS6.out (.slice (some ⟨W5.heap.size, 0, none⟩) 1 1) 1 [.int .i64 i, .int .i64 n] rfl (by simp) HSRC.out (by simp [Value.oneCell']) (by unfold maxLen; omega) (by omega) (by simp; omega) (m + 1) (by omega) _ HROW.out ?_; intro A1 c1 w1 hown1 hgrow1 hat1; have HX7 := Lib.hid (grown_ext (HX5.out.trans (Ext.one _ _)) hgrow1 fun b hb => Nat.le_trans (Nat.le_succ _) (own_base HS6.out b hb)); have HB7 := Lib.hid (grow_same hgrow1 (((Ext.one W5 _).kept (fun _ _ => true)).same _ _ HB5.out rfl) fun g hg => by have := own_base HS6.out g hg; omega); obtain ⟨q0, q1, q2, q3, q4, q5, q6, q7, ql⟩ := Ins.o_cells (grow_same hgrow1 (((Ext.one W5 _).kept (fun _ _ => true)).same _ _ HI5.out rfl) fun g hg => by have := HLT.out g hg; omega); rw [HST.out] at q6; have HO1 := Lib.hid hown1; clear hown1 hgrow1 hat1))
            rw [← HE3.out]
            go_roundg (gk - 1)
            case measure => omega
            case rel => exact ⟨n + 1, m + 1, A1, c1, by omega, HCS2.out.symm, by go_num, rfl, HX7.out, HB7.out, HO1.out⟩
        · have z1 : ¬ (n : Int) < (f.code.length : Int) := by omega
          have hll := HP.out.fnsL
          have z0 : (i : Int) < P.fns.length := by omega
          have hm2 : m = siteBase P (i + 1) := by
            rw [hm, HSB.out]
            have : n = f.code.length := by omega
            subst this
            rw [List.take_length]
          subst hm2
          have HS := Lib.hid hs
          clear hnk hn hx hb hs hm
          go_wp2_with fail
          have hg := HGK.out
          go_roundg (G - 1)
          case measure => omega
          case rel => exact ⟨i + 1, A, c, by omega, by go_num, rfl, HX.out, HB.out, HS.out⟩
    · have z0 : ¬ (i : Int) < (P.fns.length : Int) := by omega
      have hii : i = P.fns.length := by omega
      have h512 := HG.out.sites.2
      have hsb := HG.out.sites.1
      rw [← hii] at hsb
      rw [hsb] at hs
      unfold SoFar at hs
      rw [List.take_length] at hs
      have HEQ := Lib.hid (eqSits_ok (Q := fun _ => True) (Q' := fun _ => True) ((HP.out.kept hx).sits.mono (Kept.refl _ _) fun _ _ => trivial) (own_rowN (fun _ => rfl) hs fun _ _ => trivial) (by omega))
      rw [hsb]
      clear hx hb hik hi hii hsb hs HS
      go_wp2_with (go_at_call 286; refine HEQ.out.mono ?_; rintro e w2 ⟨rfl, hx2⟩; have HX2 := Lib.hid hx2; clear hx2)
      go_ret
      exact ⟨rfl, HX.out.trans HX2.out⟩
end Go.Proofs.YtfljmdpigckpkaaGreatDoor
