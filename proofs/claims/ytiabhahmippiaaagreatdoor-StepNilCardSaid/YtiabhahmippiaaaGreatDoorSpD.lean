/- The document's parts: may a program's parts be, but its code? Written by genD.py. -/
import Derived.Test.YtiabhahmippiaaaGreatDoorSpC
import Derived.Test.YtiabhahmippiaaaGreatDoorQtA
namespace Go.Proofs.YtiabhahmippiaaaGreatDoor
open Go.RowKit Go.Shelf
attribute [local go_sem] Oper.semAt_some
def fsA (x : Cmp) (k : Nat) : Int := [x.fs0, x.fs1, x.fs2, x.fs3].getD k 0
/-- A program whose parts may be. -/
structure PartsOk (P : Prg) : Prop where
  n0 : 1 ≤ P.loops.length ∧ P.loops.length ≤ 8
  n1 : P.clss.length ≤ 16
  n2 : P.glbs.length ≤ 32
  n3 : P.cmps.length ≤ 8
  n4 : P.evts.length ≤ 8
  n5 : 1 ≤ P.fns.length ∧ P.fns.length ≤ 64
  mn : rootB P P.main = true
  cls : ∀ (i : Nat) (h : i < P.clss.length), P.clss[i].flds.length ≤ 8 ∧ P.clss[i].names.length = P.clss[i].flds.length
  cmp : ∀ (i : Nat) (h : i < P.cmps.length), (∀ k : Nat, k < 4 → 0 ≤ fsA P.cmps[i] k → rootB P (fsA P.cmps[i] k) = true) ∧ inI P.cmps[i].loop P.loops.length = true
  evt : ∀ (i : Nat) (h : i < P.evts.length), inI P.evts[i].loop P.loops.length = true ∧ rootB P P.evts[i].fn = true
section
variable {w : World} {P : Prg}
theorem Prg.cls_at (h : P.In w) {i : Nat} (hi : i < P.clss.length) : ∃ g off, P.clssA = some ⟨g, off, none⟩ ∧ g < w.heap.size ∧ Cls.In w P.clss[i] ∧ w.cell? ⟨g, off + i * 3 + 1, none⟩ = some (.slice P.clss[i].namesA P.clss[i].names.length P.clss[i].namesC) ∧ w.cell? ⟨g, off + i * 3 + 2, none⟩ = some (.slice P.clss[i].fldsA P.clss[i].flds.length P.clss[i].fldsC) := by
  obtain ⟨g, off, h1, h2, h3, h4⟩ := h.clss.2.2 i _ (List.getElem?_eq_getElem hi)
  exact ⟨g, off, h1, h2, h3, h4 1 _ rfl, h4 2 _ rfl⟩
theorem Prg.cmp_at (h : P.In w) {i : Nat} (hi : i < P.cmps.length) : ∃ g off, P.cmpsA = some ⟨g, off, none⟩ ∧ g < w.heap.size ∧ w.cell? ⟨g, off + i * 6 + 1, none⟩ = some (.int .i64 P.cmps[i].loop) ∧ ∀ k : Nat, k < 4 → w.cell? ⟨g, off + i * 6 + 2 + k, none⟩ = some (.int .i64 (fsA P.cmps[i] k)) := by
  obtain ⟨g, off, h1, h2, h3, h4⟩ := h.cmps.2.2 i _ (List.getElem?_eq_getElem hi)
  refine ⟨g, off, h1, h2, h4 1 _ rfl, fun k hk => ?_⟩
  match k, hk with
  | 0, _ => exact h4 2 _ rfl
  | 1, _ => exact h4 3 _ rfl
  | 2, _ => exact h4 4 _ rfl
  | 3, _ => exact h4 5 _ rfl
theorem Prg.evt_at (h : P.In w) {i : Nat} (hi : i < P.evts.length) : ∃ g off, P.evtsA = some ⟨g, off, none⟩ ∧ g < w.heap.size ∧ w.cell? ⟨g, off + i * 4 + 1, none⟩ = some (.int .i64 P.evts[i].loop) ∧ w.cell? ⟨g, off + i * 4 + 3, none⟩ = some (.int .i64 P.evts[i].fn) := by
  obtain ⟨g, off, h1, h2, h3, h4⟩ := h.evts.2.2 i _ (List.getElem?_eq_getElem hi)
  exact ⟨g, off, h1, h2, h4 1 _ rfl, h4 3 _ rfl⟩
end
attribute [local irreducible] wpQuiet
set_option maxHeartbeats 8000000 in
set_option maxRecDepth 100000 in
theorem parts_ok {P : Prg} {W : World} (h : P.In W) : Calls Tryz.prog 29 #[P.v] W (AnsB (PartsOk P) W) := by
  have hmain := fun w (k : Ext W w) => root_ok (h.kept k) P.main
  have HMAIN := Lib.hid hmain
  clear hmain
  unfold Prg.v at HMAIN ⊢
  obtain ⟨W1, hW1⟩ : ∃ W1, W1 = W.alloc P.o := ⟨_, rfl⟩
  have hE1 : Ext W W1 := by rw [hW1]; exact Ext.one _ _
  have hb1 : W1.heap[W.heap.size]? = some P.o := by rw [hW1]; exact World.alloc_heap_new _ _
  obtain ⟨x0, x1, x2, x3, x4, x5, x6, x7, xl⟩ := Prg.o_cells hb1
  have HE1 := Lib.hid hE1
  have HB1 := Lib.hid hb1
  have HW := Lib.hid hW1
  have HP := Lib.hid h
  clear hE1 hb1 hW1 h
  by_cases q0 : (P.loops.length : Int) < 1
  · go_enter Tryz.func29, Tryz.ntmps29
    go_upto_region 1 with (fail)
    change Code.wp _ _ _ _ (W.alloc P.o)
    rw [← HW.out]
    go_wp2_with fail
    go_ret
    exact AnsB.no HE1.out
  by_cases q1 : (P.loops.length : Int) > 8
  · go_enter Tryz.func29, Tryz.ntmps29
    go_upto_region 1 with (fail)
    change Code.wp _ _ _ _ (W.alloc P.o)
    rw [← HW.out]
    go_wp2_with fail
    go_ret
    exact AnsB.no HE1.out
  by_cases q2 : (P.clss.length : Int) > 16
  · go_enter Tryz.func29, Tryz.ntmps29
    go_upto_region 1 with (fail)
    change Code.wp _ _ _ _ (W.alloc P.o)
    rw [← HW.out]
    go_wp2_with fail
    go_ret
    exact AnsB.no HE1.out
  by_cases q3 : (P.glbs.length : Int) > 32
  · go_enter Tryz.func29, Tryz.ntmps29
    go_upto_region 1 with (fail)
    change Code.wp _ _ _ _ (W.alloc P.o)
    rw [← HW.out]
    go_wp2_with fail
    go_ret
    exact AnsB.no HE1.out
  by_cases q4 : (P.cmps.length : Int) > 8
  · go_enter Tryz.func29, Tryz.ntmps29
    go_upto_region 1 with (fail)
    change Code.wp _ _ _ _ (W.alloc P.o)
    rw [← HW.out]
    go_wp2_with fail
    go_ret
    exact AnsB.no HE1.out
  by_cases q5 : (P.evts.length : Int) > 8
  · go_enter Tryz.func29, Tryz.ntmps29
    go_upto_region 1 with (fail)
    change Code.wp _ _ _ _ (W.alloc P.o)
    rw [← HW.out]
    go_wp2_with fail
    go_ret
    exact AnsB.no HE1.out
  by_cases q6 : (P.fns.length : Int) < 1
  · go_enter Tryz.func29, Tryz.ntmps29
    go_upto_region 1 with (fail)
    change Code.wp _ _ _ _ (W.alloc P.o)
    rw [← HW.out]
    go_wp2_with fail
    go_ret
    exact AnsB.no HE1.out
  by_cases q7 : (P.fns.length : Int) > 64
  · go_enter Tryz.func29, Tryz.ntmps29
    go_upto_region 1 with (fail)
    change Code.wp _ _ _ _ (W.alloc P.o)
    rw [← HW.out]
    go_wp2_with fail
    go_ret
    exact AnsB.no HE1.out
  have HN := Lib.hid (show (1 ≤ P.loops.length ∧ P.loops.length ≤ 8) ∧ P.clss.length ≤ 16 ∧ P.glbs.length ≤ 32 ∧ P.cmps.length ≤ 8 ∧ P.evts.length ≤ 8 ∧ 1 ≤ P.fns.length ∧ P.fns.length ≤ 64 by omega)
  cases hm : rootB P P.main with
  | false =>
    have HMN := HMAIN.out W1 HE1.out
    rw [hm] at HMN
    have HMN2 := Lib.hid HMN
    clear HMN hm
    go_enter Tryz.func29, Tryz.ntmps29
    go_upto_region 1 with (fail)
    change Code.wp _ _ _ _ (W.alloc P.o)
    rw [← HW.out]
    go_wp2_with (go_at_call 61; refine HMN2.out.mono ?_; rintro e w2 ⟨rfl, hx2⟩; have HX2 := Lib.hid hx2; clear hx2)
    go_ret
    exact AnsB.no (HE1.out.trans HX2.out)
  | true =>
    have HMN := HMAIN.out W1 HE1.out
    rw [hm] at HMN
    have HMN2 := Lib.hid HMN
    have HM := Lib.hid hm
    clear HMN hm
    go_enter Tryz.func29, Tryz.ntmps29
    go_upto_region 1 with (fail)
    change Code.wp _ _ _ _ (W.alloc P.o)
    rw [← HW.out]
    go_upto_region 3 with (go_at_call 61; refine HMN2.out.mono ?_; rintro e w2 ⟨rfl, hx2⟩; have HX2 := Lib.hid hx2; clear hx2)
    have HE2 := Lib.hid (HE1.out.trans HX2.out)
    have HB2 := Lib.hid ((HX2.out.kept (fun _ _ => true)).same _ _ HB1.out rfl)
    clear HX2 HE1 HB1 HMN2 HW HMAIN x0 x1 x2 x3 x4 x5 x6 x7 xl q0 q1 q2 q3 q4 q5 q6 q7
    go_wp2_with fail
    go_loopg [3] P.clss.length (fun k v3 wr => ∃ (i : Nat), i + k = P.clss.length ∧ v3 = .int .i64 i ∧ Ext W wr ∧ wr.heap[W.heap.size]? = some P.o ∧ Go.RowKit.Hid (∀ (j : Nat) (h : j < P.clss.length), j < i → P.clss[j].flds.length ≤ 8 ∧ P.clss[j].names.length = P.clss[j].flds.length))
    case atStart => exact ⟨0, by omega, rfl, HE2.out, HB2.out, Lib.hid (fun j _ hj => absurd hj (Nat.not_lt_zero _))⟩
    case round =>
      clear HE2 HB2
      obtain ⟨i, hik, rfl, hx, hb, HR⟩ := hrel
      obtain ⟨x0, x1, x2, x3, x4, x5, x6, x7, xl⟩ := Prg.o_cells hb
      have HX := Lib.hid hx
      have HB := Lib.hid hb
      have hll := HP.out.clssL
      rcases Nat.lt_or_ge i P.clss.length with hi | hi
      · have z0 : (i : Int) < (P.clss.length : Int) := by omega
        obtain ⟨g, off, e1, hgl, _, c1, c2⟩ := Prg.cls_at (HP.out.kept hx) hi
        have HRi := Lib.hid (fun (q : P.clss[i].flds.length ≤ 8 ∧ P.clss[i].names.length = P.clss[i].flds.length) (j : Nat) (h : j < P.clss.length) (hj : j < i + 1) => show P.clss[j].flds.length ≤ 8 ∧ P.clss[j].names.length = P.clss[j].flds.length by
          rcases Nat.lt_or_ge j i with q1 | q1
          · exact HR.out j h q1
          · have : j = i := by omega
            subst this
            exact q)
        rw [e1] at x1
        generalize P.clss[i] = y at c1 c2 HRi
        clear e1 hx hb
        by_cases hy : (y.flds.length : Int) > 8
        · clear hik
          go_wp2_with fail
          go_quiet (fail)
          go_wp2_with fail
          go_ret
          exact AnsB.no (HX.out.trans (Ext.drewN _ _))
        · by_cases hy2 : y.names.length = y.flds.length
          · have z1 : ((y.names.length : Int) != (y.flds.length : Int)) = false := by simp [hy2]
            have HR2 := Lib.hid (HRi.out ⟨by omega, hy2⟩)
            clear hy2
            go_wp2_with fail
            go_quiet (fail)
            go_wp2_with fail
            go_roundg (gk - 1)
            case measure => omega
            case rel => exact ⟨i + 1, by omega, by go_num, HX.out.trans (Ext.drewN _ _), (((Ext.drewN wr _).kept (fun _ _ => true)).same _ _ HB.out rfl), HR2⟩
          · have z1 : ((y.names.length : Int) != (y.flds.length : Int)) = true := by simp; omega
            clear hy2 hik
            go_wp2_with fail
            go_quiet (fail)
            go_wp2_with fail
            go_ret
            exact AnsB.no (HX.out.trans (Ext.drewN _ _))
      · have z0 : ¬ (i : Int) < (P.clss.length : Int) := by omega
        have HC := Lib.hid (fun (j : Nat) (h : j < P.clss.length) => HR.out j h (by omega))
        clear hx hb hik hi HR
        go_wp2_with fail
        clear x0 x1 x2 x3 x4 x5 x6 x7 xl z0 hll
        go_loopg [4] P.cmps.length (fun k v4 wr => ∃ (i : Nat), i + k = P.cmps.length ∧ v4 = .int .i64 i ∧ Ext W wr ∧ wr.heap[W.heap.size]? = some P.o ∧ Go.RowKit.Hid (∀ (j : Nat) (h : j < P.cmps.length), j < i → (∀ k : Nat, k < 4 → 0 ≤ fsA P.cmps[j] k → rootB P (fsA P.cmps[j] k) = true) ∧ inI P.cmps[j].loop P.loops.length = true))
        case atStart => exact ⟨0, by omega, rfl, HX.out, HB.out, Lib.hid (fun j _ hj => absurd hj (Nat.not_lt_zero _))⟩
        case round =>
          clear HX HB
          obtain ⟨i, hik, rfl, hx, hb, HR⟩ := hrel
          obtain ⟨x0, x1, x2, x3, x4, x5, x6, x7, xl⟩ := Prg.o_cells hb
          have HX := Lib.hid hx
          have HB := Lib.hid hb
          have hll := HP.out.cmpsL
          rcases Nat.lt_or_ge i P.cmps.length with hi | hi
          · have z0 : (i : Int) < (P.cmps.length : Int) := by omega
            have HRi := Lib.hid (fun (q : (∀ k : Nat, k < 4 → 0 ≤ fsA P.cmps[i] k → rootB P (fsA P.cmps[i] k) = true) ∧ inI P.cmps[i].loop P.loops.length = true) (j : Nat) (h : j < P.cmps.length) (hj : j < i + 1) => show (∀ k : Nat, k < 4 → 0 ≤ fsA P.cmps[j] k → rootB P (fsA P.cmps[j] k) = true) ∧ inI P.cmps[j].loop P.loops.length = true by
              rcases Nat.lt_or_ge j i with q1 | q1
              · exact HR.out j h q1
              · have : j = i := by omega
                subst this
                exact q)
            have HAT := Lib.hid (fun (w : World) (k : Ext W w) => Prg.cmp_at (HP.out.kept k) hi)
            generalize P.cmps[i] = y at HRi HAT
            obtain ⟨G, hG⟩ : ∃ G, G = gk := ⟨_, rfl⟩
            have HG := Lib.hid hG
            clear hx hb hG
            go_wp2_with fail
            clear x0 x1 x2 x3 x4 x5 x6 x7 xl
            go_loopg [5] 4 (fun k v5 wr => ∃ (n : Nat), n + k = 4 ∧ v5 = .int .i64 n ∧ Ext W wr ∧ wr.heap[W.heap.size]? = some P.o ∧ Go.RowKit.Hid (∀ j : Nat, j < n → 0 ≤ fsA y j → rootB P (fsA y j) = true))
            case atStart => exact ⟨0, by omega, rfl, HX.out, HB.out, Lib.hid (fun j hj => absurd hj (Nat.not_lt_zero _))⟩
            case round =>
              clear HX HB
              obtain ⟨n, hnk, rfl, hx, hb, HS⟩ := hrel
              obtain ⟨x0, x1, x2, x3, x4, x5, x6, x7, xl⟩ := Prg.o_cells hb
              obtain ⟨g, off, e1, hgl, c1, c2⟩ := HAT.out _ hx
              have HX := Lib.hid hx
              have HB := Lib.hid hb
              rcases Nat.lt_or_ge n 4 with hn | hn
              · have z1 : (n : Int) < 4 := by omega
                have ck := c2 n hn
                have HSi := Lib.hid (fun (q : 0 ≤ fsA y n → rootB P (fsA y n) = true) (j : Nat) (hj : j < n + 1) => show 0 ≤ fsA y j → rootB P (fsA y j) = true by
                  rcases Nat.lt_or_ge j n with q1 | q1
                  · exact HS.out j q1
                  · have : j = n := by omega
                    subst this
                    exact q)
                have hroot := fun (p : ExtBy wr) => root_ok (HP.out.kept (hx.trans p.x)) (fsA y n)
                unfold Prg.v at hroot
                rw [e1] at x4
                simp only [e1] at hroot
                generalize fsA y n = v at ck HSi hroot
                clear e1 hx hb c1 c2
                by_cases hv : v ≥ 0
                · cases hc : rootB P v with
                  | false =>
                    rw [hc] at hroot
                    have HRT := Lib.hid hroot
                    clear hroot hc hnk hik
                    have e0 := fun (p : ExtBy wr) => (p.x.kept (fun _ _ => true)).cell x0 fun _ _ => rfl
                    have e1 := fun (p : ExtBy wr) => (p.x.kept (fun _ _ => true)).cell x1 fun _ _ => rfl
                    have e2 := fun (p : ExtBy wr) => (p.x.kept (fun _ _ => true)).cell x2 fun _ _ => rfl
                    have e3 := fun (p : ExtBy wr) => (p.x.kept (fun _ _ => true)).cell x3 fun _ _ => rfl
                    have e4 := fun (p : ExtBy wr) => (p.x.kept (fun _ _ => true)).cell x4 fun _ _ => rfl
                    have e5 := fun (p : ExtBy wr) => (p.x.kept (fun _ _ => true)).cell x5 fun _ _ => rfl
                    have e6 := fun (p : ExtBy wr) => (p.x.kept (fun _ _ => true)).cell x6 fun _ _ => rfl
                    have e7 := fun (p : ExtBy wr) => (p.x.kept (fun _ _ => true)).cell x7 fun _ _ => rfl
                    have ec := fun (p : ExtBy wr) => (p.x.kept (fun _ _ => true)).cell ck fun _ _ => rfl
                    have el := fun (p : ExtBy wr) => Nat.lt_of_lt_of_le xl p.x.size
                    have eg := fun (p : ExtBy wr) => Nat.lt_of_lt_of_le hgl p.x.size
                    go_upto_region 14 with (fail)
                    clear x0 x1 x2 x3 x4 x5 x6 x7 xl ck hgl
                    refine region_quiet_ext (by kernel_rfl) (by kernel_rfl) ?_
                    repeat (quiet_step (first
                      | (go_at_call 61; exact ExtBy.call (HRT.out _))))
                    refine wpQuiet_nil ?_
                    rintro w' ⟨p, rfl⟩
                    go_wp2_with fail
                    go_ret
                    exact AnsB.no (HX.out.trans p.x)
                  | true =>
                    rw [hc] at hroot
                    have HRT := Lib.hid hroot
                    have HS2 := Lib.hid (HSi.out fun _ => hc)
                    clear hroot hc
                    have e0 := fun (p : ExtBy wr) => (p.x.kept (fun _ _ => true)).cell x0 fun _ _ => rfl
                    have e1 := fun (p : ExtBy wr) => (p.x.kept (fun _ _ => true)).cell x1 fun _ _ => rfl
                    have e2 := fun (p : ExtBy wr) => (p.x.kept (fun _ _ => true)).cell x2 fun _ _ => rfl
                    have e3 := fun (p : ExtBy wr) => (p.x.kept (fun _ _ => true)).cell x3 fun _ _ => rfl
                    have e4 := fun (p : ExtBy wr) => (p.x.kept (fun _ _ => true)).cell x4 fun _ _ => rfl
                    have e5 := fun (p : ExtBy wr) => (p.x.kept (fun _ _ => true)).cell x5 fun _ _ => rfl
                    have e6 := fun (p : ExtBy wr) => (p.x.kept (fun _ _ => true)).cell x6 fun _ _ => rfl
                    have e7 := fun (p : ExtBy wr) => (p.x.kept (fun _ _ => true)).cell x7 fun _ _ => rfl
                    have ec := fun (p : ExtBy wr) => (p.x.kept (fun _ _ => true)).cell ck fun _ _ => rfl
                    have el := fun (p : ExtBy wr) => Nat.lt_of_lt_of_le xl p.x.size
                    have eg := fun (p : ExtBy wr) => Nat.lt_of_lt_of_le hgl p.x.size
                    go_upto_region 14 with (fail)
                    clear x0 x1 x2 x3 x4 x5 x6 x7 xl ck hgl
                    refine region_quiet_ext (by kernel_rfl) (by kernel_rfl) ?_
                    repeat (quiet_step (first
                      | (go_at_call 61; exact ExtBy.call (HRT.out _))))
                    refine wpQuiet_nil ?_
                    rintro w' ⟨p, rfl⟩
                    go_wp2_with fail
                    go_roundg (gk - 1)
                    case measure => omega
                    case rel => exact ⟨n + 1, by omega, by go_num, HX.out.trans p.x, (p.x.kept (fun _ _ => true)).same _ _ HB.out rfl, HS2⟩
                · have HS2 := Lib.hid (HSi.out fun q => absurd q (by omega))
                  clear hroot
                  go_upto_region 14 with (fail)
                  go_quiet (fail)
                  go_wp2_with fail
                  go_roundg (gk - 1)
                  case measure => omega
                  case rel => exact ⟨n + 1, by omega, by go_num, HX.out.trans (Ext.drewN _ _), ((Ext.drewN wr _).kept (fun _ _ => true)).same _ _ HB.out rfl, HS2⟩
              · have z1 : ¬ (n : Int) < 4 := by omega
                have HS4 := Lib.hid (fun (k : Nat) (hk : k < 4) => HS.out k (by omega))
                have hin := fun m => in_ok y.loop P.loops.length (wr.drewN m)
                rw [e1] at x4
                cases hc : inI y.loop P.loops.length with
                | false =>
                  rw [hc] at hin
                  have HIN := Lib.hid hin
                  generalize y.loop = v at c1 HIN
                  clear e1 hx hb c2 hin hc hnk hik
                  go_upto_region 16 with (fail)
                  go_quiet (first | (go_at_call 37; exact Calls.quiet_of_same (HIN.out _)))
                  go_wp2_with fail
                  go_ret
                  exact AnsB.no (HX.out.trans (Ext.drewN _ _))
                | true =>
                  rw [hc] at hin
                  have HIN := Lib.hid hin
                  have HR2 := Lib.hid (HRi.out ⟨HS4.out, hc⟩)
                  generalize y.loop = v at c1 HIN
                  clear e1 hx hb c2 hin hc hnk
                  go_upto_region 16 with (fail)
                  go_quiet (first | (go_at_call 37; exact Calls.quiet_of_same (HIN.out _)))
                  go_wp2_with fail
                  have hG := HG.out
                  go_roundg (G - 1)
                  case measure => omega
                  case rel => exact ⟨i + 1, by omega, by go_num, HX.out.trans (Ext.drewN _ _), ((Ext.drewN wr _).kept (fun _ _ => true)).same _ _ HB.out rfl, HR2⟩
          · have z0 : ¬ (i : Int) < (P.cmps.length : Int) := by omega
            have HCM := Lib.hid (fun (j : Nat) (h : j < P.cmps.length) => HR.out j h (by omega))
            clear hx hb hik hi HR
            go_wp2_with fail
            clear x0 x1 x2 x3 x4 x5 x6 x7 xl z0 hll
            go_loopg [6] P.evts.length (fun k v6 wr => ∃ (i : Nat), i + k = P.evts.length ∧ v6 = .int .i64 i ∧ Ext W wr ∧ wr.heap[W.heap.size]? = some P.o ∧ Go.RowKit.Hid (∀ (j : Nat) (h : j < P.evts.length), j < i → inI P.evts[j].loop P.loops.length = true ∧ rootB P P.evts[j].fn = true))
            case atStart => exact ⟨0, by omega, rfl, HX.out, HB.out, Lib.hid (fun j _ hj => absurd hj (Nat.not_lt_zero _))⟩
            case round =>
              clear HX HB
              obtain ⟨i, hik, rfl, hx, hb, HR⟩ := hrel
              obtain ⟨x0, x1, x2, x3, x4, x5, x6, x7, xl⟩ := Prg.o_cells hb
              have HX := Lib.hid hx
              have HB := Lib.hid hb
              have hll := HP.out.evtsL
              rcases Nat.lt_or_ge i P.evts.length with hi | hi
              · have z0 : (i : Int) < (P.evts.length : Int) := by omega
                have HRi := Lib.hid (fun (q : inI P.evts[i].loop P.loops.length = true ∧ rootB P P.evts[i].fn = true) (j : Nat) (h : j < P.evts.length) (hj : j < i + 1) => show inI P.evts[j].loop P.loops.length = true ∧ rootB P P.evts[j].fn = true by
                  rcases Nat.lt_or_ge j i with q1 | q1
                  · exact HR.out j h q1
                  · have : j = i := by omega
                    subst this
                    exact q)
                obtain ⟨g, off, e9, hgl, c1, c2⟩ := Prg.evt_at (HP.out.kept hx) hi
                have hroot := fun (p : ExtBy wr) => root_ok (HP.out.kept (hx.trans p.x)) P.evts[i].fn
                have hin := fun (p : ExtBy wr) => in_ok P.evts[i].loop P.loops.length p.w
                unfold Prg.v at hroot
                rw [e9] at x5
                simp only [e9] at hroot
                generalize P.evts[i].fn = v at c2 hroot HRi
                generalize P.evts[i].loop = u at c1 hin HRi
                clear e9 hx hb
                have e0 := fun (p : ExtBy wr) => (p.x.kept (fun _ _ => true)).cell x0 fun _ _ => rfl
                have e1 := fun (p : ExtBy wr) => (p.x.kept (fun _ _ => true)).cell x1 fun _ _ => rfl
                have e2 := fun (p : ExtBy wr) => (p.x.kept (fun _ _ => true)).cell x2 fun _ _ => rfl
                have e3 := fun (p : ExtBy wr) => (p.x.kept (fun _ _ => true)).cell x3 fun _ _ => rfl
                have e4 := fun (p : ExtBy wr) => (p.x.kept (fun _ _ => true)).cell x4 fun _ _ => rfl
                have e5 := fun (p : ExtBy wr) => (p.x.kept (fun _ _ => true)).cell x5 fun _ _ => rfl
                have e6 := fun (p : ExtBy wr) => (p.x.kept (fun _ _ => true)).cell x6 fun _ _ => rfl
                have e7 := fun (p : ExtBy wr) => (p.x.kept (fun _ _ => true)).cell x7 fun _ _ => rfl
                have ec := fun (p : ExtBy wr) => (p.x.kept (fun _ _ => true)).cell c1 fun _ _ => rfl
                have ed := fun (p : ExtBy wr) => (p.x.kept (fun _ _ => true)).cell c2 fun _ _ => rfl
                have el := fun (p : ExtBy wr) => Nat.lt_of_lt_of_le xl p.x.size
                have eg := fun (p : ExtBy wr) => Nat.lt_of_lt_of_le hgl p.x.size
                cases hc : inI u P.loops.length with
                | false =>
                  rw [hc] at hin
                  have HIN := Lib.hid (fun p => (hin p).mono fun e w' k => (⟨k.1, by rw [k.2]; exact Ext.refl _⟩ : e = _ ∧ Ext p.w w'))
                  clear hroot hin hc hik
                  go_upto_region 21 with (fail)
                  clear x0 x1 x2 x3 x4 x5 x6 x7 xl c1 c2 hgl
                  refine region_quiet_ext (by kernel_rfl) (by kernel_rfl) ?_
                  repeat (quiet_step (first
                    | (go_at_call 37; exact ExtBy.call (HIN.out _))))
                  refine wpQuiet_nil ?_
                  rintro w' ⟨p, rfl⟩
                  go_wp2_with fail
                  go_ret
                  exact AnsB.no (HX.out.trans p.x)
                | true =>
                  rw [hc] at hin
                  have HIN := Lib.hid (fun p => (hin p).mono fun e w' k => (⟨k.1, by rw [k.2]; exact Ext.refl _⟩ : e = _ ∧ Ext p.w w'))
                  cases hd : rootB P v with
                  | false =>
                    rw [hd] at hroot
                    have HRT := Lib.hid hroot
                    clear hroot hin hc hd hik
                    go_upto_region 21 with (fail)
                    clear x0 x1 x2 x3 x4 x5 x6 x7 xl c1 c2 hgl
                    refine region_quiet_ext (by kernel_rfl) (by kernel_rfl) ?_
                    repeat (quiet_step (first
                      | (go_at_call 37; exact ExtBy.call (HIN.out _))
                      | (go_at_call 61; exact ExtBy.call (HRT.out _))))
                    refine wpQuiet_nil ?_
                    rintro w' ⟨p, rfl⟩
                    go_wp2_with fail
                    go_ret
                    exact AnsB.no (HX.out.trans p.x)
                  | true =>
                    rw [hd] at hroot
                    have HRT := Lib.hid hroot
                    have HR2 := Lib.hid (HRi.out ⟨hc, hd⟩)
                    clear hroot hin hc hd
                    go_upto_region 21 with (fail)
                    clear x0 x1 x2 x3 x4 x5 x6 x7 xl c1 c2 hgl
                    refine region_quiet_ext (by kernel_rfl) (by kernel_rfl) ?_
                    repeat (quiet_step (first
                      | (go_at_call 37; exact ExtBy.call (HIN.out _))
                      | (go_at_call 61; exact ExtBy.call (HRT.out _))))
                    refine wpQuiet_nil ?_
                    rintro w' ⟨p, rfl⟩
                    go_wp2_with fail
                    go_roundg (gk - 1)
                    case measure => omega
                    case rel => exact ⟨i + 1, by omega, by go_num, HX.out.trans p.x, (p.x.kept (fun _ _ => true)).same _ _ HB.out rfl, HR2⟩
              · have z0 : ¬ (i : Int) < (P.evts.length : Int) := by omega
                have HEV := Lib.hid (fun (j : Nat) (h : j < P.evts.length) => HR.out j h (by omega))
                have HN' := HN.out
                have HFIN := Lib.hid (⟨by omega, by omega, by omega, by omega, by omega, by omega, HM.out, HC.out, HCM.out, HEV.out⟩ : PartsOk P)
                clear hx hb hik hi HR HN'
                go_wp2_with fail
                go_ret
                exact AnsB.yes HFIN.out HX.out
end Go.Proofs.YtiabhahmippiaaaGreatDoor
