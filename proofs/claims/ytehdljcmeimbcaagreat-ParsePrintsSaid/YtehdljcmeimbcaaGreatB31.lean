/- Trees that came in: Same, but for places. -/
import Derived.Test.YtehdljcmeimbcaaGreatB20
import Derived.RegionTactic
import Derived.Deep.LoopGhost
namespace Go.Proofs.YtehdljcmeimbcaaGreat
open Go.RowKit
set_option linter.unusedVariables false
set_option linter.unusedSimpArgs false

/-- Twigs as they are read, whatever their places. -/
def RdB (w : World) (v : Value) (R : List Tw) : Prop := ∃ A cap, v = .slice A R.length cap ∧ ∀ (i : Nat) (t : Tw), R[i]? = some t → ∃ li co g off kv, A = some ⟨g, off, none⟩ ∧ g < w.heap.size ∧ KidO w kv t.kids ∧ ∀ (o : Nat) (u : Value), (twCells ⟨t.kind, t.text, t.n, li, co, t.kids⟩ kv)[o]? = some u → w.cell? ⟨g, off + i * 6 + o, none⟩ = some u
theorem IntRow.ko {w : World} {v : Value} {l : List Int} (h : IntRow w [] v l) : KidO w v l := by
  obtain ⟨A, cap, rfl, hc⟩ := h.at
  refine ⟨A, cap, rfl, fun k x hk => ?_⟩
  obtain ⟨g, h1, h2, h3⟩ := hc k x hk
  exact ⟨g, 0, h1, h2, by rw [Nat.zero_add]; exact h3⟩
theorem RdT.ro {w : World} {v : Value} {R : List Tw} (h : RdT w v R) : RdO w v R := by
  obtain ⟨A, cap, rfl, hc⟩ := h
  refine ⟨A, cap, rfl, fun i t hi => ?_⟩
  obtain ⟨g, kv, h1, h2, h3, h4⟩ := hc i t hi
  exact ⟨g, 0, kv, h1, h2, h3.ko, fun o u hu => by rw [Nat.zero_add]; exact h4 o u hu⟩
/-- Two rows that are alike but for places. -/
def Alike (R R' : List Tw) : Prop := R.length = R'.length ∧ ∀ (i : Nat) (t t' : Tw), R[i]? = some t → R'[i]? = some t' → t.kind = t'.kind ∧ t.text = t'.text ∧ t.n = t'.n ∧ t.kids = t'.kids
theorem RdO.rb {w : World} {v : Value} {R R' : List Tw} (h : RdO w v R') (ha : Alike R R') : RdB w v R := by
  obtain ⟨A, cap, rfl, hc⟩ := h
  refine ⟨A, cap, by rw [ha.1], fun i t hi => ?_⟩
  have hl := (List.getElem?_eq_some_iff.1 hi).1
  obtain ⟨t', ht'⟩ : ∃ t', R'[i]? = some t' := ⟨_, List.getElem?_eq_getElem (by rw [← ha.1]; exact hl)⟩
  obtain ⟨g, off, kv, h1, h2, h3, h4⟩ := hc i t' ht'
  obtain ⟨e1, e2, e3, e4⟩ := ha.2 i t t' hi ht'
  rw [e1, e2, e3, e4]
  exact ⟨t'.line, t'.col, g, off, kv, h1, h2, h3, h4⟩

set_option maxRecDepth 100000 in
set_option maxHeartbeats 2000000 in
theorem sameO_ok (R : List Tw) (va vb : Value) (w : World) (ha : RdO w va R) (hb : RdB w vb R) (hn : R.length ≤ 100000000) (hk : ∀ t ∈ R, t.kids.length ≤ 100000000) :
    Calls Tryz.prog 9 #[.agg #[va], .agg #[vb]] w fun e w' => e = .returned (.bool true) ∧ Below w.heap.size w w' := by
  obtain ⟨A, ca, rfl, ha⟩ := ha
  obtain ⟨B, cb, rfl, hb⟩ := hb
  obtain ⟨W, hW⟩ : ∃ W : World, W = (w.alloc (.cells #[.slice A R.length ca] 26)).alloc (.cells #[.slice B R.length cb] 26) := ⟨_, rfl⟩
  have hbe : Below w.heap.size w W := by rw [hW]; exact ((Below.refl _ w).alloc (Nat.le_refl _) _).alloc (by simp) _
  have k0 : W.heap[w.heap.size]? = some (.cells #[.slice A R.length ca] 26 (0, 0)) := by
    rw [hW, Below.heap_alloc _ _ _ (by simp)]
    exact heap_alloc_new w _
  have k1 : W.heap[w.heap.size + 1]? = some (.cells #[.slice B R.length cb] 26 (0, 0)) := by
    rw [hW]
    have := heap_alloc_new (w.alloc (.cells #[.slice A R.length ca] 26)) (.cells #[.slice B R.length cb] 26)
    rwa [World.size_alloc] at this
  have HA := Lib.hid ha
  have HB := Lib.hid hb
  have HBE := Lib.hid hbe
  have HK := Lib.hid hk
  have HK0 := Lib.hid k0
  have HK1 := Lib.hid k1
  clear ha hb hbe hk k0 k1
  go_enter Tryz.func9, Tryz.ntmps9
  have q0 := cell_of_one HK0.out
  have q1 := cell_of_one HK1.out
  go_wp2_with fail
  change Code.wp _ _ _ _ ((w.alloc (.cells #[.slice A R.length ca] 26)).alloc (.cells #[.slice B R.length cb] 26))
  rw [← hW]
  clear hW q0 q1
  go_loopg [5] R.length (fun n v5 wr => ∃ i : Nat, i + n = R.length ∧ v5 = .int .i64 i ∧ Below W.heap.size W wr)
  case atStart => exact ⟨0, by omega, rfl, .refl _ _⟩
  case round =>
    obtain ⟨i, hin, rfl, hbr⟩ := hrel
    have q0 := cell_of_one ((hbr.block _ (lt_of_block HK0.out)).trans HK0.out)
    have q1 := cell_of_one ((hbr.block _ (lt_of_block HK1.out)).trans HK1.out)
    have HBR := Lib.hid hbr
    have hbw := HBE.out.trans (hbr.mono HBE.out.size)
    have HBW := Lib.hid hbw
    have hsz := hbw.size
    have l1 := lt_of_block HK1.out
    have l2 := hbr.size
    clear hbr hbw
    by_cases hlt : i < R.length
    · have hi := List.getElem?_eq_getElem hlt
      have hkl := HK.out _ (List.mem_of_getElem? hi)
      obtain ⟨g, o6, kv, rfl, hg, hint, hc⟩ := HA.out i _ hi
      obtain ⟨li, co, g', o7, kv', rfl, hg', hint', hc'⟩ := HB.out i _ hi
      generalize R[i] = t at *
      obtain ⟨kA, kc, rfl, hka⟩ := hint
      obtain ⟨kB, kc', rfl, hkb⟩ := hint'
      have hcx := fun o u (h : (twCells t (.slice kA t.kids.length kc))[o]? = some u) => (HBW.out.cell (p := ⟨g, o6 + i * 6 + o, none⟩) hg).trans (hc o u h)
      have hcy := fun o u (h : (twCells ⟨t.kind, t.text, t.n, li, co, t.kids⟩ (.slice kB t.kids.length kc'))[o]? = some u) => (HBW.out.cell (p := ⟨g', o7 + i * 6 + o, none⟩) hg').trans (hc' o u h)
      have e0 := hcx 0 _ rfl
      have e1 := hcx 1 _ rfl
      have e2 := hcx 2 _ rfl
      have e3 := hcx 3 _ rfl
      have e4 := hcx 4 _ rfl
      have e5 := hcx 5 _ rfl
      have f0 := hcy 0 _ rfl
      have f1 := hcy 1 _ rfl
      have f2 := hcy 2 _ rfl
      have f3 := hcy 3 _ rfl
      have f4 := hcy 4 _ rfl
      have f5 := hcy 5 _ rfl
      rw [Nat.add_zero] at e0 f0
      have HKA := Lib.hid hka
      have HKB := Lib.hid hkb
      have hl0 : w.heap.size < wr.heap.size := by omega
      have hl1 : w.heap.size + 1 < wr.heap.size := by omega
      have hgr : g < wr.heap.size := by omega
      have hgr' : g' < wr.heap.size := by omega
      clear hc hc' hcx hcy hi hka hkb
      go_upto_region 6 with (fail)
      go_cut [6, 7] (fun v6 v7 wx => ∃ b6 b7 : Nat, v6 = .pointer (some ⟨b6, 0, none⟩) ∧ v7 = .pointer (some ⟨b7, 0, none⟩) ∧ wx.heap[b6]? = some (twO t (.slice kA t.kids.length kc)) ∧ wx.heap[b7]? = some (twO ⟨t.kind, t.text, t.n, li, co, t.kids⟩ (.slice kB t.kids.length kc')) ∧ Below wr.heap.size wr wx)
      case first =>
        go_region
        · go_wp2_with fail
          go_meet
          exact ⟨_, _, rfl, rfl, (two_new wr (twO t _) (twO ⟨t.kind, t.text, t.n, li, co, t.kids⟩ _)).1, (two_new wr (twO t _) (twO ⟨t.kind, t.text, t.n, li, co, t.kids⟩ _)).2, (((Below.refl _ _).alloc (Nat.le_refl _) _).alloc (by simp) _).drew⟩
        · go_wp2_with fail
          go_meet
          exact ⟨_, _, rfl, rfl, (two_new wr (twO ⟨t.kind, t.text, t.n, li, co, t.kids⟩ _) (twO t _)).2, (two_new wr (twO ⟨t.kind, t.text, t.n, li, co, t.kids⟩ _) (twO t _)).1, (((Below.refl _ _).alloc (Nat.le_refl _) _).alloc (by simp) _).drew⟩
      case rest =>
        obtain ⟨b6, b7, rfl, rfl, hb6, hb7, hbc⟩ := hcut
        clear e0 e1 e2 e3 e4 e5 f0 f1 f2 f3 f4 f5 q0 q1
        obtain ⟨x0, x1, x2, x3, x4, x5, _⟩ := twig6 hb6
        obtain ⟨y0, y1, y2, y3, y4, y5, _⟩ := twig6 hb7
        have hl6 := lt_of_block hb6
        have hl7 := lt_of_block hb7
        have HBC := Lib.hid hbc
        have hszc := hbc.size
        clear hb6 hb7 hbc
        go_wp2_with fail
        go_loopg [8] t.kids.length (fun n v8 wz => ∃ k nq : Nat, k + n = t.kids.length ∧ v8 = .int .i64 k ∧ wz = wc.drewN nq)
        case atStart => exact ⟨0, 0, by omega, rfl, rfl⟩
        case round =>
          obtain ⟨k, nq, hkn, rfl, rfl⟩ := hrel
          by_cases hkt : k < t.kids.length
          · obtain ⟨ga, oa, rfl, hgk, hck⟩ := HKA.out k _ (List.getElem?_eq_getElem hkt)
            obtain ⟨gb, ob, rfl, hgk', hck'⟩ := HKB.out k _ (List.getElem?_eq_getElem hkt)
            generalize t.kids[k] = y at *
            have hbz := HBW.out.trans (HBC.out.mono hsz)
            have z0 := (hbz.cell (p := ⟨ga, oa + k, none⟩) hgk).trans hck
            have z1 := (hbz.cell (p := ⟨gb, ob + k, none⟩) hgk').trans hck'
            have l6 : ga < wc.heap.size := by omega
            have l7 : gb < wc.heap.size := by omega
            clear hbz hck hck'
            go_upto_region 12 with (fail)
            go_quiet (fail)
            go_wp2_with fail
            go_roundg (gk - 1)
            case measure => omega
            case rel => exact ⟨k + 1, _, by omega, by go_num, rfl⟩
          · go_wp2_with fail
            go_roundg (R.length - (i + 1))
            case measure => omega
            case rel => exact ⟨i + 1, by omega, by go_num, bdrew ((HBR.out.trans (HBC.out.mono l2))) _⟩
    · go_wp2_with fail
      go_ret
      exact ⟨rfl, HBW.out⟩
end Go.Proofs.YtehdljcmeimbcaaGreat
