/- The small program of the machine's law: its walk. Written by genMdA.py out of SwA's. -/
import Derived.Test.YtfljmdpigckpkaaGreatDoorB33
import Derived.Test.YtfljmdpigckpkaaGreatDoorB06
namespace Go.Proofs.YtfljmdpigckpkaaGreatDoor
open Go.RowKit Go.Shelf
attribute [local go_sem] Oper.semAt_some
theorem codN_len (L : List Ins) : ∀ n, (codN L n).length = n
  | 0 => rfl
  | n + 1 => by simp [codN, codN_len L n]
theorem sitN_len (L : List Ins) : ∀ n, (sitN L n).length ≤ n
  | 0 => Nat.le_refl _
  | n + 1 => by
    have := sitN_len L n
    simp only [sitN]
    split
    · simp; omega
    · omega
theorem src_ins {w : World} {b c : Nat} {x : Ins} (h : w.heap[b]? = some x.o) : Src w (.slice (some ⟨b, 0, none⟩) 1 c) 1 x.cells := .inr ⟨_, _, rfl, World.news_of_block h⟩
theorem Inv.other {n b1 b2 b6 b7 d : Nat} {S : List Sit} {C : List Ins} {As : Option Addr} {cs : Nat} {Ac : Option Addr} {cc : Nat} {w w1 : World} (h : Inv n b1 b2 b6 b7 S C As cs Ac cc w) (hb : Bd n b1 b2 b6 b7) (kk : Kept (ne' d) w w1) (hd : n + 5 ≤ d) (h1 : ∀ g, (Value.slice As S.length cs).ownBlock = some g → g < d) (h2 : ∀ g, (Value.slice Ac C.length cc).ownBlock = some g → g < d) : Inv n b1 b2 b6 b7 S C As cs Ac cc w1 := by
  have h6 := hb.h6
  have h7 := hb.h7
  have hn : ∀ b t, b < n + 5 → ne' d b t = true := fun b t hlt => by
    have : b ≠ d := by omega
    simp [ne', this]
  exact ⟨h.b.keep hb kk fun b t hlt => hn b t (by omega), kk.same _ _ h.p (hn _ _ (by omega)), kk.same _ _ h.f (hn _ _ (by omega)), kk.row h.s fun b hbk => by
    have := Nat.ne_of_lt (h1 b hbk)
    simp [ne', this], kk.row h.c fun b hbk => by
    have := Nat.ne_of_lt (h2 b hbk)
    simp [ne', this]⟩
theorem codN_mem (L : List Ins) : ∀ k, k ≤ L.length → ∀ x ∈ codN L k, ∃ s, ∃ y ∈ L, x = sited s y
  | 0, _, x, hx => by simp [codN] at hx
  | k + 1, hk, x, hx => by
    simp only [codN, List.mem_append, List.mem_singleton] at hx
    rcases hx with hx | hx
    · exact codN_mem L k (by omega) x hx
    · have hk' : k < L.length := hk
      exact ⟨(sitN L k).length, L[k], List.getElem_mem _, by rw [hx]; simp [hk']⟩
def mk3 (W : World) : World := (((W.alloc zprg).alloc (.cells #[.string ⟨#[117, 105]⟩, .string ⟨#[98, 103]⟩] 9 (0, 0))).alloc (.cells #[.string ⟨#[103]⟩, .int .i64 1] 90 (0, 0))).alloc (P0 (W.heap.size + 1) (W.heap.size + 2) none 0 []).o
def P1 (b1 b2 : Nat) (As : Option Addr) (cs : Nat) (S : List Sit) (A3 : Option Addr) (c3 : Nat) (F : Fn) : Prg := { P0 b1 b2 As cs S with fnsA := A3, fnsC := c3, fns := [F] }
structure Fin (n b1 b2 b6 : Nat) (P : Prg) (S : List Sit) (C : List Ins) (As : Option Addr) (cs : Nat) (Ac : Option Addr) (cc : Nat) (A3 : Option Addr) (c3 : Nat) (w : World) : Prop where
  b : Base n b1 b2 w
  p : w.heap[b6]? = some P.o
  s : w.ownsRow (n + 5) 95 2 (.slice As S.length cs) S.length (S.flatMap Sit.cells)
  c : w.ownsRow (n + 5) 25 8 (.slice Ac C.length cc) C.length (C.flatMap Ins.cells)
  r : w.ownsRow (n + 5) 92 4 (.slice A3 1 c3) 1 (F0 Ac cc C).cells
theorem Inv.fin {n b1 b2 b6 b7 : Nat} {S : List Sit} {C : List Ins} {As : Option Addr} {cs : Nat} {Ac : Option Addr} {cc : Nat} {w : World} {A3 : Option Addr} {c3 : Nat} (h : Inv n b1 b2 b6 b7 S C As cs Ac cc w) (hb : Bd n b1 b2 b6 b7) (hr : w.ownsRow (n + 5) 92 4 (.slice A3 1 c3) 1 (F0 Ac cc C).cells) : Fin n b1 b2 b6 (P1 b1 b2 As cs S A3 c3 (F0 Ac cc C)) S C As cs Ac cc A3 c3 (w.setCell ⟨b6, 3, none⟩ (.slice A3 1 c3)) ∧ Kept (ne' b6) w (w.setCell ⟨b6, 3, none⟩ (.slice A3 1 c3)) := by
  have h6 := hb.h6
  have k := Kept.one b6 w 3 (.slice A3 1 c3)
  have hn : ∀ b t, n + 5 ≤ b → ne' b6 b t = true := fun b t hl => by
    have : b ≠ b6 := by omega
    simp [ne', this]
  refine ⟨⟨h.b.keep hb k fun b t hl => ?_, ?_, k.row h.s fun b q => hn b _ (own_base h.s b q), k.row h.c fun b q => hn b _ (own_base h.c b q), k.row hr fun b q => hn b _ (own_base hr b q)⟩, k⟩
  · have : b ≠ b6 := by omega
    simp [ne', this]
  · rw [heap_setCell_same w b6 3 _ _ _ h.p]
    simp [P0, P1, Prg.o]
def FinQ (W : World) (L : List Ins) (w : World) : Prop := ∃ As cs Ac cc A3 c3, Fin W.heap.size (W.heap.size + 1) (W.heap.size + 2) (W.heap.size + 3) (P1 (W.heap.size + 1) (W.heap.size + 2) As cs (sitN L L.length) A3 c3 (F0 Ac cc (codN L L.length))) (sitN L L.length) (codN L L.length) As cs Ac cc A3 c3 w
def putP (w : World) (b : Nat) (P : Prg) : World := (((((((w.setCell ⟨b, 0, none⟩ (.slice P.loopsA P.loops.length P.loopsC)).setCell ⟨b, 1, none⟩ (.slice P.clssA P.clss.length P.clssC)).setCell ⟨b, 2, none⟩ (.slice P.glbsA P.glbs.length P.glbsC)).setCell ⟨b, 3, none⟩ (.slice P.fnsA P.fns.length P.fnsC)).setCell ⟨b, 4, none⟩ (.slice P.cmpsA P.cmps.length P.cmpsC)).setCell ⟨b, 5, none⟩ (.slice P.evtsA P.evts.length P.evtsC)).setCell ⟨b, 6, none⟩ (.int .i64 P.main)).setCell ⟨b, 7, none⟩ (.slice P.sitsA P.sits.length P.sitsC)
theorem putP_ok {w : World} {b : Nat} {P : Prg} (h : w.heap[b]? = some zprg) : (putP w b P).heap[b]? = some P.o ∧ Kept (ne' b) w (putP w b P) :=
  set_range (b := b) (t := 35) [.slice P.loopsA P.loops.length P.loopsC, .slice P.clssA P.clss.length P.clssC, .slice P.glbsA P.glbs.length P.glbsC, .slice P.fnsA P.fns.length P.fnsC, .slice P.cmpsA P.cmps.length P.cmpsC, .slice P.evtsA P.evts.length P.evtsC, .int .i64 P.main, .slice P.sitsA P.sits.length P.sitsC] [] [.slice none 0 0, .slice none 0 0, .slice none 0 0, .slice none 0 0, .slice none 0 0, .slice none 0 0, .int .i64 0, .slice none 0 0] w h rfl
def evtE : Evt := ⟨⟨#[101]⟩, 0, false, 0⟩
def evtO : Obj := .cells #[.string ⟨#[101]⟩, .int .i64 0, .bool false, .int .i64 0] 97 (0, 0)
def P2 (b1 b2 be : Nat) (As : Option Addr) (cs : Nat) (S : List Sit) (A3 : Option Addr) (c3 : Nat) (F : Fn) : Prg := { P1 b1 b2 As cs S A3 c3 F with evtsA := some ⟨be, 0, none⟩, evtsC := 1, evts := [evtE] }
theorem Fin.evt {W w : World} {As : Option Addr} {cs : Nat} {Ac : Option Addr} {cc : Nat} {A3 : Option Addr} {c3 : Nat} {S : List Sit} {C : List Ins} (h : Fin W.heap.size (W.heap.size + 1) (W.heap.size + 2) (W.heap.size + 3) (P1 (W.heap.size + 1) (W.heap.size + 2) As cs S A3 c3 (F0 Ac cc C)) S C As cs Ac cc A3 c3 w) (hx : Ext W w) :
    Fin W.heap.size (W.heap.size + 1) (W.heap.size + 2) (W.heap.size + 3) (P2 (W.heap.size + 1) (W.heap.size + 2) w.heap.size As cs S A3 c3 (F0 Ac cc C)) S C As cs Ac cc A3 c3 ((w.setCell ⟨W.heap.size + 3, 5, none⟩ (.slice (some ⟨w.heap.size, 0, none⟩) 1 1)).alloc evtO) ∧ ((w.setCell ⟨W.heap.size + 3, 5, none⟩ (.slice (some ⟨w.heap.size, 0, none⟩) 1 1)).alloc evtO).heap[w.heap.size]? = some evtO ∧ Ext W ((w.setCell ⟨W.heap.size + 3, 5, none⟩ (.slice (some ⟨w.heap.size, 0, none⟩) 1 1)).alloc evtO) := by
  have k := Kept.one (W.heap.size + 3) w 5 (.slice (some ⟨w.heap.size, 0, none⟩) 1 1)
  have k2 := (Ext.one (w.setCell ⟨W.heap.size + 3, 5, none⟩ (.slice (some ⟨w.heap.size, 0, none⟩) 1 1)) evtO)
  have kk := k2.kept (fun _ _ => true)
  have hn : ∀ b t, b ≠ W.heap.size + 3 → ne' (W.heap.size + 3) b t = true := fun b t hb => by simp [ne', hb]
  have hr : ∀ {e : TypeId} {m q : Nat} {v : Value} {xs : List Value}, w.ownsRow (W.heap.size + 5) e m v q xs → ((w.setCell ⟨W.heap.size + 3, 5, none⟩ (.slice (some ⟨w.heap.size, 0, none⟩) 1 1)).alloc evtO).ownsRow (W.heap.size + 5) e m v q xs := fun h => kk.row (k.row h fun b hb => hn b _ (by have := own_base h b hb; omega)) fun _ _ => rfl
  refine ⟨⟨⟨kk.same _ _ (k.same _ _ h.b.h0 (hn _ _ (by omega))) rfl, kk.same _ _ (k.same _ _ h.b.h1 (hn _ _ (by omega))) rfl, kk.same _ _ (k.same _ _ h.b.h2 (hn _ _ (by omega))) rfl⟩, kk.same _ _ ?_ rfl, hr h.s, hr h.c, hr h.r⟩, ?_, (ext_ne hx k (by omega)).trans k2⟩
  · rw [heap_setCell_same w _ 5 _ _ _ h.p]
    simp [P0, P1, P2, Prg.o]
  · exact alloc_new' (by simp)
theorem src_fn {w : World} {b c : Nat} {x : Fn} (h : w.heap[b]? = some x.o) : Src w (.slice (some ⟨b, 0, none⟩) 1 c) 1 x.cells := .inr ⟨_, _, rfl, World.news_of_block h⟩
def ret0 : Ins := ⟨33, 0, 0, 0, 0, none, 0, [], 0, 0⟩
set_option maxHeartbeats 8000000 in
set_option maxRecDepth 100000 in
theorem small11_raw {M : List Ins} {A : Option Addr} {c cA ga : Nat} {W : World} (hA : W.cell? ⟨ga, 0, none⟩ = some (.slice A M.length c)) (h : RowN Ins.cells 8 (Ins.In W) W A M.length c M) (hop : ∀ x ∈ M, 1 ≤ x.op ∧ x.op ≤ 33) (hn : M.length ≤ 8) : Calls Tryz.prog 6 #[.slice (some ⟨ga, 0, none⟩) 1 cA] W fun e W' => ∃ (be : Nat) (As : Option Addr) (cs : Nat) (Ac : Option Addr) (cc : Nat) (A3 : Option Addr) (c3 : Nat) (L : List Ins) (P : Prg) (w2 : World), L = M ++ [ret0] ∧ P2 (W.heap.size + 1) (W.heap.size + 2) be As cs (sitN L L.length) A3 c3 (F0 Ac cc (codN L L.length)) = P ∧ e = .returned P.v ∧ Fin W.heap.size (W.heap.size + 1) (W.heap.size + 2) (W.heap.size + 3) P (sitN L L.length) (codN L L.length) As cs Ac cc A3 c3 w2 ∧ w2.heap[be]? = some evtO ∧ W.heap.size < be ∧ Kept (ne' W.heap.size) w2 W' ∧ Ext W W' := by
  obtain ⟨i0, hi0, hz0, hz1, hz2⟩ := infoParts infoInss
  obtain ⟨j0, hj0, hy0, hy1, hy2⟩ := infoParts infoSits
  have hm := mkS_ok W rfl rfl rfl rfl rfl
  obtain ⟨L, hL⟩ : ∃ L, L = M ++ [ret0] := ⟨_, rfl⟩
  have hLl : L.length = M.length + 1 := by rw [hL]; simp
  have HM := Lib.hid hm
  have HROW := Lib.hid h
  have HOP := Lib.hid (show ∀ x ∈ L, 1 ≤ x.op ∧ x.op ≤ 33 by
    rw [hL]
    intro x hx
    rcases List.mem_append.1 hx with hx | hx
    · exact hop x hx
    · obtain rfl := List.mem_singleton.1 hx
      exact ⟨by decide, by decide⟩)
  have HN := Lib.hid (show L.length ≤ 9 by omega)
  have HL := Lib.hid hL
  have HLL := Lib.hid hLl
  have HA := Lib.hid hA
  have hlg := World.block_lt_of_cell? W _ hA
  have HLG := Lib.hid hlg
  clear hm h hop hn hL hLl hA hlg
  go_enter Tryz.func6, Tryz.ntmps6
  go_upto_region 3 with (fail)
  change Code.wp _ _ _ _ (mk3 W)
  go_loopg [4] 1 (fun k v4 wr => (k = 1 ∧ v4 = .int .i64 0 ∧ wr = mk3 W) ∨ (k = 0 ∧ v4 = .int .i64 1 ∧ Ext W wr ∧ FinQ W L wr))
  case atStart => exact .inl ⟨rfl, rfl, rfl⟩
  case round =>
    rcases hrel with ⟨rfl, rfl, rfl⟩ | ⟨rfl, rfl, hx, hfq⟩
    · have HFQ := Lib.hid (fun w (h : FinQ W L w) => h)
      have ha := (show Ext W (mk3 W) by unfold mk3; exact ((((Ext.one _ _).trans (Ext.one _ _)).trans (Ext.one _ _)).trans (Ext.one _ _)))
      have HX3 := Lib.hid ha
      clear ha
      have hA3 := HX3.out.cell HA.out (fun _ _ => by simp [pOld, HLG.out])
      have hga := Nat.lt_of_lt_of_le HLG.out HX3.out.size
      have hsz3 : (mk3 W).heap.size = W.heap.size + 4 := by simp [mk3]
      go_upto_region 7 with (fail)
      rw [show W.heap.size + 1 + 1 + 1 = W.heap.size + 3 from rfl, show W.heap.size + 1 + 1 = W.heap.size + 2 from rfl]
      change Code.wp _ _ _ _ (mkS W)
      obtain ⟨w0, hw0⟩ : ∃ w0, w0 = mkS W := ⟨_, rfl⟩
      rw [← hw0] at HM ⊢
      clear hw0 hA3 hga hsz3 HX3
      generalize h7 : W.heap.size + 4 = b7 at *
      generalize h6 : W.heap.size + 3 = b6 at *
      generalize h2 : W.heap.size + 2 = b2 at *
      generalize h1 : W.heap.size + 1 = b1 at *
      have HBD := Lib.hid (Bd.mk h1 h2 h6 h7)
      clear h1 h2 h6 h7
      go_loopg [6] L.length (fun k v6 wr => ∃ (i : Nat) (As : Option Addr) (cs : Nat) (Ac : Option Addr) (cc : Nat), i + k = L.length ∧ v6 = .int .i64 i ∧ Ext W wr ∧ Inv W.heap.size b1 b2 b6 b7 (sitN L i) (codN L i) As cs Ac cc wr)
      case atStart =>
        obtain ⟨m1, m2, m3, m4, m5⟩ := HM.out
        exact ⟨0, none, 0, none, 0, by omega, rfl, m4, ⟨m1, m2, m3, World.ownsRow_nil _ _ _ _, World.ownsRow_nil _ _ _ _⟩⟩
      case round =>
        clear HM
        obtain ⟨i, As, cs, Ac, cc, hik, rfl, hx, hv⟩ := hrel
        obtain ⟨wq, rfl⟩ : ∃ y, y = wr := ⟨_, rfl⟩
        have HX := Lib.hid hx
        have HV := Lib.hid hv
        have hl := HN.out
        have hll := HLL.out
        have hAq := hx.cell HA.out (fun _ _ => by simp [pOld, HLG.out])
        have hgq := Nat.lt_of_lt_of_le HLG.out hx.size
        rcases Nat.lt_or_ge i L.length with hi | hi
        · obtain ⟨y, hgd⟩ : ∃ y, L.getD i dIns = y := ⟨_, rfl⟩
          have hop : 1 ≤ y.op ∧ y.op ≤ 33 := by rw [← hgd]; simp [hi]; exact HOP.out L[i] (List.getElem_mem hi)
          have HGD := Lib.hid hgd
          have HOI := Lib.hid hop
          have HGK := Lib.hid hik
          have zq : (i : Int) ≤ (M.length : Int) := by omega
          rcases Nat.lt_or_ge i M.length with hm | hm
          · have z0 : (i : Int) < (M.length : Int) := by omega
            have hML : L.getD i dIns = M[i] := by
              rw [HL.out, List.getD_eq_getElem?_getD, List.getElem?_append_left hm, List.getElem?_eq_getElem hm]; rfl
            obtain ⟨g, off, e1, hgl, _, d0, d1, d2, d3, d4, d5, d6, d7⟩ := Fn.ins_at (f := F0 A c M) ⟨HROW.out.mono (hx.kept _) fun _ => Ins.In.kept (hx.kept _), show M.length ≤ _ by omega⟩ hm
            change A = _ at e1
            have hyM : (F0 A c M).code[i] = y := by rw [← hgd, hML]; rfl
            rw [hyM] at d0 d1 d2 d3 d4 d5 d6 d7
            have HE := Lib.hid e1
            rw [e1] at hAq
            clear hx hv hop hgd e1 hik hyM hML
            go_upto_region 13 with (fail)
            obtain ⟨W5, hW5⟩ : ∃ W5, W5 = wq.alloc ({ y with site := -1 } : Ins).o := ⟨_, rfl⟩
            change Code.wp _ _ _ _ (wq.alloc ({ y with site := -1 } : Ins).o)
            rw [← hW5]
            have hx5 : Ext wq W5 := by rw [hW5]; exact Ext.one _ _
            have hb5 : W5.heap[wq.heap.size]? = some ({ y with site := -1 } : Ins).o := by rw [hW5]; exact World.alloc_heap_new _ _
            have HIS := Lib.hid (fun w => IsSite_ok y.op HOI.out.1 HOI.out.2 w)
            have HV5 := Lib.hid (HV.out.ext HBD.out hx5)
            have HX5 := Lib.hid (HX.out.trans hx5)
            have HLO := Lib.hid (show W.heap.size + 5 ≤ wq.heap.size by have := HBD.out.h7; have := (Array.getElem?_eq_some_iff.1 HV.out.f).1; omega)
            have HO1 := Lib.hid (own_lt HV.out.s)
            have HO2 := Lib.hid (own_lt HV.out.c)
            have HB5 := Lib.hid hb5
            clear hW5 hx5 hb5 d0 d1 d2 d3 d4 d5 d6 d7 hgl
            generalize wq.heap.size = bx at *
            obtain ⟨x0, x1, x2, x3, x4, x5, x6, x7, xl⟩ := Ins.o_cells HB5.out
            cases hsi : siteO y.op with
            | false =>
              have hx : sited (sitN L i).length (L.getD i dIns) = { y with site := -1 } := by rw [HGD.out]; simp [sited, hsi]
              have hs1 : sitN L (i + 1) = sitN L i := by simp only [sitN, HGD.out, hsi]; rfl
              rw [hsi] at HIS
              go_upto_region 16 with (go_at_call 36; refine (HIS.out _).mono ?_; rintro e w2 ⟨rfl, hw⟩; rw [hw]; clear hw)
              clear x0 x1 x2 x3 x4 x5 x6 x7 xl
              have HVT := Lib.hid (show Inv W.heap.size b1 b2 b6 b7 (sitN L (i + 1)) (codN L i) As cs Ac cc W5 by rw [hs1]; exact HV5.out)
              have HXT := HX5
              have HBT := Lib.hid HB5.out
              have HS1 := Lib.hid hs1
              generalize ({ y with site := -1 } : Ins) = x at *
              have HXE := Lib.hid hx
              obtain ⟨Wt, rfl⟩ : ∃ y, y = W5 := ⟨_, rfl⟩
              clear hx hs1 HB5 HX5 HV5 hsi
              obtain ⟨x0, x1, x2, x3, x4, x5, x6, x7, xl⟩ := Ins.o_cells HBT.out
              obtain ⟨y0, y1, y2, y3, yl⟩ := Fn.o_cells HVT.out.f
              have hb7 : (Wt.alloc x.o).heap[Wt.heap.size]? = some x.o := World.alloc_heap_new _ _
              have HSRC := Lib.hid (src_ins (c := 1) hb7)
              have HV7 := Lib.hid (HVT.out.ext HBD.out (Ext.one Wt x.o))
              have HX7 := Lib.hid (HXT.out.trans (Ext.one Wt x.o))
              have HCL := Lib.hid (codN_len L i)
              have hsz := HV7.out.s
              have HBS := Lib.hid (show W.heap.size + 5 ≤ (Wt.alloc x.o).heap.size by rw [World.size_alloc]; have := HBD.out.h7; have := (Array.getElem?_eq_some_iff.1 HVT.out.f).1; omega)
              have HAPP := Lib.hid (show (codN L i).flatMap Ins.cells ++ x.cells = ((codN L i) ++ [x]).flatMap Ins.cells by simp)
              clear hb7 hsz
              unfold F0 at y0 y1 y2 y3
              go_wp2_with (at_builtin; refine wpList_append_any rfl _ _ 26 rfl (W.heap.size + 5) 25 i0 (.agg #[.int .i64 0, .int .i64 0, .int .i64 0, .int .i64 0, .int .i64 0, .slice none 0 0, .int .i64 0, .int .i64 0]) 8 80 Tryz.underlying26 hi0 hz0 hz1 hz2 rfl (by decide) (.slice Ac (codN L i).length cc) (codN L i).length _ rfl HV7.out.c (.slice (some ⟨Wt.heap.size, 0, none⟩) 1 1) 1 x.cells rfl (by simp [Ins.cells]) HSRC.out (by simp [Ins.cells, iV, Value.oneCell']) (by unfold maxLen; have := HCL.out; omega) (by have := HCL.out; omega) HBS.out ((codN L i).length + 1) rfl _ HAPP.out ?_; intro A1 c1 w1 hown1 hgrow1 hat1; obtain ⟨q1, q2, q3⟩ := HV7.out.app_c HBD.out rfl hgrow1 hown1; have HQ2 := Lib.hid q2; have HQ3 := Lib.hid (q3 (Ext.refl _) _ HX7.out (Nat.le_refl _)); clear y0 y1 y2 y3 yl; obtain ⟨y0, y1, y2, y3, yl⟩ := Fn.o_cells q1; have hz7 := fun n => frozen_of_row w1 b7 n _ _ (show w1.heap[b7]? = some (.cells _ _ _) from q1); clear q1 q2 q3 hown1 hgrow1 hat1)
              generalize w1.setCell _ _ = w8 at *
              have hgk := HGK.out
              have hcN : codN L (i + 1) = codN L i ++ [x] := by simp only [codN, HXE.out]
              go_roundg (gk - 1)
              case measure => omega
              case rel => exact ⟨i + 1, As, cs, A1, c1, by omega, by go_num, HQ3.out, by rw [hcN]; exact HQ2.out⟩
            | true =>
              have hs1 : sitN L (i + 1) = sitN L i ++ [⟨0, i⟩] := by simp only [sitN, HGD.out, hsi]; rfl
              have hx : sited (sitN L i).length (L.getD i dIns) = { y with site := ((sitN L i).length : Int) } := by rw [HGD.out]; simp [sited, hsi]
              have hzx := fun n => frozen_of_row W5 bx n _ _ (show W5.heap[bx]? = some (.cells _ _ _) from HB5.out)
              obtain ⟨p0, p1, p2, p3, p4, p5, p6, p7, pl⟩ := Prg.o_cells HV5.out.p
              unfold P0 at p7
              rw [hsi] at HIS
              go_upto_region 15 with (go_at_call 36; refine (HIS.out _).mono ?_; rintro e w2 ⟨rfl, hw⟩; rw [hw]; clear hw)
              have hb6 : (W5.setCell ⟨bx, 6, none⟩ (.int .i64 ((sitN L i).length : Int))).heap[bx]? = some ({ y with site := ((sitN L i).length : Int) } : Ins).o := by
                rw [heap_setCell_same W5 bx 6 _ _ _ HB5.out]
                rfl
              have hk6 : Kept (ne' bx) W5 (W5.setCell ⟨bx, 6, none⟩ (.int .i64 ((sitN L i).length : Int))) := Kept.setCell _ fun o ho => by simp [ne']
              have HV6 := Lib.hid (HV5.out.other HBD.out hk6 HLO.out HO1.out HO2.out)
              have HX6 := Lib.hid (ext_ne HX5.out hk6 (by have := HLO.out; omega))
              have HB6 := Lib.hid hb6
              clear hzx p0 p1 p2 p3 p4 p5 p6 p7 pl x0 x1 x2 x3 x4 x5 x6 x7 xl hb6 hk6 HB5 HX5 HV5 hsi
              generalize W5.setCell _ _ = W6 at *
              obtain ⟨p0, p1, p2, p3, p4, p5, p6, p7, pl⟩ := Prg.o_cells HV6.out.p
              unfold P0 at p7
              have hb8 : (W6.alloc (.cells #[.int .i64 0, .int .i64 i] 95 (0, 0))).heap[W6.heap.size]? = some (.cells #[.int .i64 0, .int .i64 i] 95 (0, 0)) := World.alloc_heap_new _ _
              have hx8 : Ext W6 (W6.alloc (.cells #[.int .i64 0, .int .i64 i] 95 (0, 0))) := Ext.one _ _
              have HSRS := Lib.hid (src_two (c := 1) hb8)
              have HV8 := Lib.hid (HV6.out.ext HBD.out hx8)
              have HX8 := Lib.hid (HX6.out.trans hx8)
              have HB8 := Lib.hid ((hx8.kept (fun _ _ => true)).same _ _ HB6.out rfl)
              have HSL := Lib.hid (sitN_len L i)
              have HBS8 := Lib.hid (show W.heap.size + 5 ≤ (W6.alloc (.cells #[.int .i64 0, .int .i64 i] 95 (0, 0))).heap.size by rw [World.size_alloc]; have := HLO.out; have := (Array.getElem?_eq_some_iff.1 HB6.out).1; omega)
              have HAPS := Lib.hid (show (sitN L i).flatMap Sit.cells ++ [.int .i64 0, .int .i64 i] = (sitN L i ++ [(⟨0, (i : Int)⟩ : Sit)]).flatMap Sit.cells by simp [Sit.cells, iV])
              clear hb8 hx8
              go_upto_region 16 with (at_builtin; refine wpList_append_any rfl _ _ 33 rfl (W.heap.size + 5) 95 j0 (.agg #[.int .i64 0, .int .i64 0]) 2 16 Tryz.underlying33 hj0 hy0 hy1 hy2 rfl (by decide) (.slice As (sitN L i).length cs) (sitN L i).length _ rfl HV8.out.s (.slice (some ⟨W6.heap.size, 0, none⟩) 1 1) 1 [.int .i64 0, .int .i64 i] rfl (by simp) HSRS.out (by simp [Value.oneCell']) (by unfold maxLen; have := HSL.out; omega) (by have := HSL.out; omega) HBS8.out ((sitN L i).length + 1) rfl _ HAPS.out ?_; intro A2 c2 w2 hown2 hgrow2 hat2; obtain ⟨q1, q2, q3, q4⟩ := HV8.out.app_s HBD.out rfl hgrow2 hown2; have HR2 := Lib.hid q2; have HR3 := Lib.hid (q3 _ HX8.out (Nat.le_refl _)); have HR4 := Lib.hid (q4 _ _ HLO.out (fun g hg => Nat.ne_of_lt (HO1.out g hg)) HB8.out); clear p0 p1 p2 p3 p4 p5 p6 p7 pl; obtain ⟨p0, p1, p2, p3, p4, p5, p6, p7, pl⟩ := Prg.o_cells q1; unfold P0 at p7; have hz6 := fun n => frozen_of_row w2 b6 n _ _ (show w2.heap[b6]? = some (.cells _ _ _) from q1); clear q1 q2 q3 q4 hown2 hgrow2 hat2)
              have HVT := Lib.hid (show Inv W.heap.size b1 b2 b6 b7 (sitN L (i + 1)) (codN L i) A2 c2 Ac cc _ by rw [hs1]; exact HR2.out)
              have HXT := HR3
              have HBT := HR4
              clear p0 p1 p2 p3 p4 p5 p6 p7 pl hz6 HR2 HR3 HR4 HV8 HX8 HB8 HBS8 HSRS HV6 HX6 HB6 HAPS HSL
              generalize ({ y with site := ((sitN L i).length : Int) } : Ins) = x at *
              have HXE := Lib.hid hx
              generalize w2.setCell _ _ = Wt at *
              clear hx hs1
              obtain ⟨x0, x1, x2, x3, x4, x5, x6, x7, xl⟩ := Ins.o_cells HBT.out
              obtain ⟨y0, y1, y2, y3, yl⟩ := Fn.o_cells HVT.out.f
              have hb7 : (Wt.alloc x.o).heap[Wt.heap.size]? = some x.o := World.alloc_heap_new _ _
              have HSRC := Lib.hid (src_ins (c := 1) hb7)
              have HV7 := Lib.hid (HVT.out.ext HBD.out (Ext.one Wt x.o))
              have HX7 := Lib.hid (HXT.out.trans (Ext.one Wt x.o))
              have HCL := Lib.hid (codN_len L i)
              have hsz := HV7.out.s
              have HBS := Lib.hid (show W.heap.size + 5 ≤ (Wt.alloc x.o).heap.size by rw [World.size_alloc]; have := HBD.out.h7; have := (Array.getElem?_eq_some_iff.1 HVT.out.f).1; omega)
              have HAPP := Lib.hid (show (codN L i).flatMap Ins.cells ++ x.cells = ((codN L i) ++ [x]).flatMap Ins.cells by simp)
              clear hb7 hsz
              unfold F0 at y0 y1 y2 y3
              go_wp2_with (at_builtin; refine wpList_append_any rfl _ _ 26 rfl (W.heap.size + 5) 25 i0 (.agg #[.int .i64 0, .int .i64 0, .int .i64 0, .int .i64 0, .int .i64 0, .slice none 0 0, .int .i64 0, .int .i64 0]) 8 80 Tryz.underlying26 hi0 hz0 hz1 hz2 rfl (by decide) (.slice Ac (codN L i).length cc) (codN L i).length _ rfl HV7.out.c (.slice (some ⟨Wt.heap.size, 0, none⟩) 1 1) 1 x.cells rfl (by simp [Ins.cells]) HSRC.out (by simp [Ins.cells, iV, Value.oneCell']) (by unfold maxLen; have := HCL.out; omega) (by have := HCL.out; omega) HBS.out ((codN L i).length + 1) rfl _ HAPP.out ?_; intro A1 c1 w1 hown1 hgrow1 hat1; obtain ⟨q1, q2, q3⟩ := HV7.out.app_c HBD.out rfl hgrow1 hown1; have HQ2 := Lib.hid q2; have HQ3 := Lib.hid (q3 (Ext.refl _) _ HX7.out (Nat.le_refl _)); clear y0 y1 y2 y3 yl; obtain ⟨y0, y1, y2, y3, yl⟩ := Fn.o_cells q1; have hz7 := fun n => frozen_of_row w1 b7 n _ _ (show w1.heap[b7]? = some (.cells _ _ _) from q1); clear q1 q2 q3 hown1 hgrow1 hat1)
              generalize w1.setCell _ _ = w8 at *
              have hgk := HGK.out
              have hcN : codN L (i + 1) = codN L i ++ [x] := by simp only [codN, HXE.out]
              go_roundg (gk - 1)
              case measure => omega
              case rel => exact ⟨i + 1, A2, c2, A1, c1, by omega, by go_num, HQ3.out, by rw [hcN]; exact HQ2.out⟩
          · have z0 : ¬ (i : Int) < (M.length : Int) := by omega
            obtain ⟨y9, hy9⟩ : ∃ y9, y9 = ret0 := ⟨_, rfl⟩
            have hyr : y = y9 := by
              rw [hy9, ← hgd, HL.out, List.getD_eq_getElem?_getD, List.getElem?_append_right hm, show i - M.length = 0 by omega]; rfl
            clear hx hv hop hgd hik
            go_upto_region 13 with (fail)
            change Code.wp _ _ _ _ (wq.alloc ({ ret0 with site := -1 } : Ins).o)
            rw [← hy9, ← hyr]
            clear hy9 hyr
            obtain ⟨W5, hW5⟩ : ∃ W5, W5 = wq.alloc ({ y with site := -1 } : Ins).o := ⟨_, rfl⟩
            change Code.wp _ _ _ _ (wq.alloc ({ y with site := -1 } : Ins).o)
            rw [← hW5]
            have hx5 : Ext wq W5 := by rw [hW5]; exact Ext.one _ _
            have hb5 : W5.heap[wq.heap.size]? = some ({ y with site := -1 } : Ins).o := by rw [hW5]; exact World.alloc_heap_new _ _
            have HIS := Lib.hid (fun w => IsSite_ok y.op HOI.out.1 HOI.out.2 w)
            have HV5 := Lib.hid (HV.out.ext HBD.out hx5)
            have HX5 := Lib.hid (HX.out.trans hx5)
            have HLO := Lib.hid (show W.heap.size + 5 ≤ wq.heap.size by have := HBD.out.h7; have := (Array.getElem?_eq_some_iff.1 HV.out.f).1; omega)
            have HO1 := Lib.hid (own_lt HV.out.s)
            have HO2 := Lib.hid (own_lt HV.out.c)
            have HB5 := Lib.hid hb5
            clear hW5 hx5 hb5
            generalize wq.heap.size = bx at *
            obtain ⟨x0, x1, x2, x3, x4, x5, x6, x7, xl⟩ := Ins.o_cells HB5.out
            cases hsi : siteO y.op with
            | false =>
              have hx : sited (sitN L i).length (L.getD i dIns) = { y with site := -1 } := by rw [HGD.out]; simp [sited, hsi]
              have hs1 : sitN L (i + 1) = sitN L i := by simp only [sitN, HGD.out, hsi]; rfl
              rw [hsi] at HIS
              go_upto_region 16 with (go_at_call 36; refine (HIS.out _).mono ?_; rintro e w2 ⟨rfl, hw⟩; rw [hw]; clear hw)
              clear x0 x1 x2 x3 x4 x5 x6 x7 xl
              have HVT := Lib.hid (show Inv W.heap.size b1 b2 b6 b7 (sitN L (i + 1)) (codN L i) As cs Ac cc W5 by rw [hs1]; exact HV5.out)
              have HXT := HX5
              have HBT := Lib.hid HB5.out
              have HS1 := Lib.hid hs1
              generalize ({ y with site := -1 } : Ins) = x at *
              have HXE := Lib.hid hx
              obtain ⟨Wt, rfl⟩ : ∃ y, y = W5 := ⟨_, rfl⟩
              clear hx hs1 HB5 HX5 HV5 hsi
              obtain ⟨x0, x1, x2, x3, x4, x5, x6, x7, xl⟩ := Ins.o_cells HBT.out
              obtain ⟨y0, y1, y2, y3, yl⟩ := Fn.o_cells HVT.out.f
              have hb7 : (Wt.alloc x.o).heap[Wt.heap.size]? = some x.o := World.alloc_heap_new _ _
              have HSRC := Lib.hid (src_ins (c := 1) hb7)
              have HV7 := Lib.hid (HVT.out.ext HBD.out (Ext.one Wt x.o))
              have HX7 := Lib.hid (HXT.out.trans (Ext.one Wt x.o))
              have HCL := Lib.hid (codN_len L i)
              have hsz := HV7.out.s
              have HBS := Lib.hid (show W.heap.size + 5 ≤ (Wt.alloc x.o).heap.size by rw [World.size_alloc]; have := HBD.out.h7; have := (Array.getElem?_eq_some_iff.1 HVT.out.f).1; omega)
              have HAPP := Lib.hid (show (codN L i).flatMap Ins.cells ++ x.cells = ((codN L i) ++ [x]).flatMap Ins.cells by simp)
              clear hb7 hsz
              unfold F0 at y0 y1 y2 y3
              go_wp2_with (at_builtin; refine wpList_append_any rfl _ _ 26 rfl (W.heap.size + 5) 25 i0 (.agg #[.int .i64 0, .int .i64 0, .int .i64 0, .int .i64 0, .int .i64 0, .slice none 0 0, .int .i64 0, .int .i64 0]) 8 80 Tryz.underlying26 hi0 hz0 hz1 hz2 rfl (by decide) (.slice Ac (codN L i).length cc) (codN L i).length _ rfl HV7.out.c (.slice (some ⟨Wt.heap.size, 0, none⟩) 1 1) 1 x.cells rfl (by simp [Ins.cells]) HSRC.out (by simp [Ins.cells, iV, Value.oneCell']) (by unfold maxLen; have := HCL.out; omega) (by have := HCL.out; omega) HBS.out ((codN L i).length + 1) rfl _ HAPP.out ?_; intro A1 c1 w1 hown1 hgrow1 hat1; obtain ⟨q1, q2, q3⟩ := HV7.out.app_c HBD.out rfl hgrow1 hown1; have HQ2 := Lib.hid q2; have HQ3 := Lib.hid (q3 (Ext.refl _) _ HX7.out (Nat.le_refl _)); clear y0 y1 y2 y3 yl; obtain ⟨y0, y1, y2, y3, yl⟩ := Fn.o_cells q1; have hz7 := fun n => frozen_of_row w1 b7 n _ _ (show w1.heap[b7]? = some (.cells _ _ _) from q1); clear q1 q2 q3 hown1 hgrow1 hat1)
              generalize w1.setCell _ _ = w8 at *
              have hgk := HGK.out
              have hcN : codN L (i + 1) = codN L i ++ [x] := by simp only [codN, HXE.out]
              go_roundg (gk - 1)
              case measure => omega
              case rel => exact ⟨i + 1, As, cs, A1, c1, by omega, by go_num, HQ3.out, by rw [hcN]; exact HQ2.out⟩
            | true =>
              have hs1 : sitN L (i + 1) = sitN L i ++ [⟨0, i⟩] := by simp only [sitN, HGD.out, hsi]; rfl
              have hx : sited (sitN L i).length (L.getD i dIns) = { y with site := ((sitN L i).length : Int) } := by rw [HGD.out]; simp [sited, hsi]
              have hzx := fun n => frozen_of_row W5 bx n _ _ (show W5.heap[bx]? = some (.cells _ _ _) from HB5.out)
              obtain ⟨p0, p1, p2, p3, p4, p5, p6, p7, pl⟩ := Prg.o_cells HV5.out.p
              unfold P0 at p7
              rw [hsi] at HIS
              go_upto_region 15 with (go_at_call 36; refine (HIS.out _).mono ?_; rintro e w2 ⟨rfl, hw⟩; rw [hw]; clear hw)
              have hb6 : (W5.setCell ⟨bx, 6, none⟩ (.int .i64 ((sitN L i).length : Int))).heap[bx]? = some ({ y with site := ((sitN L i).length : Int) } : Ins).o := by
                rw [heap_setCell_same W5 bx 6 _ _ _ HB5.out]
                rfl
              have hk6 : Kept (ne' bx) W5 (W5.setCell ⟨bx, 6, none⟩ (.int .i64 ((sitN L i).length : Int))) := Kept.setCell _ fun o ho => by simp [ne']
              have HV6 := Lib.hid (HV5.out.other HBD.out hk6 HLO.out HO1.out HO2.out)
              have HX6 := Lib.hid (ext_ne HX5.out hk6 (by have := HLO.out; omega))
              have HB6 := Lib.hid hb6
              clear hzx p0 p1 p2 p3 p4 p5 p6 p7 pl x0 x1 x2 x3 x4 x5 x6 x7 xl hb6 hk6 HB5 HX5 HV5 hsi
              generalize W5.setCell _ _ = W6 at *
              obtain ⟨p0, p1, p2, p3, p4, p5, p6, p7, pl⟩ := Prg.o_cells HV6.out.p
              unfold P0 at p7
              have hb8 : (W6.alloc (.cells #[.int .i64 0, .int .i64 i] 95 (0, 0))).heap[W6.heap.size]? = some (.cells #[.int .i64 0, .int .i64 i] 95 (0, 0)) := World.alloc_heap_new _ _
              have hx8 : Ext W6 (W6.alloc (.cells #[.int .i64 0, .int .i64 i] 95 (0, 0))) := Ext.one _ _
              have HSRS := Lib.hid (src_two (c := 1) hb8)
              have HV8 := Lib.hid (HV6.out.ext HBD.out hx8)
              have HX8 := Lib.hid (HX6.out.trans hx8)
              have HB8 := Lib.hid ((hx8.kept (fun _ _ => true)).same _ _ HB6.out rfl)
              have HSL := Lib.hid (sitN_len L i)
              have HBS8 := Lib.hid (show W.heap.size + 5 ≤ (W6.alloc (.cells #[.int .i64 0, .int .i64 i] 95 (0, 0))).heap.size by rw [World.size_alloc]; have := HLO.out; have := (Array.getElem?_eq_some_iff.1 HB6.out).1; omega)
              have HAPS := Lib.hid (show (sitN L i).flatMap Sit.cells ++ [.int .i64 0, .int .i64 i] = (sitN L i ++ [(⟨0, (i : Int)⟩ : Sit)]).flatMap Sit.cells by simp [Sit.cells, iV])
              clear hb8 hx8
              go_upto_region 16 with (at_builtin; refine wpList_append_any rfl _ _ 33 rfl (W.heap.size + 5) 95 j0 (.agg #[.int .i64 0, .int .i64 0]) 2 16 Tryz.underlying33 hj0 hy0 hy1 hy2 rfl (by decide) (.slice As (sitN L i).length cs) (sitN L i).length _ rfl HV8.out.s (.slice (some ⟨W6.heap.size, 0, none⟩) 1 1) 1 [.int .i64 0, .int .i64 i] rfl (by simp) HSRS.out (by simp [Value.oneCell']) (by unfold maxLen; have := HSL.out; omega) (by have := HSL.out; omega) HBS8.out ((sitN L i).length + 1) rfl _ HAPS.out ?_; intro A2 c2 w2 hown2 hgrow2 hat2; obtain ⟨q1, q2, q3, q4⟩ := HV8.out.app_s HBD.out rfl hgrow2 hown2; have HR2 := Lib.hid q2; have HR3 := Lib.hid (q3 _ HX8.out (Nat.le_refl _)); have HR4 := Lib.hid (q4 _ _ HLO.out (fun g hg => Nat.ne_of_lt (HO1.out g hg)) HB8.out); clear p0 p1 p2 p3 p4 p5 p6 p7 pl; obtain ⟨p0, p1, p2, p3, p4, p5, p6, p7, pl⟩ := Prg.o_cells q1; unfold P0 at p7; have hz6 := fun n => frozen_of_row w2 b6 n _ _ (show w2.heap[b6]? = some (.cells _ _ _) from q1); clear q1 q2 q3 q4 hown2 hgrow2 hat2)
              have HVT := Lib.hid (show Inv W.heap.size b1 b2 b6 b7 (sitN L (i + 1)) (codN L i) A2 c2 Ac cc _ by rw [hs1]; exact HR2.out)
              have HXT := HR3
              have HBT := HR4
              clear p0 p1 p2 p3 p4 p5 p6 p7 pl hz6 HR2 HR3 HR4 HV8 HX8 HB8 HBS8 HSRS HV6 HX6 HB6 HAPS HSL
              generalize ({ y with site := ((sitN L i).length : Int) } : Ins) = x at *
              have HXE := Lib.hid hx
              generalize w2.setCell _ _ = Wt at *
              clear hx hs1
              obtain ⟨x0, x1, x2, x3, x4, x5, x6, x7, xl⟩ := Ins.o_cells HBT.out
              obtain ⟨y0, y1, y2, y3, yl⟩ := Fn.o_cells HVT.out.f
              have hb7 : (Wt.alloc x.o).heap[Wt.heap.size]? = some x.o := World.alloc_heap_new _ _
              have HSRC := Lib.hid (src_ins (c := 1) hb7)
              have HV7 := Lib.hid (HVT.out.ext HBD.out (Ext.one Wt x.o))
              have HX7 := Lib.hid (HXT.out.trans (Ext.one Wt x.o))
              have HCL := Lib.hid (codN_len L i)
              have hsz := HV7.out.s
              have HBS := Lib.hid (show W.heap.size + 5 ≤ (Wt.alloc x.o).heap.size by rw [World.size_alloc]; have := HBD.out.h7; have := (Array.getElem?_eq_some_iff.1 HVT.out.f).1; omega)
              have HAPP := Lib.hid (show (codN L i).flatMap Ins.cells ++ x.cells = ((codN L i) ++ [x]).flatMap Ins.cells by simp)
              clear hb7 hsz
              unfold F0 at y0 y1 y2 y3
              go_wp2_with (at_builtin; refine wpList_append_any rfl _ _ 26 rfl (W.heap.size + 5) 25 i0 (.agg #[.int .i64 0, .int .i64 0, .int .i64 0, .int .i64 0, .int .i64 0, .slice none 0 0, .int .i64 0, .int .i64 0]) 8 80 Tryz.underlying26 hi0 hz0 hz1 hz2 rfl (by decide) (.slice Ac (codN L i).length cc) (codN L i).length _ rfl HV7.out.c (.slice (some ⟨Wt.heap.size, 0, none⟩) 1 1) 1 x.cells rfl (by simp [Ins.cells]) HSRC.out (by simp [Ins.cells, iV, Value.oneCell']) (by unfold maxLen; have := HCL.out; omega) (by have := HCL.out; omega) HBS.out ((codN L i).length + 1) rfl _ HAPP.out ?_; intro A1 c1 w1 hown1 hgrow1 hat1; obtain ⟨q1, q2, q3⟩ := HV7.out.app_c HBD.out rfl hgrow1 hown1; have HQ2 := Lib.hid q2; have HQ3 := Lib.hid (q3 (Ext.refl _) _ HX7.out (Nat.le_refl _)); clear y0 y1 y2 y3 yl; obtain ⟨y0, y1, y2, y3, yl⟩ := Fn.o_cells q1; have hz7 := fun n => frozen_of_row w1 b7 n _ _ (show w1.heap[b7]? = some (.cells _ _ _) from q1); clear q1 q2 q3 hown1 hgrow1 hat1)
              generalize w1.setCell _ _ = w8 at *
              have hgk := HGK.out
              have hcN : codN L (i + 1) = codN L i ++ [x] := by simp only [codN, HXE.out]
              go_roundg (gk - 1)
              case measure => omega
              case rel => exact ⟨i + 1, A2, c2, A1, c1, by omega, by go_num, HQ3.out, by rw [hcN]; exact HQ2.out⟩
        · have hii : i = L.length := by omega
          subst hii
          have hnl : ¬ (L.length : Int) ≤ (M.length : Int) := by omega
          obtain ⟨k0, hk0, kz0, kz1, kz2⟩ := infoParts infoFns
          obtain ⟨y0, y1, y2, y3, yl⟩ := Fn.o_cells HV.out.f
          obtain ⟨p0, p1, p2, p3, p4, p5, p6, p7, pl⟩ := Prg.o_cells HV.out.p
          have HFG := Lib.hid (fun w (As : Option Addr) (cs : Nat) (Ac : Option Addr) (cc : Nat) (A3 : Option Addr) (c3 : Nat) (h : Fin W.heap.size b1 b2 b6 (P1 b1 b2 As cs (sitN L L.length) A3 c3 (F0 Ac cc (codN L L.length))) (sitN L L.length) (codN L L.length) As cs Ac cc A3 c3 w) => (show FinQ W L w from ⟨As, cs, Ac, cc, A3, c3, by rw [HBD.out.h1, HBD.out.h2, HBD.out.h6]; exact h⟩))
          generalize codN L L.length = C at *
          generalize sitN L L.length = Sx at *
          clear hx hv hik hi
          have hb9 : (wq.alloc (F0 Ac cc C).o).heap[wq.heap.size]? = some (F0 Ac cc C).o := World.alloc_heap_new _ _
          have HSF := Lib.hid (src_fn (c := 1) hb9)
          have HV9 := Lib.hid (HV.out.ext HBD.out (Ext.one wq (F0 Ac cc C).o))
          have HX9 := Lib.hid (HX.out.trans (Ext.one wq (F0 Ac cc C).o))
          have HSZ := Lib.hid (show W.heap.size + 5 ≤ (wq.alloc (F0 Ac cc C).o).heap.size by have := HBD.out.h7; have := yl; simp; omega)
          clear hb9
          unfold F0 at y0 y1 y2 y3
          unfold P0 at p3
          go_upto_region 4 with (at_builtin; refine wpList_append_any rfl _ _ 30 rfl (W.heap.size + 5) 92 k0 (.agg #[.string ⟨#[]⟩, .int .i64 0, .int .i64 0, .slice none 0 0]) 4 56 Tryz.underlying30 hk0 kz0 kz1 kz2 rfl (by decide) (.slice none 0 0) 0 [] rfl (World.ownsRow_nil _ _ _ _) (.slice (some ⟨wq.heap.size, 0, none⟩) 1 1) 1 (F0 Ac cc C).cells rfl rfl HSF.out (by simp [Fn.cells, F0, iV, sV, Value.oneCell']) (by unfold maxLen; omega) (by omega) HSZ.out 1 rfl _ rfl ?_; intro A3 c3 w9 hown3 hgrow3 hat3; have hx9 := grown_ext (Ext.refl _) hgrow3 (by intro b hb; simp [Value.ownBlock] at hb); have HR9 := Lib.hid hown3; have HVT := Lib.hid (HV9.out.ext HBD.out hx9); have HXT := Lib.hid (HX9.out.trans hx9); clear hown3 hgrow3 hat3 hx9 y0 y1 y2 y3 yl p0 p1 p2 p3 p4 p5 p6 p7 pl; obtain ⟨p0, p1, p2, p3, p4, p5, p6, p7, pl⟩ := Prg.o_cells HVT.out.p; have hz6 := fun n => frozen_of_row w9 b6 n _ _ (show w9.heap[b6]? = some (.cells _ _ _) from HVT.out.p))
          obtain ⟨hf, hk3⟩ := HVT.out.fin HBD.out HR9.out
          have hff := HFG.out _ As cs Ac cc A3 c3 hf
          have hxf := ext_ne HXT.out hk3 (by have := HBD.out.h6; omega)
          have HFF := Lib.hid (And.intro hxf hff)
          clear hf hk3 hff hxf p0 p1 p2 p3 p4 p5 p6 p7 pl hz6 HFG
          generalize w9.setCell _ _ = wf at *
          go_wp2_with fail
          go_roundg 0
          case measure => omega
          case rel => exact .inr ⟨rfl, rfl, HFF.out⟩
    · obtain ⟨As, cs, Ac, cc, A3, c3, hf⟩ := hfq
      have HF := Lib.hid hf
      have HX := Lib.hid hx
      generalize hS0 : sitN L L.length = Sx at *
      generalize hC0 : codN L L.length = C at *
      have HS0 := Lib.hid hS0
      have HC0 := Lib.hid hC0
      have HBE := Lib.hid (Array.getElem?_eq_some_iff.1 hf.b.h0).1
      clear hS0 hC0 HM HOP HROW
      obtain ⟨p0, p1, p2, p3, p4, p5, p6, p7, pl⟩ := Prg.o_cells hf.p
      have hz6 := fun n => frozen_of_row wr (W.heap.size + 3) n _ _ (show wr.heap[W.heap.size + 3]? = some (.cells _ _ _) from hf.p)
      clear hf hx
      dsimp only [P1, P0] at p0 p1 p2 p3 p4 p5 p6 p7
      have he := HF.out.evt HX.out
      go_upto_region 19 with (fail)
      change Code.wp _ _ _ _ ((wr.setCell ⟨W.heap.size + 3, 5, none⟩ (.slice (some ⟨wr.heap.size, 0, none⟩) 1 1)).alloc evtO)
      generalize (wr.setCell ⟨W.heap.size + 3, 5, none⟩ (.slice (some ⟨wr.heap.size, 0, none⟩) 1 1)).alloc evtO = w2 at *
      generalize wr.heap.size = be at *
      have HE := Lib.hid he
      clear he p0 p1 p2 p3 p4 p5 p6 p7 pl hz6 HF HX
      obtain ⟨p0, p1, p2, p3, p4, p5, p6, p7, pl⟩ := Prg.o_cells HE.out.1.p
      obtain ⟨d0, d1, d2, d3, d4, d5, d6, d7, dl, dz⟩ := zprg_cells HE.out.1.b.h0
      generalize hPP : P2 (W.heap.size + 1) (W.heap.size + 2) be As cs Sx A3 c3 (F0 Ac cc C) = PP at *
      have HPP := Lib.hid hPP
      clear hPP
      go_wp2_with fail
      change bodyPost _ _ _ _ _ (prg8 w2 W.heap.size PP)
      obtain ⟨ho, hk⟩ := prg8_ok (P := PP) HE.out.1.b.h0
      clear d0 d1 d2 d3 d4 d5 d6 d7 dl dz p0 p1 p2 p3 p4 p5 p6 p7 pl
      obtain ⟨z0, z1, z2, z3, z4, z5, z6, z7, zl⟩ := Prg.o_cells ho
      refine bodyPost_ret (v := PP.v) (by simp [results, Tryz.results6, go_sem, Prg.v, z0, z1, z2, z3, z4, z5, z6, z7]) rfl ⟨be, As, cs, Ac, cc, A3, c3, L, PP, w2, HL.out, by rw [HS0.out, HC0.out]; exact HPP.out, rfl, by rw [HS0.out, HC0.out]; exact HE.out.1, HE.out.2.1, HBE.out, hk, ext_ne HE.out.2.2 hk (Nat.le_refl _)⟩
end Go.Proofs.YtfljmdpigckpkaaGreatDoor
