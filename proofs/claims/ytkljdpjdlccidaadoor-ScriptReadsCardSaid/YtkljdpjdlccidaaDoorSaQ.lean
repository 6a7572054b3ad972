/- What the document reads of a line: its words. -/
import Derived.Test.YtkljdpjdlccidaaDoorSaL
import Derived.Test.YtkljdpjdlccidaaDoorSaI
import Derived.Test.YtkljdpjdlccidaaDoorSaB
import Derived.Test.YtkljdpjdlccidaaDoorRzA
import Derived.Deep.CutBlock
namespace Go.Proofs.YtkljdpjdlccidaaDoor
open Go.RowKit Go.Shelf
attribute [local go_sem] Oper.semAt_some str_at
def seg (s : List UInt8) (a b : Nat) : List UInt8 := (s.drop a).take (b - a)
theorem seg_ba (s : List UInt8) (a b : Nat) : (⟨s.toArray⟩ : ByteArray).extract a b = ⟨(seg s a b).toArray⟩ := by
  apply ByteArray.ext
  apply Array.ext'
  rw [ByteArray.data_extract]
  simp [seg]
set_option maxRecDepth 10000 in
theorem slice_ok (x : List UInt8) (fr i : Nat) (h : fr ≤ i) (h2 : i ≤ x.length) (w : World) : (Instr.slice 9 (.string ⟨x.toArray⟩) (some (.int .i64 fr)) (some (.int .i64 i)) none).run Tryd.prog w = .ok (.string ⟨(seg x fr i).toArray⟩) w := by
  have := run_slice_string (P := Tryd.prog) w 9 ⟨x.toArray⟩ .i64 .i64 fr i Tryd.underlying9 (by omega) (by omega) (by rw [str_size]; omega)
  rw [this]
  congr 2
  rw [← seg_ba]
  rfl
theorem wdR_len : ∀ (s cur y : List UInt8), y ∈ wdR cur s → y.length ≤ cur.length + s.length
  | [], cur, y, h => by simp [wdR] at h
  | c :: r, cur, y, h => by
    rw [wdR] at h
    split at h
    · rcases List.mem_cons.1 h with rfl | h
      · simp
      · have := wdR_len r [] y h
        simp only [List.length_nil, List.length_cons] at this ⊢
        omega
    · have := wdR_len r (c :: cur) y h
      simp only [List.length_cons] at this ⊢
      omega
def WdI (s : List UInt8) (L : List (List UInt8)) (fr i : Nat) : Prop := wdR [] s = L ++ wdR (seg s fr i).reverse (s.drop i)
theorem seg_self (s : List UInt8) (a : Nat) : seg s a a = [] := by simp [seg]
theorem seg_snoc {s : List UInt8} {fr i : Nat} {c : UInt8} (h : s[i]? = some c) (hf : fr ≤ i) : seg s fr (i + 1) = seg s fr i ++ [c] := by
  unfold seg
  have e : i + 1 - fr = (i - fr) + 1 := by omega
  rw [e, List.take_add_one, List.getElem?_drop]
  rw [show fr + (i - fr) = i by omega, h]
  rfl
theorem drop_at {s : List UInt8} {i : Nat} {c : UInt8} (h : s[i]? = some c) : s.drop i = c :: s.drop (i + 1) := by
  obtain ⟨hl, he⟩ := List.getElem?_eq_some_iff.1 h
  rw [List.drop_eq_getElem_cons hl, he]
theorem WdI.hit {s : List UInt8} {L : List (List UInt8)} {fr i : Nat} {c : UInt8} (h : WdI s L fr i) (hc : s[i]? = some c) (h2 : c = 32 ∨ c = 10) : WdI s (L ++ [seg s fr i]) (i + 1) (i + 1) := by
  unfold WdI at *
  rw [h, drop_at hc, wdR, if_pos h2, seg_self]
  simp
theorem WdI.miss {s : List UInt8} {L : List (List UInt8)} {fr i : Nat} {c : UInt8} (h : WdI s L fr i) (hf : fr ≤ i) (hc : s[i]? = some c) (h2 : ¬ (c = 32 ∨ c = 10)) : WdI s L fr (i + 1) := by
  unfold WdI at *
  rw [h, drop_at hc, wdR, if_neg h2, seg_snoc hc hf]
  simp
theorem WdI.done {s : List UInt8} {L : List (List UInt8)} {fr : Nat} (h : WdI s L fr s.length) : wdR [] s = L := by
  unfold WdI at h
  rw [h, List.drop_length]
  simp [wdR]
theorem eqN {c : UInt8} {n : Nat} (h : ¬ c.toNat = n) : ((c.toNat : Int) == (n : Int)) = false := by
  have : ¬ (c.toNat : Int) = n := by omega
  simpa using this
theorem strs_at {W : World} {B : Nat} {A : Option Addr} {c n : Nat} {ws : List (List UInt8)} (h : W.ownsRow B 9 1 (.slice A n c) n (ws.map sL)) (hn : n = ws.length) (h0 : 0 < n) : ∃ g, A = some ⟨g, 0, none⟩ ∧ g < W.heap.size ∧ ∀ (j : Nat) x, ws[j]? = some x → W.cell? ⟨g, j, none⟩ = some (.string ⟨x.toArray⟩) := by
  rcases h.2 with ⟨e, h1⟩ | ⟨g, cap, cur, e, h2⟩
  · omega
  · have hA : A = some ⟨g, 0, none⟩ := by injection e
    refine ⟨g, hA, (Array.getElem?_eq_some_iff.1 h2.2.1).1, fun j x hj => ?_⟩
    have := h.cells (g := g) (by rw [hA]; rfl) j (sL x) (by rw [List.getElem?_map, hj]; rfl)
    simpa [add_none, sL] using this
/-- What is read of a line, and what is answered: two entries in memory. -/
structure RO (w : World) (br bx : Nat) (e : En) (v : World) : Prop where
  ex : Ext w v
  r : v.heap[br]? = some zEn
  x : v.heap[bx]? = some e.o
  lr : w.heap.size ≤ br
  lx : w.heap.size ≤ bx
  ne : br ≠ bx
section
variable {w v v' : World} {br bx : Nat} {e : En}
theorem RO.ext (h : RO w br bx e v) (k : Ext v v') : RO w br bx e v' := ⟨h.ex.trans k, (k.kept (fun _ _ => true)).same _ _ h.r rfl, (k.kept (fun _ _ => true)).same _ _ h.x rfl, h.lr, h.lx, h.ne⟩
theorem RO.set (h : RO w br bx e v) {e' : En} {i : Nat} {u : Value} (he : (v.setCell ⟨bx, i, none⟩ u).heap[bx]? = some e'.o) : RO w br bx e' (v.setCell ⟨bx, i, none⟩ u) :=
  have k : Kept (ne' bx) v (v.setCell ⟨bx, i, none⟩ u) := Kept.one bx v i u
  ⟨ext_ne h.ex k h.lx, k.same _ _ h.r (by simp [ne', h.ne]), he, h.lr, h.lx, h.ne⟩
theorem RO.putK (h : RO w br bx e v) (k : Int) : RO w br bx ⟨k, e.a, e.n⟩ (v.setCell ⟨bx, 0, none⟩ (.int .i64 k)) := h.set (heap_setCell_same v bx 0 _ _ _ h.x)
theorem RO.putA (h : RO w br bx e v) (k : Int) : RO w br bx ⟨e.k, k, e.n⟩ (v.setCell ⟨bx, 1, none⟩ (.int .i64 k)) := h.set (heap_setCell_same v bx 1 _ _ _ h.x)
theorem RO.putN (h : RO w br bx e v) (k : Int) : RO w br bx ⟨e.k, e.a, k⟩ (v.setCell ⟨bx, 2, none⟩ (.int .i64 k)) := h.set (heap_setCell_same v bx 2 _ _ _ h.x)
theorem RO.cells (h : RO w br bx e v) : (v.cell? ⟨bx, 0, none⟩ = some (.int .i64 e.k) ∧ v.cell? ⟨bx, 1, none⟩ = some (.int .i64 e.a) ∧ v.cell? ⟨bx, 2, none⟩ = some (.int .i64 e.n) ∧ bx < v.heap.size) ∧ (v.cell? ⟨br, 0, none⟩ = some (.int .i64 0) ∧ v.cell? ⟨br, 1, none⟩ = some (.int .i64 0) ∧ v.cell? ⟨br, 2, none⟩ = some (.int .i64 0) ∧ br < v.heap.size) ∧ (∀ n, v.frozen? ⟨bx, n, none⟩ = false) ∧ ∀ n, v.frozen? ⟨br, n, none⟩ = false :=
  ⟨En.o_cells h.x, En.o_cells (e := ⟨0, 0, 0⟩) h.r, fun n => frozen_of_row v bx n _ _ (show v.heap[bx]? = some (.cells _ _ _) from h.x), fun n => frozen_of_row v br n _ _ (show v.heap[br]? = some (.cells _ _ _) from h.r)⟩
end
/-- What the operations that make an entry of words give. -/
def G10 (W : World) (sv : Value) (g : Nat) (p1 p2 : List UInt8) : Nat → Value → World → Prop
  | 0, v, _ => v = sv
  | 1, v, _ => v = .pointer (some ⟨g, 1, none⟩)
  | 2, v, _ => v = .string ⟨p1.toArray⟩
  | 3, v, _ => v = .int .i64 (valR p1)
  | 4, v, _ => v = sv
  | 5, v, _ => v = .pointer (some ⟨g, 2, none⟩)
  | 6, v, _ => v = .string ⟨p2.toArray⟩
  | 7, v, _ => v = .int .i64 (valR p2)
  | 8, v, _ => v = .agg #[.int .i64 0, .int .i64 (valR p1), .int .i64 (valR p2)]
  | 9, v, w => ∃ b, v = .pointer (some ⟨b, 0, none⟩) ∧ w.heap[b]? = some zEn ∧ W.heap.size ≤ b
  | _, _, _ => True
theorem G10.mono {W : World} {sv : Value} {g : Nat} {p1 p2 : List UInt8} : ∀ (f : Bool) (j : Nat) (v : Value) (w w' : World), (fun _ => G10 W sv g p1 p2) f j v w → Ext w w' → (fun _ => G10 W sv g p1 p2) f j v w'
  | _, 0, _, _, _, h, _ => h
  | _, 1, _, _, _, h, _ => h
  | _, 2, _, _, _, h, _ => h
  | _, 3, _, _, _, h, _ => h
  | _, 4, _, _, _, h, _ => h
  | _, 5, _, _, _, h, _ => h
  | _, 6, _, _, _, h, _ => h
  | _, 7, _, _, _, h, _ => h
  | _, 8, _, _, _, h, _ => h
  | _, 9, _, _, _, ⟨b, h1, h2, h3⟩, k => ⟨b, h1, (k.kept (fun _ _ => true)).same _ _ h2 rfl, h3⟩
  | _, _ + 10, _, _, _, _, _ => trivial
/-- What 'one' answers. -/
def OneQ (w : World) (x : List UInt8) (r : Ending) (w' : World) : Prop := ∃ b, r = .returned (.tuple #[En.v (enR (wdR [] x)), .bool b]) ∧ Ext w w' ∧ b = (mayE (enR (wdR [] x)) && (lnE (enR (wdR [] x)) ++ [10] == x))
set_option maxRecDepth 100000 in
set_option maxHeartbeats 4000000 in
theorem one_ok {w : World} (x : List UInt8) (hl : x.length ≤ 6000) : Calls Tryd.prog 24 #[.string ⟨x.toArray⟩] w fun r w' => OneQ w x r w' := by
  obtain ⟨i0, hi0, hz0, hz1, hz2⟩ := infoParts infoStr
  obtain ⟨W1, hW1⟩ : ∃ W1, W1 = w.alloc zEn := ⟨_, rfl⟩
  have hx1 : Ext w W1 := by rw [hW1]; exact Ext.one _ _
  have hr1 : W1.heap[w.heap.size]? = some zEn := by rw [hW1]; exact World.alloc_heap_new _ _
  have HX1 := Lib.hid hx1
  have HR1 := Lib.hid hr1
  have HW := Lib.hid hW1
  have HL := Lib.hid hl
  have hsz := str_size x
  clear hx1 hW1 hr1
  go_enter Tryd.func24, Tryd.ntmps24
  go_upto_region 4 with (fail)
  change Code.wp _ _ _ _ (w.alloc zEn)
  rw [← HW.out]
  generalize hbr : w.heap.size = br at *
  clear HW
  go_loopg [4, 5, 6] x.length (fun k v4 v5 v6 wr => ∃ (i fr : Nat) (L : List (List UInt8)) (A : Option Addr) (c : Nat), i + k = x.length ∧ fr ≤ i ∧ L.length ≤ i ∧ v4 = .slice A L.length c ∧ v5 = .int .i64 fr ∧ v6 = .int .i64 i ∧ WdI x L fr i ∧ Ext W1 wr ∧ wr.ownsRow W1.heap.size 9 1 (.slice A L.length c) L.length (L.map sL))
  case atStart => exact ⟨0, 0, [], none, 0, by omega, Nat.le_refl _, Nat.le_refl _, rfl, rfl, rfl, by simp [WdI, seg], Ext.refl _, World.ownsRow_nil _ _ _ _⟩
  case round =>
    obtain ⟨i, fr, L, A, c, hik, hfi, hLi, rfl, rfl, rfl, hwd, hx, ho⟩ := hrel
    have HX := Lib.hid hx
    have HO := Lib.hid ho
    have HWD := Lib.hid hwd
    have HIK := Lib.hid (And.intro hik (And.intro hfi hLi))
    clear hx ho hwd
    by_cases hlt : i < x.length
    · obtain ⟨ch, hc⟩ : ∃ ch, x[i]? = some ch := ⟨x[i], List.getElem?_eq_getElem hlt⟩
      obtain ⟨y, hy0⟩ : ∃ y : Nat, y = ch.toNat := ⟨_, rfl⟩
      have hg : chr x i = y := by unfold chr; rw [hc, hy0]; rfl
      have HY := Lib.hid hy0
      have HC := Lib.hid hc
      have z : (i : Int) < (x.length : Int) := by omega
      clear hc hy0 hik
      by_cases hh : y = 32 ∨ y = 10
      · have HH := Lib.hid hh
        have hlL : L.length ≤ 6000 := by omega
        have hfz : (fr : Int) ≤ (i : Int) := by omega
        have hsl := slice_ok x fr i hfi (by omega) wr
        have HNEW := Lib.hid (show Src (wr.alloc (.cells #[.string ⟨(seg x fr i).toArray⟩] 9 (0, 0))) (.slice (some ⟨wr.heap.size, 0, none⟩) 1 1) 1 [sL (seg x fr i)] from .inr ⟨_, _, rfl, World.news_of_block (World.alloc_heap_new wr _)⟩)
        have HAPP := Lib.hid (show L.map sL ++ [sL (seg x fr i)] = (L ++ [seg x fr i]).map sL by simp)
        have HN := Lib.hid (show WdI x (L ++ [seg x fr i]) (i + 1) (i + 1) from HWD.out.hit HC.out (by rcases hh with h | h; exact .inl (UInt8.toNat_inj.1 (by rw [← HY.out, h]; rfl)); exact .inr (UInt8.toNat_inj.1 (by rw [← HY.out, h]; rfl))))
        rcases hh with rfl | rfl
        all_goals
          go_wp2_with (at_builtin; refine wpList_append_any rfl _ _ 35 rfl W1.heap.size 9 i0 (.string ⟨#[]⟩) 1 16 Tryd.underlying35 hi0 hz0 hz1 hz2 rfl (by decide) (.slice A L.length c) L.length (L.map sL) rfl (((Ext.one wr (.cells #[.string ⟨(seg x fr i).toArray⟩] 9 (0, 0))).kept (fun _ _ => true)).row HO.out fun _ _ => rfl) (.slice (some ⟨wr.heap.size, 0, none⟩) 1 1) 1 [sL (seg x fr i)] rfl rfl HNEW.out (by simp [Value.oneCell', sL]) (by unfold maxLen; omega) (by omega) (by have := HX.out.size; simp; omega) (L.length + 1) rfl ((L ++ [seg x fr i]).map sL) HAPP.out ?_; intro A5 c5 w5 hown hgrow hat; have HX5 := Lib.hid (grown_ext (HX.out.trans (Ext.one wr (.cells #[.string ⟨(seg x fr i).toArray⟩] 9 (0, 0)))) hgrow fun b hb => own_base HO.out b hb); have HO5 := Lib.hid hown; clear hown hgrow hat)
          go_roundg (gk - 1)
          case measure => have := HIK.out; omega
          case rel => exact ⟨i + 1, i + 1, L ++ [seg x fr i], A5, c5, by have := HIK.out; omega, Nat.le_refl _, by simp; omega, by simp, by go_num, by go_num, HN.out, HX5.out, by simpa using HO5.out⟩
      · have HH := Lib.hid hh
        have z1 : ((y : Int) == 32) = false := by simp; omega
        have z2 : ((y : Int) == 10) = false := by simp; omega
        clear hh
        go_wp2_with fail
        go_roundg (gk - 1)
        case measure => have := HIK.out; omega
        case rel => exact ⟨i + 1, fr, L, A, c, by have := HIK.out; omega, by omega, by omega, rfl, rfl, by go_num, HWD.out.miss hfi HC.out (fun h => HH.out (by rw [HY.out]; rcases h with rfl | rfl; exact .inl rfl; exact .inr rfl)), HX.out, HO.out⟩
    · obtain rfl : i = x.length := by omega
      have HWS := Lib.hid (show wdR [] x = L from HWD.out.done)
      have hlL : L.length ≤ 6000 := by omega
      have HNEW := Lib.hid (show Src (wr.alloc (.cells #[.string ⟨#[]⟩, .string ⟨#[]⟩, .string ⟨#[]⟩] 9 (0, 0))) (.slice (some ⟨wr.heap.size, 0, none⟩) 3 3) 3 [.string ⟨#[]⟩, .string ⟨#[]⟩, .string ⟨#[]⟩] from .inr ⟨_, _, rfl, World.news_of_block (World.alloc_heap_new wr _)⟩)
      have HAPP := Lib.hid (show L.map sL ++ [.string ⟨#[]⟩, .string ⟨#[]⟩, .string ⟨#[]⟩] = (L ++ [[], [], []]).map sL by simp [sL])
      go_upto_region 10 with (at_builtin; refine wpList_append_any rfl _ _ 35 rfl W1.heap.size 9 i0 (.string ⟨#[]⟩) 1 16 Tryd.underlying35 hi0 hz0 hz1 hz2 rfl (by decide) (.slice A L.length c) L.length (L.map sL) rfl (((Ext.one wr (.cells #[.string ⟨#[]⟩, .string ⟨#[]⟩, .string ⟨#[]⟩] 9 (0, 0))).kept (fun _ _ => true)).row HO.out fun _ _ => rfl) (.slice (some ⟨wr.heap.size, 0, none⟩) 3 3) 3 [.string ⟨#[]⟩, .string ⟨#[]⟩, .string ⟨#[]⟩] rfl rfl HNEW.out (by simp [Value.oneCell']) (by unfold maxLen; omega) (by omega) (by have := HX.out.size; simp; omega) (L.length + 3) rfl ((L ++ [[], [], []]).map sL) HAPP.out ?_; intro A5 c5 w5 hown hgrow hat; have HX5 := Lib.hid (grown_ext (HX.out.trans (Ext.one wr (.cells #[.string ⟨#[]⟩, .string ⟨#[]⟩, .string ⟨#[]⟩] 9 (0, 0)))) hgrow fun b hb => own_base HO.out b hb); have HO5 := Lib.hid hown; clear hown hgrow hat)
      clear HNEW HAPP HO HIK
      obtain ⟨g, rfl, hgl, hws⟩ := strs_at HO5.out (by simp) (by omega)
      have HXa := Lib.hid (HX1.out.trans HX5.out)
      obtain ⟨p, hp⟩ : ∃ p, p = L ++ [[], [], []] := ⟨_, rfl⟩
      rw [← hp] at hws
      obtain ⟨p0, hp0⟩ : ∃ q, p[0]? = some q := ⟨_, List.getElem?_eq_getElem (by rw [hp]; simp)⟩
      obtain ⟨p1, hp1⟩ : ∃ q, p[1]? = some q := ⟨_, List.getElem?_eq_getElem (by rw [hp]; simp)⟩
      obtain ⟨p2, hp2⟩ : ∃ q, p[2]? = some q := ⟨_, List.getElem?_eq_getElem (by rw [hp]; simp)⟩
      have f0 := hws 0 _ hp0
      have f1 := hws 1 _ hp1
      have f2 := hws 2 _ hp2
      have hlp : ∀ (j : Nat) q, p[j]? = some q → q.length ≤ 10000 := by
        intro j q hq
        have hm := List.mem_of_getElem? hq
        rw [hp] at hm
        rcases List.mem_append.1 hm with h | h
        · rw [← HWS.out] at h
          have := wdR_len _ _ _ h
          have := HL.out
          simp only [List.length_nil] at *
          omega
        · have : q = [] := by simpa using h
          rw [this]
          simp
      have HV1 := Lib.hid (fun v => value_ok p1 (hlp 1 _ hp1) v)
      have HV2 := Lib.hid (fun v => value_ok p2 (hlp 2 _ hp2) v)
      have HF := Lib.hid (fun v (k : Ext w5 v) => And.intro ((k.kept (fun _ _ => true)).cell f0 fun _ _ => rfl) (And.intro ((k.kept (fun _ _ => true)).cell f1 fun _ _ => rfl) (And.intro ((k.kept (fun _ _ => true)).cell f2 fun _ _ => rfl) (Nat.lt_of_lt_of_le hgl k.size))))
      have HP := Lib.hid (show enR (wdR [] x) = (if knR p0 = 3 then (⟨3, 0, valR p1⟩ : En) else ⟨knR p0, valR p1, if knR p0 = 1 ∨ knR p0 = 2 then 0 else valR p2⟩) by
        rw [HWS.out]
        unfold enR
        rw [← hp]
        simp only [List.getD_eq_getElem?_getD, hp0, hp1, hp2, Option.getD_some])
      clear hp hp0 hp1 hp2 hws hlt HWS HWD hfi hLi hlp
      obtain ⟨n, hn⟩ : ∃ n, n = L.length + 3 := ⟨_, rfl⟩
      have hn3 : 3 ≤ n ∧ n ≤ 10000 := by omega
      rw [← hn]
      clear hn
      refine region_grow (n := 10) (s := 10) (by kernel_rfl) (fun _ => G10 w5 (.slice (some ⟨g, 0, none⟩) n c5) g p1 p2) (fun _ w => Ext w5 w) rfl (Ext.drew _) (RgOps.of (z := 78) (by kernel_rfl) rfl G10.mono (fun _ _ _ h k => h.trans k) ?op (fun _ h => absurd h (Nat.lt_irrefl _))) ?fin
      case op =>
        intro j o hj hs' ho f a' w' hF hX hD K hK
        have e4 : a'.tmps.getD 4 undef = .slice (some ⟨g, 0, none⟩) n c5 := hF.2.2 4 (by kernel_rfl)
        obtain ⟨q0, q1, q2, q3⟩ := HF.out w' hX
        have zn1 : (1 : Int) < (n : Int) := by omega
        have zn2 : (2 : Int) < (n : Int) := by omega
        match j, hj with
        | m + 10, h => exact absurd h (by omega)
        | 0, _ =>
          obtain rfl := Option.some.inj (show some _ = some o from ho)
          clear ho hD
          go_simp
          exact hK _ _ rfl (Ext.refl _)
        | 1, _ =>
          obtain rfl := Option.some.inj (show some _ = some o from ho)
          obtain ⟨d, hd, hG⟩ := hD _ (Array.mem_of_getElem? (i := 0) rfl) rfl
          cases hd
          replace hG : a'.tmps.getD 36 undef = .slice (some ⟨g, 0, none⟩) n c5 := hG
          clear ho hD
          go_simp
          exact hK _ _ rfl (Ext.refl _)
        | 2, _ =>
          obtain rfl := Option.some.inj (show some _ = some o from ho)
          obtain ⟨d, hd, hG⟩ := hD _ (Array.mem_of_getElem? (i := 0) rfl) rfl
          cases hd
          replace hG : a'.tmps.getD 37 undef = .pointer (some ⟨g, 1, none⟩) := hG
          clear ho hD
          go_simp
          exact hK _ _ rfl (Ext.refl _)
        | 3, _ =>
          obtain rfl := Option.some.inj (show some _ = some o from ho)
          obtain ⟨d, hd, hG⟩ := hD _ (Array.mem_of_getElem? (i := 0) rfl) rfl
          cases hd
          replace hG : a'.tmps.getD 38 undef = .string ⟨p1.toArray⟩ := hG
          clear ho hD
          go_simp
          refine (HV1.out _).mono ?_
          rintro e u ⟨rfl, hx⟩
          exact hK _ _ rfl hx
        | 4, _ =>
          obtain rfl := Option.some.inj (show some _ = some o from ho)
          clear ho hD
          go_simp
          exact hK _ _ rfl (Ext.refl _)
        | 5, _ =>
          obtain rfl := Option.some.inj (show some _ = some o from ho)
          obtain ⟨d, hd, hG⟩ := hD _ (Array.mem_of_getElem? (i := 0) rfl) rfl
          cases hd
          replace hG : a'.tmps.getD 40 undef = .slice (some ⟨g, 0, none⟩) n c5 := hG
          clear ho hD
          go_simp
          exact hK _ _ rfl (Ext.refl _)
        | 6, _ =>
          obtain rfl := Option.some.inj (show some _ = some o from ho)
          obtain ⟨d, hd, hG⟩ := hD _ (Array.mem_of_getElem? (i := 0) rfl) rfl
          cases hd
          replace hG : a'.tmps.getD 41 undef = .pointer (some ⟨g, 2, none⟩) := hG
          clear ho hD
          go_simp
          exact hK _ _ rfl (Ext.refl _)
        | 7, _ =>
          obtain rfl := Option.some.inj (show some _ = some o from ho)
          obtain ⟨d, hd, hG⟩ := hD _ (Array.mem_of_getElem? (i := 0) rfl) rfl
          cases hd
          replace hG : a'.tmps.getD 42 undef = .string ⟨p2.toArray⟩ := hG
          clear ho hD
          go_simp
          refine (HV2.out _).mono ?_
          rintro e u ⟨rfl, hx⟩
          exact hK _ _ rfl hx
        | 8, _ =>
          obtain rfl := Option.some.inj (show some _ = some o from ho)
          obtain ⟨d, hd, hG⟩ := hD _ (Array.mem_of_getElem? (i := 0) rfl) rfl
          cases hd
          replace hG : a'.tmps.getD 39 undef = .int .i64 (valR p1) := hG
          obtain ⟨d, hd, hH⟩ := hD _ (Array.mem_of_getElem? (i := 1) rfl) rfl
          cases hd
          replace hH : a'.tmps.getD 43 undef = .int .i64 (valR p2) := hH
          have hG' : a'.tmps[39]?.getD undef = .int .i64 (valR p1) := by simpa using hG
          have hH' : a'.tmps[43]?.getD undef = .int .i64 (valR p2) := by simpa using hH
          clear ho hD
          go_simp
          exact hK _ _ rfl (Ext.refl _)
        | 9, _ =>
          obtain rfl := Option.some.inj (show some _ = some o from ho)
          clear ho hD
          go_simp
          exact hK _ _ ⟨_, rfl, World.alloc_heap_new _ _, hX.size⟩ (Ext.one _ _)
      case fin =>
        intro a' w' hF hX hG
        obtain ⟨u, rfl, hu⟩ := hF.puts hG [36, 37, 38, 39, 40, 41, 42, 43, 44, 7] (by kernel_rfl) (z := 78) rfl (by decide)
        obtain ⟨d, hd, g8⟩ := hu 8 (by omega)
        cases hd
        replace g8 : u 44 = .agg #[.int .i64 0, .int .i64 (valR p1), .int .i64 (valR p2)] := g8
        obtain ⟨d, hd, b7, g9, hb7, hs7⟩ := hu 9 (by omega)
        cases hd
        replace g9 : u 7 = .pointer (some ⟨b7, 0, none⟩) := g9
        clear hu hG hF
        simp only [List.drop_succ_cons, List.drop_zero, List.foldl_cons, List.foldl_nil, g8, g9]
        generalize u 36 = v36
        generalize u 37 = v37
        generalize u 38 = v38
        generalize u 39 = v39
        generalize u 40 = v40
        generalize u 41 = v41
        generalize u 42 = v42
        generalize u 43 = v43
        clear g8 g9
        have HR0 : RO w br b7 ⟨0, 0, 0⟩ w' := ⟨HX1.out.trans ((show Ext W1 w5 from HX5.out).trans hX), (((show Ext W1 w5 from HX5.out).trans hX).kept (fun _ _ => true)).same _ _ HR1.out rfl, hb7, by rw [← hbr]; exact Nat.le_refl _, Nat.le_trans HX1.out.size (Nat.le_trans (show Ext W1 w5 from HX5.out).size hs7), by
          have h1 : br < W1.heap.size := (Array.getElem?_eq_some_iff.1 HR1.out).1
          have h2 := (show Ext W1 w5 from HX5.out).size
          omega⟩
        have HR := Lib.hid HR0
        have HSZ := Lib.hid hs7
        have HX' := Lib.hid (show Ext w5 w' from hX)
        clear HR0 hX hb7 hs7
        obtain ⟨⟨x0, x1, x2, xl⟩, ⟨r0, r1, r2, rl⟩, hzx, hzr⟩ := HR.out.cells
        obtain ⟨f0, f1, f2, hgl⟩ := HF.out w' HX'.out
        go_upto_region 11 with (fail)
        have HR8 := Lib.hid (((HR.out.putK 0).putA (valR p1)).putN (valR p2))
        have hk8 : Kept (ne' b7) w' (((w'.setCell ⟨b7, 0, none⟩ (.int .i64 0)).setCell ⟨b7, 1, none⟩ (.int .i64 (valR p1))).setCell ⟨b7, 2, none⟩ (.int .i64 (valR p2))) := ((Kept.one b7 _ 0 _).trans (Kept.one b7 _ 1 _)).trans (Kept.one b7 _ 2 _)
        have HX8 := Lib.hid (show Ext w5 (((w'.setCell ⟨b7, 0, none⟩ (.int .i64 0)).setCell ⟨b7, 1, none⟩ (.int .i64 (valR p1))).setCell ⟨b7, 2, none⟩ (.int .i64 (valR p2))) from ext_ne HX'.out hk8 HSZ.out)
        clear hk8 HX' HR x0 x1 x2 xl r0 r1 r2 rl hzx hzr f0 f1 f2 hgl
        dsimp only at HR8
        generalize ((w'.setCell ⟨b7, 0, none⟩ (.int .i64 0)).setCell ⟨b7, 1, none⟩ (.int .i64 (valR p1))).setCell ⟨b7, 2, none⟩ (.int .i64 (valR p2)) = w8 at *
        obtain ⟨f0, f1, f2, hgl⟩ := HF.out w8 HX8.out
        have zn0 : (0 : Int) < (n : Int) := by omega
        go_upto_block 2 with fail
        clear f0 f1 f2 hgl zn0 HF HV1 HV2
        obtain ⟨e, he⟩ : ∃ e, e = enR (wdR [] x) := ⟨_, rfl⟩
        rw [← he] at HP
        go_cut [] (fun wx => RO w br b7 e wx)
        case first =>
          obtain ⟨⟨x0, x1, x2, xl⟩, ⟨r0, r1, r2, rl⟩, hzx, hzr⟩ := HR8.out.cells
          dsimp only at x0 x1 x2
          clear r0 r1 r2 rl hzr
          have hP := HP.out
          unfold knR at hP
          by_cases k1 : p0 = wdE 1
          · subst k1
            have hee : e = ⟨1, valR p1, 0⟩ := by rw [hP]; rfl
            clear hP
            unfold wdE
            go_wp2_with fail
            go_meet
            case rel => rw [hee]; exact (HR8.out.putK 1).putN 0
          · by_cases k2 : p0 = wdE 2
            · subst k2
              have hee : e = ⟨2, valR p1, 0⟩ := by rw [hP]; rfl
              clear hP
              unfold wdE
              go_wp2_with fail
              go_meet
              case rel => rw [hee]; exact (HR8.out.putK 2).putN 0
            · by_cases k3 : p0 = wdE 3
              · subst k3
                have hee : e = ⟨3, 0, valR p1⟩ := by rw [hP]; rfl
                clear hP
                unfold wdE
                go_wp2_with fail
                go_meet
                case rel => rw [hee]; exact ((HR8.out.putK 3).putN (valR p1)).putA 0
              · by_cases k4 : p0 = wdE 4
                · subst k4
                  have hee : e = ⟨4, valR p1, valR p2⟩ := by rw [hP]; rfl
                  clear hP
                  unfold wdE
                  go_wp2_with fail
                  go_meet
                  case rel => rw [hee]; exact HR8.out.putK 4
                · by_cases k5 : p0 = wdE 5
                  · subst k5
                    have hee : e = ⟨5, valR p1, valR p2⟩ := by rw [hP]; rfl
                    clear hP
                    unfold wdE
                    go_wp2_with fail
                    go_meet
                    case rel => rw [hee]; exact HR8.out.putK 5
                  · have hee : e = ⟨0, valR p1, valR p2⟩ := by rw [hP]; simp [k1, k2, k3, k4, k5]
                    clear hP
                    have z1 : (p0 == [114, 117, 110]) = false := by simpa [wdE] using k1
                    have z2 : (p0 == [119, 111, 114, 107]) = false := by simpa [wdE] using k2
                    have z3 : (p0 == [116, 105, 99, 107]) = false := by simpa [wdE] using k3
                    have z4 : (p0 == [105, 110, 106, 101, 99, 116]) = false := by simpa [wdE] using k4
                    have z5 : (p0 == [108, 105, 102, 101]) = false := by simpa [wdE] using k5
                    clear k1 k2 k3 k4 k5
                    go_wp2_with fail
                    go_meet
                    case rel => rw [hee]; exact HR8.out
        case rest =>
          have HR6 := Lib.hid hcut
          clear hcut HR8 HX8 HP
          go_upto_region 26 with fail
          generalize wc = w6 at *
          have hok : e.ok := by rw [he]; exact enR_ok _
          have HMY := Lib.hid (fun u => refMay_ok e u)
          have HLI := Lib.hid (fun (hk : mayE e = true) u => refLine_ok hok (may_kind hk) u)
          have HE := Lib.hid he
          clear he hok
          obtain ⟨k, a, m⟩ := e
          unfold En.v at HMY HLI
          dsimp only at HMY HLI
          obtain ⟨⟨x0, x1, x2, xl⟩, ⟨r0, r1, r2, rl⟩, hzx, hzr⟩ := HR6.out.cells
          dsimp only at x0 x1 x2
          cases hm : mayE ⟨k, a, m⟩ with
          | false =>
            rw [hm] at HMY
            have HQ := Lib.hid (show (false : Bool) = (mayE (enR (wdR [] x)) && (lnE (enR (wdR [] x)) ++ [10] == x)) by rw [← HE.out, hm]; rfl)
            clear hm HLI
            first | (go_region_with (go_at_call 25; refine (HMY.out _).mono ?_; rintro e8 w8 ⟨rfl, hx8⟩; have HX8 := Lib.hid ((Ext.drew _).trans hx8); have HR8 := Lib.hid (HR6.out.ext HX8.out); clear hx8 x0 x1 x2 xl r0 r1 r2 rl hzx hzr; obtain ⟨⟨x0, x1, x2, xl⟩, ⟨r0, r1, r2, rl⟩, hzx, hzr⟩ := HR8.out.cells; dsimp only at x0 x1 x2)) | fail
            all_goals
              go_wp2_with fail
              change bodyPost _ _ _ _ _ (put3 w8 br ⟨k, a, m⟩)
              obtain ⟨ho, hk⟩ := put3_ok HR8.out.r ⟨k, a, m⟩
              obtain ⟨z0, z1, z2, zl⟩ := En.o_cells ho
              exact bodyPost_ret (v := .tuple #[En.v ⟨k, a, m⟩, .bool false]) (by simp [results, Tryd.results24, go_sem, En.v, z0, z1, z2]) rfl ⟨false, by rw [← HE.out], ext_ne HR8.out.ex hk HR8.out.lr, HQ.out⟩
          | true =>
            rw [hm] at HMY
            have HLJ := Lib.hid (HLI.out hm)
            obtain ⟨tx, htx⟩ : ∃ tx, tx = lnE ⟨k, a, m⟩ ++ [10] := ⟨_, rfl⟩
            rw [← htx] at HLJ
            have HQ0 := Lib.hid (show (tx == x) = (mayE (enR (wdR [] x)) && (lnE (enR (wdR [] x)) ++ [10] == x)) by rw [← HE.out, hm, ← htx]; rfl)
            clear hm HLI htx
            cases hz : tx == x
            · have HQ := Lib.hid (show false = (mayE (enR (wdR [] x)) && (lnE (enR (wdR [] x)) ++ [10] == x)) by rw [← HQ0.out, hz])
              clear HQ0
              first | (go_region_with (first | (go_at_call 26; refine (HLJ.out _).mono ?_; rintro e9 w9 ⟨rfl, hx9⟩; have HR9 := Lib.hid (HR8.out.ext hx9); clear hx9 x0 x1 x2 xl r0 r1 r2 rl hzx hzr; obtain ⟨⟨x0, x1, x2, xl⟩, ⟨r0, r1, r2, rl⟩, hzx, hzr⟩ := HR9.out.cells; dsimp only at x0 x1 x2) | (go_at_call 25; refine (HMY.out _).mono ?_; rintro e8 w8 ⟨rfl, hx8⟩; have HX8 := Lib.hid ((Ext.drew _).trans hx8); have HR8 := Lib.hid (HR6.out.ext HX8.out); clear hx8 x0 x1 x2 xl r0 r1 r2 rl hzx hzr; obtain ⟨⟨x0, x1, x2, xl⟩, ⟨r0, r1, r2, rl⟩, hzx, hzr⟩ := HR8.out.cells; dsimp only at x0 x1 x2))) | fail
              all_goals
                go_wp2_with fail
                change bodyPost _ _ _ _ _ (put3 w9 br ⟨k, a, m⟩)
                obtain ⟨ho, hk⟩ := put3_ok HR9.out.r ⟨k, a, m⟩
                obtain ⟨z0, z1, z2, zl⟩ := En.o_cells ho
                exact bodyPost_ret (v := .tuple #[En.v ⟨k, a, m⟩, .bool false]) (by simp [results, Tryd.results24, go_sem, En.v, z0, z1, z2]) rfl ⟨false, by rw [← HE.out], ext_ne HR9.out.ex hk HR9.out.lr, HQ.out⟩
            · have HQ := Lib.hid (show true = (mayE (enR (wdR [] x)) && (lnE (enR (wdR [] x)) ++ [10] == x)) by rw [← HQ0.out, hz])
              clear HQ0
              first | (go_region_with (first | (go_at_call 26; refine (HLJ.out _).mono ?_; rintro e9 w9 ⟨rfl, hx9⟩; have HR9 := Lib.hid (HR8.out.ext hx9); clear hx9 x0 x1 x2 xl r0 r1 r2 rl hzx hzr; obtain ⟨⟨x0, x1, x2, xl⟩, ⟨r0, r1, r2, rl⟩, hzx, hzr⟩ := HR9.out.cells; dsimp only at x0 x1 x2) | (go_at_call 25; refine (HMY.out _).mono ?_; rintro e8 w8 ⟨rfl, hx8⟩; have HX8 := Lib.hid ((Ext.drew _).trans hx8); have HR8 := Lib.hid (HR6.out.ext HX8.out); clear hx8 x0 x1 x2 xl r0 r1 r2 rl hzx hzr; obtain ⟨⟨x0, x1, x2, xl⟩, ⟨r0, r1, r2, rl⟩, hzx, hzr⟩ := HR8.out.cells; dsimp only at x0 x1 x2))) | fail
              all_goals
                go_wp2_with fail
                change bodyPost _ _ _ _ _ (put3 w9 br ⟨k, a, m⟩)
                obtain ⟨ho, hk⟩ := put3_ok HR9.out.r ⟨k, a, m⟩
                obtain ⟨z0, z1, z2, zl⟩ := En.o_cells ho
                exact bodyPost_ret (v := .tuple #[En.v ⟨k, a, m⟩, .bool true]) (by simp [results, Tryd.results24, go_sem, En.v, z0, z1, z2]) rfl ⟨true, by rw [← HE.out], ext_ne HR9.out.ex hk HR9.out.lr, HQ.out⟩
end Go.Proofs.YtkljdpjdlccidaaDoor
