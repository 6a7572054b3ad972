/- The script of a text, of the program. -/
import Derived.Test.YtkljdpjdlccidaaDoorSaH
import Derived.Deep.LoopGhost
namespace Go.Proofs.YtkljdpjdlccidaaDoor
open Go.RowKit Go.Shelf
attribute [local go_sem] Oper.semAt_some
theorem infoEn : (Tryd.prog.info? 42).map (fun i => (i.zero, i.size, i.bytes)) = some (some (.agg #[.int .i64 0, .int .i64 0, .int .i64 0]), 3, 24) := by kernel_rfl
theorem cut_hit (x r : List UInt8) (h : (10 : UInt8) ∉ x) : Lib.cut (x ++ 10 :: r) [10] = (x, r, true) := by
  have hi : Lib.index (x ++ 10 :: r) [10] = x.length := by rw [Lib.index_one]; exact ib_at x 10 r h
  unfold Lib.cut
  rw [hi, if_pos (by omega)]
  simp
theorem cut_no (x : List UInt8) (h : (10 : UInt8) ∉ x) : Lib.cut x [10] = (x, [], false) := by
  have hi : Lib.index x [10] = -1 := by rw [Lib.index_one]; exact ib_no x 10 h
  unfold Lib.cut
  rw [hi, if_neg (by decide)]
theorem cut_ok {w : World} (h : TabR w) (s : List UInt8) (hl : s.length ≤ 1000000) {x r : List UInt8} {b : Bool} (hc : Lib.cut s [10] = (x, r, b)) : Calls Tryd.prog 22 #[.string ⟨s.toArray⟩, .string ⟨#[10]⟩] w fun e w' => e = .returned (.tuple #[.string ⟨x.toArray⟩, .string ⟨r.toArray⟩, .bool b]) ∧ Ext w w' := by
  obtain ⟨m, hm⟩ := h.mx
  have hs : (⟨s.toArray⟩ : ByteArray).size = s.length := str_size s
  have := Any.strings_Cut Tryd.lays145 ⟨s.toArray⟩ ⟨#[10]⟩ m w (by rw [hs]; omega) hm
  have hd : (⟨s.toArray⟩ : ByteArray).data.toList = s := by simp
  have hd2 : (⟨#[10]⟩ : ByteArray).data.toList = [10] := rfl
  rw [hd, hd2, hc] at this
  refine this.mono fun e w' k => ⟨k.1, ?_⟩
  obtain ⟨n, hn⟩ := k.2
  rw [hn]
  exact Ext.drewN w n
theorem En.flat_len (l : List En) : (l.flatMap En.cells).length = l.length * 3 := by
  induction l with
  | nil => rfl
  | cons e l ih => simp only [List.flatMap_cons, List.length_append, List.length_cons, ih]; simp [En.cells]; omega
/-- What is left to be read, when so much was read. -/
def Left (s r : List UInt8) (L : List En) : Prop := scrE s = (scrE r).map (L ++ ·)
theorem Left.line {s x r : List UInt8} {L : List En} {e : En} (h : Left s (x ++ 10 :: r) L) (hx : (10 : UInt8) ∉ x) (he : rdE x = some e) : Left s r (L ++ [e]) := by
  unfold Left at *
  rw [h, scrE_line hx, he]
  cases scrE r with
  | none => rfl
  | some l => simp
theorem Left.bad {s x r : List UInt8} {L : List En} (h : Left s (x ++ 10 :: r) L) (hx : (10 : UInt8) ∉ x) (he : rdE x = none) : scrE s = none := by
  unfold Left at h
  rw [h, scrE_line hx, he]
  rfl
theorem Left.none {s r : List UInt8} {L : List En} (h : Left s r L) (hx : (10 : UInt8) ∉ r) (hr : r ≠ []) : scrE s = none := by
  unfold Left at h
  rw [h, scrE_none hx hr]
  rfl
theorem Left.done {s : List UInt8} {L : List En} (h : Left s [] L) : scrE s = some L := by
  unfold Left at h
  rw [h, scrE_nil]
  simp
theorem rdE_first {x : List UInt8} {e : En} {i : Nat} (h0 : 1 ≤ i ∧ i ≤ 5) (h : ∀ j : Nat, 1 ≤ j → j < i → rdK x j = Option.none) (he : rdK x i = some e) : rdE x = some e := by
  unfold rdE
  obtain rfl | rfl | rfl | rfl | rfl : i = 1 ∨ i = 2 ∨ i = 3 ∨ i = 4 ∨ i = 5 := by omega
  · have e1 : rdK x 1 = some e := he
    simp [rdFrom, e1]
  · have n1 : rdK x 1 = Option.none := h 1 (by decide) (by decide)
    have e1 : rdK x 2 = some e := he
    simp [rdFrom, n1, e1]
  · have n1 : rdK x 1 = Option.none := h 1 (by decide) (by decide)
    have n2 : rdK x 2 = Option.none := h 2 (by decide) (by decide)
    have e1 : rdK x 3 = some e := he
    simp [rdFrom, n1, n2, e1]
  · have n1 : rdK x 1 = Option.none := h 1 (by decide) (by decide)
    have n2 : rdK x 2 = Option.none := h 2 (by decide) (by decide)
    have n3 : rdK x 3 = Option.none := h 3 (by decide) (by decide)
    have e1 : rdK x 4 = some e := he
    simp [rdFrom, n1, n2, n3, e1]
  · have n1 : rdK x 1 = Option.none := h 1 (by decide) (by decide)
    have n2 : rdK x 2 = Option.none := h 2 (by decide) (by decide)
    have n3 : rdK x 3 = Option.none := h 3 (by decide) (by decide)
    have n4 : rdK x 4 = Option.none := h 4 (by decide) (by decide)
    have e1 : rdK x 5 = some e := he
    simp [rdFrom, n1, n2, n3, n4, e1]
theorem rdE_none {x : List UInt8} (h : ∀ j : Nat, 1 ≤ j → j < 6 → rdK x j = Option.none) : rdE x = Option.none := by
  unfold rdE
  have n1 : rdK x 1 = Option.none := h 1 (by decide) (by decide)
  have n2 : rdK x 2 = Option.none := h 2 (by decide) (by decide)
  have n3 : rdK x 3 = Option.none := h 3 (by decide) (by decide)
  have n4 : rdK x 4 = Option.none := h 4 (by decide) (by decide)
  have n5 : rdK x 5 = Option.none := h 5 (by decide) (by decide)
  simp [rdFrom, n1, n2, n3, n4, n5]

theorem read_ag {w : World} (hT : TabR w) (x : List UInt8) (hl : x.length ≤ 6000) {kk : Nat} (hkk : 1 ≤ kk ∧ kk ≤ 5) : Calls Tryd.prog 23 #[.string ⟨x.toArray⟩, .int .i64 kk] w fun r w' => ∃ e b, r = .returned (.tuple #[.agg #[.int .i64 (En.k e), .int .i64 (En.a e), .int .i64 (En.n e)], .bool b]) ∧ Ext w w' ∧ (b = true → rdK x kk = some e) ∧ (b = false → rdK x kk = none) := read_ok hT x hl hkk
/-- What Of answers of a text. -/
def OfQ (w : World) (s : List UInt8) (e : Ending) (w' : World) : Prop := Ext w w' ∧ ((scrE s = none ∧ e = .returned (.tuple #[.slice none 0 0, .int .i64 12])) ∨ ∃ L A c, scrE s = some L ∧ e = .returned (.tuple #[.slice A L.length c, .int .i64 0]) ∧ w'.ownsRow w.heap.size 42 3 (.slice A L.length c) L.length (L.flatMap En.cells))
def zzO (e : En) : Obj := e.o
set_option maxRecDepth 100000 in
set_option maxHeartbeats 2000000 in
theorem Of_ok {w : World} (hT : TabR w) (s : List UInt8) (hl : s.length ≤ 6000) : Calls Tryd.prog 10 #[.string ⟨s.toArray⟩] w fun e w' => OfQ w s e w' := by
  obtain ⟨i0, hi0, hz0, hz1, hz2⟩ := infoParts infoEn
  have HT := Lib.hid (fun v (k : Ext w v) => hT.ext k)
  have HL := Lib.hid hl
  clear hT hl
  go_enter Tryd.func10, Tryd.ntmps10
  go_wp2
  go_step3
  go_wp2
  go_step3
  go_wp2
  go_loopg [0, 4, 5, 6, 7, 8, 9, 10] s.length (fun k v0 v4 v5 v6 v7 v8 v9 v10 wr => ∃ (r : List UInt8) (L : List En) (A : Option Addr) (c : Nat), v0 = .string ⟨r.toArray⟩ ∧ v4 = .slice A L.length c ∧ r.length ≤ k ∧ r.length ≤ s.length ∧ L.length + r.length ≤ s.length ∧ Left s r L ∧ Ext w wr ∧ wr.ownsRow w.heap.size 42 3 (.slice A L.length c) L.length (L.flatMap En.cells))
  case atStart => exact ⟨s, [], none, 0, rfl, rfl, Nat.le_refl _, Nat.le_refl _, by simp, by unfold Left; cases scrE s <;> rfl, Ext.refl _, World.ownsRow_nil _ _ _ _⟩
  case round =>
    obtain ⟨r, L, A, c, rfl, rfl, hk, hrs, hLr, hlf, hx, ho⟩ := hrel
    have HX := Lib.hid hx
    have HO := Lib.hid ho
    have HLF := Lib.hid hlf
    have HK := Lib.hid (And.intro hk (And.intro hrs hLr))
    have hEL := En.flat_len L
    have HEL := Lib.hid hEL
    clear hx ho hlf hk hrs hLr hEL
    cases r with
    | nil =>
      go_wp2_with fail
      go_ret2
      exact ⟨HX.out, .inr ⟨L, A, c, HLF.out.done, rfl, HO.out⟩⟩
    | cons c0 r0 =>
      obtain ⟨r, hr⟩ : ∃ r, r = c0 :: r0 := ⟨_, rfl⟩
      rw [← hr] at HK HLF ⊢
      have hne : r ≠ [] := by rw [hr]; simp
      have zne : (r == []) = false := by simpa using hne
      have HNE := Lib.hid hne
      clear hr hne
      have hrl : r.length ≤ 6000 := by have := HK.out; have := HL.out; omega
      have HOL := Lib.hid (And.intro HK.out.2.1 HK.out.2.2)
      by_cases h10 : (10 : UInt8) ∈ r
      · obtain ⟨x, r1, hr, hx10⟩ := List.eq_append_cons_of_mem h10
        have HR := Lib.hid hr
        have HX10 := Lib.hid hx10
        have hxl : x.length ≤ 6000 := by rw [hr] at hrl; simp only [List.length_append] at hrl; omega
        have HXL := Lib.hid hxl
        have HC := Lib.hid (cut_ok (x := x) (r := r1) (b := true) (HT.out wr HX.out) r (by omega) (by rw [hr]; exact cut_hit x r1 hx10))
        clear h10 hr hx10 hxl hrl
        go_wp2_with (go_at_call 22; refine HC.out.mono ?_; rintro e w2 ⟨rfl, hx⟩; have HX2 := Lib.hid (HX.out.trans hx); have HO2 := Lib.hid ((hx.kept (fun _ _ => true)).row HO.out fun _ _ => rfl); clear hx)
        clear HC
        go_loopg [4, 8, 9, 10] 5 (fun k v4 v8 v9 v10 wx => ∃ i : Nat, i + k = 6 ∧ 1 ≤ i ∧ v8 = .int .i64 i ∧ v4 = .slice A L.length c ∧ Ext w wx ∧ wx.ownsRow w.heap.size 42 3 (.slice A L.length c) L.length (L.flatMap En.cells) ∧ ∀ j : Nat, 1 ≤ j → j < i → rdK x j = none)
        case atStart => exact ⟨1, rfl, Nat.le_refl _, rfl, rfl, HX2.out, HO2.out, fun j h1 h2 => absurd h2 (by omega)⟩
        case round =>
          clear HX2 HO2 HX HO
          obtain ⟨i, hik, hi1, rfl, rfl, hx, ho, hno⟩ := hrel
          have HX := Lib.hid hx
          have HO := Lib.hid ho
          have HNO := Lib.hid hno
          have HIK := Lib.hid (And.intro hik hi1)
          clear hx ho hno
          rcases Nat.lt_or_ge i 6 with hi | hi
          · have z : (i : Int) ≤ 5 := by omega
            have HRD := Lib.hid (read_ag (HT.out _ HX.out) x HXL.out (kk := i) ⟨hi1, by omega⟩)
            have HI := Lib.hid hi
            clear hik hi1 hi
            go_upto_region 9 with (go_at_call 23; refine HRD.out.mono ?_; rintro e v ⟨ej, bj, rfl, hx, ht, hf⟩; have HXv := Lib.hid (HX.out.trans hx); have HOv := Lib.hid ((hx.kept (fun _ _ => true)).row HO.out fun _ _ => rfl); have HBJ := Lib.hid (And.intro ht hf); clear hx ht hf)
            obtain ⟨u, hu⟩ : ∃ u, u = v.alloc (En.o ej) := ⟨_, rfl⟩
            change Code.wp _ _ _ _ (v.alloc (En.o ej))
            rw [← hu]
            have hx : Ext v u := by rw [hu]; exact Ext.one _ _
            have hb : u.heap[v.heap.size]? = some (En.o ej) := by rw [hu]; exact World.alloc_heap_new _ _
            obtain ⟨x0, x1, x2, xl⟩ := En.o_cells hb
            have HXu := Lib.hid (HXv.out.trans hx)
            have HOu := Lib.hid ((hx.kept (fun _ _ => true)).row HOv.out fun _ _ => rfl)
            have hgo : w.heap.size ≤ u.heap.size := HXu.out.size
            have HSZ := Lib.hid hgo
            clear hu hx hb HXv HOv HRD hgo
            generalize v.heap.size = bj' at *
            cases bj with
            | false =>
              have HN := Lib.hid (HBJ.out.2 rfl)
              clear HBJ x0 x1 x2 xl
              go_wp2_with fail
              go_roundg (gk - 1)
              case measure => have := HIK.out; have := HI.out; omega
              case rel => exact ⟨i + 1, by have := HIK.out; have := HI.out; omega, by omega, by go_num, rfl, HXu.out, HOu.out, fun j h1 h2 => by
                rcases Nat.lt_or_ge j i with h | h
                · exact HNO.out j h1 h
                · obtain rfl : j = i := by omega
                  exact HN.out⟩
            | true =>
              have HE := Lib.hid (rdE_first ⟨HIK.out.2, by have := HI.out; omega⟩ HNO.out (HBJ.out.1 rfl))
              clear HBJ
              have hll : L.length ≤ 6000 := by have := HOL.out; have := HL.out; omega
              have HLL := Lib.hid hll
              have HNEW := Lib.hid (show Src (u.alloc (En.o ej)) (.slice (some ⟨u.heap.size, 0, none⟩) 1 1) 1 ej.cells from .inr ⟨_, _, rfl, World.news_of_block (World.alloc_heap_new u (En.o ej))⟩)
              have HAPP := Lib.hid (show L.flatMap En.cells ++ ej.cells = (L ++ [ej]).flatMap En.cells by simp)
              clear hll
              go_wp2_with (at_builtin; refine wpList_append_any rfl _ _ 22 rfl w.heap.size 42 i0 (.agg #[.int .i64 0, .int .i64 0, .int .i64 0]) 3 24 Tryd.underlying22 hi0 hz0 hz1 hz2 rfl (by decide) (.slice A L.length c) L.length (L.flatMap En.cells) rfl (((Ext.one u (En.o ej)).kept (fun _ _ => true)).row HOu.out fun _ _ => rfl) (.slice (some ⟨u.heap.size, 0, none⟩) 1 1) 1 ej.cells rfl (by simp [En.cells]) HNEW.out (by simp [En.cells, Value.oneCell']) (by unfold maxLen; have := HLL.out; omega) (by have := HLL.out; omega) (by have := HSZ.out; simp; omega) (L.length + 1) rfl ((L ++ [ej]).flatMap En.cells) HAPP.out ?_; intro A5 c5 w5 hown hgrow hat; have HX5 := Lib.hid (grown_ext (HXu.out.trans (Ext.one u (En.o ej))) hgrow fun b hb => own_base HOu.out b hb); have HO5 := Lib.hid hown; clear hown hgrow hat x0 x1 x2 xl)
              go_roundg r1.length
              case measure => have := HK.out.1; rw [HR.out] at this; simp at this; omega
              case rel => exact ⟨r1, L ++ [ej], A5, c5, rfl, by simp, Nat.le_refl _, by have := HOL.out.1; rw [HR.out] at this; simp at this; omega, by have := HOL.out.2; rw [HR.out] at this; simp at this ⊢; omega, by have h := HLF.out; rw [HR.out] at h; exact h.line HX10.out HE.out, HX5.out, by simpa using HO5.out⟩
          · obtain rfl : i = 6 := by omega
            have HB := Lib.hid (show scrE s = none by have h := HLF.out; rw [HR.out] at h; exact h.bad HX10.out (rdE_none HNO.out))
            clear hik hi1 hi
            go_wp2_with fail
            go_ret2
            exact ⟨HX.out, .inl ⟨HB.out, rfl⟩⟩
      · have HB := Lib.hid (HLF.out.none h10 HNE.out)
        have HXL := Lib.hid hrl
        have HC := Lib.hid (cut_ok (x := r) (r := []) (b := false) (HT.out wr HX.out) r (by omega) (cut_no r h10))
        clear h10 hrl
        go_wp2_with (go_at_call 22; refine HC.out.mono ?_; rintro e w2 ⟨rfl, hx⟩; have HX2 := Lib.hid (HX.out.trans hx); clear hx)
        clear HC
        go_loopg [8, 9, 10] 5 (fun k v8 v9 v10 wx => ∃ i : Nat, i + k = 6 ∧ 1 ≤ i ∧ v8 = .int .i64 i ∧ Ext w wx)
        case atStart => exact ⟨1, rfl, Nat.le_refl _, rfl, HX2.out⟩
        case round =>
          clear HX2 HX HO
          obtain ⟨i, hik, hi1, rfl, hx⟩ := hrel
          have HX := Lib.hid hx
          have HIK := Lib.hid (And.intro hik hi1)
          clear hx
          rcases Nat.lt_or_ge i 6 with hi | hi
          · have z : (i : Int) ≤ 5 := by omega
            have HRD := Lib.hid (read_ag (HT.out _ HX.out) r HXL.out (kk := i) ⟨hi1, by omega⟩)
            have HI := Lib.hid hi
            clear hik hi1 hi
            go_upto_region 9 with (go_at_call 23; refine HRD.out.mono ?_; rintro e v ⟨ej, bj, rfl, hx, -, -⟩; have HXv := Lib.hid (HX.out.trans (hx.trans (Ext.one v (En.o ej)))); clear hx)
            change Code.wp _ _ _ _ (v.alloc (En.o ej))
            generalize v.alloc (En.o ej) = u at *
            clear HRD
            cases bj with
            | false =>
              go_wp2_with fail
              go_roundg (gk - 1)
              case measure => have := HIK.out; have := HI.out; omega
              case rel => exact ⟨i + 1, by have := HIK.out; have := HI.out; omega, by omega, by go_num, HXv.out⟩
            | true =>
              go_wp2_with fail
              go_roundg (gk - 1)
              case measure => have := HIK.out; have := HI.out; omega
              case rel => exact ⟨i + 1, by have := HIK.out; have := HI.out; omega, by omega, by go_num, HXv.out⟩
          · obtain rfl : i = 6 := by omega
            clear hik hi1 hi
            go_wp2_with fail
            go_ret2
            exact ⟨HX.out, .inl ⟨HB.out, rfl⟩⟩
end Go.Proofs.YtkljdpjdlccidaaDoor
