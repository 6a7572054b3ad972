/- append of a text to a row of the call's own; detentlaw01.TokenLonger: its walk. -/
import Derived.Test.YtpdljjlbjebmeaaTokN
import Derived.Test.YtpdljjlbjebmeaaTokM
namespace Go.Proofs.Ytpdljjlbjebmeaa
open Go.RowKit

def bcs (l : List UInt8) : List Value := l.map fun x => Value.int .u8 (x.toNat : Int)
theorem infoByte : (Try.prog.info? 5).map (fun i => (i.zero, i.size, i.bytes)) = some (some (.int .u8 0), 1, 1) := by kernel_rfl

theorem Bs.list {w : World} {b off : Nat} {l : List UInt8} (h : Bs w b off l) : ∀ j u, (bcs l)[j]? = some u → w.cell? ((⟨b, off, none⟩ : Addr).add j) = some u := by
  intro j u hu
  have hadd : (⟨b, off, none⟩ : Addr).add j = ⟨b, off + j, none⟩ := by unfold Addr.add; split <;> simp_all
  unfold bcs at hu
  rw [List.getElem?_map] at hu
  have hj : j < l.length := by
    rcases Nat.lt_or_ge j l.length with h1 | h1
    · exact h1
    · rw [List.getElem?_eq_none h1] at hu; simp at hu
  rw [hadd, h j hj]
  rw [List.getElem?_eq_getElem hj] at hu
  simp at hu
  unfold chr
  rw [List.getElem?_eq_getElem hj]
  simp [← hu]

theorem own_holds {w : World} {base : Nat} {v : Value} {l : List UInt8} (h : w.ownsRow base 5 1 v l.length (bcs l)) : Holds w v l := by
  rcases h.2 with ⟨rfl, h0⟩ | ⟨g, cap, cur, rfl, _, hg, hnc, _⟩
  · exact ⟨none, 0, by rw [h0], by omega, fun h1 => by omega⟩
  · refine ⟨_, cap, rfl, hnc, fun _ => ⟨g, 0, rfl, fun k hk => ?_⟩⟩
    have hx : (bcs l)[k]? = some (.int .u8 (chr l k)) := by
      unfold bcs chr
      rw [List.getElem?_map, List.getElem?_eq_getElem hk]
      rfl
    have := h.cells (g := g) rfl k _ hx
    have hadd : (⟨g, 0, none⟩ : Addr).add k = ⟨g, 0 + k, none⟩ := by unfold Addr.add; split <;> simp_all
    rwa [hadd] at this

set_option maxRecDepth 100000 in
theorem run_appB (w : World) (base : Nat) (ty : TypeId) (v x : Value) (L l : List UInt8) (hown : w.ownsRow base 5 1 v L.length (bcs L)) (hx : Holds w x l) (h1 : L.length ≤ 1000000) (h2 : l.length ≤ 1000000) (hbase : base ≤ w.heap.size) :
    ∃ v' w', (Builtin.append_ #[22, 22] ty #[v, x]).run Try.prog w = .ok v' w' ∧ w'.ownsRow base 5 1 v' (L ++ l).length (bcs (L ++ l)) ∧ w.grownBy w' v.ownBlock := by
  obtain ⟨i, hi, hz0, hz1, hz2⟩ := info_parts infoByte
  obtain ⟨A, cap, rfl, hc, hA⟩ := hx
  have hcat : bcs (L ++ l) = bcs L ++ bcs l := by simp [bcs]
  have hlc : (L ++ l).length = L.length + l.length := by simp
  rw [hcat, hlc]
  cases A with
  | none =>
    have hl : l = [] := by
      rcases Nat.eq_zero_or_pos l.length with h0 | h0
      · exact List.eq_nil_of_length_eq_zero h0
      · obtain ⟨_, _, h, _⟩ := hA h0; cases h
    subst hl
    refine ⟨v, w, ?_, by simpa [bcs] using hown, World.grownBy.refl w _⟩
    rcases hown.2 with ⟨rfl, h0⟩ | ⟨g, cap', cur, rfl, _, _, hnc, _⟩
    · simp [Builtin.append_, run_underlying Try.underlying22, sizeOf, typeInfo, hi, Builtin.lenOf, Builtin.firstCells]
    · simp [Builtin.append_, run_underlying Try.underlying22, sizeOf, typeInfo, hi, Builtin.lenOf, Builtin.firstCells, hnc, storeCells]
  | some ad =>
    have hcells : ∀ j u, (bcs l)[j]? = some u → w.cell? (ad.add j) = some u := by
      intro j u hu
      have h0 : 0 < l.length := by
        rcases Nat.eq_zero_or_pos l.length with h0 | h0
        · have := List.eq_nil_of_length_eq_zero h0
          subst this
          simp [bcs] at hu
        · exact h0
      obtain ⟨b, off, h, hb⟩ := hA h0
      injection h with h
      subst h
      exact hb.list j u hu
    obtain ⟨v', w', hr, ho, hg, _⟩ := run_append_own (P := Try.prog) w base 22 ty 5 i _ 1 1 Try.underlying22 hi hz0 hz1 hz2 rfl (by decide) v L.length (bcs L) hown ad l.length cap (bcs l) (by simp [bcs]) hcells
      (fun u hu => by unfold bcs at hu; obtain ⟨x, _, rfl⟩ := List.mem_map.1 hu; rfl) (by unfold maxLen; omega) (by omega) hbase
    exact ⟨v', w', hr, ho, hg⟩

theorem wpList_appB {ops : Array Oper} {rest : List Oper} {o : Oper} {a : Act} {Q : Exit → Act → World → Prop} (w : World) (hgd : o.guard = none) (s x : Operand)
    (ho : o.op = .call { callee := .builtin .append, args := #[s, x], argTypes := #[22, 22] })
    (base : Nat) (v y : Value) (L l : List UInt8) (hs : a.eval s = v) (hy : a.eval x = y) (hown : w.ownsRow base 5 1 v L.length (bcs L)) (hx : Holds w y l) (h1 : L.length ≤ 1000000) (h2 : l.length ≤ 1000000) (hbase : base ≤ w.heap.size)
    (h : ∀ v' w', w'.ownsRow base 5 1 v' (L ++ l).length (bcs (L ++ l)) → w.grownBy w' v.ownBlock → wpList Try.prog ops Q rest (a.put o.dst v') w') : wpList Try.prog ops Q (o :: rest) a w := by
  refine wpList_plain hgd fun K hK => ?_
  obtain ⟨v', w', hrun, h3, h4⟩ := run_appB w base o.type v y L l hown hx h1 h2 hbase
  unfold Oper.wp execOp
  simp only [ho, resolve, invoke, builtin, Sem.run_bind, Sem.run_pure, Result.andThen_ok, List.map_toArray, List.map_cons, List.map_nil, hs, hy, hrun]
  exact hK _ _ (h v' w' h3 h4)
theorem Holds.below {w w' : World} {v : Value} {l : List UInt8} (h : Holds w v l) (hb : Below w.heap.size w w') : Holds w' v l := by
  obtain ⟨A, cap, rfl, hc, hA⟩ := h
  refine ⟨A, cap, rfl, hc, fun h0 => ?_⟩
  obtain ⟨b, off, rfl, hbs⟩ := hA h0
  exact ⟨b, off, rfl, hbs.below hb (hbs.lt h0)⟩
theorem Toks.below {w w' : World} {A : Option Addr} {T : List Tok} (h : Toks w A T) (hb : Below w.heap.size w w') : Toks w' A T := by
  intro i t hi
  obtain ⟨g, rfl, c0, c1, c2, c3, c4⟩ := h i t hi
  have hg : g < w.heap.size := World.block_lt_of_cell? w _ c0
  exact ⟨g, rfl, (hb.cell (by exact hg)).trans c0, (hb.cell (by exact hg)).trans c1, (hb.cell (by exact hg)).trans c2, (hb.cell (by exact hg)).trans c3, (hb.cell (by exact hg)).trans c4⟩

def LongR (b : List UInt8) (w3 : World) (k : Nat) (v9 : Value) (wr : World) : Prop :=
  ∃ i nq : Nat, i + k = (toks b (nxt b 0)).length ∧ v9 = .int .i64 i ∧ wr = w3.drewN nq

set_option maxRecDepth 100000 in
set_option maxHeartbeats 1000000 in
theorem longer_walk (b m : List UInt8) (v x : Value) (w : World) (hv : Holds w v b) (hx : Holds w x m) (hn : b.length ≤ 2000) (hm : m.length ≤ 2000) :
    Calls Try.prog 7 #[v, x] w fun e w' => e = .returned (.bool true) ∧ Below w.heap.size w w' := by
  have hscan := scan_ok b v w hv (by omega)
  have HS := Lib.hid hscan
  have HV := Lib.hid hv
  have HX := Lib.hid hx
  clear hscan
  have hlong := longer_len b m
  have hlen1 := len_toks b.length b (nxt b 0) (by omega)
  have hlen2 := len_toks (b ++ m).length (b ++ m) (nxt (b ++ m) 0) (by omega)
  rw [List.length_append] at hlen2
  obtain ⟨A0, c0, rfl, _, _⟩ := hv
  obtain ⟨A1, c1, rfl, _, _⟩ := hx
  have h2k : decide (2000 < (b.length : Int)) = false := by simp; omega
  have h2k' : decide (2000 < (m.length : Int)) = false := by simp; omega
  have h2n : decide (2000 < b.length) = false := by simp; omega
  have h2n' : decide (2000 < m.length) = false := by simp; omega
  go_enter Try.func7, Try.ntmps7
  go_wp2_with fail
  refine HS.out.mono ?_
  rintro e w1 ⟨v4, v5, rfl, hb1, ho4, ho5⟩
  obtain ⟨A4, c4, rfl, ht⟩ := own_toks ho4
  obtain ⟨A5, c5, rfl⟩ := own_form ho5
  have HB1 := Lib.hid hb1
  have HT := Lib.hid ht
  clear hb1 ho4 ho5 ht HS
  have HV1 := Lib.hid (HV.out.below HB1.out)
  have HX1 := Lib.hid (HX.out.below HB1.out)
  clear HV HX
  go_wp2_with (at_builtin; refine wpList_appB _ rfl _ _ rfl w1.heap.size _ _ [] b rfl rfl (World.ownsRow_nil _ _ _ _) HV1.out (by simp) (by omega) (Nat.le_refl _) ?_)
  intro v6 w2 hown2 hgrow2
  have hb2 : Below w1.heap.size w1 w2 := (Below.refl _ _).grown hgrow2 (Nat.le_refl _) (fun k hk => by simp [Value.ownBlock] at hk)
  have HO2 := Lib.hid hown2
  have HB2 := Lib.hid hb2
  have HX2 := Lib.hid (HX1.out.below hb2)
  have hz2 := hb2.size
  clear hown2 hgrow2 hb2 HX1 HV1
  go_wp2_with (at_builtin; refine wpList_appB _ rfl _ _ rfl w1.heap.size _ _ b m rfl rfl HO2.out HX2.out (by omega) (by omega) hz2 ?_)
  intro v7 w3 hown3 hgrow3
  have hr : ∀ k, v6.ownBlock = some k → w1.heap.size ≤ k := fun k hk => (HO2.out.lt k hk).1
  have hb3 : Below w1.heap.size w1 w3 := HB2.out.grown hgrow3 hz2 hr
  have HB3 := Lib.hid hb3
  have hz3 := hb3.size
  have hs2 := scan_ok (b ++ m) v7 w3 (own_holds (by rw [List.length_append]; exact hown3)) (by simp; omega)
  have HS2 := Lib.hid hs2
  clear hown3 hgrow3 hr hb3 hs2 HB2 HO2 HX2 hz2
  go_wp2_with fail
  refine HS2.out.mono ?_
  rintro e w4 ⟨u4, u5, rfl, hb4, ho4, ho5⟩
  obtain ⟨B4, d4, rfl, ht2⟩ := own_toks ho4
  obtain ⟨B5, d5, rfl⟩ := own_form ho5
  have hbb : Below w1.heap.size w1 w4 := HB3.out.trans (hb4.mono hz3)
  have HB4 := Lib.hid hbb
  have HT1 := Lib.hid (HT.out.below hbb)
  have HT2 := Lib.hid ht2
  clear hbb hb4 ht2 ho4 ho5 HB3 HS2 HT hz3
  have hlb : decide (((toks (b ++ m) (nxt (b ++ m) 0)).length : Int) < ((toks b (nxt b 0)).length : Int) - 1) = false := by simp; omega
  go_wp2_with fail
  go_loopg [9] (toks b (nxt b 0)).length (fun k v9 wr => LongR b w4 k v9 wr)
  case atStart => exact ⟨0, 0, by omega, rfl, rfl⟩
  case round =>
    obtain ⟨i, m0, hik, rfl, rfl⟩ := hrel
    have HIK := Lib.hid hik
    have hi : i ≤ (toks b (nxt b 0)).length := by omega
    clear hik
    by_cases hlt : i + 1 < (toks b (nxt b 0)).length
    · obtain ⟨t, h1, h2⟩ := longer_at b m i hlt
      obtain ⟨g, rfl, p0, p1, p2, p3, p4⟩ := HT1.out i t h1
      obtain ⟨g', rfl, q0, q1, q2, q3, q4⟩ := HT2.out i t h2
      have hi2 : i < (toks (b ++ m) (nxt (b ++ m) 0)).length := (List.getElem?_eq_some_iff.1 h2).1
      clear h1 h2
      go_upto_region 10 with (fail)
      go_quiet (fail)
      rw [World.drewN_drewN]
      generalize m0 + nq = m1
      clear p0 p1 p2 p3 p4 q0 q1 q2 q3 q4
      go_wp2_with fail
      go_roundg (gk - 1)
      case measure => have := HIK.out; omega
      case rel => exact ⟨i + 1, m1, by have := HIK.out; omega, by go_num, rfl⟩
    · go_wp2_with (go_at_call 8; refine (known_ok _).mono ?_; rintro e w5 ⟨rfl, hb5⟩)
      go_ret
      exact ⟨rfl, HB1.out.trans ((HB4.out.mono HB1.out.size).trans ((⟨rfl, rfl, rfl, Nat.le_refl _, fun _ _ => rfl⟩ : Below w.heap.size w4 (w4.drewN m0)).trans (hb5.mono (Nat.le_trans HB1.out.size HB4.out.size))))⟩
end Go.Proofs.Ytpdljjlbjebmeaa
