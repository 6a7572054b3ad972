/- ParseFirst: its walk. -/
import Derived.Test.YthgpepkcjjimlaaParFd
import Derived.Deep.LoopGhost
import Derived.BigQuiet
import Derived.Deep.DeepCutAuto
import Derived.Deep.CutRange
import Derived.Deep.CutBlock
namespace Go.Proofs.Ythgpepkcjjimlaa
open Go.RowKit

theorem RetT.len {w : World} {o : Out} {e : Ending} {w' : World} (h : RetT w o e w') : Below w.heap.size w w' := by
  obtain ⟨_, _, _, _, _, _, _, hb, _⟩ := h.split
  exact hb
def CutF (j : Nat) (W : World) (v11 : Value) (wx : World) : Prop := ∃ nq : Nat, v11 = .int .i64 (j : Int) ∧ wx = W.drewN nq
def FirstR (j : Nat) (W : World) (k : Nat) (v11 : Value) (wr : World) : Prop := ∃ i nq : Nat, i + k = j ∧ v11 = .int .i64 (i : Int) ∧ wr = W.drewN nq
theorem bdr {B : Nat} {a b : World} (h : Below B a b) (n : Nat) : Below B a (b.drewN n) := ⟨h.os, h.tape, h.output, h.size, h.block⟩
theorem own_cap {w : World} {base n c size : Nat} {e : TypeId} {A : Option Addr} {xs : List Value} (h : w.ownsRow base e size (.slice A n c) n xs) : n ≤ c ∧ c ≤ maxLen := by
  rcases h.2 with ⟨e, h0⟩ | ⟨g, cap, cur, e, _, _, h1, h2, _⟩
  · injection e with _ _ e; unfold maxLen; omega
  · injection e with _ _ e; omega
theorem Toks.tks {w : World} {A : Option Addr} {T : List Tok} {n : Nat} (h : Toks w A T) (hn : n ≤ T.length) (c : Nat) : TkS w (.slice A n c) (T.take n) := ⟨A, c, by rw [List.length_take, Nat.min_eq_left hn], h.take n⟩
theorem dgs_one' {w : World} {g : Nat} {li co er : Int} (h : w.heap[g]? = some (.cells #[.int .i64 li, .int .i64 co, .int .i64 er] 35 (0, 0))) : Dgs w (some ⟨g, 0, none⟩) [⟨li, co, er⟩] := fun i t hi => by
  cases i with
  | succ i => simp at hi
  | zero =>
    simp at hi
    subst hi
    exact ⟨g, rfl, by simp [World.cell?, h], by simp [World.cell?, h], by simp [World.cell?, h]⟩
theorem first_at {T r : List Tok} {e : Int} (h : PT T = .bad e r) (hr : r ≠ []) : ∃ j, j < T.length ∧ T = T.take j ++ (hd r :: (T.drop (j + 1))) ∧ T[j]? = some (hd r) ∧ r = hd r :: T.drop (j + 1) := by
  obtain ⟨p, hp⟩ := PT_suf h
  cases r with
  | nil => exact absurd rfl hr
  | cons t r =>
    have e1 : T.take p.length = p := by rw [← hp]; simp
    have e2 : T.drop (p.length + 1) = r := by rw [← hp]; simp
    refine ⟨p.length, by rw [← hp]; simp, ?_, by rw [← hp]; simp [hd], by rw [e2]; rfl⟩
    rw [e1, e2]
    exact hp.symm
/-- The tokens up to the one that is wrong, and others behind them. -/
theorem first_behind {T r M : List Tok} {e : Int} {j : Nat} (h : PT T = .bad e r) (hj : T = T.take j ++ (hd r :: T.drop (j + 1))) (h2 : r = hd r :: T.drop (j + 1)) : PT (T.take (j + 1) ++ M) = .bad e (hd r :: M) := by
  have h3 : PT (T.take j ++ ([hd r] ++ T.drop (j + 1))) = .bad e ([hd r] ++ T.drop (j + 1)) := by
    have : T.take j ++ ([hd r] ++ T.drop (j + 1)) = T := hj.symm
    rw [this, h]
    congr 1
  have h4 := PT_behind (z := M) (by simp) h3
  have h5 : T.take (j + 1) = T.take j ++ [hd r] := by
    have hjl : j < T.length := by
      have := congrArg List.length hj
      rcases Nat.lt_or_ge j T.length with hl | hl
      · exact hl
      · rw [List.length_append, List.length_cons, List.length_take, List.length_drop] at this
        omega
    rw [List.take_succ_eq_append_getElem hjl]
    congr 2
    have h6 : T[j]? = some (hd r) := by
      conv => lhs; rw [hj]
      rw [List.getElem?_append_right (by rw [List.length_take]; omega), List.length_take, Nat.min_eq_left (by omega)]
      simp
    rw [List.getElem?_eq_getElem hjl] at h6
    exact Option.some.inj h6
  rw [h5, List.append_assoc, h4]
  rfl
theorem first_ahead {T r : List Tok} {e : Int} {j : Nat} (h : PT T = .bad e r) (hj : T = T.take j ++ (hd r :: T.drop (j + 1))) (h2 : r = hd r :: T.drop (j + 1)) : (∃ d k s, PT (T.take j) = .ok d k s) ∨ PT (T.take j) = .bad 4 [] := by
  refine PT_ahead (x := T.take j) (r := r) (e := e) ?_
  have : T.take j ++ r = T := by rw [h2]; exact hj.symm
  rw [this, h]

set_option maxRecDepth 100000 in
set_option maxHeartbeats 4000000 in
theorem first_walk (b m : List UInt8) (v x : Value) (w : World) (hv : Holds w v b) (hx : Holds w x m) (hn : b.length ≤ 2000) (hm : m.length ≤ 2000) :
    Calls Try.prog 3 #[v, x] w fun e w' => e = .returned (.bool true) ∧ Below w.heap.size w w' := by
  have HV := Lib.hid hv
  have HX := Lib.hid hx
  have hlen1 := len_toks b.length b (nxt b 0) (by omega)
  have hlen2 := len_toks m.length m (nxt m 0) (by omega)
  have hdl1 := len_dgs b.length b (nxt b 0) (by omega)
  have hdl2 := len_dgs m.length m (nxt m 0) (by omega)
  obtain ⟨A0, c0, rfl, _, _⟩ := hv
  obtain ⟨A1, c1, rfl, _, _⟩ := hx
  have d1 : decide (2000 < (b.length : Int)) = false := by simp; omega
  have d2 : decide (2000 < (m.length : Int)) = false := by simp; omega
  have d1n : decide (2000 < b.length) = false := by simp; omega
  have d2n : decide (2000 < m.length) = false := by simp; omega
  go_enter Try.func3, Try.ntmps3
  go_wp2_with fail
  refine (refScan_ok b _ _ HV.out (by omega)).mono ?_
  rintro e w1 ⟨v4, v5, rfl, hb1, ho4, ho5⟩
  obtain ⟨A4, c4, rfl, ht4⟩ := own_toks ho4
  obtain ⟨hc4, hc4m⟩ := own_cap ho4
  unfold maxLen at hc4m
  obtain ⟨A5, c5, rfl⟩ := own_form ho5
  have HB1 := Lib.hid hb1
  have HT1 := Lib.hid ht4
  have HX1 := Lib.hid (HX.out.below hb1)
  clear hb1 ho4 ho5 ht4 HV HX
  go_wp2_with fail
  refine (refScan_ok m _ _ HX1.out (by omega)).mono ?_
  rintro e w2 ⟨v6, v7, rfl, hb2, ho6, ho7⟩
  obtain ⟨A6, c6, rfl, ht6⟩ := own_toks ho6
  obtain ⟨A7, c7, rfl⟩ := own_form ho7
  have HB2 := Lib.hid (HB1.out.trans (hb2.mono HB1.out.size))
  have HT2 := Lib.hid (HT1.out.below hb2)
  have HM2 := Lib.hid ht6
  clear hb2 ho6 ho7 ht6 HX1 HB1 HT1
  by_cases hD : 0 < (dgs b (nxt b 0)).length + (dgs m (nxt m 0)).length
  · have hDb : decide ((0 : Int) < ((dgs b (nxt b 0)).length : Int) + ((dgs m (nxt m 0)).length : Int)) = true := by simp; omega
    have hDz : (0 : Int) < ((dgs b (nxt b 0)).length : Int) + ((dgs m (nxt m 0)).length : Int) := by omega
    have HB2s := HB2.out.size
    clear hD
    generalize (dgs b (nxt b 0)).length = z1 at *
    generalize (dgs m (nxt m 0)).length = z2 at *
    go_wp2_with (go_at_call 5; refine (known3_ok _).mono ?_; rintro e w3 ⟨rfl, hb3⟩)
    go_ret
    exact ⟨rfl, HB2.out.trans (hb3.mono HB2s)⟩
  have z1 : (dgs b (nxt b 0)).length = 0 := by omega
  have z2 : (dgs m (nxt m 0)).length = 0 := by omega
  rw [z1, z2]
  clear hD z1 z2 hdl1 hdl2
  have HM := Lib.hid (fun (i j : Nat) (t u : Tok) => toks_apart b.length b (nxt b 0) (by omega) i j t u)
  have HL := Lib.hid (fun (u : Tok) (h : u ∈ toks b (nxt b 0)) => toks_line h)
  generalize toks b (nxt b 0) = T at *
  generalize toks m (nxt m 0) = M at *
  have HB2s := HB2.out.size
  cases hP : PT T with
  | dry => exact absurd hP (PT_nd T)
  | ok d kf r =>
    have ht := tokens_ok (16 * T.length + 2) A4 T c4 w2 HT2.out.tkb (by omega) (PT_nd T)
    rw [show P (16 * T.length + 2) (.decls .nil) T 0 = PT T from rfl, hP] at ht
    have HTK := Lib.hid ht
    clear ht hP
    go_wp2_with fail
    refine HTK.out.mono ?_
    rintro e w3 ⟨lv, ks, rfl, hlaid, hb3⟩
    obtain ⟨lA, lc, rfl⟩ := own_form hlaid.row
    have hb3s := hb3.size
    clear hlaid HTK
    go_wp2_with (go_at_call 5; refine (known3_ok _).mono ?_; rintro e w4 ⟨rfl, hb4⟩)
    go_ret
    exact ⟨rfl, ((HB2.out.trans (hb3.mono HB2s)).alloc (by omega) _).trans (hb4.mono (by simp; omega))⟩
  | bad er r =>
    have ht := tokens_ok (16 * T.length + 2) A4 T c4 w2 HT2.out.tkb (by omega) (PT_nd T)
    rw [show P (16 * T.length + 2) (.decls .nil) T 0 = PT T from rfl, hP] at ht
    have HTK := Lib.hid ht
    have HP := Lib.hid hP
    clear ht hP
    go_wp2_with fail
    refine HTK.out.mono ?_
    rintro e w3 ⟨g, rfl, hdg, hg, hb3⟩
    have hb3s := hb3.size
    have hgl := lt_of_block hdg
    have HDG := Lib.hid hdg
    have HB3 := Lib.hid (HB2.out.trans (hb3.mono HB2s))
    have HT3 := Lib.hid (HT2.out.below hb3)
    have HM3 := Lib.hid (HM2.out.below hb3)
    have q0 : w3.cell? ⟨g, 0, none⟩ = some (.int .i64 (hd r).line) := by simp [World.cell?, hdg]
    have q1 : w3.cell? ⟨g, 1, none⟩ = some (.int .i64 (hd r).col) := by simp [World.cell?, hdg]
    clear hdg hb3 HTK HT2 HM2
    by_cases hl0 : (hd r).line = 0
    · have hl0b : ((hd r).line == 0) = true := by simp [hl0]
      have HL0 := Lib.hid hl0
      clear hl0
      go_wp2_with (go_at_call 5; refine (known3_ok _).mono ?_; rintro e w4 ⟨rfl, hb4⟩)
      go_ret
      exact ⟨rfl, (HB3.out.alloc (by omega) _).trans (hb4.mono (by simp; omega))⟩
    have hl0b : ((hd r).line == 0) = false := by simp [hl0]
    have hr : r ≠ [] := fun h => hl0 (by rw [h]; rfl)
    clear hl0
    obtain ⟨j, hjl, hj1, hj2, hj3⟩ := first_at HP.out hr
    have HJ1 := Lib.hid hj1
    have HJ2 := Lib.hid hj2
    have HJ3 := Lib.hid hj3
    have HR := Lib.hid hr
    clear hj1 hj2 hj3 hr
    generalize hLn : (hd r).line = Ln at q0 hl0b
    generalize hCo : (hd r).col = Co at q1
    have HLN := Lib.hid hLn
    have HCO := Lib.hid hCo
    clear hLn hCo
    obtain ⟨g4, rfl, _, _, _, p3, p4⟩ := HT3.out j (hd r) HJ2.out
    rw [HLN.out] at p3
    rw [HCO.out] at p4
    have hb4 : Below w3.heap.size w3 (w3.alloc (.cells #[.slice none 0 0] 30)) := (Below.refl _ _).alloc (Nat.le_refl _) _
    have hg4 : g4 < w3.heap.size := lt_of_cell p3
    have a0 := (hb4.cell (p := ⟨g, 0, none⟩) hgl).trans q0
    have a1 := (hb4.cell (p := ⟨g, 1, none⟩) hgl).trans q1
    have a3 := (hb4.cell (p := ⟨g4, j * 5 + 3, none⟩) hg4).trans p3
    have a4 := (hb4.cell (p := ⟨g4, j * 5 + 4, none⟩) hg4).trans p4
    have HT4 := Lib.hid (HT3.out.below hb4)
    have HM4 := Lib.hid (HM3.out.below hb4)
    have HB4 := Lib.hid (HB3.out.trans (hb4.mono (by omega)))
    have HDG4 := Lib.hid ((hb4.block g hgl).trans HDG.out)
    have hs4 : w3.heap.size + 1 = (w3.alloc (.cells #[.slice none 0 0] 30)).heap.size := by simp
    have HS4 := Lib.hid hs4
    clear q0 q1 p3 p4 hb4 HT3 HM3 HB3 HDG hs4
    go_upto_block 0 with (fail)
    generalize w3.alloc (.cells #[.slice none 0 0] 30) = W4 at *
    go_cut [11] from 58 to 87 (fun v11 wx => CutF j W4 v11 wx)
    case first =>
      go_wp2_with fail
      go_loopg [11] j (FirstR j W4)
      case atStart => exact ⟨0, 0, by omega, rfl, rfl⟩
      case round =>
        obtain ⟨i, nq, hik, rfl, rfl⟩ := hrel
        have HIK := Lib.hid hik
        have hij : i ≤ j := by omega
        clear hik
        have hiT : i < T.length := by omega
        have dT : decide (i < T.length) = true := by simp; omega
        have dT2 : decide ((i : Int) < (T.length : Int)) = true := by simp; omega
        by_cases hlt : i < j
        · obtain ⟨t, hti⟩ : ∃ t, T[i]? = some t := ⟨_, List.getElem?_eq_getElem hiT⟩
          have hap := HM.out i j t (hd r) hlt hti HJ2.out
          rw [HLN.out, HCO.out] at hap
          obtain ⟨g5, hg5, _, _, _, p3, p4⟩ := HT4.out i t hti
          injection hg5 with hg5
          injection hg5 with hg5
          subst hg5
          have HAP := Lib.hid hap
          clear hap hti
          by_cases hli : t.line = Ln
          · have b1 : (t.line != Ln) = false := by simp [hli]
            have b2 : (t.col != Co) = true := by simp [HAP.out hli]
            clear hli
            go_upto_region 11 with (fail)
            go_quiet (fail)
            go_wp2_with fail
            go_roundg (j - (i + 1))
            case measure => have := HIK.out; omega
            case rel => exact ⟨i + 1, _, by omega, by go_num, rfl⟩
          · have b1 : (t.line != Ln) = true := by simp [hli]
            clear hli
            go_upto_region 11 with (fail)
            go_quiet (fail)
            go_wp2_with fail
            go_roundg (j - (i + 1))
            case measure => have := HIK.out; omega
            case rel => exact ⟨i + 1, _, by omega, by go_num, rfl⟩
        · obtain rfl : i = j := by omega
          have b1 : (Ln != Ln) = false := by simp
          have b2 : (Co != Co) = false := by simp
          go_upto_region 11 with (fail)
          go_quiet (fail)
          go_wp2_with fail
          go_meet
          exact ⟨_, rfl, by rw [World.drewN_drewN]⟩
    case rest =>
      obtain ⟨nq, rfl, hwc⟩ := hcut
      have hbd : Below W4.heap.size W4 wc := by rw [hwc]; exact bdr (Below.refl _ _) _
      have hbds := hbd.size
      have hw4s := HB4.out.size
      have HT5 := Lib.hid (HT4.out.below hbd)
      have HM5 := Lib.hid (HM4.out.below hbd)
      have HB5 := Lib.hid (HB4.out.trans (hbd.mono hw4s))
      have hg4l : g < W4.heap.size := lt_of_block HDG4.out
      have HDG5 := Lib.hid ((hbd.block g hg4l).trans HDG4.out)
      clear hwc hbd a0 a1 a3 a4 HT4 HM4 HB4 HDG4
      have ej : ((j : Int) == (T.length : Int)) = false := by simp; omega
      have ejn : (j == T.length) = false := by simp; omega
      have hj0 : (0 : Int) ≤ (j : Int) + 1 := by omega
      have htk5 := HT5.out.tks (n := j + 1) (by omega) c4
      have hpt := first_behind (M := M) HP.out HJ1.out HJ3.out
      have hT1l : (T.take (j + 1)).length = j + 1 := by rw [List.length_take]; omega
      generalize T.take (j + 1) = T1 at htk5 hpt hT1l
      have HTK5 := Lib.hid htk5
      have HPT := Lib.hid hpt
      have HT1 := Lib.hid hT1l
      have hT1b : T1.length ≤ 900000 := by omega
      clear htk5 hpt hT1l
      go_wp2_with (at_builtin; refine wpList_appT _ rfl _ _ rfl wc.heap.size _ _ [] T1 rfl rfl (World.ownsRow_nil _ _ _ _) HTK5.out (by simp) (by omega) (Nat.le_refl _) ?_)
      intro v12 w5 hown5 hgrow5
      have hown5' : w5.ownsRow wc.heap.size 38 5 v12 T1.length (tcs T1) := by simpa using hown5
      have hb5 : Below wc.heap.size wc w5 := (Below.refl _ _).grown hgrow5 (Nat.le_refl _) (fun k hk => by simp [Value.ownBlock] at hk)
      have HO5 := Lib.hid hown5'
      have HB5' := Lib.hid hb5
      have HM6 := Lib.hid (HM5.out.below hb5)
      have hz5 := hb5.size
      clear hown5 hown5' hgrow5 hb5
      go_wp2_with (at_builtin; refine wpList_appT _ rfl _ _ rfl wc.heap.size _ _ T1 M rfl rfl HO5.out ⟨_, _, rfl, HM6.out⟩ (by omega) (by omega) hz5 ?_)
      intro v13 w6 hown6 hgrow6
      have hb6 : Below wc.heap.size wc w6 := HB5'.out.grown hgrow6 hz5 (fun k hk => (HO5.out.lt k hk).1)
      have hown6' : w6.ownsRow wc.heap.size 38 5 v13 (T1 ++ M).length (tcs (T1 ++ M)) := by simpa using hown6
      obtain ⟨A8, c8, rfl, ht8⟩ := own_toks hown6'
      have hlen8 : (T1 ++ M).length ≤ 1000000 := by rw [List.length_append]; omega
      have htk8 := tokens_ok (16 * (T1 ++ M).length + 2) A8 (T1 ++ M) c8 w6 ht8.tkb hlen8 (PT_nd _)
      rw [show P (16 * (T1 ++ M).length + 2) (.decls .nil) (T1 ++ M) 0 = PT (T1 ++ M) from rfl, HPT.out] at htk8
      have HTK8 := Lib.hid htk8
      have HT6 := Lib.hid (HT5.out.below hb6)
      have HDG6 := Lib.hid ((hb6.block g (by omega)).trans HDG5.out)
      have HB6 := Lib.hid (HB5.out.trans (hb6.mono (by omega)))
      have hz6 := hb6.size
      clear hown6 hown6' hgrow6 hb6 ht8 htk8 hlen8 HO5 HB5' HM6 HM5 HT5 HDG5 HB5 HPT HTK5
      generalize (T1 ++ M).length = n8 at HTK8 ⊢
      go_wp2_with fail
      refine HTK8.out.mono ?_
      rintro e w7 ⟨g8, rfl, hdg8, hg8, hb7⟩
      have hz7 := hb7.size
      have hb7a : Below w6.heap.size w6 (w7.alloc (.cells #[.slice none 0 0] 30)) := hb7.alloc (by omega) _
      have hg8l := lt_of_block hdg8
      have HD8 := Lib.hid (dgs_one' (((Below.refl _ w7).alloc (Nat.le_refl _) (.cells #[.slice none 0 0] 30)).block g8 hg8l |>.trans hdg8))
      have HD0 := Lib.hid (dgs_one' ((hb7a.block g (lt_of_block HDG6.out)).trans HDG6.out))
      have HT7 := Lib.hid (HT6.out.below hb7a)
      have HB7 := Lib.hid (HB6.out.trans (hb7a.mono (by omega)))
      clear hdg8 hb7 hb7a HTK8 HT6 HDG6 HB6
      go_wp2_with fail
      refine (sameDiags_ok [⟨(hd r).line, (hd r).col, er⟩] (some ⟨g8, 0, none⟩) (some ⟨g, 0, none⟩) 1 1 _ HD8.out HD0.out (by simp)).mono ?_
      rintro e w8 ⟨rfl, nd, hw8⟩
      have hb8 : Below (w7.alloc (.cells #[.slice none 0 0] 30)).heap.size (w7.alloc (.cells #[.slice none 0 0] 30)) w8 := by rw [hw8]; exact bdr (Below.refl _ _) _
      have hz8 := hb8.size
      have hz7a := HB7.out.size
      have HT8 := Lib.hid (HT7.out.below hb8)
      have HB8 := Lib.hid (HB7.out.trans (hb8.mono hz7a))
      clear hw8 hb8 HD8 HD0 HT7 HB7
      have hlt9 : (T.take j).length = j := by rw [List.length_take]; omega
      have htk9 := tokens_ok (16 * (T.take j).length + 2) (some ⟨g4, 0, none⟩) (T.take j) c4 w8 (HT8.out.take j).tkb (by omega) (PT_nd _)
      rw [show P (16 * (T.take j).length + 2) (.decls .nil) (T.take j) 0 = PT (T.take j) from rfl, hlt9] at htk9
      have hww8 := HB8.out.size
      rcases first_ahead HP.out HJ1.out HJ3.out with ⟨d, kf, s, hs⟩ | hs
      · rw [hs] at htk9
        have HTK9 := Lib.hid htk9
        clear htk9 hs hlt9
        go_wp2_with fail
        refine HTK9.out.mono ?_
        rintro e w9 ⟨lv, ks, rfl, hlaid, hb9⟩
        obtain ⟨lA, lc, rfl⟩ := own_form hlaid.row
        have hz9 := hb9.size
        have HB9 := Lib.hid (HB8.out.trans (hb9.mono hww8))
        clear hlaid hb9 HTK9
        go_wp2_with (go_at_call 5; refine (known3_ok _).mono ?_; rintro e w10 ⟨rfl, hb10⟩)
        go_ret
        exact ⟨rfl, (HB9.out.alloc (by omega) _).trans (hb10.mono (by simp; omega))⟩
      · rw [hs] at htk9
        have HTK9 := Lib.hid htk9
        clear htk9 hs hlt9
        go_wp2_with fail
        refine HTK9.out.mono ?_
        rintro e w9 ⟨g9, rfl, hdg9, hg9, hb9⟩
        have hg9l := lt_of_block hdg9
        have r0 : w9.cell? ⟨g9, 0, none⟩ = some (.int .i64 0) := by simp [World.cell?, hdg9, hd]
        have r1 : w9.cell? ⟨g9, 1, none⟩ = some (.int .i64 0) := by simp [World.cell?, hdg9, hd]
        have r2 : w9.cell? ⟨g9, 2, none⟩ = some (.int .i64 4) := by simp [World.cell?, hdg9]
        have hz9 := hb9.size
        have HB9 := Lib.hid (HB8.out.trans (hb9.mono hww8))
        clear hdg9 hb9 HTK9
        go_wp2_with (go_at_call 5; refine (known3_ok _).mono ?_; rintro e w10 ⟨rfl, hb10⟩)
        go_ret
        exact ⟨rfl, (HB9.out.alloc (by omega) _).trans (hb10.mono (by simp; omega))⟩
end Go.Proofs.Ythgpepkcjjimlaa
