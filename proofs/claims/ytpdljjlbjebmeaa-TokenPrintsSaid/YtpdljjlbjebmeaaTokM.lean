/- detentlaw01.TokenStands: its walk. -/
import Derived.Test.YtpdljjlbjebmeaaTokL
import Derived.Deep.CutRange
namespace Go.Proofs.Ytpdljjlbjebmeaa
open Go.RowKit

theorem tcs_at : ∀ (T : List Tok) (i j : Nat) (t : Tok), T[i]? = some t → j < 5 → (tcs T)[i * 5 + j]? = t.cells[j]?
  | [], i, j, t, h, _ => by simp at h
  | x :: r, 0, j, t, h, hj => by
    simp at h; subst h
    unfold tcs
    rw [List.flatMap_cons, List.getElem?_append_left (by simp [Tok.cells]; omega)]
    simp
  | x :: r, i + 1, j, t, h, hj => by
    have := tcs_at r i j t (by simpa using h) hj
    unfold tcs at this ⊢
    rw [List.flatMap_cons, List.getElem?_append_right (by simp [Tok.cells]; omega), ← this]
    congr 1
    simp [Tok.cells]; omega
theorem dcs_at : ∀ (T : List Dg) (i j : Nat) (t : Dg), T[i]? = some t → j < 3 → (dcs T)[i * 3 + j]? = t.cells[j]?
  | [], i, j, t, h, _ => by simp at h
  | x :: r, 0, j, t, h, hj => by
    simp at h; subst h
    unfold dcs
    rw [List.flatMap_cons, List.getElem?_append_left (by simp [Dg.cells]; omega)]
    simp
  | x :: r, i + 1, j, t, h, hj => by
    have := dcs_at r i j t (by simpa using h) hj
    unfold dcs at this ⊢
    rw [List.flatMap_cons, List.getElem?_append_right (by simp [Dg.cells]; omega), ← this]
    congr 1
    simp [Dg.cells]; omega
/-- A list of tokens that a slice value holds, at a world's rows. -/
def Toks (w : World) (A : Option Addr) (T : List Tok) : Prop := ∀ i t, T[i]? = some t → ∃ g, A = some ⟨g, 0, none⟩ ∧ w.cell? ⟨g, i * 5, none⟩ = some (.int .i64 t.kind) ∧ w.cell? ⟨g, i * 5 + 1, none⟩ = some (.string ⟨t.text.toArray⟩) ∧ w.cell? ⟨g, i * 5 + 2, none⟩ = some (.int .i64 t.n) ∧ w.cell? ⟨g, i * 5 + 3, none⟩ = some (.int .i64 t.line) ∧ w.cell? ⟨g, i * 5 + 4, none⟩ = some (.int .i64 t.col)
def Dgs (w : World) (A : Option Addr) (D : List Dg) : Prop := ∀ i t, D[i]? = some t → ∃ g, A = some ⟨g, 0, none⟩ ∧ w.cell? ⟨g, i * 3, none⟩ = some (.int .i64 t.line) ∧ w.cell? ⟨g, i * 3 + 1, none⟩ = some (.int .i64 t.col) ∧ w.cell? ⟨g, i * 3 + 2, none⟩ = some (.int .i64 t.err)
theorem own_toks {w : World} {base : Nat} {v : Value} {T : List Tok} (h : w.ownsRow base 31 5 v T.length (tcs T)) : ∃ A cap, v = .slice A T.length cap ∧ Toks w A T := by
  by_cases h0 : 0 < T.length
  · obtain ⟨g, cap, rfl, _, _, hc⟩ := own_some h h0
    refine ⟨_, _, rfl, fun i t hi => ⟨g, rfl, ?_, ?_, ?_, ?_, ?_⟩⟩
    · exact hc (i * 5 + 0) _ (tcs_at T i 0 t hi (by omega))
    · exact hc _ _ (tcs_at T i 1 t hi (by omega))
    · exact hc _ _ (tcs_at T i 2 t hi (by omega))
    · exact hc _ _ (tcs_at T i 3 t hi (by omega))
    · exact hc _ _ (tcs_at T i 4 t hi (by omega))
  · have : T = [] := List.eq_nil_of_length_eq_zero (by omega)
    subst this
    obtain ⟨A, cap, rfl⟩ := own_form h
    exact ⟨A, cap, rfl, fun i t hi => by simp at hi⟩
theorem own_dgs {w : World} {base : Nat} {v : Value} {T : List Dg} (h : w.ownsRow base 45 3 v T.length (dcs T)) : ∃ A cap, v = .slice A T.length cap ∧ Dgs w A T := by
  by_cases h0 : 0 < T.length
  · obtain ⟨g, cap, rfl, _, _, hc⟩ := own_some h h0
    refine ⟨_, _, rfl, fun i t hi => ⟨g, rfl, ?_, ?_, ?_⟩⟩
    · exact hc (i * 3 + 0) _ (dcs_at T i 0 t hi (by omega))
    · exact hc _ _ (dcs_at T i 1 t hi (by omega))
    · exact hc _ _ (dcs_at T i 2 t hi (by omega))
  · have : T = [] := List.eq_nil_of_length_eq_zero (by omega)
    subst this
    obtain ⟨A, cap, rfl⟩ := own_form h
    exact ⟨A, cap, rfl, fun i t hi => by simp at hi⟩

theorem tok_case (l : List UInt8) (p a : Nat) (T : List Tok) (all : List Tok) (hpa : p ≤ a) (hT : T ++ toks l a = all) :
    (decide (p = a ∧ ¬ kindA l a = 0 ∧ a < l.length) = true ∧ all[T.length]? = some (tokA l p)) ∨ (decide (p = a ∧ ¬ kindA l a = 0 ∧ a < l.length) = false ∧ all.length = T.length) ∨
    (decide (p = a ∧ ¬ kindA l a = 0 ∧ a < l.length) = false ∧ ∃ q, p < q ∧ all[T.length]? = some (tokA l q)) := by
  subst hT
  by_cases h : p = a ∧ ¬ kindA l a = 0 ∧ a < l.length
  · obtain ⟨rfl, hk, ha⟩ := h
    refine .inl ⟨by simp [hk, ha], ?_⟩
    rw [toks_one l p ha hk, List.getElem?_append_right (Nat.le_refl _)]
    simp
  · right
    have hf : decide (p = a ∧ ¬ kindA l a = 0 ∧ a < l.length) = false := by simpa using h
    cases ht : toks l a with
    | nil => exact .inl ⟨hf, by simp⟩
    | cons t r =>
      refine .inr ⟨hf, ?_⟩
      obtain ⟨q, h1, h2, h3⟩ := toks_head _ l a t r (Nat.le_refl _) ht
      refine ⟨q, ?_, by rw [List.getElem?_append_right (Nat.le_refl _)]; simp [h3]⟩
      rcases Nat.lt_or_ge p q with hh | hh
      · exact hh
      · exfalso
        have : p = a := by omega
        subst this
        have : q = p := by omega
        subst this
        by_cases hk : kindA l q = 0
        · rw [toks_skip l q h2 hk] at ht
          have g1 := endA_gt l q
          have g2 := nxt_ge l (endA l q)
          obtain ⟨q', h4, h5, h6⟩ := toks_head _ l _ t r (Nat.le_refl _) ht
          have e1 : (tokA l q).line = (tokA l q').line := by rw [← h3, ← h6]
          have e2 : (tokA l q).col = (tokA l q').col := by rw [← h3, ← h6]
          simp only [tokA] at e1 e2
          exact place_ne_lt l q q' (by omega) (by omega) e2
        · exact h ⟨rfl, hk, h2⟩
theorem dg_case (l : List UInt8) (p a : Nat) (T : List Dg) (all : List Dg) (hpa : p ≤ a) (hT : T ++ dgs l a = all) :
    (decide (p = a ∧ ¬ errA l a = 0 ∧ a < l.length) = true ∧ all[T.length]? = some (dgA l p)) ∨ (decide (p = a ∧ ¬ errA l a = 0 ∧ a < l.length) = false ∧ all.length = T.length) ∨
    (decide (p = a ∧ ¬ errA l a = 0 ∧ a < l.length) = false ∧ ∃ q, p < q ∧ all[T.length]? = some (dgA l q)) := by
  subst hT
  by_cases h : p = a ∧ ¬ errA l a = 0 ∧ a < l.length
  · obtain ⟨rfl, hk, ha⟩ := h
    refine .inl ⟨by simp [hk, ha], ?_⟩
    rw [dgs_one l p ha hk, List.getElem?_append_right (Nat.le_refl _)]
    simp
  · right
    have hf : decide (p = a ∧ ¬ errA l a = 0 ∧ a < l.length) = false := by simpa using h
    cases ht : dgs l a with
    | nil => exact .inl ⟨hf, by simp⟩
    | cons t r =>
      refine .inr ⟨hf, ?_⟩
      obtain ⟨q, h1, h2, h3⟩ := dgs_head _ l a t r (Nat.le_refl _) ht
      refine ⟨q, ?_, by rw [List.getElem?_append_right (Nat.le_refl _)]; simp [h3]⟩
      rcases Nat.lt_or_ge p q with hh | hh
      · exact hh
      · exfalso
        have : p = a := by omega
        subst this
        have : q = p := by omega
        subst this
        by_cases hk : errA l q = 0
        · rw [dgs_skip l q h2 hk] at ht
          have g1 := endA_gt l q
          have g2 := nxt_ge l (endA l q)
          obtain ⟨q', h4, h5, h6⟩ := dgs_head _ l _ t r (Nat.le_refl _) ht
          have e1 : (dgA l q).line = (dgA l q').line := by rw [← h3, ← h6]
          have e2 : (dgA l q).col = (dgA l q').col := by rw [← h3, ← h6]
          simp only [dgA] at e1 e2
          exact place_ne_lt l q q' (by omega) (by omega) e2
        · exact h ⟨rfl, hk, h2⟩

/-- The relation of the loop of TokenStands. -/
def StandR (l : List UInt8) (w1 : World) (k : Nat) (v5 v6 v7 v8 v9 v10 : Value) (wr : World) : Prop :=
  ∃ (p a en nq : Nat) (T : List Tok) (D : List Dg), p + k = l.length ∧ p ≤ a ∧ nxt l a = a ∧ en ≤ a ∧ v5 = .int .i64 (lineOf l p) ∧ v6 = .int .i64 (fromOf l p) ∧ v7 = .int .i64 T.length ∧ v8 = .int .i64 D.length ∧ v9 = .int .i64 en ∧ v10 = .int .i64 p ∧
    T ++ toks l a = toks l (nxt l 0) ∧ D ++ dgs l a = dgs l (nxt l 0) ∧ wr = w1.drewN nq

set_option maxRecDepth 100000 in
set_option maxHeartbeats 1000000 in
theorem stands_walk (l : List UInt8) (v : Value) (w : World) (hv : Holds w v l) (hn : l.length ≤ 3000) :
    Calls Try.prog 6 #[v] w fun e w' => e = .returned (.bool true) ∧ Below w.heap.size w w' := by
  have hscan := scan_ok l v w hv (by omega)
  obtain ⟨A0, cap, rfl, hc, hA⟩ := hv
  have HS := Lib.hid hscan
  have HA := Lib.hid hA
  clear hscan hA
  have h3k : decide (3000 < (l.length : Int)) = false := by simp; omega
  have h3k' : decide (3000 < l.length) = false := by simp; omega
  go_enter Try.func6, Try.ntmps6
  go_wp2_with fail
  refine HS.out.mono ?_
  rintro e w1 ⟨v4, v5, rfl, hb1, ho4, ho5⟩
  obtain ⟨A4, c4, rfl, ht⟩ := own_toks ho4
  obtain ⟨A5, c5, rfl, hd⟩ := own_dgs ho5
  have HB1 := Lib.hid hb1
  have HT := Lib.hid ht
  have HD := Lib.hid hd
  clear hb1 ho4 ho5 ht hd HS
  go_wp2_with fail
  go_loopg [5, 6, 7, 8, 9, 10] l.length (fun k v5 v6 v7 v8 v9 v10 wr => StandR l w1 k v5 v6 v7 v8 v9 v10 wr)
  case atStart => exact ⟨0, nxt l 0, 0, 0, [], [], by omega, by omega, nxt_idem l 0, by omega, rfl, rfl, rfl, rfl, rfl, rfl, rfl, rfl, rfl⟩
  case round =>
    obtain ⟨p, a, en, m0, T, D, hpk, hpa, haa, hen, rfl, rfl, rfl, rfl, rfl, rfl, hT, hD, rfl⟩ := hrel
    have HPK := Lib.hid hpk
    have HAA := Lib.hid haa
    have HTT := Lib.hid hT
    have HDD := Lib.hid hD
    clear hpk haa hT hD
    have hp : p ≤ l.length := by have := HPK.out; omega
    have hl1 := lineOf_le l p
    have hf1 := fromOf_le l p
    by_cases hlt : p < l.length
    · obtain ⟨b, off, rfl, hbs⟩ := HA.out (by omega)
      have hN : T.length ≤ (toks l (nxt l 0)).length := by rw [← HTT.out]; simp
      have hN3 : (toks l (nxt l 0)).length ≤ 3000 := by have := len_toks l.length l (nxt l 0) (by omega); omega
      have hM : D.length ≤ (dgs l (nxt l 0)).length := by rw [← HDD.out]; simp
      have hM3 : (dgs l (nxt l 0)).length ≤ 3000 := by have := len_dgs l.length l (nxt l 0) (by omega); omega
      have HBS := Lib.hid hbs
      clear hbs HA
      have HTC := Lib.hid (tok_case l p a T _ hpa HTT.out)
      have HDC := Lib.hid (dg_case l p a D _ hpa HDD.out)
      generalize htb : decide (p = a ∧ ¬ kindA l a = 0 ∧ a < l.length) = tb at HTC
      generalize hdb : decide (p = a ∧ ¬ errA l a = 0 ∧ a < l.length) = db at HDC
      have HTB := Lib.hid htb
      have HDB := Lib.hid hdb
      clear htb hdb
      go_upto_region 9 with (fail)
      go_cut [51] from 21 to 128 (fun s51 wx => s51 = .bool tb ∧ wx = w1.drewN m0)
      case first =>
        rcases HTC.out with ⟨ht, hx⟩ | ⟨ht, hx⟩ | ⟨ht, q, hq, hx⟩
        · obtain ⟨g, rfl, _, _, _, c3, c4'⟩ := HT.out _ _ hx
          subst ht
          have hlt' : T.length < (toks l (nxt l 0)).length := (List.getElem?_eq_some_iff.1 hx).1
          simp only [tokA] at c3 c4'
          clear hx HTC HDC
          go_wp2_with fail
          go_meet
          exact ⟨rfl, rfl⟩
        · subst ht
          have hge : decide (T.length < (toks l (nxt l 0)).length) = false := by simp; omega
          clear hx HTC HDC
          go_wp2_with fail
          go_meet
          exact ⟨rfl, rfl⟩
        · obtain ⟨g, rfl, _, _, _, c3, c4'⟩ := HT.out _ _ hx
          subst ht
          have hlt' : T.length < (toks l (nxt l 0)).length := (List.getElem?_eq_some_iff.1 hx).1
          simp only [tokA] at c3 c4'
          clear hx HTC HDC
          have hlq := lineOf_le l q
          have hfq := fromOf_le l q
          by_cases hll : lineOf l p = lineOf l q
          · have hcol := place_ne_lt l p q hq hll
            rw [← hll] at c3
            have hcb : ((q : Int) - fromOf l q + 1 == (p : Int) - fromOf l p + 1) = false := by rw [beq_eq_false_iff_ne]; exact fun e => hcol e.symm
            clear hll hcol
            generalize (q : Int) - fromOf l q + 1 = col at c4' hcb
            go_wp2_with fail
            go_meet
            exact ⟨by simp, rfl⟩
          · have hlb : ((lineOf l q : Int) == (lineOf l p : Int)) = false := by rw [beq_eq_false_iff_ne]; omega
            have hlb' : (lineOf l q == lineOf l p) = false := by rw [beq_eq_false_iff_ne]; omega
            clear hll
            go_wp2_with fail
            go_meet
            exact ⟨rfl, rfl⟩
      case rest =>
        obtain ⟨rfl, rfl⟩ := hcut
        cases tb
        · go_upto_region 15 with (fail)
          go_cut [117] from 21 to 128 (fun s117 wx => s117 = .bool db ∧ wx = w1.drewN m0)
          case first =>
            rcases HDC.out with ⟨ht, hx⟩ | ⟨ht, hx⟩ | ⟨ht, q, hq, hx⟩
            · obtain ⟨g, rfl, c3, c4', _⟩ := HD.out _ _ hx
              subst ht
              have hlt' : D.length < (dgs l (nxt l 0)).length := (List.getElem?_eq_some_iff.1 hx).1
              simp only [dgA] at c3 c4'
              clear hx HTC HDC
              go_wp2_with fail
              go_meet
              exact ⟨rfl, rfl⟩
            · subst ht
              have hge : decide (D.length < (dgs l (nxt l 0)).length) = false := by simp; omega
              clear hx HTC HDC
              go_wp2_with fail
              go_meet
              exact ⟨rfl, rfl⟩
            · obtain ⟨g, rfl, c3, c4', _⟩ := HD.out _ _ hx
              subst ht
              have hlt' : D.length < (dgs l (nxt l 0)).length := (List.getElem?_eq_some_iff.1 hx).1
              simp only [dgA] at c3 c4'
              clear hx HTC HDC
              have hlq := lineOf_le l q
              have hfq := fromOf_le l q
              by_cases hll : lineOf l p = lineOf l q
              · have hcol := place_ne_lt l p q hq hll
                rw [← hll] at c3
                have hcb : ((q : Int) - fromOf l q + 1 == (p : Int) - fromOf l p + 1) = false := by rw [beq_eq_false_iff_ne]; exact fun e => hcol e.symm
                clear hll hcol
                generalize (q : Int) - fromOf l q + 1 = col at c4' hcb
                go_wp2_with fail
                go_meet
                exact ⟨by simp, rfl⟩
              · have hlb : ((lineOf l q : Int) == (lineOf l p : Int)) = false := by rw [beq_eq_false_iff_ne]; omega
                have hlb' : (lineOf l q == lineOf l p) = false := by rw [beq_eq_false_iff_ne]; omega
                clear hll
                go_wp2_with fail
                go_meet
                exact ⟨rfl, rfl⟩
          case rest =>
            obtain ⟨rfl, rfl⟩ := hcut
            have hcell : w1.cell? ⟨b, off + p, none⟩ = some (.int .u8 (chr l p)) := (HB1.out.cell (by exact HBS.out.lt (by omega))).trans (HBS.out p hlt)
            clear HTC HDC
            cases db
            · have hpa' : p < a := by
                rcases Nat.lt_or_ge p a with h | h
                · exact h
                · exfalso
                  have hE : p = a := by omega
                  subst hE
                  have h1 := of_decide_eq_false HTB.out
                  have h2 := of_decide_eq_false HDB.out
                  by_cases hk : kindA l p = 0
                  · exact h2 ⟨rfl, by simp [errA, hk], hlt⟩
                  · exact h1 ⟨rfl, hk, hlt⟩
              by_cases h10 : chr l p = 10
              · have h10b : (chr l p == 10) = true := by simp [h10]
                have H10 := Lib.hid h10
                clear h10
                go_wp2_with fail
                go_roundg (gk - 1)
                case measure => have := HPK.out; omega
                case rel =>
                  have e1 : lineOf l (p + 1) = lineOf l p + 1 := by simp [lineOf, H10.out]
                  have e2 : fromOf l (p + 1) = p + 1 := by simp [fromOf, H10.out]
                  exact ⟨p + 1, a, en, m0, T, D, by have := HPK.out; omega, by omega, HAA.out, hen, by rw [e1]; go_num, by rw [e2]; go_num, rfl, rfl, rfl, by go_num, HTT.out, HDD.out, rfl⟩
              · have h10b : (chr l p == 10) = false := by simp [h10]
                have H10 := Lib.hid h10
                clear h10
                go_wp2_with fail
                go_roundg (gk - 1)
                case measure => have := HPK.out; omega
                case rel =>
                  have e1 : lineOf l (p + 1) = lineOf l p := by simp [lineOf, H10.out]
                  have e2 : fromOf l (p + 1) = fromOf l p := by simp [fromOf, H10.out]
                  exact ⟨p + 1, a, en, m0, T, D, by have := HPK.out; omega, by omega, HAA.out, hen, by rw [e1], by rw [e2], rfl, rfl, rfl, by go_num, HTT.out, HDD.out, rfl⟩
            · have hE := of_decide_eq_true HDB.out
              obtain ⟨hE, herr, _⟩ := hE
              subst hE
              have hk0 : kindA l p = 0 := by
                have h1 := of_decide_eq_false HTB.out
                by_cases hk : kindA l p = 0
                · exact hk
                · exact absurd ⟨rfl, hk, hlt⟩ h1
              have h10 := at_nl l p hlt HAA.out
              have h10b : (chr l p == 10) = false := by simp [h10]
              have H10 := Lib.hid h10
              have HK0 := Lib.hid hk0
              have HERR := Lib.hid herr
              clear h10 hk0 herr
              go_wp2_with fail
              go_roundg (gk - 1)
              case measure => have := HPK.out; omega
              case rel =>
                have e1 : lineOf l (p + 1) = lineOf l p := by simp [lineOf, H10.out]
                have e2 : fromOf l (p + 1) = fromOf l p := by simp [fromOf, H10.out]
                have g1 := endA_gt l p
                have g2 := nxt_ge l (endA l p)
                refine ⟨p + 1, nxt l (endA l p), en, m0, T, D ++ [dgA l p], by have := HPK.out; omega, by omega, nxt_idem l _, by omega, by rw [e1], by rw [e2], rfl, by simp, rfl, by go_num, ?_, ?_, rfl⟩
                · rw [← toks_skip l p hlt HK0.out]; exact HTT.out
                · rw [← HDD.out, dgs_one l p hlt HERR.out]; simp
        · have hE := of_decide_eq_true HTB.out
          obtain ⟨hE, hk, _⟩ := hE
          subst hE
          have HK := Lib.hid hk
          clear hk
          have hx : (toks l (nxt l 0))[T.length]? = some (tokA l p) := by
            rcases HTC.out with ⟨_, hx⟩ | ⟨h, _⟩ | ⟨h, _⟩
            · exact hx
            · cases h
            · cases h
          obtain ⟨g, rfl, _, c1, _, _, _⟩ := HT.out _ _ hx
          have hlt' : T.length < (toks l (nxt l 0)).length := (List.getElem?_eq_some_iff.1 hx).1
          simp only [tokA] at c1
          have hbs1 : Bs w1 b off l := HBS.out.below HB1.out (HBS.out.lt (by omega))
          have htx := textA_len l p hlt
          have hg := endA_gt l p
          have hle := endA_le l p hlt
          have hcv0 := fun n => conv_bs (w := w1.drewN n) (b := b) (off := off + p) (l := textA l p) (hbs1.part p (endA l p - p)) (cap - p)
          have htx' : (textA l p).length + p = endA l p := by omega
          have HTX := Lib.hid htx'
          have htx1 : 0 < (textA l p).length := by omega
          have htx2 : p + (textA l p).length ≤ l.length := by omega
          have HCV := Lib.hid hcv0
          clear hx HTC htx htx' hcv0 hg hle
          generalize htE : textA l p = tx at c1 HTX htx1 htx2 HCV
          have HTE := Lib.hid htE
          clear htE
          have hcv := HCV.out
          have n1 : ((tx.length : Int) == 0) = false := by rw [beq_eq_false_iff_ne]; omega
          have n1' : (tx.length == 0) = false := by rw [beq_eq_false_iff_ne]; omega
          have n2 : decide (p < en) = false := by simp; omega
          have n2' : decide ((p : Int) < (en : Int)) = false := by simp; omega
          have n3 : decide ((l.length : Int) < (p : Int) + (tx.length : Int)) = false := by simp; omega
          have n3' : decide (l.length < p + tx.length) = false := by simp; omega
          have n4 : ¬ cap = p := by omega
          go_upto_region 11 with (fail)
          go_quiet (fail)
          rw [World.drewN_drewN]
          generalize m0 + nq = m1
          clear hcv HCV n1 n1' n2 n2' n3 n3' c1
          have h10 := at_nl l p hlt HAA.out
          have h10b : (chr l p == 10) = false := by simp [h10]
          have H10 := Lib.hid h10
          clear h10
          have hcell : w1.cell? ⟨b, off + p, none⟩ = some (.int .u8 (chr l p)) := hbs1 p hlt
          clear hbs1
          go_upto_region 15 with (fail)
          go_cut [117] from 21 to 128 (fun s117 wx => s117 = .bool db ∧ wx = w1.drewN m1)
          case first =>
            rcases HDC.out with ⟨ht, hx⟩ | ⟨ht, hx⟩ | ⟨ht, q, hq, hx⟩
            · obtain ⟨g, rfl, c3, c4', _⟩ := HD.out _ _ hx
              subst ht
              have hlt' : D.length < (dgs l (nxt l 0)).length := (List.getElem?_eq_some_iff.1 hx).1
              simp only [dgA] at c3 c4'
              clear hx HDC
              go_wp2_with fail
              go_meet
              exact ⟨rfl, rfl⟩
            · subst ht
              have hge : decide (D.length < (dgs l (nxt l 0)).length) = false := by simp; omega
              clear hx HDC
              go_wp2_with fail
              go_meet
              exact ⟨rfl, rfl⟩
            · obtain ⟨g, rfl, c3, c4', _⟩ := HD.out _ _ hx
              subst ht
              have hlt' : D.length < (dgs l (nxt l 0)).length := (List.getElem?_eq_some_iff.1 hx).1
              simp only [dgA] at c3 c4'
              clear hx HDC
              have hlq := lineOf_le l q
              have hfq := fromOf_le l q
              by_cases hll : lineOf l p = lineOf l q
              · have hcol := place_ne_lt l p q hq hll
                rw [← hll] at c3
                have hcb : ((q : Int) - fromOf l q + 1 == (p : Int) - fromOf l p + 1) = false := by rw [beq_eq_false_iff_ne]; exact fun e => hcol e.symm
                clear hll hcol
                generalize (q : Int) - fromOf l q + 1 = col at c4' hcb
                go_wp2_with fail
                go_meet
                exact ⟨by simp, rfl⟩
              · have hlb : ((lineOf l q : Int) == (lineOf l p : Int)) = false := by rw [beq_eq_false_iff_ne]; omega
                have hlb' : (lineOf l q == lineOf l p) = false := by rw [beq_eq_false_iff_ne]; omega
                clear hll
                go_wp2_with fail
                go_meet
                exact ⟨rfl, rfl⟩
          case rest =>
            obtain ⟨rfl, rfl⟩ := hcut
            clear HDC
            have e1 : lineOf l (p + 1) = lineOf l p := by simp [lineOf, H10.out]
            have e2 : fromOf l (p + 1) = fromOf l p := by simp [fromOf, H10.out]
            have HE1 := Lib.hid e1
            have HE2 := Lib.hid e2
            clear e1 e2
            cases db
            · have herr : errA l p = 0 := by
                have h2 := of_decide_eq_false HDB.out
                by_cases he : errA l p = 0
                · exact he
                · exact absurd ⟨rfl, he, hlt⟩ h2
              have HERR := Lib.hid herr
              clear herr
              go_wp2_with fail
              go_roundg (gk - 1)
              case measure => have := HPK.out; omega
              case rel =>
                have g1 := endA_gt l p
                have g2 := nxt_ge l (endA l p)
                refine ⟨p + 1, nxt l (endA l p), p + tx.length, m1, T ++ [tokA l p], D, by have := HPK.out; omega, by omega, nxt_idem l _, by have := HTX.out; omega, by rw [HE1.out], by rw [HE2.out], by simp, rfl, by go_num, by go_num, ?_, ?_, rfl⟩
                · rw [← HTT.out, toks_one l p hlt HK.out]; simp
                · rw [← dgs_skip l p hlt HERR.out]; exact HDD.out
            · have herr : ¬ errA l p = 0 := (of_decide_eq_true HDB.out).2.1
              have HERR := Lib.hid herr
              clear herr
              go_wp2_with fail
              go_roundg (gk - 1)
              case measure => have := HPK.out; omega
              case rel =>
                have g1 := endA_gt l p
                have g2 := nxt_ge l (endA l p)
                refine ⟨p + 1, nxt l (endA l p), p + tx.length, m1, T ++ [tokA l p], D ++ [dgA l p], by have := HPK.out; omega, by omega, nxt_idem l _, by have := HTX.out; omega, by rw [HE1.out], by rw [HE2.out], by simp, by simp, by go_num, by go_num, ?_, ?_, rfl⟩
                · rw [← HTT.out, toks_one l p hlt HK.out]; simp
                · rw [← HDD.out, dgs_one l p hlt HERR.out]; simp
    · have hT0 : (toks l (nxt l 0)).length = T.length := by
        have h1 := HTT.out
        rw [toks_end l a (by omega), List.append_nil] at h1
        rw [h1]
      have hD0 : (dgs l (nxt l 0)).length = D.length := by
        have h1 := HDD.out
        rw [dgs_end l a (by omega), List.append_nil] at h1
        rw [h1]
      have e1 : ((T.length : Int) == ((toks l (nxt l 0)).length : Int)) = true := by rw [hT0]; simp
      have e2 : ((D.length : Int) == ((dgs l (nxt l 0)).length : Int)) = true := by rw [hD0]; simp
      have e1' : (T.length == (toks l (nxt l 0)).length) = true := by rw [hT0]; simp
      have e2' : (D.length == (dgs l (nxt l 0)).length) = true := by rw [hD0]; simp
      clear hT0 hD0
      go_wp2_with (go_at_call 8; refine (known_ok _).mono ?_; rintro e w2 ⟨rfl, hb2⟩)
      go_ret
      exact ⟨rfl, HB1.out.trans ((⟨rfl, rfl, rfl, Nat.le_refl _, fun _ _ => rfl⟩ : Below w.heap.size w1 (w1.drewN m0)).trans (hb2.mono HB1.out.size))⟩
end Go.Proofs.Ytpdljjlbjebmeaa
