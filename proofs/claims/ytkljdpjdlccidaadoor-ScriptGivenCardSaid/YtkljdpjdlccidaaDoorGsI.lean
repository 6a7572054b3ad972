/- slices.stableCmpFunc, SortStableFunc at entries. -/
import Derived.Test.YtkljdpjdlccidaaDoorGsH
namespace Go.Proofs.YtkljdpjdlccidaaDoor
open Go.RowKit Go.Shelf
attribute [local go_sem] Oper.semAt_some
theorem sym_ok : ∀ n, SymC n := fun n => by
  induction n using Nat.strongRecOn with
  | ind n ih =>
    intro g off c N P X Y R w ia im ib hn hx hy h hN hl hX hY ha hm hb
    by_cases h1 : X.length = 1
    · obtain ⟨x, rfl⟩ := List.length_eq_one_iff.1 h1
      exact symX_ok h hN hl hY ha (by simpa using hm) (by simpa using hb)
    · by_cases h2 : Y.length = 1
      · obtain ⟨y, rfl⟩ := List.length_eq_one_iff.1 h2
        exact symY_ok h hN hl hX (by omega) ha hm (by simpa using hb)
      · exact symG_ok ih hn (by omega) (by omega) h hN hl hX hY ha hm hb
theorem drop_two (T : List En) (a B : Nat) : T.drop a = (T.drop a).take B ++ T.drop (a + B) := by
  rw [← List.drop_drop, List.take_append_drop]
theorem take_two (T : List En) (a B : Nat) : T.take (a + B) = T.take a ++ (T.drop a).take B := List.take_add ..
set_option maxRecDepth 100000 in
set_option maxHeartbeats 4000000 in
theorem stable_ok {g off c N : Nat} {T : List En} {w : World} (h : RowG g off T w) (hN : T.length = N) (hl : N ≤ 1000) : Calls Tryd.prog 39 #[.slice (some ⟨g, off, none⟩) N c, .int .i64 N, .func (.func 18) #[] #[]] w fun e w' => e = .returned (.tuple #[]) ∧ RowG g off (soS ltE T) w' ∧ Kept (nG g) w w' := by
  have H0 := Lib.hid h
  have HN := Lib.hid hN
  clear h hN
  go_enter Tryd.func39, Tryd.ntmps39
  go_upto_region 2 with (fail)
  go_loopg [7, 8] N (fun k v7 v8 wr => ∃ q a b : Nat, a + k = N ∧ a = 20 * q ∧ b = a + 20 ∧ v7 = .int .i64 a ∧ v8 = .int .i64 b ∧ RowG g off (bsS ltE 20 (T.take a) ++ T.drop a) wr ∧ Kept (nG g) w wr)
  case atStart => exact ⟨0, 0, 20, by omega, rfl, rfl, rfl, rfl, by simpa [bsS_nil] using H0.out, Kept.refl _ _⟩
  case round =>
    obtain ⟨q, a, b, hak, haq, hba, rfl, rfl, hr, hk⟩ := hrel
    have HR := Lib.hid hr
    have HK := Lib.hid hk
    have HQ := Lib.hid (And.intro hak (And.intro haq hba))
    clear hr hk
    have hbL : (bsS ltE 20 (T.take a)).length = a := by rw [bsS_length (by decide) _ _ rfl, List.length_take]; have := HN.out; omega
    by_cases hlt : b ≤ N
    · have z : (b : Int) ≤ (N : Int) := by omega
      have e1 : T.drop a = (T.drop a).take 20 ++ T.drop b := by rw [hba]; exact drop_two T a 20
      have hc : ((T.drop a).take 20).length = 20 := by rw [List.length_take, List.length_drop]; have := HN.out; omega
      have HC := Lib.hid (insert_ok (c := c) (P := bsS ltE 20 (T.take a)) (X := (T.drop a).take 20) (R := T.drop b) (ia := (a : Int)) (ib := (b : Int)) (by have h := HR.out; rw [e1] at h; simpa using h) (N := N) (by simp only [List.length_append, List.length_drop, hbL, hc]; have := HN.out; omega) hl (by omega) (by omega))
      have HE := Lib.hid (show bsS ltE 20 (T.take a) ++ soS ltE ((T.drop a).take 20) = bsS ltE 20 (T.take b) by
        rw [hba, take_two, bsS_snoc (by decide) q (T.take a) _ (by rw [List.length_take]; have := HN.out; omega) (by omega)])
      have hbN : b ≤ 1000 := by omega
      clear e1 hc hbL hak haq hba hlt
      go_wp2_with (go_at_call 58; refine HC.out.mono ?_; rintro e w2 ⟨rfl, hr2, hk2⟩; have HR2 := Lib.hid hr2; have HK2 := Lib.hid (HK.out.trans hk2); clear hr2 hk2)
      go_roundg (N - b)
      case measure => have := HQ.out; omega
      case rel => exact ⟨q + 1, b, b + 20, by have := HQ.out; omega, by have := HQ.out; omega, rfl, rfl, by go_num, by rw [← HE.out]; exact HR2.out, HK2.out⟩
    · have z : ¬ (b : Int) ≤ (N : Int) := by omega
      have HC := Lib.hid (insert_ok (c := c) (P := bsS ltE 20 (T.take a)) (X := T.drop a) (R := []) (ia := (a : Int)) (ib := (N : Int)) (by simpa using HR.out) (N := N) (by simp only [List.length_append, List.length_drop, hbL, List.length_nil]; have := HN.out; omega) hl (by omega) (by rw [List.length_drop]; have := HN.out; omega))
      have HE := Lib.hid (show bsS ltE 20 (T.take a) ++ soS ltE (T.drop a) = bsS ltE 20 T by
        rw [← bsS_snoc (by decide) q (T.take a) _ (by rw [List.length_take]; have := HN.out; omega) (by rw [List.length_drop]; have := HN.out; omega), List.take_append_drop])
      clear hbL hak haq hba hlt
      go_upto_region 7 with (go_at_call 58; refine HC.out.mono ?_; rintro e w2 ⟨rfl, hr2, hk2⟩; have HR2 := Lib.hid hr2; have HK2 := Lib.hid (HK.out.trans hk2); clear hr2 hk2)
      clear HR HK HC HQ
      go_loopg [6, 7, 8, 9] N (fun k v6 v7 v8 v9 wr => ∃ B : Nat, 0 < B ∧ B ≤ 2000 ∧ N ≤ B + k ∧ v6 = .int .i64 B ∧ RowG g off (bsS ltE B T) wr ∧ Kept (nG g) w wr)
      case atStart => exact ⟨20, by decide, by decide, by omega, rfl, by rw [← HE.out]; simpa using HR2.out, HK2.out⟩
      case round =>
        clear HE HR2 HK2
        obtain ⟨B, hB, hB2, hBk, rfl, hr, hk⟩ := hrel
        have HR := Lib.hid hr
        have HK := Lib.hid hk
        have HB := Lib.hid hB
        have HBK := Lib.hid hBk
        clear hr hk
        by_cases hBN : B < N
        · have zB : (B : Int) < (N : Int) := by omega
          clear hBk
          go_upto_region 9 with (fail)
          have HBN := Lib.hid hBN
          go_loopg [7, 8] N (fun kk v7 v8 wx => ∃ q a b : Nat, a + kk = N ∧ a = 2 * B * q ∧ b = a + 2 * B ∧ v7 = .int .i64 a ∧ v8 = .int .i64 b ∧ RowG g off (bsS ltE (2 * B) (T.take a) ++ bsS ltE B (T.drop a)) wx ∧ Kept (nG g) w wx)
          case atStart => exact ⟨0, 0, 2 * B, by omega, by simp, by omega, rfl, by go_num, by simpa [bsS_nil] using HR.out, HK.out⟩
          case round =>
            clear HR HK
            obtain ⟨q, a, b, hak, haq, hba, rfl, rfl, hr, hk⟩ := hrel
            have HR := Lib.hid hr
            have HK := Lib.hid hk
            have HQ := Lib.hid (And.intro hak (And.intro haq hba))
            have haN : a ≤ 1000 := by omega
            clear hr hk
            have hbL : (bsS ltE (2 * B) (T.take a)).length = a := by rw [bsS_length (by omega) _ _ rfl, List.length_take]; have := HN.out; omega
            have hta : (T.take a).length = 2 * B * q := by rw [List.length_take, ← haq]; have := HN.out; omega
            by_cases hlt : b ≤ N
            · have z : (b : Int) ≤ (N : Int) := by omega
              obtain ⟨C1, hC1⟩ : ∃ C, C = (T.drop a).take B := ⟨_, rfl⟩
              obtain ⟨C2, hC2⟩ : ∃ C, C = (T.drop (a + B)).take B := ⟨_, rfl⟩
              have l1 : C1.length = B := by rw [hC1, List.length_take, List.length_drop]; have := HN.out; omega
              have l2 : C2.length = B := by rw [hC2, List.length_take, List.length_drop]; have := HN.out; omega
              have eD : T.drop a = C1 ++ C2 ++ T.drop b := by
                rw [hC1, hC2, List.append_assoc, hba, show a + 2 * B = a + B + B by omega, ← drop_two, ← drop_two]
              obtain ⟨s1, s2⟩ := bsS_two swoE hB C1 C2 (T.drop b) l1 (by omega) (.inl l2)
              have e1 : T.take b = T.take a ++ (C1 ++ C2) := by
                rw [hba, take_two]
                congr 1
                rw [eD, List.take_append_of_le_length (by rw [List.length_append]; omega), List.take_of_length_le (by rw [List.length_append]; omega)]
              have HC := Lib.hid (sym_ok (B + B) (c := c) (P := bsS ltE (2 * B) (T.take a)) (X := soS ltE C1) (Y := soS ltE C2) (R := bsS ltE B (T.drop b)) (ia := (a : Int)) (im := (a : Int) + (B : Int)) (ib := (b : Int)) (N := N) (by rw [soS_length, soS_length]; omega) (by rw [soS_length]; omega) (by rw [soS_length]; omega) (by have h := HR.out; rw [eD, s1] at h; simpa using h) (by simp only [List.length_append, soS_length, hbL, bsS_length hB _ _ rfl, List.length_drop]; have := HN.out; omega) hl (soS_soS swoE _) (soS_soS swoE _) (by omega) (by rw [soS_length]; omega) (by rw [soS_length, soS_length]; omega))
              have HE := Lib.hid (show bsS ltE (2 * B) (T.take a) ++ mgS ltE (soS ltE C1) (soS ltE C2) = bsS ltE (2 * B) (T.take b) by
                rw [s2, e1, bsS_snoc (by omega) q (T.take a) _ hta (by rw [List.length_append]; omega)])
              have hbN : b ≤ 1000 := by omega
              clear eD s1 s2 e1 l1 l2 hC1 hC2 hbL hta hak haq hba hlt
              go_wp2_with (go_at_call 59; refine HC.out.mono ?_; rintro e w2 ⟨rfl, hr2, hk2⟩; have HR2 := Lib.hid hr2; have HK2 := Lib.hid (HK.out.trans hk2); clear hr2 hk2)
              go_roundg (N - b)
              case measure => have := HQ.out; have := HB.out; omega
              case rel => exact ⟨q + 1, b, b + 2 * B, by have := HQ.out; omega, by have := HQ.out; rw [Nat.mul_succ]; omega, rfl, rfl, by go_num, by rw [← HE.out]; simpa using HR2.out, HK2.out⟩
            · have z : ¬ (b : Int) ≤ (N : Int) := by omega
              have lD : (T.drop a).length = N - a := by rw [List.length_drop]; have := HN.out; omega
              have HE0 := Lib.hid (show bsS ltE (2 * B) T = bsS ltE (2 * B) (T.take a) ++ soS ltE (T.drop a) by
                rw [← bsS_snoc (by omega) q (T.take a) _ hta (by omega), List.take_append_drop])
              by_cases hm : a + B < N
              · have zm : (a : Int) + (B : Int) < (N : Int) := by omega
                obtain ⟨C1, hC1⟩ : ∃ C, C = (T.drop a).take B := ⟨_, rfl⟩
                obtain ⟨C2, hC2⟩ : ∃ C, C = T.drop (a + B) := ⟨_, rfl⟩
                have l1 : C1.length = B := by rw [hC1, List.length_take, List.length_drop]; have := HN.out; omega
                have l2 : C2.length = N - a - B := by rw [hC2, List.length_drop]; have := HN.out; omega
                have eD : T.drop a = C1 ++ C2 ++ [] := by rw [hC1, hC2, List.append_nil, ← drop_two]
                obtain ⟨s1, s2⟩ := bsS_two swoE hB C1 C2 [] l1 (by omega) (.inr rfl)
                have HC := Lib.hid (sym_ok (C1.length + C2.length) (c := c) (P := bsS ltE (2 * B) (T.take a)) (X := soS ltE C1) (Y := soS ltE C2) (R := []) (ia := (a : Int)) (im := (a : Int) + (B : Int)) (ib := (N : Int)) (N := N) (by rw [soS_length, soS_length]) (by rw [soS_length]; omega) (by rw [soS_length]; omega) (by have h := HR.out; rw [eD, s1, bsS_nil] at h; simpa using h) (by simp only [List.length_append, soS_length, hbL, List.length_nil]; omega) hl (soS_soS swoE _) (soS_soS swoE _) (by omega) (by rw [soS_length]; omega) (by rw [soS_length, soS_length]; omega))
                have HE := Lib.hid (show bsS ltE (2 * B) (T.take a) ++ mgS ltE (soS ltE C1) (soS ltE C2) = bsS ltE (2 * B) T by
                  rw [s2, HE0.out, eD, List.append_nil])
                clear eD s1 s2 l1 l2 hC1 hC2 hbL hta hak haq hba hlt lD hm
                go_wp2_with (go_at_call 59; refine HC.out.mono ?_; rintro e w2 ⟨rfl, hr2, hk2⟩; have HR2 := Lib.hid hr2; have HK2 := Lib.hid (HK.out.trans hk2); clear hr2 hk2)
                go_roundg (N - 2 * B)
                case measure => have := HBK.out; have := HB.out; have := HBN.out; omega
                case rel => exact ⟨2 * B, by omega, by omega, by omega, by go_num, by rw [← HE.out]; simpa using HR2.out, HK2.out⟩
              · have zm : ¬ (a : Int) + (B : Int) < (N : Int) := by omega
                have HE := Lib.hid (show bsS ltE (2 * B) (T.take a) ++ bsS ltE B (T.drop a) = bsS ltE (2 * B) T by
                  rw [HE0.out, bsS_one hB (by omega)])
                clear hbL hta hak haq hba hlt lD hm
                go_wp2_with fail
                go_roundg (N - 2 * B)
                case measure => have := HBK.out; have := HB.out; have := HBN.out; omega
                case rel => exact ⟨2 * B, by omega, by omega, by omega, by go_num, by rw [← HE.out]; exact HR.out, HK.out⟩
        · have zB : ¬ (B : Int) < (N : Int) := by omega
          have HE := Lib.hid (show bsS ltE B T = soS ltE T from bsS_one hB (by have := HN.out; omega))
          clear hBk hBN
          go_wp2_with fail
          go_end0
          exact ⟨rfl, by rw [← HE.out]; exact HR.out, HK.out⟩
theorem sortS_ok {g off c N : Nat} {T : List En} {w : World} (h : RowG g off T w) (hN : T.length = N) (hl : N ≤ 1000) : Calls Tryd.prog 17 #[.slice (some ⟨g, off, none⟩) N c, .func (.func 18) #[] #[]] w fun e w' => e = .returned (.tuple #[]) ∧ RowG g off (soS ltE T) w' ∧ Kept (nG g) w w' := by
  have HC := Lib.hid (stable_ok (c := c) h hN hl)
  clear h
  go_enter Tryd.func17, Tryd.ntmps17
  go_wp2_with (go_at_call 39; refine HC.out.mono ?_; rintro e w2 ⟨rfl, hr2, hk2⟩; have HR2 := Lib.hid hr2; have HK2 := Lib.hid hk2; clear hr2 hk2)
  go_end0
  exact ⟨rfl, HR2.out, HK2.out⟩
end Go.Proofs.YtkljdpjdlccidaaDoor
