/- ParseNests. -/
import Derived.Test.YthgpepkcjjimlaaParZ
import Derived.Deep.LoopGhost
namespace Go.Proofs.Ythgpepkcjjimlaa
open Go.RowKit

theorem bytes_app (a b : ByteArray) : (a ++ b).data.toList = a.data.toList ++ b.data.toList := by simp
theorem bytes_size (a : ByteArray) : a.size = a.data.toList.length := Array.length_toList.symm
theorem rep_snoc (s : List UInt8) : ∀ n, rep s (n + 1) = rep s n ++ s
  | 0 => by simp [rep]
  | n + 1 => by
    show s ++ rep s (n + 1) = (s ++ rep s n) ++ s
    rw [rep_snoc s n, List.append_assoc]
theorem rep_len (s : List UInt8) : ∀ n, (rep s n).length = n * s.length
  | 0 => by simp [rep]
  | n + 1 => by rw [rep, List.length_append, rep_len s n, Nat.add_mul]; omega
theorem rep_nil : ∀ n, rep [] n = []
  | 0 => rfl
  | n + 1 => by rw [rep, rep_nil n]; rfl
/-- The text's beginning, and its end, so far. -/
structure NestS (q k : Nat) (S E : ByteArray) (pv : Int) : Prop where
  s : S.data.toList = headT q ++ rep (signs q) (k - 1)
  e : E.data.toList = rep (shuts q) (k - 1) ++ endsT q
  p : pv = if 64 < k then (placeT q : Int) else 0
theorem NestS.step {q k : Nat} {S E : ByteArray} {pv : Int} (h : NestS q k S E pv) (hk : 1 ≤ k) {s e : List UInt8} (hs : s = signs q) (he : e = shuts q) {E' : ByteArray} (hE : E'.data.toList = e ++ E.data.toList) {pv' : Int} (hp : pv' = if k = 64 then (S.size : Int) + 1 else pv) : NestS q (k + 1) (S ++ ⟨s.toArray⟩) E' pv' := by
  obtain ⟨k, rfl⟩ : ∃ j, k = j + 1 := ⟨k - 1, by omega⟩
  subst hs he hp
  refine ⟨?_, ?_, ?_⟩
  · rw [bytes_app, h.s, List.append_assoc]
    simp only [Nat.add_sub_cancel]
    rw [rep_snoc]
  · rw [hE, h.e, ← List.append_assoc]
    simp only [Nat.add_sub_cancel]
    rfl
  · by_cases h64 : k + 1 = 64
    · rw [if_pos h64, if_pos (by omega), bytes_size, h.s, List.length_append, rep_len]
      unfold placeT
      have : k = 63 := by omega
      subst this
      simp only [Nat.add_sub_cancel]
      omega
    · rw [if_neg h64, h.p]
      by_cases h65 : 64 < k + 1
      · rw [if_pos h65, if_pos (by omega)]
      · rw [if_neg h65, if_neg (by omega)]
theorem signs_le (q : Nat) : (signs q).length ≤ 10 ∧ (headT q).length ≤ 10 ∧ (shuts q).length ≤ 1 ∧ (endsT q).length ≤ 2 ∧ (midT q).length ≤ 2 := by
  unfold signs headT shuts endsT midT
  refine ⟨?_, ?_, ?_, ?_, ?_⟩ <;> (repeat' split) <;> decide
theorem NestS.size {q k : Nat} {S E : ByteArray} {pv : Int} (h : NestS q k S E pv) (hk : k ≤ 70) : S.size ≤ 800 ∧ E.size ≤ 100 := by
  obtain ⟨h1, h2, h3, h4, _⟩ := signs_le q
  have a1 : (k - 1) * (signs q).length ≤ 69 * 10 := Nat.mul_le_mul (by omega) h1
  have a2 : (k - 1) * (shuts q).length ≤ 69 * 1 := Nat.mul_le_mul (by omega) h3
  rw [bytes_size, bytes_size, h.s, h.e, List.length_append, List.length_append, rep_len, rep_len]
  omega
theorem NestS.text {q m : Nat} {S E M : ByteArray} {pv : Int} (h : NestS q m S E pv) (hM : M.data.toList = midT q) : ((S ++ M) ++ E).data.toList = nestT m q := by
  rw [bytes_app, bytes_app, h.s, h.e, hM]; rfl
theorem NestS.text0 {q m : Nat} {S E : ByteArray} {pv : Int} (h : NestS q m S E pv) (hM : midT q = []) : (S ++ E).data.toList = nestT m q := by
  rw [bytes_app, h.s, h.e]; unfold nestT; rw [hM, List.append_nil]
def NestR (q m : Nat) (W0 : World) (n : Nat) (s en pl i : Value) (wr : World) : Prop :=
  ∃ (k : Nat) (S E : ByteArray) (pv : Int), 1 ≤ k ∧ k ≤ m ∧ n + k = m ∧ W0 = wr ∧ i = .int .i64 (k : Int) ∧ s = .string S ∧ en = .string E ∧ pl = .int .i64 pv ∧ NestS q k S E pv
theorem NestS.start (q : Nat) (S E : ByteArray) (hs : S.data.toList = headT q) (he : E.data.toList = endsT q) : NestS q 1 S E 0 := ⟨by rw [hs]; simp [rep], by rw [he]; simp [rep], by rw [if_neg (by omega)]⟩
theorem conv_fun (s : ByteArray) : ∃ (cf : World → Nat) (Wf : World → World), ∀ w : World, (convert 9 22 (.string s)).run Try.prog w = .ok (.slice (some ⟨w.heap.size, 0, none⟩) s.size (cf w)) (Wf w) ∧ Holds (Wf w) (.slice (some ⟨w.heap.size, 0, none⟩) s.size (cf w)) s.data.toList ∧ Below w.heap.size w (Wf w) := by
  obtain ⟨cf, h⟩ := Classical.axiomOfChoice fun w => conv_bytes s w
  obtain ⟨Wf, h⟩ := Classical.axiomOfChoice h
  exact ⟨cf, Wf, h⟩

set_option maxRecDepth 100000 in
set_option maxHeartbeats 16000000 in
theorem nests_0 (m : Nat) (h1 : 1 ≤ m) (h2 : m ≤ 70) (w : World) :
    Calls Try.prog 4 #[.int .i64 (m : Int), .int .i64 0] w fun e w' => e = .returned (.bool true) ∧ Below w.heap.size w w' := by
  have d1 : decide (m < 1) = false := by simp; omega
  have d2 : decide ((m : Int) < 1) = false := by simp; omega
  have d3 : decide ((70 : Int) < (m : Int)) = false := by simp; omega
  have d4 : decide (70 < m) = false := by simp; omega
  have HZ := Lib.hid (nests m 0 h1 h2 (by decide))
  go_enter Try.func4, Try.ntmps4
  go_wp2_with fail
  go_loopg [5, 6, 8, 9] (m - 1) (NestR 0 m (w.alloc (.cells #[.string ⟨#[40]⟩, .string ⟨#[97, 114, 114, 32]⟩, .string ⟨#[105, 116, 91]⟩, .string ⟨#[108, 101, 110, 32]⟩, .string ⟨#[119, 104, 105, 108, 101, 32, 105, 116, 32, 123]⟩] 9)))
  case atStart => exact ⟨1, _, _, 0, Nat.le_refl _, h1, by omega, rfl, rfl, rfl, rfl, rfl, NestS.start 0 _ _ rfl rfl⟩
  case round =>
    obtain ⟨k, S, E, pv, hk1, hkm, hnk, rfl, rfl, rfl, rfl, rfl, hns⟩ := hrel
    obtain ⟨hS, hE⟩ := hns.size (by omega)
    have HNS := Lib.hid hns
    have HNK := Lib.hid hnk
    clear hnk
    by_cases hlt : k < m
    · clear hns
      by_cases h64 : k = 64
      · have e64 : ((k : Int) == 64) = true := by simp; omega
        have HK := Lib.hid h64
        clear h64
        go_wp2_with fail
        go_roundg (m - k - 1)
        case measure => have := HNK.out; omega
        case rel => exact ⟨k + 1, _, ⟨#[41]⟩ ++ E, _, by omega, by omega, by omega, rfl, by go_num, rfl, rfl, rfl, HNS.out.step hk1 (s := #[40].toList) (e := #[41].toList) rfl rfl (by rw [bytes_app]) (by rw [if_pos HK.out])⟩
      · have e64 : ((k : Int) == 64) = false := by simp; omega
        have HK := Lib.hid h64
        clear h64
        go_wp2_with fail
        go_roundg (m - k - 1)
        case measure => have := HNK.out; omega
        case rel => exact ⟨k + 1, _, ⟨#[41]⟩ ++ E, _, by omega, by omega, by omega, rfl, by go_num, rfl, rfl, rfl, HNS.out.step hk1 (s := #[40].toList) (e := #[41].toList) rfl rfl (by rw [bytes_app]) (by rw [if_neg HK.out])⟩
    · obtain rfl : k = m := by omega
      have htx := hns.text (M := ⟨#[105, 116]⟩) rfl
      have hsz2 : ((S ++ ⟨#[105, 116]⟩) ++ E).size = S.size + 2 + E.size := by simp; rfl
      have hsz : ((S ++ ⟨#[105, 116]⟩) ++ E).data.toList.length ≤ 1000 := by
        rw [← bytes_size]
        omega
      have HSZ := Lib.hid hsz2
      clear hsz2
      by_cases h64 : k ≤ 64
      · have hz := HZ.out
        rw [if_pos h64, ← htx] at hz
        obtain ⟨hd, d, kf, r, hP⟩ := outZ_some hz
        obtain ⟨cf, Wf, hcv⟩ := conv_fun ((S ++ ⟨#[105, 116]⟩) ++ E)
        have hcv1 := fun w => (hcv w).1
        have hps := fun w => parse_some 2000 _ _ _ (hcv w).2.1 (by omega) hd (by rw [hP]; simp)
        rw [hP] at hps
        have HPS := Lib.hid hps
        have HCV := Lib.hid fun w => (hcv w).2.2
        clear hz hd hP hcv hps htx hsz HZ hns
        have d64 : decide ((k : Int) ≤ 64) = true := by simp; omega
        have hq := HPS.out (w.alloc (.cells #[.string ⟨#[40]⟩, .string ⟨#[97, 114, 114, 32]⟩, .string ⟨#[105, 116, 91]⟩, .string ⟨#[108, 101, 110, 32]⟩, .string ⟨#[119, 104, 105, 108, 101, 32, 105, 116, 32, 123]⟩] 9))
        rw [HSZ.out, World.size_alloc] at hq
        have HQ := Lib.hid hq
        clear hq
        go_wp2_with fail
        refine HQ.out.mono ?_
        rintro e w1 ⟨lv, ks, rfl, hlaid, hb1⟩
        obtain ⟨lA, lc, rfl⟩ := own_form hlaid.row
        have hfl : ((one d kf).flat 0).length = kf.size + 1 := by rw [Fo.flat_len, one_size]
        rw [hfl]
        have hbw := ((Below.refl _ w).alloc (Nat.le_refl _) (.cells #[.string ⟨#[40]⟩, .string ⟨#[97, 114, 114, 32]⟩, .string ⟨#[105, 116, 91]⟩, .string ⟨#[108, 101, 110, 32]⟩, .string ⟨#[119, 104, 105, 108, 101, 32, 105, 116, 32, 123]⟩] 9)).trans (((HCV.out _).mono (by simp)).trans (hb1.mono (by have := (HCV.out (w.alloc (.cells #[.string ⟨#[40]⟩, .string ⟨#[97, 114, 114, 32]⟩, .string ⟨#[105, 116, 91]⟩, .string ⟨#[108, 101, 110, 32]⟩, .string ⟨#[119, 104, 105, 108, 101, 32, 105, 116, 32, 123]⟩] 9))).size; simp at this; omega)))
        have HB := Lib.hid hbw
        have hsz1 := hbw.size
        have hpos : decide ((0 : Int) < ((kf.size + 1 : Nat) : Int)) = true := by simp
        have hposn : decide (0 < kf.size + 1) = true := by simp
        clear hlaid hb1 hbw hfl HPS HCV hcv1 HQ
        generalize kf.size + 1 = z at *
        go_wp2_with (go_at_call 5; refine (known3_ok _).mono ?_; rintro e w2 ⟨rfl, hb2⟩; have HB2 := Lib.hid hb2; clear hb2)
        go_ret
        exact ⟨rfl, (HB.out.alloc hsz1 _).trans (HB2.out.mono (by simp; omega))⟩
      · have hz := HZ.out
        rw [if_neg h64, ← htx] at hz
        have hpv : pv = (placeT 0 : Int) := by rw [hns.p, if_pos (by omega)]
        have hon := fun w => one_yes 2000 ((S ++ ⟨#[105, 116]⟩) ++ E) 5 1 _ w (by omega) hz
        have hpo : (((placeT 0 + offs 0 : Nat)) : Int) = pv := by rw [hpv] <;> simp [offs]
        rw [hpo] at hon
        have hpb : 0 ≤ pv ∧ pv ≤ 1000 := by rw [hpv]; decide
        obtain ⟨hp0, hp1⟩ := hpb
        have HON := Lib.hid hon
        clear hz hpv hon hpo htx hsz HZ hns
        have d64 : decide ((k : Int) ≤ 64) = false := by simp; omega
        go_wp2_with fail
        refine (HON.out _).mono ?_
        rintro e w1 ⟨rfl, hb1⟩
        have hbw := (((Below.refl _ w).alloc (Nat.le_refl _) (.cells #[.string ⟨#[40]⟩, .string ⟨#[97, 114, 114, 32]⟩, .string ⟨#[105, 116, 91]⟩, .string ⟨#[108, 101, 110, 32]⟩, .string ⟨#[119, 104, 105, 108, 101, 32, 105, 116, 32, 123]⟩] 9)).alloc (by simp) (.cells #[.int .i64 0, .int .i64 0, .int .i64 2, .int .i64 0, .int .i64 9] 3)).trans (hb1.mono (by simp; omega))
        have HB := Lib.hid hbw
        have hsz1 := hbw.size
        clear hb1 hbw HON
        go_wp2_with (go_at_call 5; refine (known3_ok _).mono ?_; rintro e w2 ⟨rfl, hb2⟩; have HB2 := Lib.hid hb2; clear hb2)
        go_ret
        exact ⟨rfl, HB.out.trans (HB2.out.mono hsz1)⟩

set_option maxRecDepth 100000 in
set_option maxHeartbeats 16000000 in
theorem nests_1 (m : Nat) (h1 : 1 ≤ m) (h2 : m ≤ 70) (w : World) :
    Calls Try.prog 4 #[.int .i64 (m : Int), .int .i64 1] w fun e w' => e = .returned (.bool true) ∧ Below w.heap.size w w' := by
  have d1 : decide (m < 1) = false := by simp; omega
  have d2 : decide ((m : Int) < 1) = false := by simp; omega
  have d3 : decide ((70 : Int) < (m : Int)) = false := by simp; omega
  have d4 : decide (70 < m) = false := by simp; omega
  have HZ := Lib.hid (nests m 1 h1 h2 (by decide))
  go_enter Try.func4, Try.ntmps4
  go_wp2_with fail
  go_loopg [5, 6, 8, 9] (m - 1) (NestR 1 m (w.alloc (.cells #[.string ⟨#[40]⟩, .string ⟨#[97, 114, 114, 32]⟩, .string ⟨#[105, 116, 91]⟩, .string ⟨#[108, 101, 110, 32]⟩, .string ⟨#[119, 104, 105, 108, 101, 32, 105, 116, 32, 123]⟩] 9)))
  case atStart => exact ⟨1, _, _, 0, Nat.le_refl _, h1, by omega, rfl, rfl, rfl, rfl, rfl, NestS.start 1 _ _ rfl rfl⟩
  case round =>
    obtain ⟨k, S, E, pv, hk1, hkm, hnk, rfl, rfl, rfl, rfl, rfl, hns⟩ := hrel
    obtain ⟨hS, hE⟩ := hns.size (by omega)
    have HNS := Lib.hid hns
    have HNK := Lib.hid hnk
    clear hnk
    by_cases hlt : k < m
    · clear hns
      by_cases h64 : k = 64
      · have e64 : ((k : Int) == 64) = true := by simp; omega
        have HK := Lib.hid h64
        clear h64
        go_wp2_with fail
        go_roundg (m - k - 1)
        case measure => have := HNK.out; omega
        case rel => exact ⟨k + 1, _, E, _, by omega, by omega, by omega, rfl, by go_num, rfl, rfl, rfl, HNS.out.step hk1 (s := #[97, 114, 114, 32].toList) (e := []) rfl rfl (rfl) (by rw [if_pos HK.out])⟩
      · have e64 : ((k : Int) == 64) = false := by simp; omega
        have HK := Lib.hid h64
        clear h64
        go_wp2_with fail
        go_roundg (m - k - 1)
        case measure => have := HNK.out; omega
        case rel => exact ⟨k + 1, _, E, _, by omega, by omega, by omega, rfl, by go_num, rfl, rfl, rfl, HNS.out.step hk1 (s := #[97, 114, 114, 32].toList) (e := []) rfl rfl (rfl) (by rw [if_neg HK.out])⟩
    · obtain rfl : k = m := by omega
      have htx := hns.text (M := ⟨#[105, 116]⟩) rfl
      have hsz2 : ((S ++ ⟨#[105, 116]⟩) ++ E).size = S.size + 2 + E.size := by simp; rfl
      have hsz : ((S ++ ⟨#[105, 116]⟩) ++ E).data.toList.length ≤ 1000 := by
        rw [← bytes_size]
        omega
      have HSZ := Lib.hid hsz2
      clear hsz2
      by_cases h64 : k ≤ 64
      · have hz := HZ.out
        rw [if_pos h64, ← htx] at hz
        obtain ⟨hd, d, kf, r, hP⟩ := outZ_some hz
        obtain ⟨cf, Wf, hcv⟩ := conv_fun ((S ++ ⟨#[105, 116]⟩) ++ E)
        have hcv1 := fun w => (hcv w).1
        have hps := fun w => parse_some 2000 _ _ _ (hcv w).2.1 (by omega) hd (by rw [hP]; simp)
        rw [hP] at hps
        have HPS := Lib.hid hps
        have HCV := Lib.hid fun w => (hcv w).2.2
        clear hz hd hP hcv hps htx hsz HZ hns
        have d64 : decide ((k : Int) ≤ 64) = true := by simp; omega
        have hq := HPS.out (w.alloc (.cells #[.string ⟨#[40]⟩, .string ⟨#[97, 114, 114, 32]⟩, .string ⟨#[105, 116, 91]⟩, .string ⟨#[108, 101, 110, 32]⟩, .string ⟨#[119, 104, 105, 108, 101, 32, 105, 116, 32, 123]⟩] 9))
        rw [HSZ.out, World.size_alloc] at hq
        have HQ := Lib.hid hq
        clear hq
        go_wp2_with fail
        refine HQ.out.mono ?_
        rintro e w1 ⟨lv, ks, rfl, hlaid, hb1⟩
        obtain ⟨lA, lc, rfl⟩ := own_form hlaid.row
        have hfl : ((one d kf).flat 0).length = kf.size + 1 := by rw [Fo.flat_len, one_size]
        rw [hfl]
        have hbw := ((Below.refl _ w).alloc (Nat.le_refl _) (.cells #[.string ⟨#[40]⟩, .string ⟨#[97, 114, 114, 32]⟩, .string ⟨#[105, 116, 91]⟩, .string ⟨#[108, 101, 110, 32]⟩, .string ⟨#[119, 104, 105, 108, 101, 32, 105, 116, 32, 123]⟩] 9)).trans (((HCV.out _).mono (by simp)).trans (hb1.mono (by have := (HCV.out (w.alloc (.cells #[.string ⟨#[40]⟩, .string ⟨#[97, 114, 114, 32]⟩, .string ⟨#[105, 116, 91]⟩, .string ⟨#[108, 101, 110, 32]⟩, .string ⟨#[119, 104, 105, 108, 101, 32, 105, 116, 32, 123]⟩] 9))).size; simp at this; omega)))
        have HB := Lib.hid hbw
        have hsz1 := hbw.size
        have hpos : decide ((0 : Int) < ((kf.size + 1 : Nat) : Int)) = true := by simp
        have hposn : decide (0 < kf.size + 1) = true := by simp
        clear hlaid hb1 hbw hfl HPS HCV hcv1 HQ
        generalize kf.size + 1 = z at *
        go_wp2_with (go_at_call 5; refine (known3_ok _).mono ?_; rintro e w2 ⟨rfl, hb2⟩; have HB2 := Lib.hid hb2; clear hb2)
        go_ret
        exact ⟨rfl, (HB.out.alloc hsz1 _).trans (HB2.out.mono (by simp; omega))⟩
      · have hz := HZ.out
        rw [if_neg h64, ← htx] at hz
        have hpv : pv = (placeT 1 : Int) := by rw [hns.p, if_pos (by omega)]
        have hon := fun w => one_yes 2000 ((S ++ ⟨#[105, 116]⟩) ++ E) 5 1 _ w (by omega) hz
        have hpo : (((placeT 1 + offs 1 : Nat)) : Int) = pv := by rw [hpv] <;> simp [offs]
        rw [hpo] at hon
        have hpb : 0 ≤ pv ∧ pv ≤ 1000 := by rw [hpv]; decide
        obtain ⟨hp0, hp1⟩ := hpb
        have HON := Lib.hid hon
        clear hz hpv hon hpo htx hsz HZ hns
        have d64 : decide ((k : Int) ≤ 64) = false := by simp; omega
        go_wp2_with fail
        refine (HON.out _).mono ?_
        rintro e w1 ⟨rfl, hb1⟩
        have hbw := (((Below.refl _ w).alloc (Nat.le_refl _) (.cells #[.string ⟨#[40]⟩, .string ⟨#[97, 114, 114, 32]⟩, .string ⟨#[105, 116, 91]⟩, .string ⟨#[108, 101, 110, 32]⟩, .string ⟨#[119, 104, 105, 108, 101, 32, 105, 116, 32, 123]⟩] 9)).alloc (by simp) (.cells #[.int .i64 0, .int .i64 0, .int .i64 2, .int .i64 0, .int .i64 9] 3)).trans (hb1.mono (by simp; omega))
        have HB := Lib.hid hbw
        have hsz1 := hbw.size
        clear hb1 hbw HON
        go_wp2_with (go_at_call 5; refine (known3_ok _).mono ?_; rintro e w2 ⟨rfl, hb2⟩; have HB2 := Lib.hid hb2; clear hb2)
        go_ret
        exact ⟨rfl, HB.out.trans (HB2.out.mono hsz1)⟩

set_option maxRecDepth 100000 in
set_option maxHeartbeats 16000000 in
theorem nests_2 (m : Nat) (h1 : 1 ≤ m) (h2 : m ≤ 70) (w : World) :
    Calls Try.prog 4 #[.int .i64 (m : Int), .int .i64 2] w fun e w' => e = .returned (.bool true) ∧ Below w.heap.size w w' := by
  have d1 : decide (m < 1) = false := by simp; omega
  have d2 : decide ((m : Int) < 1) = false := by simp; omega
  have d3 : decide ((70 : Int) < (m : Int)) = false := by simp; omega
  have d4 : decide (70 < m) = false := by simp; omega
  have HZ := Lib.hid (nests m 2 h1 h2 (by decide))
  go_enter Try.func4, Try.ntmps4
  go_wp2_with fail
  go_loopg [5, 6, 8, 9] (m - 1) (NestR 2 m (w.alloc (.cells #[.string ⟨#[40]⟩, .string ⟨#[97, 114, 114, 32]⟩, .string ⟨#[105, 116, 91]⟩, .string ⟨#[108, 101, 110, 32]⟩, .string ⟨#[119, 104, 105, 108, 101, 32, 105, 116, 32, 123]⟩] 9)))
  case atStart => exact ⟨1, _, _, 0, Nat.le_refl _, h1, by omega, rfl, rfl, rfl, rfl, rfl, NestS.start 2 _ _ rfl rfl⟩
  case round =>
    obtain ⟨k, S, E, pv, hk1, hkm, hnk, rfl, rfl, rfl, rfl, rfl, hns⟩ := hrel
    obtain ⟨hS, hE⟩ := hns.size (by omega)
    have HNS := Lib.hid hns
    have HNK := Lib.hid hnk
    clear hnk
    by_cases hlt : k < m
    · clear hns
      by_cases h64 : k = 64
      · have e64 : ((k : Int) == 64) = true := by simp; omega
        have HK := Lib.hid h64
        clear h64
        go_wp2_with fail
        go_roundg (m - k - 1)
        case measure => have := HNK.out; omega
        case rel => exact ⟨k + 1, _, ⟨#[93]⟩ ++ E, _, by omega, by omega, by omega, rfl, by go_num, rfl, rfl, rfl, HNS.out.step hk1 (s := #[105, 116, 91].toList) (e := #[93].toList) rfl rfl (by rw [bytes_app]) (by rw [if_pos HK.out])⟩
      · have e64 : ((k : Int) == 64) = false := by simp; omega
        have HK := Lib.hid h64
        clear h64
        go_wp2_with fail
        go_roundg (m - k - 1)
        case measure => have := HNK.out; omega
        case rel => exact ⟨k + 1, _, ⟨#[93]⟩ ++ E, _, by omega, by omega, by omega, rfl, by go_num, rfl, rfl, rfl, HNS.out.step hk1 (s := #[105, 116, 91].toList) (e := #[93].toList) rfl rfl (by rw [bytes_app]) (by rw [if_neg HK.out])⟩
    · obtain rfl : k = m := by omega
      have htx := hns.text (M := ⟨#[105, 116]⟩) rfl
      have hsz2 : ((S ++ ⟨#[105, 116]⟩) ++ E).size = S.size + 2 + E.size := by simp; rfl
      have hsz : ((S ++ ⟨#[105, 116]⟩) ++ E).data.toList.length ≤ 1000 := by
        rw [← bytes_size]
        omega
      have HSZ := Lib.hid hsz2
      clear hsz2
      by_cases h64 : k ≤ 64
      · have hz := HZ.out
        rw [if_pos h64, ← htx] at hz
        obtain ⟨hd, d, kf, r, hP⟩ := outZ_some hz
        obtain ⟨cf, Wf, hcv⟩ := conv_fun ((S ++ ⟨#[105, 116]⟩) ++ E)
        have hcv1 := fun w => (hcv w).1
        have hps := fun w => parse_some 2000 _ _ _ (hcv w).2.1 (by omega) hd (by rw [hP]; simp)
        rw [hP] at hps
        have HPS := Lib.hid hps
        have HCV := Lib.hid fun w => (hcv w).2.2
        clear hz hd hP hcv hps htx hsz HZ hns
        have d64 : decide ((k : Int) ≤ 64) = true := by simp; omega
        have hq := HPS.out (w.alloc (.cells #[.string ⟨#[40]⟩, .string ⟨#[97, 114, 114, 32]⟩, .string ⟨#[105, 116, 91]⟩, .string ⟨#[108, 101, 110, 32]⟩, .string ⟨#[119, 104, 105, 108, 101, 32, 105, 116, 32, 123]⟩] 9))
        rw [HSZ.out, World.size_alloc] at hq
        have HQ := Lib.hid hq
        clear hq
        go_wp2_with fail
        refine HQ.out.mono ?_
        rintro e w1 ⟨lv, ks, rfl, hlaid, hb1⟩
        obtain ⟨lA, lc, rfl⟩ := own_form hlaid.row
        have hfl : ((one d kf).flat 0).length = kf.size + 1 := by rw [Fo.flat_len, one_size]
        rw [hfl]
        have hbw := ((Below.refl _ w).alloc (Nat.le_refl _) (.cells #[.string ⟨#[40]⟩, .string ⟨#[97, 114, 114, 32]⟩, .string ⟨#[105, 116, 91]⟩, .string ⟨#[108, 101, 110, 32]⟩, .string ⟨#[119, 104, 105, 108, 101, 32, 105, 116, 32, 123]⟩] 9)).trans (((HCV.out _).mono (by simp)).trans (hb1.mono (by have := (HCV.out (w.alloc (.cells #[.string ⟨#[40]⟩, .string ⟨#[97, 114, 114, 32]⟩, .string ⟨#[105, 116, 91]⟩, .string ⟨#[108, 101, 110, 32]⟩, .string ⟨#[119, 104, 105, 108, 101, 32, 105, 116, 32, 123]⟩] 9))).size; simp at this; omega)))
        have HB := Lib.hid hbw
        have hsz1 := hbw.size
        have hpos : decide ((0 : Int) < ((kf.size + 1 : Nat) : Int)) = true := by simp
        have hposn : decide (0 < kf.size + 1) = true := by simp
        clear hlaid hb1 hbw hfl HPS HCV hcv1 HQ
        generalize kf.size + 1 = z at *
        go_wp2_with (go_at_call 5; refine (known3_ok _).mono ?_; rintro e w2 ⟨rfl, hb2⟩; have HB2 := Lib.hid hb2; clear hb2)
        go_ret
        exact ⟨rfl, (HB.out.alloc hsz1 _).trans (HB2.out.mono (by simp; omega))⟩
      · have hz := HZ.out
        rw [if_neg h64, ← htx] at hz
        have hpv : pv = (placeT 2 : Int) := by rw [hns.p, if_pos (by omega)]
        have hon := fun w => one_yes 2000 ((S ++ ⟨#[105, 116]⟩) ++ E) 5 1 _ w (by omega) hz
        have hpo : (((placeT 2 + offs 2 : Nat)) : Int) = pv + 2 := by rw [hpv] <;> simp [offs]
        rw [hpo] at hon
        have hpb : 0 ≤ pv ∧ pv ≤ 1000 := by rw [hpv]; decide
        obtain ⟨hp0, hp1⟩ := hpb
        have HON := Lib.hid hon
        clear hz hpv hon hpo htx hsz HZ hns
        have d64 : decide ((k : Int) ≤ 64) = false := by simp; omega
        go_wp2_with fail
        refine (HON.out _).mono ?_
        rintro e w1 ⟨rfl, hb1⟩
        have hbw := (((Below.refl _ w).alloc (Nat.le_refl _) (.cells #[.string ⟨#[40]⟩, .string ⟨#[97, 114, 114, 32]⟩, .string ⟨#[105, 116, 91]⟩, .string ⟨#[108, 101, 110, 32]⟩, .string ⟨#[119, 104, 105, 108, 101, 32, 105, 116, 32, 123]⟩] 9)).alloc (by simp) (.cells #[.int .i64 0, .int .i64 0, .int .i64 2, .int .i64 0, .int .i64 9] 3)).trans (hb1.mono (by simp; omega))
        have HB := Lib.hid hbw
        have hsz1 := hbw.size
        clear hb1 hbw HON
        go_wp2_with (go_at_call 5; refine (known3_ok _).mono ?_; rintro e w2 ⟨rfl, hb2⟩; have HB2 := Lib.hid hb2; clear hb2)
        go_ret
        exact ⟨rfl, HB.out.trans (HB2.out.mono hsz1)⟩

set_option maxRecDepth 100000 in
set_option maxHeartbeats 16000000 in
theorem nests_3 (m : Nat) (h1 : 1 ≤ m) (h2 : m ≤ 70) (w : World) :
    Calls Try.prog 4 #[.int .i64 (m : Int), .int .i64 3] w fun e w' => e = .returned (.bool true) ∧ Below w.heap.size w w' := by
  have d1 : decide (m < 1) = false := by simp; omega
  have d2 : decide ((m : Int) < 1) = false := by simp; omega
  have d3 : decide ((70 : Int) < (m : Int)) = false := by simp; omega
  have d4 : decide (70 < m) = false := by simp; omega
  have HZ := Lib.hid (nests m 3 h1 h2 (by decide))
  go_enter Try.func4, Try.ntmps4
  go_wp2_with fail
  go_loopg [5, 6, 8, 9] (m - 1) (NestR 3 m (w.alloc (.cells #[.string ⟨#[40]⟩, .string ⟨#[97, 114, 114, 32]⟩, .string ⟨#[105, 116, 91]⟩, .string ⟨#[108, 101, 110, 32]⟩, .string ⟨#[119, 104, 105, 108, 101, 32, 105, 116, 32, 123]⟩] 9)))
  case atStart => exact ⟨1, _, _, 0, Nat.le_refl _, h1, by omega, rfl, rfl, rfl, rfl, rfl, NestS.start 3 _ _ rfl rfl⟩
  case round =>
    obtain ⟨k, S, E, pv, hk1, hkm, hnk, rfl, rfl, rfl, rfl, rfl, hns⟩ := hrel
    obtain ⟨hS, hE⟩ := hns.size (by omega)
    have HNS := Lib.hid hns
    have HNK := Lib.hid hnk
    clear hnk
    by_cases hlt : k < m
    · clear hns
      by_cases h64 : k = 64
      · have e64 : ((k : Int) == 64) = true := by simp; omega
        have HK := Lib.hid h64
        clear h64
        go_wp2_with fail
        go_roundg (m - k - 1)
        case measure => have := HNK.out; omega
        case rel => exact ⟨k + 1, _, E, _, by omega, by omega, by omega, rfl, by go_num, rfl, rfl, rfl, HNS.out.step hk1 (s := #[108, 101, 110, 32].toList) (e := []) rfl rfl (rfl) (by rw [if_pos HK.out])⟩
      · have e64 : ((k : Int) == 64) = false := by simp; omega
        have HK := Lib.hid h64
        clear h64
        go_wp2_with fail
        go_roundg (m - k - 1)
        case measure => have := HNK.out; omega
        case rel => exact ⟨k + 1, _, E, _, by omega, by omega, by omega, rfl, by go_num, rfl, rfl, rfl, HNS.out.step hk1 (s := #[108, 101, 110, 32].toList) (e := []) rfl rfl (rfl) (by rw [if_neg HK.out])⟩
    · obtain rfl : k = m := by omega
      have htx := hns.text (M := ⟨#[105, 116]⟩) rfl
      have hsz2 : ((S ++ ⟨#[105, 116]⟩) ++ E).size = S.size + 2 + E.size := by simp; rfl
      have hsz : ((S ++ ⟨#[105, 116]⟩) ++ E).data.toList.length ≤ 1000 := by
        rw [← bytes_size]
        omega
      have HSZ := Lib.hid hsz2
      clear hsz2
      by_cases h64 : k ≤ 64
      · have hz := HZ.out
        rw [if_pos h64, ← htx] at hz
        obtain ⟨hd, d, kf, r, hP⟩ := outZ_some hz
        obtain ⟨cf, Wf, hcv⟩ := conv_fun ((S ++ ⟨#[105, 116]⟩) ++ E)
        have hcv1 := fun w => (hcv w).1
        have hps := fun w => parse_some 2000 _ _ _ (hcv w).2.1 (by omega) hd (by rw [hP]; simp)
        rw [hP] at hps
        have HPS := Lib.hid hps
        have HCV := Lib.hid fun w => (hcv w).2.2
        clear hz hd hP hcv hps htx hsz HZ hns
        have d64 : decide ((k : Int) ≤ 64) = true := by simp; omega
        have hq := HPS.out (w.alloc (.cells #[.string ⟨#[40]⟩, .string ⟨#[97, 114, 114, 32]⟩, .string ⟨#[105, 116, 91]⟩, .string ⟨#[108, 101, 110, 32]⟩, .string ⟨#[119, 104, 105, 108, 101, 32, 105, 116, 32, 123]⟩] 9))
        rw [HSZ.out, World.size_alloc] at hq
        have HQ := Lib.hid hq
        clear hq
        go_wp2_with fail
        refine HQ.out.mono ?_
        rintro e w1 ⟨lv, ks, rfl, hlaid, hb1⟩
        obtain ⟨lA, lc, rfl⟩ := own_form hlaid.row
        have hfl : ((one d kf).flat 0).length = kf.size + 1 := by rw [Fo.flat_len, one_size]
        rw [hfl]
        have hbw := ((Below.refl _ w).alloc (Nat.le_refl _) (.cells #[.string ⟨#[40]⟩, .string ⟨#[97, 114, 114, 32]⟩, .string ⟨#[105, 116, 91]⟩, .string ⟨#[108, 101, 110, 32]⟩, .string ⟨#[119, 104, 105, 108, 101, 32, 105, 116, 32, 123]⟩] 9)).trans (((HCV.out _).mono (by simp)).trans (hb1.mono (by have := (HCV.out (w.alloc (.cells #[.string ⟨#[40]⟩, .string ⟨#[97, 114, 114, 32]⟩, .string ⟨#[105, 116, 91]⟩, .string ⟨#[108, 101, 110, 32]⟩, .string ⟨#[119, 104, 105, 108, 101, 32, 105, 116, 32, 123]⟩] 9))).size; simp at this; omega)))
        have HB := Lib.hid hbw
        have hsz1 := hbw.size
        have hpos : decide ((0 : Int) < ((kf.size + 1 : Nat) : Int)) = true := by simp
        have hposn : decide (0 < kf.size + 1) = true := by simp
        clear hlaid hb1 hbw hfl HPS HCV hcv1 HQ
        generalize kf.size + 1 = z at *
        go_wp2_with (go_at_call 5; refine (known3_ok _).mono ?_; rintro e w2 ⟨rfl, hb2⟩; have HB2 := Lib.hid hb2; clear hb2)
        go_ret
        exact ⟨rfl, (HB.out.alloc hsz1 _).trans (HB2.out.mono (by simp; omega))⟩
      · have hz := HZ.out
        rw [if_neg h64, ← htx] at hz
        have hpv : pv = (placeT 3 : Int) := by rw [hns.p, if_pos (by omega)]
        have hon := fun w => one_yes 2000 ((S ++ ⟨#[105, 116]⟩) ++ E) 5 1 _ w (by omega) hz
        have hpo : (((placeT 3 + offs 3 : Nat)) : Int) = pv := by rw [hpv] <;> simp [offs]
        rw [hpo] at hon
        have hpb : 0 ≤ pv ∧ pv ≤ 1000 := by rw [hpv]; decide
        obtain ⟨hp0, hp1⟩ := hpb
        have HON := Lib.hid hon
        clear hz hpv hon hpo htx hsz HZ hns
        have d64 : decide ((k : Int) ≤ 64) = false := by simp; omega
        go_wp2_with fail
        refine (HON.out _).mono ?_
        rintro e w1 ⟨rfl, hb1⟩
        have hbw := (((Below.refl _ w).alloc (Nat.le_refl _) (.cells #[.string ⟨#[40]⟩, .string ⟨#[97, 114, 114, 32]⟩, .string ⟨#[105, 116, 91]⟩, .string ⟨#[108, 101, 110, 32]⟩, .string ⟨#[119, 104, 105, 108, 101, 32, 105, 116, 32, 123]⟩] 9)).alloc (by simp) (.cells #[.int .i64 0, .int .i64 0, .int .i64 2, .int .i64 0, .int .i64 9] 3)).trans (hb1.mono (by simp; omega))
        have HB := Lib.hid hbw
        have hsz1 := hbw.size
        clear hb1 hbw HON
        go_wp2_with (go_at_call 5; refine (known3_ok _).mono ?_; rintro e w2 ⟨rfl, hb2⟩; have HB2 := Lib.hid hb2; clear hb2)
        go_ret
        exact ⟨rfl, HB.out.trans (HB2.out.mono hsz1)⟩

set_option maxRecDepth 100000 in
set_option maxHeartbeats 16000000 in
theorem nests_4 (m : Nat) (h1 : 1 ≤ m) (h2 : m ≤ 70) (w : World) :
    Calls Try.prog 4 #[.int .i64 (m : Int), .int .i64 4] w fun e w' => e = .returned (.bool true) ∧ Below w.heap.size w w' := by
  have d1 : decide (m < 1) = false := by simp; omega
  have d2 : decide ((m : Int) < 1) = false := by simp; omega
  have d3 : decide ((70 : Int) < (m : Int)) = false := by simp; omega
  have d4 : decide (70 < m) = false := by simp; omega
  have HZ := Lib.hid (nests m 4 h1 h2 (by decide))
  go_enter Try.func4, Try.ntmps4
  go_wp2_with fail
  go_loopg [5, 6, 8, 9] (m - 1) (NestR 4 m (w.alloc (.cells #[.string ⟨#[40]⟩, .string ⟨#[97, 114, 114, 32]⟩, .string ⟨#[105, 116, 91]⟩, .string ⟨#[108, 101, 110, 32]⟩, .string ⟨#[119, 104, 105, 108, 101, 32, 105, 116, 32, 123]⟩] 9)))
  case atStart => exact ⟨1, _, _, 0, Nat.le_refl _, h1, by omega, rfl, rfl, rfl, rfl, rfl, NestS.start 4 _ _ rfl rfl⟩
  case round =>
    obtain ⟨k, S, E, pv, hk1, hkm, hnk, rfl, rfl, rfl, rfl, rfl, hns⟩ := hrel
    obtain ⟨hS, hE⟩ := hns.size (by omega)
    have HNS := Lib.hid hns
    have HNK := Lib.hid hnk
    clear hnk
    by_cases hlt : k < m
    · clear hns
      by_cases h64 : k = 64
      · have e64 : ((k : Int) == 64) = true := by simp; omega
        have HK := Lib.hid h64
        clear h64
        go_wp2_with fail
        go_roundg (m - k - 1)
        case measure => have := HNK.out; omega
        case rel => exact ⟨k + 1, _, ⟨#[125]⟩ ++ E, _, by omega, by omega, by omega, rfl, by go_num, rfl, rfl, rfl, HNS.out.step hk1 (s := #[119, 104, 105, 108, 101, 32, 105, 116, 32, 123].toList) (e := #[125].toList) rfl rfl (by rw [bytes_app]) (by rw [if_pos HK.out])⟩
      · have e64 : ((k : Int) == 64) = false := by simp; omega
        have HK := Lib.hid h64
        clear h64
        go_wp2_with fail
        go_roundg (m - k - 1)
        case measure => have := HNK.out; omega
        case rel => exact ⟨k + 1, _, ⟨#[125]⟩ ++ E, _, by omega, by omega, by omega, rfl, by go_num, rfl, rfl, rfl, HNS.out.step hk1 (s := #[119, 104, 105, 108, 101, 32, 105, 116, 32, 123].toList) (e := #[125].toList) rfl rfl (by rw [bytes_app]) (by rw [if_neg HK.out])⟩
    · obtain rfl : k = m := by omega
      have htx := hns.text0 rfl
      have hsz2 : (S ++ E).size = S.size + E.size := by simp
      have hsz : (S ++ E).data.toList.length ≤ 1000 := by
        rw [← bytes_size]
        omega
      have HSZ := Lib.hid hsz2
      clear hsz2
      by_cases h64 : k ≤ 64
      · have hz := HZ.out
        rw [if_pos h64, ← htx] at hz
        obtain ⟨hd, d, kf, r, hP⟩ := outZ_some hz
        obtain ⟨cf, Wf, hcv⟩ := conv_fun (S ++ E)
        have hcv1 := fun w => (hcv w).1
        have hps := fun w => parse_some 2000 _ _ _ (hcv w).2.1 (by omega) hd (by rw [hP]; simp)
        rw [hP] at hps
        have HPS := Lib.hid hps
        have HCV := Lib.hid fun w => (hcv w).2.2
        clear hz hd hP hcv hps htx hsz HZ hns
        have d64 : decide ((k : Int) ≤ 64) = true := by simp; omega
        have hq := HPS.out (w.alloc (.cells #[.string ⟨#[40]⟩, .string ⟨#[97, 114, 114, 32]⟩, .string ⟨#[105, 116, 91]⟩, .string ⟨#[108, 101, 110, 32]⟩, .string ⟨#[119, 104, 105, 108, 101, 32, 105, 116, 32, 123]⟩] 9))
        rw [HSZ.out, World.size_alloc] at hq
        have HQ := Lib.hid hq
        clear hq
        go_wp2_with fail
        refine HQ.out.mono ?_
        rintro e w1 ⟨lv, ks, rfl, hlaid, hb1⟩
        obtain ⟨lA, lc, rfl⟩ := own_form hlaid.row
        have hfl : ((one d kf).flat 0).length = kf.size + 1 := by rw [Fo.flat_len, one_size]
        rw [hfl]
        have hbw := ((Below.refl _ w).alloc (Nat.le_refl _) (.cells #[.string ⟨#[40]⟩, .string ⟨#[97, 114, 114, 32]⟩, .string ⟨#[105, 116, 91]⟩, .string ⟨#[108, 101, 110, 32]⟩, .string ⟨#[119, 104, 105, 108, 101, 32, 105, 116, 32, 123]⟩] 9)).trans (((HCV.out _).mono (by simp)).trans (hb1.mono (by have := (HCV.out (w.alloc (.cells #[.string ⟨#[40]⟩, .string ⟨#[97, 114, 114, 32]⟩, .string ⟨#[105, 116, 91]⟩, .string ⟨#[108, 101, 110, 32]⟩, .string ⟨#[119, 104, 105, 108, 101, 32, 105, 116, 32, 123]⟩] 9))).size; simp at this; omega)))
        have HB := Lib.hid hbw
        have hsz1 := hbw.size
        have hpos : decide ((0 : Int) < ((kf.size + 1 : Nat) : Int)) = true := by simp
        have hposn : decide (0 < kf.size + 1) = true := by simp
        clear hlaid hb1 hbw hfl HPS HCV hcv1 HQ
        generalize kf.size + 1 = z at *
        go_wp2_with (go_at_call 5; refine (known3_ok _).mono ?_; rintro e w2 ⟨rfl, hb2⟩; have HB2 := Lib.hid hb2; clear hb2)
        go_ret
        exact ⟨rfl, (HB.out.alloc hsz1 _).trans (HB2.out.mono (by simp; omega))⟩
      · have hz := HZ.out
        rw [if_neg h64, ← htx] at hz
        have hpv : pv = (placeT 4 : Int) := by rw [hns.p, if_pos (by omega)]
        have hon := fun w => one_yes 2000 (S ++ E) 5 1 _ w (by omega) hz
        have hpo : (((placeT 4 + offs 4 : Nat)) : Int) = pv + 9 := by rw [hpv] <;> simp [offs]
        rw [hpo] at hon
        have hpb : 0 ≤ pv ∧ pv ≤ 1000 := by rw [hpv]; decide
        obtain ⟨hp0, hp1⟩ := hpb
        have HON := Lib.hid hon
        clear hz hpv hon hpo htx hsz HZ hns
        have d64 : decide ((k : Int) ≤ 64) = false := by simp; omega
        go_wp2_with fail
        refine (HON.out _).mono ?_
        rintro e w1 ⟨rfl, hb1⟩
        have hbw := (((Below.refl _ w).alloc (Nat.le_refl _) (.cells #[.string ⟨#[40]⟩, .string ⟨#[97, 114, 114, 32]⟩, .string ⟨#[105, 116, 91]⟩, .string ⟨#[108, 101, 110, 32]⟩, .string ⟨#[119, 104, 105, 108, 101, 32, 105, 116, 32, 123]⟩] 9)).alloc (by simp) (.cells #[.int .i64 0, .int .i64 0, .int .i64 2, .int .i64 0, .int .i64 9] 3)).trans (hb1.mono (by simp; omega))
        have HB := Lib.hid hbw
        have hsz1 := hbw.size
        clear hb1 hbw HON
        go_wp2_with (go_at_call 5; refine (known3_ok _).mono ?_; rintro e w2 ⟨rfl, hb2⟩; have HB2 := Lib.hid hb2; clear hb2)
        go_ret
        exact ⟨rfl, HB.out.trans (HB2.out.mono hsz1)⟩
end Go.Proofs.Ythgpepkcjjimlaa
