/- The document's digits, numbers, and which entries may be. -/
import Derived.Test.YtkljdpjdlccidaaDoorSaC
import Derived.Lib.SlBytesConst
import Derived.Laws.BytesArg
import Derived.Lib.ItoaLen
namespace Go.Proofs.YtkljdpjdlccidaaDoor
open Go.RowKit Go.Shelf
attribute [local go_sem] Oper.semAt_some
theorem str_ext {a b : ByteArray} (h : a.data.toList = b.data.toList) : a = b := by
  cases a with
  | mk x =>
    cases b with
    | mk y =>
      congr 1
      exact Array.ext' h
theorem str_size (a : List UInt8) : ByteArray.size ⟨a.toArray⟩ = a.length := by simp [ByteArray.size]
theorem al_cell {w : World} {cs : Array Value} {ty : TypeId} {k : Nat} {v : Value} (h : cs[k]? = some v) : (w.alloc (.cells cs ty)).cell? ⟨w.heap.size, k, none⟩ = some v := by
  have h0 : (w.alloc (.cells cs ty)).heap[w.heap.size]? = some (.cells cs ty (0, 0)) := World.alloc_heap_new w _
  unfold World.cell?
  dsimp only
  rw [h0]
  exact h
def chr (l : List UInt8) (k : Nat) : Int := ((l[k]?.getD 0).toNat : Int)
set_option maxRecDepth 100000 in
theorem conv_one {w : World} {b : Nat} {c : UInt8} (h : w.cell? ⟨b, 0, none⟩ = some (.int .u8 (c.toNat : Int))) (cap : Nat) :
    (convert 78 9 (.slice (some ⟨b, 0, none⟩) 1 cap)).run Tryd.prog w = .ok (.string ⟨#[c]⟩) w := by
  have := run_convert_bytes_arg (P := Tryd.prog) w 78 5 Tryd.underlying78 Tryd.underlying5 b 0 1 cap [(c.toNat : Int)] (by simp) (fun i hi => by
    obtain rfl : i = 0 := by omega
    rw [h]
    rfl) 9 Tryd.underlying9
  rw [this]
  congr 2
  unfold strOfNums
  simp
theorem dec_step (n : Nat) (h : 0 < n) : Lib.decDigits n = (if n / 10 = 0 then [] else Lib.decDigits (n / 10)) ++ [UInt8.ofNat (48 + n % 10)] := by
  conv => lhs; rw [Lib.decDigits]
  split
  · rename_i h10
    rw [if_pos (by omega), Nat.mod_eq_of_lt h10]
    rfl
  · rw [if_neg (by omega)]
set_option maxRecDepth 100000 in
set_option maxHeartbeats 1000000 in
theorem digits_ok (n : Nat) (w : World) (hn : n ≤ 9223372036854775807) :
    Calls Tryd.prog 65 #[.int .i64 n] w fun e w' => e = .returned (.string ⟨(Lib.decDigits n).toArray⟩) ∧ Ext w w' := by
  go_enter Tryd.func65, Tryd.ntmps65
  go_wp2_with fail
  go_loopg [0, 3] (n + 2) (fun c v0 v3 wr => ∃ (j : Nat) (s : List UInt8), v0 = .int .i64 j ∧ v3 = .string ⟨s.toArray⟩ ∧ Ext w wr ∧ j ≤ n ∧ s.length ≤ 100 ∧ ((s = [] ∧ j = n ∧ c = n + 2) ∨ (s ≠ [] ∧ c = j ∧ Lib.decDigits n = (if j = 0 then [] else Lib.decDigits j) ++ s)))
  case atStart => exact ⟨n, [], rfl, rfl, Ext.refl _, Nat.le_refl _, by simp, .inl ⟨rfl, rfl, rfl⟩⟩
  case round =>
    obtain ⟨j, s, rfl, rfl, hb, hj, hs, hcase⟩ := hrel
    have hsz := str_size s
    by_cases hgo : 0 < j ∨ s = []
    · have HB := Lib.hid hb
      have hcv := conv_one (w := wr.alloc (.cells #[.int .u8 (48 + (j : Int) % 10)] 5)) (b := wr.heap.size) (c := UInt8.ofNat (48 + j % 10)) (by
        rw [al_cell (v := .int .u8 (48 + (j : Int) % 10)) rfl]
        simp
        omega) 1
      have HDZ := Lib.hid (show (j : Int) / 10 = ((j / 10 : Nat) : Int) by omega)
      have hcs : ([UInt8.ofNat (48 + j % 10)] ++ s : List UInt8) ≠ [] := by simp
      have hdn : Lib.decDigits n = (if j / 10 = 0 then [] else Lib.decDigits (j / 10)) ++ ([UInt8.ofNat (48 + j % 10)] ++ s) := by
        rcases hcase with ⟨rfl, rfl, _⟩ | ⟨hne, _, hd⟩
        · by_cases h0 : 0 < j
          · rw [List.append_nil]
            exact dec_step j h0
          · obtain rfl : j = 0 := by omega
            rw [Lib.decDigits]
            rfl
        · have hj0 : 0 < j := by
            rcases hgo with h | h
            · exact h
            · exact absurd h hne
          rw [hd, if_neg (by omega), dec_step j hj0, List.append_assoc]
      have hlen : ([UInt8.ofNat (48 + j % 10)] ++ s : List UInt8).length ≤ 100 := by
        have h1 : (Lib.decDigits n).length ≤ 20 := by rw [Lib.decDigits_length]; exact Lib.nDigits_le20 n (by omega)
        rw [hdn, List.length_append] at h1
        omega
      have hc : j / 10 < gk := by
        rcases hcase with ⟨rfl, rfl, h⟩ | ⟨hne, h, hd⟩
        · omega
        · have hj0 : 0 < j := by
            rcases hgo with h | h
            · exact h
            · exact absurd h hne
          omega
      have HC := Lib.hid hc
      have HDN := Lib.hid hdn
      have HLEN := Lib.hid hlen
      have HCS := Lib.hid hcs
      clear hcase hdn hlen hcs hc hb
      by_cases hj0 : 0 < j
      · clear hgo
        go_wp2_with fail
        go_roundg (j / 10)
        case measure => have := HC.out; omega
        case rel => exact ⟨j / 10, [UInt8.ofNat (48 + j % 10)] ++ s, by first | rfl | exact congrArg (Value.int .i64) HDZ.out, congrArg Value.string (str_ext (by simp)), (by first | exact HB.out.trans (Ext.one _ _)), by omega, HLEN.out, .inr ⟨HCS.out, rfl, HDN.out⟩⟩
      · obtain rfl : j = 0 := by omega
        obtain rfl : s = [] := by
          rcases hgo with h | h
          · exact absurd h hj0
          · exact h
        clear hgo
        simp only [Int.natCast_zero, Int.zero_emod, Int.add_zero, Nat.zero_mod, Nat.add_zero] at hcv
        go_wp2_with fail
        go_roundg 0
        case measure => have := HC.out; omega
        case rel => exact ⟨0, [48], rfl, congrArg Value.string (str_ext (by simp)), (by first | exact HB.out.trans (Ext.one _ _)), by omega, by simp, .inr ⟨by simp, rfl, HDN.out⟩⟩
    · have hj0 : j = 0 := by omega
      have hne : ¬ s = [] := fun h => hgo (.inr h)
      subst hj0
      have hd : Lib.decDigits n = s := by
        rcases hcase with ⟨h, _⟩ | ⟨_, _, hd⟩
        · exact absurd h hne
        · simpa using hd
      have hse : s.isEmpty = false := by simpa using hne
      have HD := Lib.hid hd
      have HB := Lib.hid hb
      clear hcase hd hgo hb hne
      go_wp2_with fail
      go_ret
      exact ⟨by rw [HD.out]; rfl, HB.out⟩
theorem itoa_min : Lib.itoa (-9223372036854775808) = [45, 57, 50, 50, 51, 51, 55, 50, 48, 51, 54, 56, 53, 52, 55, 55, 53, 56, 48, 56] := by
  unfold Lib.itoa
  rw [if_pos (by decide)]
  simp [Lib.decDigits]
theorem itoa_len {n : Int} (h : i64 n) : (Lib.itoa n).length ≤ 21 := Lib.itoa_length_le n h.1 h.2
set_option maxRecDepth 100000 in
set_option maxHeartbeats 1000000 in
theorem number_ok {n : Int} (h : i64 n) (w : World) : Calls Tryd.prog 47 #[.int .i64 n] w fun e w' => e = .returned (.string ⟨(Lib.itoa n).toArray⟩) ∧ Ext w w' := by
  have hl := itoa_len h
  obtain ⟨h0, h1⟩ := h
  by_cases hm : n = -9223372036854775808
  · subst hm
    rw [itoa_min]
    go_enter Tryd.func47, Tryd.ntmps47
    go_wp2_with fail
    go_ret
    exact ⟨rfl, Ext.refl _⟩
  · have zm : (n == -9223372036854775808) = false := by simpa using hm
    rcases Int.lt_or_le n 0 with hn | hn
    · have HD := Lib.hid (digits_ok n.natAbs w (by omega))
      have e : ((n.natAbs : Nat) : Int) = -n := by omega
      rw [e] at HD
      have hi : Lib.itoa n = 45 :: Lib.decDigits n.natAbs := by unfold Lib.itoa; rw [if_pos hn]
      rw [hi] at hl ⊢
      have hsz := str_size (Lib.decDigits n.natAbs)
      have hl2 : (Lib.decDigits n.natAbs).length ≤ 20 := by simpa using hl
      clear hi e hl
      go_enter Tryd.func47, Tryd.ntmps47
      go_wp2_with (go_at_call 65; refine HD.out.mono ?_; rintro e w2 ⟨rfl, hx2⟩; have HX2 := Lib.hid hx2; clear hx2)
      go_ret
      exact ⟨congrArg (fun s => Ending.returned (.string s)) (str_ext (by simp)), HX2.out⟩
    · have HD := Lib.hid (digits_ok n.toNat w (by omega))
      have e : ((n.toNat : Nat) : Int) = n := by omega
      rw [e] at HD
      have hi : Lib.itoa n = Lib.decDigits n.toNat := by unfold Lib.itoa; rw [if_neg (by omega)]
      rw [hi]
      clear hi e hl
      go_enter Tryd.func47, Tryd.ntmps47
      go_wp2_with (go_at_call 65; refine HD.out.mono ?_; rintro e w2 ⟨rfl, hx2⟩; have HX2 := Lib.hid hx2; clear hx2)
      go_ret
      exact ⟨rfl, HX2.out⟩
end Go.Proofs.YtkljdpjdlccidaaDoor
