/- detentlaw01.known. -/
import Derived.Test.YtpdljjlbjebmeaaTokJ
namespace Go.Proofs.Ytpdljjlbjebmeaa
open Go.RowKit

theorem own_form {w : World} {base : Nat} {e : TypeId} {size n : Nat} {v : Value} {xs : List Value} (h : w.ownsRow base e size v n xs) : ∃ A cap, v = .slice A n cap := by
  rcases h.2 with ⟨rfl, rfl⟩ | ⟨g, cap, cur, rfl, _⟩
  · exact ⟨_, _, rfl⟩
  · exact ⟨_, _, rfl⟩
theorem own_some {w : World} {base : Nat} {e : TypeId} {size n : Nat} {v : Value} {xs : List Value} (h : w.ownsRow base e size v n xs) (hn : 0 < n) : ∃ g cap, v = .slice (some ⟨g, 0, none⟩) n cap ∧ base ≤ g ∧ g < w.heap.size ∧ ∀ j u, xs[j]? = some u → w.cell? ⟨g, j, none⟩ = some u := by
  rcases h.2 with ⟨rfl, rfl⟩ | ⟨g, cap, cur, rfl, hb, hg, _⟩
  · omega
  · refine ⟨g, cap, rfl, hb, lt_of_block hg, fun j u hu => ?_⟩
    have := h.cells (g := g) rfl j u hu
    have hadd : (⟨g, 0, none⟩ : Addr).add j = ⟨g, j, none⟩ := by unfold Addr.add; split <;> simp_all
    rwa [hadd] at this

def ka : List UInt8 := [97, 61, 61, 98, 49, 32, 35, 99]
def kb : List UInt8 := [49, 50, 120]
def kc : List UInt8 := [33]
theorem toks_ka : toks ka (nxt ka 0) = [⟨1, [97], 0, 1, 1⟩, ⟨4, [61, 61], 0, 1, 2⟩, ⟨1, [98, 49], 0, 1, 4⟩] := by rfl
theorem dgs_ka : dgs ka (nxt ka 0) = [] := by rfl
theorem toks_kb : toks kb (nxt kb 0) = [⟨3, [49, 50], 12, 1, 1⟩, ⟨1, [120], 0, 1, 3⟩] := by rfl
theorem dgs_kb : dgs kb (nxt kb 0) = [] := by rfl
theorem toks_kc : toks kc (nxt kc 0) = [] := by rfl
theorem dgs_kc : dgs kc (nxt kc 0) = [⟨1, 1, 3⟩] := by rfl

theorem holds_const (w : World) (l : List UInt8) (cs : Array Value) (hcs : cs = (l.map fun x => Value.int .u8 (x.toNat : Int)).toArray) (n : Nat) (hn : n = l.length) (m : Nat × Nat) :
    Holds (w.alloc (.cells cs 5 m)) (.slice (some ⟨w.heap.size, 0, none⟩) n n) l := by
  subst hcs
  subst hn
  refine ⟨_, _, rfl, Nat.le_refl _, fun _ => ⟨_, _, rfl, fun k hk => ?_⟩⟩
  rw [World.cell?_alloc_mark]
  unfold chr
  simp [hk]

set_option maxRecDepth 100000 in
set_option maxHeartbeats 1000000 in
theorem known_ok (w : World) : Calls Try.prog 8 #[] w fun e w' => e = .returned (.bool true) ∧ Below w.heap.size w w' := by
  have kcv := fun (w : World) (C : Array Value) (n c : Nat) => Lib.run_convert_bytes_const (P := Try.prog) w 22 5 C n c Try.underlying22 Try.underlying5
  go_enter Try.func8, Try.ntmps8
  go_wp2_with fail
  refine (scan_ok ka _ _ (holds_const w ka _ rfl 8 rfl _) (by decide)).mono ?_
  rintro e w1 ⟨v1, x1, rfl, hb1, ho1, hd1⟩
  rw [toks_ka] at ho1
  rw [dgs_ka] at hd1
  obtain ⟨g1, c1, rfl, hg1, hl1, hcell1⟩ := own_some ho1 (by decide)
  obtain ⟨A1, d1, rfl⟩ := own_form hd1
  have HB1 := Lib.hid hb1
  have HC1 := Lib.hid hcell1
  clear hb1 ho1 hd1 hcell1
  go_wp2_with fail
  refine (scan_ok kb _ _ (holds_const w1 kb _ rfl 3 rfl _) (by decide)).mono ?_
  rintro e w2 ⟨v2, x2, rfl, hb2, ho2, hd2⟩
  rw [toks_kb] at ho2
  rw [dgs_kb] at hd2
  obtain ⟨g2, c2, rfl, hg2, hl2, hcell2⟩ := own_some ho2 (by decide)
  obtain ⟨A2, d2, rfl⟩ := own_form hd2
  have HB2 := Lib.hid hb2
  have HC2 := Lib.hid hcell2
  clear hb2 ho2 hd2 hcell2
  go_wp2_with fail
  refine (scan_ok kc _ _ (holds_const w2 kc _ rfl 1 rfl _) (by decide)).mono ?_
  rintro e w3 ⟨v3, x3, rfl, hb3, ho3, hd3⟩
  rw [toks_kc] at ho3
  rw [dgs_kc] at hd3
  obtain ⟨g3, c3, rfl, hg3, hl3, hcell3⟩ := own_some hd3 (by decide)
  obtain ⟨A3, d3, rfl⟩ := own_form ho3
  have HB3 := Lib.hid hb3
  clear hb3 ho3 hd3
  have hz1 : w1.heap.size ≤ w2.heap.size := by have := HB2.out.size; simp at this; omega
  have hz2 : w2.heap.size ≤ w3.heap.size := by have := HB3.out.size; simp at this; omega
  have k2 : Below w1.heap.size w1 w2 := ((Below.refl _ _).alloc (Nat.le_refl _) _).trans (HB2.out.mono (by simp))
  have k3 : Below w2.heap.size w2 w3 := ((Below.refl _ _).alloc (Nat.le_refl _) _).trans (HB3.out.mono (by simp))
  have k13 : Below w1.heap.size w1 w3 := k2.trans (k3.mono hz1)
  have a6 : w3.cell? ⟨g1, 6, none⟩ = some (.string ⟨#[61, 61]⟩) := (k13.cell (by exact hl1)).trans (HC1.out 6 _ rfl)
  have a14 : w3.cell? ⟨g1, 14, none⟩ = some (.int .i64 4) := (k13.cell (by exact hl1)).trans (HC1.out 14 _ rfl)
  have b2 : w3.cell? ⟨g2, 2, none⟩ = some (.int .i64 12) := (k3.cell (by exact hl2)).trans (HC2.out 2 _ rfl)
  have b5 : w3.cell? ⟨g2, 5, none⟩ = some (.int .i64 1) := (k3.cell (by exact hl2)).trans (HC2.out 5 _ rfl)
  have c0 : w3.cell? ⟨g3, 0, none⟩ = some (.int .i64 1) := hcell3 0 _ rfl
  have cc1 : w3.cell? ⟨g3, 1, none⟩ = some (.int .i64 1) := hcell3 1 _ rfl
  have cc2 : w3.cell? ⟨g3, 2, none⟩ = some (.int .i64 3) := hcell3 2 _ rfl
  have K13 := Lib.hid k13
  clear k2 k3 k13 hcell3 HC1 HC2 hg1 hg2 hg3 hl1 hl2 hl3 kcv
  go_wp2_with fail
  go_ret
  exact ⟨rfl, ((Below.refl _ _).alloc (Nat.le_refl _) _).trans ((HB1.out.mono (by simp)).trans (K13.out.mono (by have := HB1.out.size; simp at this; omega)))⟩
end Go.Proofs.Ytpdljjlbjebmeaa
