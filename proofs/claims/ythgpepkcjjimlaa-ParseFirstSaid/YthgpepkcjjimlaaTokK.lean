/- detentlaw01.known. -/
import Derived.Test.YthgpepkcjjimlaaTokJ
namespace Go.Proofs.Ythgpepkcjjimlaa
open Go.RowKit

theorem own_form {w : World} {base : Nat} {e : TypeId} {size n : Nat} {v : Value} {xs : List Value} (h : w.ownsRow base e size v n xs) : ∃ A cap, v = .slice A n cap := by
  rcases h.2 with ⟨rfl, rfl⟩ | ⟨g, cap, cur, rfl, _⟩
  · exact ⟨_, _, rfl⟩
  · exact ⟨_, _, rfl⟩
theorem own_some {w : World} {base : Nat} {e : TypeId} {size n : Nat} {v : Value} {xs : List Value} (h : w.ownsRow base e size v n xs) (hn : 0 < n) : ∃ g cap, v = .slice (some ⟨g, 0, none⟩) n cap ∧ base ≤ g ∧ g < w.heap.size ∧ ∀ j u, xs[j]? = some u → w.cell? ⟨g, j, none⟩ = some u := by
  rcases h.2 with ⟨rfl, rfl⟩ | ⟨g, cap, cur, rfl, hb, hg, _⟩
  · omega
  · refine ⟨g, cap, rfl, hb, lt_of_block hg, fun j u hu => ?_⟩
    have := h.cells (g := g) rfl j u hu
    have hadd : (⟨g, 0, none⟩ : Addr).add j = ⟨g, j, none⟩ := by unfold Addr.add; split <;> simp_all
    rwa [hadd] at this

def ka : List UInt8 := [97, 61, 61, 98, 49, 32, 35, 99]
def kb : List UInt8 := [49, 50, 120]
def kc : List UInt8 := [33]
theorem toks_ka : toks ka (nxt ka 0) = [⟨1, [97], 0, 1, 1⟩, ⟨4, [61, 61], 0, 1, 2⟩, ⟨1, [98, 49], 0, 1, 4⟩] := by rfl
theorem dgs_ka : dgs ka (nxt ka 0) = [] := by rfl
theorem toks_kb : toks kb (nxt kb 0) = [⟨3, [49, 50], 12, 1, 1⟩, ⟨1, [120], 0, 1, 3⟩] := by rfl
theorem dgs_kb : dgs kb (nxt kb 0) = [] := by rfl
theorem toks_kc : toks kc (nxt kc 0) = [] := by rfl
theorem dgs_kc : dgs kc (nxt kc 0) = [⟨1, 1, 3⟩] := by rfl

theorem holds_const (w : World) (l : List UInt8) (cs : Array Value) (hcs : cs = (l.map fun x => Value.int .u8 (x.toNat : Int)).toArray) (n : Nat) (hn : n = l.length) (m : Nat × Nat) :
    Holds (w.alloc (.cells cs 5 m)) (.slice (some ⟨w.heap.size, 0, none⟩) n n) l := by
  subst hcs
  subst hn
  refine ⟨_, _, rfl, Nat.le_refl _, fun _ => ⟨_, _, rfl, fun k hk => ?_⟩⟩
  rw [World.cell?_alloc_mark]
  unfold chr
  simp [hk]

end Go.Proofs.Ythgpepkcjjimlaa
