/- What came in as a slice of bytes holds a text. -/
import Derived.Test.YthgpepkcjjimlaaTokK
import Derived.ProofKit
import Derived.OpenShut
namespace Go.Proofs.Ythgpepkcjjimlaa
open Go.ChangeShapes Go.WideShapes Go.ChangeAt Go.RowKit

/-- A slice of integers that came in: nil, or a row of 'cap' cells. -/
def IsRow (k : IntKind) (w : World) (a : Option Addr) (len cap : Nat) (zs : List Int) : Prop :=
  (a = none ∧ len = 0 ∧ cap = 0 ∧ zs = []) ∨
  ∃ x, a = some x ∧ len ≤ cap ∧ cap ≤ maxLen ∧ zs.length = cap ∧ (∀ i, i < zs.length → w.cell? (x.add i) = some (.int k (zs.getD i 0))) ∧ ∀ n ∈ zs, (Lit.int k n).wf = true

theorem row_holds {w : World} {a : Option Addr} {len cap : Nat} {zs : List Int} (h : IsRow .u8 w a len cap zs) : ∃ l : List UInt8, Holds w (.slice a len cap) l ∧ l.length = len := by
  rcases h with ⟨rfl, rfl, rfl, rfl⟩ | ⟨x, rfl, hl, hm, hz, hc, hw⟩
  · exact ⟨[], ⟨none, 0, rfl, Nat.le_refl _, fun h => by simp at h⟩, rfl⟩
  · have hlen : ((zs.take len).map fun z => UInt8.ofNat z.toNat).length = len := by simp; omega
    refine ⟨(zs.take len).map fun z => UInt8.ofNat z.toNat, ⟨some x, cap, by rw [hlen], by rw [hlen]; exact hl, fun h0 => ?_⟩, hlen⟩
    rw [hlen] at h0
    obtain ⟨b, off, spot⟩ := x
    have hs : spot = none := by
      have h1 := hc 0 (by omega)
      unfold World.cell? at h1
      cases spot with
      | none => rfl
      | some y =>
        exfalso
        split at h1
        · simp [Addr.add] at h1
        · simp at h1
    subst hs
    refine ⟨b, off, rfl, fun k hk => ?_⟩
    rw [hlen] at hk
    have h1 := hc k (by omega)
    have hadd : (⟨b, off, none⟩ : Addr).add k = ⟨b, off + k, none⟩ := by unfold Addr.add; split <;> simp_all
    rw [hadd] at h1
    rw [h1]
    have hkz : k < zs.length := by omega
    have hwf := hw _ (List.getElem_mem hkz)
    have hbd : 0 ≤ zs[k] ∧ zs[k] ≤ 255 := by simpa [Lit.wf, IntKind.min, IntKind.max, IntKind.signed, IntKind.bits] using hwf
    have e1 : zs.getD k 0 = zs[k] := by simp [List.getD, List.getElem?_eq_getElem hkz]
    have e2 : chr ((zs.take len).map fun z => UInt8.ofNat z.toNat) k = zs[k] := by
      unfold chr
      rw [List.getElem?_map, List.getElem?_take, if_pos hk, List.getElem?_eq_getElem hkz]
      simp only [Option.map_some, Option.getD_some, UInt8.toNat_ofNat']
      omega
    rw [e1, e2]
end Go.Proofs.Ythgpepkcjjimlaa
