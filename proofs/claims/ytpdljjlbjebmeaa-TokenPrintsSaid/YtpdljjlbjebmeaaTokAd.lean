/- An argument of tokens, opened to what lies in memory. -/
import Derived.Test.YtpdljjlbjebmeaaTokAa
import Derived.Deep.Slices
import Derived.Deep.Fields
import Derived.ChangeSame
namespace Go.Proofs.Ytpdljjlbjebmeaa
open Go.RowKit Go.ChangeShapes Go.WideShapes Go.Deep

theorem cellsTok : Try.prog.cellsOf 31 = 5 := by kernel_rfl

theorem spot_none {w : World} {a : Addr} {v : Value} (h : w.cell? (a.add 0) = some v) : a = ⟨a.block, a.off, none⟩ := by
  obtain ⟨b, off, spot⟩ := a
  cases spot with
  | none => rfl
  | some y =>
    exfalso
    unfold World.cell? at h
    split at h
    · simp [Addr.add] at h
    · simp at h

theorem add_none (b off n : Nat) : (⟨b, off, none⟩ : Addr).add n = ⟨b, off + n, none⟩ := by unfold Addr.add; split <;> simp_all

section
variable {H : Type} {enc : TypeId × Value → H} {w : World} {base : Nat} {held : Bool}

set_option maxRecDepth 100000 in
theorem open_tok {fuel : Nat} {cs : List Value} {x : DataW H × List MemPlace} (h : DataW.trod enc Try.prog w base (fun _ => true) held fuel 31 cs = some x) :
    ∃ t : Tok, cs = t.cells := by
  obtain ⟨xs, n, _, _, hlen, hxl, hf⟩ := DataW.trod_struct Try.underlying31 h
  rw [cellsTok] at hlen
  match cs, hlen with
  | [c0, c1, c2, c3, c4], _ =>
    have hx5 : xs.length = 5 := hxl
    match xs, hx5 with
    | [x0, x1, x2, x3, x4], _ =>
      have h0 : DataW.trod enc Try.prog w base (fun _ => true) held n 29 [c0] = some x0 := hf 0 _ rfl
      have h1 : DataW.trod enc Try.prog w base (fun _ => true) held n 9 [c1] = some x1 := hf 1 _ rfl
      have h2 : DataW.trod enc Try.prog w base (fun _ => true) held n 2 [c2] = some x2 := hf 2 _ rfl
      have h3 : DataW.trod enc Try.prog w base (fun _ => true) held n 3 [c3] = some x3 := hf 3 _ rfl
      have h4 : DataW.trod enc Try.prog w base (fun _ => true) held n 3 [c4] = some x4 := hf 4 _ rfl
      obtain ⟨z0, e0, _⟩ := DataW.trod_int (k := .i64) (by kernel_rfl) h0
      obtain ⟨z1, e1, _⟩ := DataW.trod_string (by kernel_rfl) h1
      obtain ⟨z2, e2, _⟩ := DataW.trod_int (k := .i64) (by kernel_rfl) h2
      obtain ⟨z3, e3, _⟩ := DataW.trod_int (k := .i64) (by kernel_rfl) h3
      obtain ⟨z4, e4, _⟩ := DataW.trod_int (k := .i64) (by kernel_rfl) h4
      simp only [List.cons.injEq, and_true] at e0 e1 e2 e3 e4
      subst e0 e1 e2 e3 e4
      exact ⟨⟨z0, z1.data.toList, z2, z3, z4⟩, by simp [Tok.cells]⟩

theorem open_toks {fuel : Nat} {A : Option Addr} {len cap : Nat} {x : DataW H × List MemPlace} (h : DataW.trod enc Try.prog w base (fun _ => true) held fuel 24 [.slice A len cap] = some x) :
    ∃ T : List Tok, T.length = len ∧ TR w A T := by
  rcases open_slice Try.underlying24 h with ⟨hcs, _⟩ | ⟨a, len', cap', m, n, D, Pl, hcs, hb, hl, hm, hmm, hx, hi⟩
  · simp at hcs
    obtain ⟨rfl, rfl, rfl⟩ := hcs
    exact ⟨[], rfl, fun i t hi => by simp at hi⟩
  · simp at hcs
    obtain ⟨rfl, rfl, rfl⟩ := hcs
    simp only [if_true] at hmm
    subst hmm
    have key : ∀ i : Nat, ∃ t : Tok, i < len → ∀ j u, t.cells[j]? = some u → w.cell? (a.add (i * 5 + j)) = some u := by
      intro i
      by_cases hlt : i < len
      · obtain ⟨cs', hc, ht⟩ := hi i (by omega)
        obtain ⟨t, rfl⟩ := open_tok ht
        refine ⟨t, fun _ j u hj => ?_⟩
        rw [cellsTok] at hc
        obtain ⟨_, hcl, hat⟩ := World.cells?_some hc
        have hj5 : j < 5 := by
          rcases Nat.lt_or_ge j 5 with h' | h'
          · exact h'
          · rw [List.getElem?_eq_none (by omega)] at hj; cases hj
        rw [← Go.Deep.add_add, hat j hj5, hj]
      · exact ⟨⟨0, [], 0, 0, 0⟩, fun h => absurd h hlt⟩
    obtain ⟨f, hf⟩ := Classical.axiomOfChoice key
    refine ⟨(List.range len).map f, by simp, fun i t hi => ?_⟩
    have hlt : i < len := by
      have := (List.getElem?_eq_some_iff.1 hi).1
      simpa using this
    have ht : f i = t := by
      rw [List.getElem?_map, List.getElem?_range hlt] at hi
      simpa using hi
    subst ht
    have hc := hf i hlt
    have c0 : w.cell? (a.add 0) = some _ := hf 0 (by omega) 0 _ rfl
    have ha := spot_none c0
    rw [ha] at hc ⊢
    refine ⟨a.block, a.off, rfl, ?_, ?_, ?_, ?_, ?_⟩
    · have := hc 0 _ rfl; rw [add_none] at this; exact this
    · have := hc 1 _ rfl; rw [add_none] at this; exact this
    · have := hc 2 _ rfl; rw [add_none] at this; exact this
    · have := hc 3 _ rfl; rw [add_none] at this; exact this
    · have := hc 4 _ rfl; rw [add_none] at this; exact this
end
end Go.Proofs.Ytpdljjlbjebmeaa
