/- token.Print and the reference's Print. -/
import Derived.Test.YtpdljjlbjebmeaaTokY
import Derived.Test.YtpdljjlbjebmeaaTokBb
namespace Go.Proofs.Ytpdljjlbjebmeaa
open Go.RowKit

/-- Tokens that lie in memory. -/
def TR (w : World) (A : Option Addr) (T : List Tok) : Prop := ∀ i t, T[i]? = some t → ∃ g off, A = some ⟨g, off, none⟩ ∧ w.cell? ⟨g, off + i * 5, none⟩ = some (.int .i64 t.kind) ∧ w.cell? ⟨g, off + i * 5 + 1, none⟩ = some (.string ⟨t.text.toArray⟩) ∧ w.cell? ⟨g, off + i * 5 + 2, none⟩ = some (.int .i64 t.n) ∧ w.cell? ⟨g, off + i * 5 + 3, none⟩ = some (.int .i64 t.line) ∧ w.cell? ⟨g, off + i * 5 + 4, none⟩ = some (.int .i64 t.col)
theorem Toks.tr {w : World} {A : Option Addr} {T : List Tok} (h : Toks w A T) : TR w A T := by
  intro i t hi
  obtain ⟨g, h0, h1, h2, h3, h4, h5⟩ := h i t hi
  exact ⟨g, 0, h0, by rwa [Nat.zero_add], by rwa [Nat.zero_add], by rwa [Nat.zero_add], by rwa [Nat.zero_add], by rwa [Nat.zero_add]⟩
theorem TR.below {w w' : World} {A : Option Addr} {T : List Tok} {B : Nat} (h : TR w A T) (hb : Below B w w') (hB : w.heap.size ≤ B) : TR w' A T := by
  intro i t hi
  obtain ⟨g, off, rfl, h1, h2, h3, h4, h5⟩ := h i t hi
  have hg : g < B := Nat.lt_of_lt_of_le (World.block_lt_of_cell? w _ h1) hB
  have hc := (below_cells hb).1
  exact ⟨g, off, rfl, (hc _ _ hg).trans h1, (hc _ _ hg).trans h2, (hc _ _ hg).trans h3, (hc _ _ hg).trans h4, (hc _ _ hg).trans h5⟩

theorem builderAt_below {T e : TypeId} {B b : Nat} {p : Value} {bs : List Value} {w w' : World} (h : Lib.BuilderAt T e B b p bs w) (hb : Below w.heap.size w w') : Lib.BuilderAt T e B b p bs w' := by
  obtain ⟨h1, v, h2, h3, h4⟩ := h
  have hlt : b < w.heap.size := by
    rcases Nat.lt_or_ge b w.heap.size with h' | h'
    · exact h'
    · simp [Array.getElem?_eq_none h'] at h2
  exact ⟨h1, v, heap_below hb hlt h2, own_below h3 hb, h4⟩
theorem builder_below {T e : TypeId} {B b : Nat} {bs : List Value} {w w' : World} (h : Lib.IsBuilder T e B b bs w) (hb : Below w.heap.size w w') : Lib.IsBuilder T e B b bs w' :=
  h.imp (fun h => builderAt_below h hb) (fun h => builderAt_below h hb)

theorem strCells_byte (l : List UInt8) : Lib.strCells ⟨l.toArray⟩ = Lib.byteCells l := by
  simp [Lib.strCells, Lib.byteCells]

theorem text_far {W w' : World} {k b : Nat} {v0 v1 v2 v3 v4 : Value} (h : W.heap[k]? = some (.cells #[v0, v1, v2, v3, v4] 31 (0, 0))) (hf : Far 5 b W w') (hkb : k ≠ b) : w'.cell? ⟨k, 1, none⟩ = some v1 := by
  have := (hf k _ _ _ h (by decide) hkb).trans h
  rw [Lib.cell_of_heap this]; rfl

def PrR (T : List Tok) (w : World) (k : Nat) (v8 : Value) (wr : World) : Prop :=
  ∃ i, i + k = T.length ∧ v8 = .int .i64 i ∧ Lib.IsBuilder 67 5 w.heap.size w.heap.size (Lib.byteCells (pr (T.take i))) wr ∧ Below w.heap.size w wr ∧ w.heap.size < wr.heap.size

set_option maxRecDepth 100000 in
set_option maxHeartbeats 1000000 in
theorem print_ok (T : List Tok) (A : Option Addr) (cap : Nat) (w : World) (ht : TR w A T) (hn : T.length ≤ 60) (hl : ∀ t ∈ T, t.text.length ≤ 40) :
    Calls Try.prog 21 #[.slice A T.length cap] w fun e w' => e = .returned (.string ⟨(prn T).toArray⟩) ∧ Below w.heap.size w w' := by
  have HT := Lib.hid ht
  have HL := Lib.hid hl
  clear ht hl
  go_enter Try.func21, Try.ntmps21
  go_wp2_with fail
  go_loopg [4, 5, 8] T.length (fun k v4 v5 v8 wr => PrR T w k v8 wr)
  case atStart =>
    refine ⟨0, by omega, rfl, ?_, ?_, ?_⟩
    · exact Lib.fresh_isBuilder _ _ w
    · exact (Below.refl _ w).alloc (Nat.le_refl _) _
    · simp
  case round =>
    obtain ⟨i, hik, rfl, hB, hb, hs⟩ := hrel
    have HIK := Lib.hid hik
    have HB := Lib.hid hB
    have HBe := Lib.hid hb
    have HS := Lib.hid hs
    clear hik hB hb hs
    by_cases hlt : i < T.length
    · obtain ⟨t, hti⟩ : ∃ t, T[i]? = some t := ⟨T[i], List.getElem?_eq_getElem hlt⟩
      obtain ⟨g, off, rfl, c0, c1, c2, c3, c4⟩ := (HT.out.below HBe.out (Nat.le_refl _)) i t hti
      have HTI := Lib.hid hti
      clear hti
      go_upto_region 5 with (fail)
      have hW : ∃ W, W = wr.alloc (.cells #[.int .i64 t.kind, .string ⟨t.text.toArray⟩, .int .i64 t.n, .int .i64 t.line, .int .i64 t.col] 31) := ⟨_, rfl⟩
      obtain ⟨W, hW⟩ := hW
      rw [← hW]
      have hbW : Below wr.heap.size wr W := by rw [hW]; exact (Below.refl _ wr).alloc (Nat.le_refl _) _
      have hsW : wr.heap.size < W.heap.size := by rw [hW]; simp
      have htW : W.cell? ⟨wr.heap.size, 1, none⟩ = some (.string ⟨t.text.toArray⟩) := by rw [hW]; exact new_cells wr [.int .i64 t.kind, .string ⟨t.text.toArray⟩, .int .i64 t.n, .int .i64 t.line, .int .i64 t.col] _ 1 _ rfl
      have HTW : Hid (W.heap[wr.heap.size]? = some (.cells #[.int .i64 t.kind, .string ⟨t.text.toArray⟩, .int .i64 t.n, .int .i64 t.line, .int .i64 t.col] 31 (0, 0))) := Lib.hid (by rw [hW]; exact heap_alloc_new wr _)
      have HBW := Lib.hid (builder_below HB.out hbW)
      have HbW := Lib.hid (HBe.out.trans (hbW.mono HBe.out.size))
      have HsW := Lib.hid hsW
      have htl : t.text.length ≤ 40 := HL.out t (List.mem_of_getElem? HTI.out)
      have hpl : (pr (T.take i)).length ≤ 2460 := by
        have := pr_len (T.take i) (fun x hx => HL.out x (List.mem_of_mem_take hx))
        rw [List.length_take] at this
        have : min i T.length * 41 ≤ 60 * 41 := Nat.mul_le_mul_right _ (by omega)
        omega
      have hsn : pr (T.take (i + 1)) = (if 0 < i then pr (T.take i) ++ [32] else pr (T.take i)) ++ t.text := by
        have e1 : T.take (i + 1) = T.take i ++ [t] := by rw [List.take_add_one, HTI.out]; rfl
        have e2 : (T.take i).length = i := by rw [List.length_take]; omega
        rw [e1, pr_snoc, e2]
      have HSN := Lib.hid hsn
      clear hW hbW hsW hsn c0 c1 c2 c3 c4
      have HW1 : Hid ((Lib.byteCells (pr (T.take i))).length + ByteArray.size ⟨t.text.toArray⟩ ≤ 140737488355328) := Lib.hid (by
        have e1 : (Lib.byteCells (pr (T.take i))).length = (pr (T.take i)).length := by simp [Lib.byteCells]
        have e2 : ByteArray.size ⟨t.text.toArray⟩ = t.text.length := by simp [ByteArray.size]
        omega)
      rcases Nat.eq_zero_or_pos i with h0 | h0
      · subst h0
        have hd0 : decide ((0 : Int) < 0) = false := by decide
        go_wp2_with (go_at_call 37; refine (writeString_ok _ _ _ _ W HBW.out HW1.out (by have := HsW.out; have := HS.out; omega)).mono ?_)
        rintro e w2 ⟨rfl, hB2, hb2, hf2⟩
        go_wp2_with fail
        go_roundg (gk - 1)
        case measure => have := HIK.out; omega
        case rel =>
          refine ⟨1, by have := HIK.out; omega, by go_num, Or.inr ?_, HbW.out.trans hb2, by have := hb2.size; have := HsW.out; have := HS.out; omega⟩
          have := HSN.out
          simp only [Nat.zero_add, Nat.lt_irrefl, if_false] at this
          rw [this]
          simpa [Lib.byteCells, strCells_byte] using hB2
      · go_wp2_with (go_at_call 36; refine (writeByte_ok _ _ _ 32 W HBW.out (by simp [Lib.byteCells]; omega) (by have := HsW.out; have := HS.out; omega)).mono ?_)
        rintro e w1 ⟨rfl, hB1, hb1, hf1⟩
        have ht1 := text_far HTW.out hf1 (by have := HS.out; omega)
        have HB1 : Hid (Lib.IsBuilder 67 5 w.heap.size w.heap.size (Lib.byteCells (pr (T.take i) ++ [32])) w1) := Lib.hid (Or.inr (by simpa [Lib.byteCells] using hB1))
        have Hb1 := Lib.hid hb1
        clear hB1 hb1 hf1 htW
        go_wp2_with (go_at_call 37; refine (writeString_ok _ _ _ _ w1 HB1.out (by simp [Lib.byteCells, ByteArray.size]; omega) (by have := Hb1.out.size; have := HsW.out; have := HS.out; omega)).mono ?_)
        rintro e w2 ⟨rfl, hB2, hb2, hf2⟩
        go_wp2_with fail
        go_roundg (gk - 1)
        case measure => have := HIK.out; omega
        case rel =>
          refine ⟨i + 1, by have := HIK.out; omega, by go_num, Or.inr ?_, (HbW.out.trans Hb1.out).trans hb2, by have := hb2.size; have := Hb1.out.size; have := HsW.out; have := HS.out; omega⟩
          have := HSN.out
          rw [if_pos h0] at this
          rw [this]
          simpa [Lib.byteCells, strCells_byte] using hB2
    · have hi : i = T.length := by have := HIK.out; omega
      subst hi
      rw [List.take_length] at HB
      have hpl := pr_len T HL.out
      go_wp2_with fail
      · refine (writeByte_ok _ _ _ 10 wr HB.out (by simp [Lib.byteCells]; omega) (by have := HS.out; omega)).mono ?_
        rintro e w2 ⟨rfl, hB2, hb2, _⟩
        have HB2 : Hid (Lib.IsBuilder 67 5 w.heap.size w.heap.size (Lib.byteCells (pr T ++ [10])) w2) := Lib.hid (Or.inr (by simpa [Lib.byteCells] using hB2))
        have HB3 := Lib.hid hb2
        clear hB2 hb2
        go_wp2_with (go_at_call 38; refine (bString_any _ _ _ w2 HB2.out (by have := HB3.out.size; have := HS.out; omega)).mono ?_)
        rintro e w3 ⟨rfl, hb3⟩
        go_wp2_with fail
        go_ret
        refine ⟨?_, (HBe.out.trans HB3.out).trans hb3⟩
        have hne : T ≠ [] := by intro e; subst e; simp at *
        simp [prn, hne]
      · refine (bString_any _ _ _ wr HB.out (by have := HS.out; omega)).mono ?_
        rintro e w3 ⟨rfl, hb3⟩
        go_wp2_with fail
        go_ret
        refine ⟨?_, HBe.out.trans hb3⟩
        have hne : T = [] := by
          have : T.length = 0 := by omega
          exact List.eq_nil_of_length_eq_zero this
        subst hne
        simp [prn, pr]

end Go.Proofs.Ytpdljjlbjebmeaa
