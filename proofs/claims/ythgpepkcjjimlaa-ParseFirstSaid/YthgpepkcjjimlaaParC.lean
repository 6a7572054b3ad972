/- parser.refuse, sees, seesWord, seesMark; slices.Index, slices.Contains. -/
import Derived.Test.YthgpepkcjjimlaaParB
import Derived.Test.YthgpepkcjjimlaaTokF
import Derived.Deep.LoopGhost
namespace Go.Proofs.Ythgpepkcjjimlaa
open Go.RowKit

def diagV (t : Tok) (er : Int) : Value := .iface 35 (.agg #[.int .i64 t.line, .int .i64 t.col, .int .i64 er])

set_option maxRecDepth 100000 in
set_option maxHeartbeats 1000000 in
theorem refuse_ok (C : Cx) (w : World) (k m : Nat) (v : Value) (tw : List Tw) (er : Int) (h : PS w C k m v tw) :
    Calls Try.prog 61 #[C.ptr, .int .i64 er] w fun e w' => e = .panicked [{ v := diagV (hd (C.T.drop k)) er, recovered := false }] ∧ Below w.heap.size w w' := by
  have HN := Lib.hid (next_ok C w k m v tw h)
  clear h
  generalize hd (C.T.drop k) = t at *
  unfold Cx.ptr at *
  go_enter Try.func61, Try.ntmps61
  go_wp2_with fail
  refine HN.out.mono ?_
  rintro e w1 ⟨rfl, hb⟩
  have HB := Lib.hid hb
  clear hb HN
  unfold tokV
  go_wp2_with fail
  exact ⟨rfl, rfl, HB.out.trans (((Below.refl _ _).alloc (Nat.le_refl _) _).mono HB.out.size)⟩

/-- A row of texts in memory. -/
def Strs (w : World) (g : Nat) (l : List (List UInt8)) : Prop := ∀ i s, l[i]? = some s → w.cell? ⟨g, i, none⟩ = some (.string ⟨s.toArray⟩)
theorem Strs.below {w w' : World} {g B : Nat} {l : List (List UInt8)} (h : Strs w g l) (hb : Below B w w') (hg : g < B) : Strs w' g l := fun i s hi => (hb.cell (p := ⟨g, i, none⟩) hg).trans (h i s hi)
def idx (l : List (List UInt8)) (s : List UInt8) : Int := if l.contains s = true then (l.idxOf s : Int) else -1

theorem idx_hit (l : List (List UInt8)) (s : List UInt8) (k : Nat) (hlt : k < l.length) (h : (l.take k).contains s = false) (he : s = l[k]) : idx l s = k := by
  have hc : l.contains s = true := by simp [he]
  unfold idx
  rw [if_pos hc]
  have hn : s ∉ l.take k := by simpa using h
  have hs : l = l.take k ++ l[k] :: l.drop (k + 1) := by rw [← List.drop_eq_getElem_cons hlt, List.take_append_drop]
  have : List.idxOf s l = k := by
    rw [hs, List.idxOf_append, if_neg hn, ← he]
    simp; omega
  rw [this]
theorem take_miss (l : List (List UInt8)) (s : List UInt8) (k : Nat) (hlt : k < l.length) (h : (l.take k).contains s = false) (he : ¬ s = l[k]) : (l.take (k + 1)).contains s = false := by
  rw [List.take_succ_eq_append_getElem hlt]
  simp only [List.contains_append, h, Bool.false_or]
  simp [he]

set_option maxRecDepth 100000 in
set_option maxHeartbeats 1000000 in
theorem index_ok (l : List (List UInt8)) (g c : Nat) (s : List UInt8) (w : World) (h : Strs w g l) (hl : l.length ≤ 1000) :
    Calls Try.prog 69 #[.slice (some ⟨g, 0, none⟩) l.length c, .string ⟨s.toArray⟩] w fun e w' => e = .returned (.int .i64 (idx l s)) ∧ w = w' := by
  have HS := Lib.hid h
  clear h
  go_enter Try.func69, Try.ntmps69
  go_wp2_with fail
  go_loopg [5, 8] l.length (fun n v5 v8 wr => ∃ k : Nat, k + n = l.length ∧ v8 = .int .i64 k ∧ (l.take k).contains s = false ∧ wr = w)
  case atStart => exact ⟨0, by omega, rfl, by simp, rfl⟩
  case round =>
    obtain ⟨k, hk, rfl, hc, rfl⟩ := hrel
    have HC := Lib.hid hc
    have HK := Lib.hid hk
    clear hc hk
    by_cases hlt : k < l.length
    · have hcell := HS.out k _ (List.getElem?_eq_getElem hlt)
      have HI := Lib.hid (idx_hit l s k hlt HC.out)
      have HM := Lib.hid (take_miss l s k hlt HC.out)
      clear HC
      generalize hx : l[k] = x at hcell HI HM
      clear hx
      by_cases he : s = x
      · subst he
        have H1 := Lib.hid (HI.out rfl)
        clear HI HM
        go_wp2_with fail
        go_ret
        exact ⟨ret_int H1.out.symm, rfl⟩
      · have hb1 : (s == x) = false := by simp [he]
        have hm := HM.out he
        have HMM := Lib.hid hm
        clear he hm HI HM
        go_wp2_with fail
        go_roundg (gk - 1)
        case measure => have := HK.out; omega
        case rel => exact ⟨k + 1, by have := HK.out; omega, by go_num, HMM.out, rfl⟩
    · have h1 : idx l s = -1 := by
        have := HC.out
        rw [List.take_of_length_le (by omega)] at this
        unfold idx
        rw [if_neg (by simpa using this)]
      have H1 := Lib.hid h1
      clear h1
      go_wp2_with fail
      go_ret
      exact ⟨ret_int H1.out.symm, rfl⟩

set_option maxRecDepth 100000 in
set_option maxHeartbeats 1000000 in
theorem contains_ok (l : List (List UInt8)) (g c : Nat) (s : List UInt8) (w : World) (h : Strs w g l) (hl : l.length ≤ 1000) :
    Calls Try.prog 67 #[.slice (some ⟨g, 0, none⟩) l.length c, .string ⟨s.toArray⟩] w fun e w' => e = .returned (.bool (l.contains s)) ∧ w = w' := by
  have HI := Lib.hid (index_ok l g c s w h hl)
  have hd : decide (0 ≤ idx l s) = l.contains s := by
    unfold idx
    by_cases hc : l.contains s = true
    · rw [if_pos hc, hc]; simp
    · rw [if_neg hc]; simp at hc ⊢; exact hc
  have HD := Lib.hid hd
  clear h hd
  go_enter Try.func67, Try.ntmps67
  go_wp2_with (go_at_call 69; refine HI.out.mono ?_; rintro e w' ⟨rfl, rfl⟩)
  go_ret
  exact ⟨ret_bool HD.out, rfl⟩

set_option maxRecDepth 100000 in
set_option maxHeartbeats 1000000 in
theorem sees_ok (C : Cx) (w : World) (k m : Nat) (v : Value) (tw : List Tw) (kk : Int) (l : List (List UInt8)) (g c : Nat) (h : PS w C k m v tw) (hs : Strs w g l) (hg : g < w.heap.size) (hl : l.length ≤ 1000) :
    Calls Try.prog 51 #[C.ptr, .int .i64 kk, .slice (some ⟨g, 0, none⟩) l.length c] w fun e w' => e = .returned (.bool (seesK kk (C.T.drop k) l)) ∧ Below w.heap.size w w' := by
  have HN := Lib.hid (next_ok C w k m v tw h)
  have HS := Lib.hid hs
  unfold seesK
  clear h hs
  generalize hd (C.T.drop k) = t at *
  unfold Cx.ptr at *
  by_cases hk : t.kind = kk
  · have hk1 : (t.kind == kk) = true := by simp [hk]
    clear hk
    go_enter Try.func51, Try.ntmps51
    go_wp2_with fail
    refine HN.out.mono ?_
    rintro e w1 ⟨rfl, hb⟩
    have HC := fun o => Lib.hid (contains_ok l g c t.text (w1.alloc o) ((HS.out.below hb hg).below ((Below.refl _ _).alloc (Nat.le_refl _) o) (by have := hb.size; omega)) hl)
    have HB := Lib.hid hb
    clear hb HN
    unfold tokV
    go_wp2_with (go_at_call 67; refine (HC _).out.mono ?_; rintro e w' ⟨rfl, rfl⟩)
    go_ret
    exact ⟨ret_bool (by simp [hk1]), HB.out.trans (((Below.refl _ _).alloc (Nat.le_refl _) _).mono HB.out.size)⟩
  · have hk1 : (t.kind == kk) = false := by simp [hk]
    clear hk
    go_enter Try.func51, Try.ntmps51
    go_wp2_with fail
    refine HN.out.mono ?_
    rintro e w1 ⟨rfl, hb⟩
    have HB := Lib.hid hb
    clear hb HN
    unfold tokV
    go_wp2_with fail
    go_ret
    exact ⟨ret_bool (by simp [hk1]), HB.out.trans (((Below.refl _ _).alloc (Nat.le_refl _) _).mono HB.out.size)⟩

set_option maxRecDepth 100000 in
theorem seesWord_ok (C : Cx) (w : World) (k m : Nat) (v : Value) (tw : List Tw) (l : List (List UInt8)) (g c : Nat) (h : PS w C k m v tw) (hs : Strs w g l) (hg : g < w.heap.size) (hl : l.length ≤ 1000) :
    Calls Try.prog 39 #[C.ptr, .slice (some ⟨g, 0, none⟩) l.length c] w fun e w' => e = .returned (.bool (seesW (C.T.drop k) l)) ∧ Below w.heap.size w w' := by
  have HN := Lib.hid (sees_ok C w k m v tw 2 l g c h hs hg hl)
  clear h hs
  unfold seesW
  unfold Cx.ptr at *
  go_enter Try.func39, Try.ntmps39
  go_wp2_with (go_at_call 51; refine HN.out.mono ?_; rintro e w' ⟨rfl, hb⟩)
  go_ret
  exact ⟨rfl, hb⟩
set_option maxRecDepth 100000 in
theorem seesMark_ok (C : Cx) (w : World) (k m : Nat) (v : Value) (tw : List Tw) (l : List (List UInt8)) (g c : Nat) (h : PS w C k m v tw) (hs : Strs w g l) (hg : g < w.heap.size) (hl : l.length ≤ 1000) :
    Calls Try.prog 55 #[C.ptr, .slice (some ⟨g, 0, none⟩) l.length c] w fun e w' => e = .returned (.bool (seesM (C.T.drop k) l)) ∧ Below w.heap.size w w' := by
  have HN := Lib.hid (sees_ok C w k m v tw 4 l g c h hs hg hl)
  clear h hs
  unfold seesM
  unfold Cx.ptr at *
  go_enter Try.func55, Try.ntmps55
  go_wp2_with (go_at_call 51; refine HN.out.mono ?_; rintro e w' ⟨rfl, hb⟩)
  go_ret
  exact ⟨rfl, hb⟩
end Go.Proofs.Ythgpepkcjjimlaa
