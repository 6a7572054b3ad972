/- A script's text, of the program. -/
import Derived.Test.YtkljdpjdlccidaaDoorSaE
import Derived.Test.YtkljdpjdlccidaaDoorSbA
namespace Go.Proofs.YtkljdpjdlccidaaDoor
open Go.RowKit Go.Shelf
attribute [local go_sem] Oper.semAt_some
theorem Ext.bel {w w' : World} (k : Ext w w') : Below w.heap.size w w' := k.below (fun b _ hb => by simp [pOld, hb]) (Nat.le_refl _)
theorem own_bel {W w' : World} {base : Nat} {e : TypeId} {size n : Nat} {v : Value} {xs : List Value} (h : W.ownsRow base e size v n xs) (k : Below W.heap.size W w') : w'.ownsRow base e size v n xs := ((Ext.of k).kept (fun _ _ => true)).row h fun _ _ => rfl
theorem builderAt_below {T e : TypeId} {B b : Nat} {p : Value} {bs : List Value} {w w' : World} (h : Lib.BuilderAt T e B b p bs w) (hb : Below w.heap.size w w') : Lib.BuilderAt T e B b p bs w' := by
  obtain ⟨h1, v, h2, h3, h4⟩ := h
  exact ⟨h1, v, ((Ext.of hb).kept (fun _ _ => true)).same _ _ h2 rfl, own_bel h3 hb, h4⟩
theorem builder_below {T e : TypeId} {B b : Nat} {bs : List Value} {w w' : World} (h : Lib.IsBuilder T e B b bs w) (hb : Below w.heap.size w w') : Lib.IsBuilder T e B b bs w' :=
  h.imp (fun h => builderAt_below h hb) (fun h => builderAt_below h hb)
theorem strCells_byte (l : List UInt8) : Lib.strCells ⟨l.toArray⟩ = Lib.byteCells l := by
  simp [Lib.strCells, Lib.byteCells]
theorem wd_len (k : Int) : (wdE k).length ≤ 6 := by
  unfold wdE
  repeat (first | (split; decide) | decide)
theorem ln_len {e : En} (ok : e.ok) : (lnE e).length ≤ 50 := by
  have ha := itoa_len ok.2.1
  have hn := itoa_len ok.2.2
  have hw := wd_len e.k
  unfold lnE wsE
  rw [Lib.join_length]
  split <;> split <;> simp [Lib.lens] <;> omega
def txE (l : List En) : List UInt8 := l.flatMap fun e => lnE e ++ [10]
theorem tx_len : ∀ (l : List En), (∀ e ∈ l, e.ok) → (txE l).length ≤ 51 * l.length
  | [], _ => by simp [txE]
  | e :: l, h => by
    have h1 := ln_len (h e (List.mem_cons_self ..))
    have h2 := tx_len l fun f hf => h f (List.mem_cons_of_mem _ hf)
    simp only [txE, List.flatMap_cons, List.length_append, List.length_cons, List.length_nil] at h2 ⊢
    omega
theorem tx_snoc {l : List En} {i : Nat} {e : En} (h : l[i]? = some e) : txE (l.take (i + 1)) = txE (l.take i) ++ lnE e ++ [10] := by
  rw [List.take_add_one, h]
  simp [txE]
/-- Entries in memory. -/
abbrev RowsE (w : World) (A : Option Addr) (l : List En) : Prop := Rows3 En.cells 3 En.ok w A l
theorem RowsE.ok {w : World} {A : Option Addr} {l : List En} (h : RowsE w A l) : ∀ e ∈ l, e.ok := fun e he => by
  obtain ⟨i, hi, rfl⟩ := List.getElem_of_mem he
  obtain ⟨_, _, _, _, q, _⟩ := h i _ (List.getElem?_eq_getElem hi)
  exact q
theorem RowsE.at {w : World} {A : Option Addr} {l : List En} (h : RowsE w A l) {i : Nat} {e : En} (hi : l[i]? = some e) : ∃ g off, A = some ⟨g, off, none⟩ ∧ g < w.heap.size ∧ w.cell? ⟨g, off + i * 3, none⟩ = some (.int .i64 e.k) ∧ w.cell? ⟨g, off + i * 3 + 1, none⟩ = some (.int .i64 e.a) ∧ w.cell? ⟨g, off + i * 3 + 2, none⟩ = some (.int .i64 e.n) := by
  obtain ⟨g, off, h1, h2, _, h4⟩ := h i e hi
  exact ⟨g, off, h1, h2, h4 0 _ rfl, h4 1 _ rfl, h4 2 _ rfl⟩
theorem may_kind {e : En} (h : mayE e = true) : 1 ≤ e.k ∧ e.k ≤ 5 := by
  have := (mayE_iff e).1 h
  exact ⟨this.1, this.2.1⟩
set_option maxRecDepth 100000 in
set_option maxHeartbeats 4000000 in
theorem Text_ok {w : World} {A : Option Addr} {c : Nat} {l : List En} (hT : TabA w) (h : RowsE w A l) (hl : l.length ≤ 100) : Calls Tryd.prog 16 #[.slice A l.length c] w fun e w' => e = .returned (.string ⟨(textE l).toArray⟩) ∧ Ext w w' := by
  have HT := Lib.hid (fun v (k : Ext w v) => hT.ext k)
  have HR := Lib.hid (fun v (k : Ext w v) => Rows3.kept h k)
  have HOK := Lib.hid (RowsE.ok h)
  clear hT h
  go_enter Tryd.func16, Tryd.ntmps16
  go_wp2_with fail
  go_loopg [5, 8] l.length (fun k v5 v8 wr => ∃ i, i + k = l.length ∧ v8 = .int .i64 i ∧ (l.take i).all mayE = true ∧ Lib.IsBuilder 80 5 w.heap.size w.heap.size (Lib.byteCells (txE (l.take i))) wr ∧ Ext w wr ∧ w.heap.size < wr.heap.size)
  case atStart =>
    exact ⟨0, by omega, rfl, rfl, Lib.fresh_isBuilder _ _ w, Ext.one _ _, by simp⟩
  case round =>
    obtain ⟨i, hik, rfl, hm, hB, hx, hs⟩ := hrel
    have HIK := Lib.hid hik
    have HM := Lib.hid hm
    have HB := Lib.hid hB
    have HX := Lib.hid hx
    have HS := Lib.hid hs
    clear hik hm hB hx hs
    by_cases hlt : i < l.length
    · obtain ⟨e, hti⟩ : ∃ e, l[i]? = some e := ⟨l[i], List.getElem?_eq_getElem hlt⟩
      obtain ⟨g, off, rfl, gl, c0, c1, c2⟩ := RowsE.at (HR.out wr HX.out) hti
      have z : (i : Int) < (l.length : Int) := by omega
      have HTI := Lib.hid hti
      clear hti
      go_upto_region 5 with (fail)
      obtain ⟨W1, hW1⟩ : ∃ W1, W1 = wr.alloc (En.o e) := ⟨_, rfl⟩
      change Code.wp _ _ _ _ (wr.alloc (En.o e))
      rw [← hW1]
      have hx1 : Ext wr W1 := by rw [hW1]; exact Ext.one _ _
      have hb1 : W1.heap[wr.heap.size]? = some (En.o e) := by rw [hW1]; exact World.alloc_heap_new _ _
      obtain ⟨x0, x1, x2, xl⟩ := En.o_cells hb1
      have HX1 := Lib.hid (HX.out.trans hx1)
      have HK1 := Lib.hid hx1
      have HE1 := Lib.hid hb1
      clear hW1 hx1 hb1 c0 c1 c2 gl
      generalize hbx : wr.heap.size = bx at *
      have HMY := Lib.hid (May_ok (HT.out W1 HX1.out).s e)
      unfold En.v at HMY
      cases hme : mayE e with
      | false =>
        rw [hme] at HMY
        have hall : textE l = [] := by
          unfold textE
          rw [if_neg]
          intro ha
          have := List.all_eq_true.1 ha e (List.mem_of_getElem? HTI.out)
          rw [hme] at this
          cases this
        have HALL := Lib.hid hall
        clear hall hme
        go_wp2_with (go_at_call 34; refine HMY.out.mono ?_; rintro e2 w2 ⟨rfl, hx2⟩; have HX2 := Lib.hid (HX1.out.trans hx2); clear hx2)
        go_ret
        exact ⟨by rw [HALL.out]; rfl, HX2.out⟩
      | true =>
        rw [hme] at HMY
        have HME := Lib.hid hme
        have HOE := Lib.hid (HOK.out e (List.mem_of_getElem? HTI.out))
        have HLN := Lib.hid (fun v (k : Ext w v) => line_ok (HT.out v k) HOE.out (may_kind HME.out))
        unfold En.v at HLN
        have htl := ln_len HOE.out
        have hsz := str_size (lnE e)
        have hpl : (txE (l.take i)).length ≤ 5100 := by
          have := tx_len (l.take i) (fun x hx => HOK.out x (List.mem_of_mem_take hx))
          rw [List.length_take] at this
          omega
        have HLE := Lib.hid (show (Lib.byteCells (txE (l.take i))).length + ByteArray.size ⟨(lnE e).toArray⟩ ≤ 140737488355328 ∧ (Lib.byteCells (txE (l.take i)) ++ Lib.strCells ⟨(lnE e).toArray⟩).length + 1 ≤ 140737488355328 by
          rw [strCells_byte]
          simp only [Lib.byteCells, List.length_append, List.length_map, hsz]
          omega)
        clear hme htl hsz hpl
        go_upto_region 7 with (go_at_call 34; refine HMY.out.mono ?_; rintro e2 w2 ⟨rfl, hx2⟩; have HX2 := Lib.hid (HX1.out.trans hx2); have HK2 := Lib.hid (HK1.out.trans hx2); have he2 := (hx2.kept (fun _ _ => true)).same _ _ HE1.out rfl; have HE2 := Lib.hid he2; clear hx2 x0 x1 x2 xl; obtain ⟨x0, x1, x2, xl⟩ := En.o_cells he2; clear he2)
        go_upto_region 8 with (first
          | (go_at_call 36; refine (HLN.out w2 HX2.out).mono ?_; rintro e3 w3 ⟨rfl, hx3⟩; have HX3 := Lib.hid (HX2.out.trans hx3); have HB3 := Lib.hid (builder_below HB.out (HK2.out.trans hx3).bel); clear hx3 x0 x1 x2 xl)
          | (go_at_call 35; refine (writeString_ok _ _ _ _ w3 HB3.out HLE.out.1 HX3.out.size).mono ?_; rintro e4 w4 ⟨rfl, hB4, hb4, hf4⟩; have HB4 := Lib.hid hB4; have HX4 := Lib.hid (Ext.of (HX3.out.bel.trans hb4)); clear hB4 hb4 hf4))
        go_wp2_with (go_at_call 37; refine (writeByte_ok _ _ _ 10 w4 (Or.inr HB4.out) HLE.out.2 HX4.out.size).mono ?_; rintro e5 w5 ⟨rfl, hB5, hb5, hf5⟩; have HB5 := Lib.hid hB5; have HX5 := Lib.hid (Ext.of (HX4.out.bel.trans hb5)); clear hB5 hb5 hf5)
        go_roundg (gk - 1)
        case measure => have := HIK.out; omega
        case rel =>
          refine ⟨i + 1, by have := HIK.out; omega, by go_num, ?_, Or.inr ?_, HX5.out, Nat.lt_of_lt_of_le HB5.out.lt (Nat.le_refl _)⟩
          · rw [List.take_add_one, HTI.out]
            simp [HM.out, HME.out]
          · rw [tx_snoc HTI.out]
            have := HB5.out
            rw [strCells_byte] at this
            simpa [Lib.byteCells] using this
    · have hi : i = l.length := by have := HIK.out; omega
      subst hi
      have ht : textE l = txE l := by
        have := HM.out
        rw [List.take_length] at this
        unfold textE
        rw [if_pos this]
        rfl
      have HTT := Lib.hid ht
      have HBB := HB
      rw [List.take_length] at HBB
      have HST := Lib.hid (Any.Builder_String_any Tryd.lays169 Tryd.Builder_Extra_169 w.heap.size w.heap.size (txE l) wr HBB.out HX.out.size)
      clear ht HBB HB
      go_wp2_with (go_at_call 38; refine HST.out.mono ?_; rintro e5 w5 ⟨rfl, hb5⟩; have HX5 := Lib.hid (Ext.of (HX.out.bel.trans hb5)); clear hb5)
      go_ret
      exact ⟨by rw [HTT.out]; rfl, HX5.out⟩
end Go.Proofs.YtkljdpjdlccidaaDoor
