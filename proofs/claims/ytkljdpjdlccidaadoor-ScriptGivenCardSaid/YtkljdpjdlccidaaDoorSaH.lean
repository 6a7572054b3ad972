/- What the program reads of a line, of a kind. -/
import Derived.Test.YtkljdpjdlccidaaDoorSaG
import Derived.Deep.DeepCutAuto
import Derived.Deep.CutRange
namespace Go.Proofs.YtkljdpjdlccidaaDoor
open Go.RowKit Go.Shelf
attribute [local go_sem] Oper.semAt_some
def ne' (g : Nat) : Nat → Option TypeId → Bool := fun b _ => b != g
theorem Kept.one (b : Nat) (w : World) (i : Nat) (u : Value) : Kept (ne' b) w (w.setCell ⟨b, i, none⟩ u) := Kept.setCell _ fun o ho => by simp [ne']
theorem ext_ne {W w w' : World} {g : Nat} (h : Ext W w) (k : Kept (ne' g) w w') (hg : W.heap.size ≤ g) : Ext W w' := Kept.trans h (k.mono fun b t _ hp => by
  simp [pOld] at hp
  simp [ne']; omega)
theorem set_range {b : Nat} {t : TypeId} : ∀ (vs : List Value) (pre zs : List Value) (w : World), w.heap[b]? = some (.cells (pre ++ zs).toArray t (0, 0)) → zs.length = vs.length → (w.setCells b pre.length vs).heap[b]? = some (.cells (pre ++ vs).toArray t (0, 0)) ∧ Kept (ne' b) w (w.setCells b pre.length vs)
  | [], pre, zs, w, h, hl => by
    have : zs = [] := List.eq_nil_of_length_eq_zero hl
    subst this
    exact ⟨h, Kept.refl _ _⟩
  | v :: r, pre, z :: zs, w, h, hl => by
    have h1 : (w.setCell ⟨b, pre.length, none⟩ v).heap[b]? = some (.cells ((pre ++ [v]) ++ zs).toArray t (0, 0)) := by
      rw [heap_setCell_same w b pre.length _ _ v h]
      congr 2
      apply Array.ext'
      simp
    have ih := set_range r (pre ++ [v]) zs _ h1 (by simpa using hl)
    have kk : Kept (ne' b) w (w.setCell ⟨b, pre.length, none⟩ v) := Kept.setCell _ fun o ho => by simp [ne']
    simp only [World.setCells]
    rw [List.length_append] at ih
    exact ⟨by simpa using ih.1, kk.trans ih.2⟩
  | v :: r, pre, [], w, h, hl => by simp at hl
def put6 (w : World) (b : Nat) : World := (((((w.setCell ⟨b, 0, none⟩ (.int .i64 0)).setCell ⟨b, 1, none⟩ (.int .i64 0)).setCell ⟨b, 2, none⟩ (.int .i64 0)).setCell ⟨b, 3, none⟩ (.int .i64 0)).setCell ⟨b, 4, none⟩ (.int .i64 0)).setCell ⟨b, 5, none⟩ (.slice none 0 0)
theorem infoStrE : (Tryd.prog.info? 9).map (fun i => (i.zero, i.size, i.bytes)) = some (some (.string ByteArray.empty), 1, 16) := by kernel_rfl
theorem bytes_beq (a b : List UInt8) : ((⟨a.toArray⟩ : ByteArray) == ⟨b.toArray⟩) = (a == b) := by
  have h : ((⟨a.toArray⟩ : ByteArray) == ⟨b.toArray⟩) = ((a.toArray : Array UInt8) == b.toArray) := rfl
  rw [h]
  simp
theorem bytes_bne {a b : List UInt8} (h : a ≠ b) : ((⟨a.toArray⟩ : ByteArray) != ⟨b.toArray⟩) = true := by
  unfold bne
  rw [bytes_beq]
  simpa using h
theorem splitK_min (x : List UInt8) : Lib.splitK [32] 0 (min 3 (x.length + 1) - 1) x = Lib.splitK [32] 0 2 x := by
  match x with
  | [] => rfl
  | [c] =>
    by_cases h : c = 32
    · subst h; rfl
    · have h1 : (32 : UInt8) ∉ [c] := by simp; exact fun e => h e.symm
      rw [splitK_no 32 _ _ h1, splitK_no 32 _ _ h1]
  | a :: b :: r =>
    have : min 3 ((a :: b :: r).length + 1) - 1 = 2 := by simp only [List.length_cons]; omega
    rw [this]
theorem min10 : min (1 : Int) 0 = 0 := by decide
theorem min12 : min (1 : Int) 2 = 1 := by decide
theorem wr0 : wrap64 0 = 0 := by kernel_rfl
theorem wr1 : wrap64 1 = 1 := by kernel_rfl
theorem wr2 : wrap64 2 = 2 := by kernel_rfl
attribute [local go_sem] min10 min12 wr0 wr1 wr2
def spw (x : List UInt8) : List (List UInt8) := Lib.splitK [32] 0 2 x
theorem splitK_len (c : UInt8) : ∀ (k : Nat) (x : List UInt8), 1 ≤ (Lib.splitK [c] 0 k x).length ∧ (Lib.splitK [c] 0 k x).length ≤ k + 1
  | 0, x => ⟨Nat.le_refl 1, Nat.le_refl 1⟩
  | k + 1, x => by
    rw [Lib.splitK]
    split
    · simp
    · have := splitK_len c k (x.drop ((Lib.index x [c]).toNat + [c].length))
      simp only [List.length_cons, List.length_nil] at this ⊢
      omega
theorem spw_len (x : List UInt8) : 1 ≤ (spw x).length ∧ (spw x).length ≤ 3 := splitK_len 32 2 x
theorem splitK_small (c : UInt8) : ∀ (k : Nat) (x : List UInt8) (y : List UInt8), y ∈ Lib.splitK [c] 0 k x → y.length ≤ x.length
  | 0, x, y, h => by
    obtain rfl := List.mem_singleton.1 h
    exact Nat.le_refl _
  | k + 1, x, y, h => by
    rw [Lib.splitK] at h
    split at h
    · obtain rfl := List.mem_singleton.1 h
      exact Nat.le_refl _
    · rcases List.mem_cons.1 h with rfl | h
      · simp
        omega
      · have := splitK_small c k _ y h
        rw [List.length_drop] at this
        omega
theorem split_ok {w : World} (h : TabR w) (x : List UInt8) (hl : x.length ≤ 6000) : Calls Tryd.prog 43 #[.string ⟨x.toArray⟩, .string ⟨#[32]⟩, .int .i64 3] w fun e w' => ∃ c, e = .returned (.slice (some ⟨w.heap.size, 0, none⟩) (spw x).length c) ∧ Ext w w' ∧ w.heap.size < w'.heap.size ∧ ∀ (j : Nat) y, (spw x)[j]? = some y → w'.cell? ⟨w.heap.size, j, none⟩ = some (sL y) := by
  obtain ⟨m, hm⟩ := h.mx
  have hs : (⟨x.toArray⟩ : ByteArray).size = x.length := str_size x
  have := Any.strings_SplitN Tryd.lays147 infoStrE ⟨x.toArray⟩ ⟨#[32]⟩ 3 m w (by rw [hs]; omega) hm (Nat.le_refl 1) (by decide) (by decide)
  have hd := Lib.splitB_data ⟨#[32]⟩ 0 (min 3 ((⟨x.toArray⟩ : ByteArray).size + 1) - 1) ⟨x.toArray⟩
  have e1 : (Lib.splitB ⟨#[32]⟩ 0 (min 3 ((⟨x.toArray⟩ : ByteArray).size + 1) - 1) ⟨x.toArray⟩).map (·.data.toList) = spw x := by
    rw [hd, hs]
    exact splitK_min x
  have hle := Lib.splitB_length_le ⟨#[32]⟩ 0 (min 3 ((⟨x.toArray⟩ : ByteArray).size + 1) - 1) ⟨x.toArray⟩
  generalize hD : Lib.splitB ⟨#[32]⟩ 0 (min 3 ((⟨x.toArray⟩ : ByteArray).size + 1) - 1) ⟨x.toArray⟩ = D at *
  have el : D.length = (spw x).length := by rw [← e1]; simp
  rw [el] at this
  refine this.mono fun e w' k => ⟨_, k.1, ?_, ?_, ?_⟩
  · rw [k.2]; exact Ext.one _ _
  · rw [k.2]; simp
  · intro j y hj
    rw [k.2]
    refine al_cell ?_
    rw [← e1, List.getElem?_map] at hj
    cases hq : D[j]? with
    | none => rw [hq] at hj; cases hj
    | some d =>
      rw [hq] at hj
      obtain rfl := Option.some.inj hj
      have hlt := (List.getElem?_eq_some_iff.1 hq).1
      have : sL d.data.toList = .string d := by unfold sL; congr 1
      rw [this]
      unfold Lib.cellsOf
      rw [List.getElem?_toArray, List.getElem?_append_left (by simpa using hlt), List.getElem?_map, hq]
      rfl
/-- What a reading answers. -/
def ReadQ (w : World) (x : List UInt8) (k : Int) (r : Ending) (w' : World) : Prop := ∃ e b, r = .returned (.tuple #[En.v e, .bool b]) ∧ Ext w w' ∧ (b = true → rdK x k = some e) ∧ (b = false → rdK x k = none)
def zEn : Obj := .cells #[.int .i64 0, .int .i64 0, .int .i64 0] 42 (0, 0)
/-- A reading under way. -/
structure RS (w : World) (br bx bs bw : Nat) (e : En) (so : Obj) (ws : List (List UInt8)) (v : World) : Prop where
  ex : Ext w v
  r : v.heap[br]? = some zEn
  x : v.heap[bx]? = some e.o
  s : v.heap[bs]? = some so
  c : ∀ (j : Nat) y, ws[j]? = some y → v.cell? ⟨bw, j, none⟩ = some (sL y)
  lw : bw < v.heap.size
  le : w.heap.size ≤ br ∧ w.heap.size ≤ bx
  ne : bx ≠ br ∧ bx ≠ bs ∧ bx ≠ bw
structure Rg1 (W1 : World) (bx bs : Nat) (e : En) (so : Obj) (v : World) : Prop where
  x : Ext W1 v
  b : v.heap[bx]? = some e.o
  s : v.heap[bs]? = some so
  l : W1.heap.size ≤ bx
  lx : bx < v.heap.size
  ls : bs < v.heap.size
  n : bx ≠ bs
theorem rg1_a (W1 : World) (e : En) (so : Obj) : Rg1 W1 W1.heap.size (W1.heap.size + 1) e so ((W1.alloc e.o).alloc so).drew :=
  ⟨(Ext.two _ _ _).trans (Ext.drew _), ((Ext.one _ _).kept (fun _ _ => true)).same _ _ (World.alloc_heap_new W1 _) rfl, by have := World.alloc_heap_new (W1.alloc e.o) so; rw [World.size_alloc] at this; exact this, Nat.le_refl _, by show _ < ((W1.alloc _).alloc _).heap.size; simp; try omega, by show _ < ((W1.alloc _).alloc _).heap.size; simp; try omega, by omega⟩
theorem rg1_b (W1 : World) (e : En) (so : Obj) : Rg1 W1 (W1.heap.size + 1) W1.heap.size e so ((W1.alloc so).alloc e.o).drew :=
  ⟨(Ext.two _ _ _).trans (Ext.drew _), by have := World.alloc_heap_new (W1.alloc so) e.o; rw [World.size_alloc] at this; exact this, ((Ext.one _ _).kept (fun _ _ => true)).same _ _ (World.alloc_heap_new W1 _) rfl, by omega, by show _ < ((W1.alloc _).alloc _).heap.size; simp; try omega, by show _ < ((W1.alloc _).alloc _).heap.size; simp; try omega, by omega⟩
section
variable {w v v' : World} {br bx bs bw : Nat} {e : En} {so : Obj} {ws : List (List UInt8)}
theorem RS.ext (h : RS w br bx bs bw e so ws v) (k : Ext v v') : RS w br bx bs bw e so ws v' := by
  have kk := k.kept (fun _ _ => true)
  exact ⟨h.ex.trans k, kk.same _ _ h.r rfl, kk.same _ _ h.x rfl, kk.same _ _ h.s rfl, fun j y hj => kk.cell (h.c j y hj) fun _ _ => rfl, Nat.lt_of_lt_of_le h.lw k.size, h.le, h.ne⟩
theorem RS.put (h : RS w br bx bs bw e so ws v) {i : Nat} {u : Value} {e' : En} (he : (v.setCell ⟨bx, i, none⟩ u).heap[bx]? = some e'.o) : RS w br bx bs bw e' so ws (v.setCell ⟨bx, i, none⟩ u) := by
  have k := Kept.one bx v i u
  obtain ⟨n1, n2, n3⟩ := h.ne
  have hn : ∀ b t, bx ≠ b → ne' bx b t = true := fun b t hb => by simp [ne', Ne.symm hb]
  exact ⟨ext_ne h.ex k h.le.2, k.same _ _ h.r (hn _ _ n1), he, k.same _ _ h.s (hn _ _ n2), fun j y hj => k.cell (h.c j y hj) fun _ _ => hn _ _ n3, Nat.lt_of_lt_of_le h.lw k.size, h.le, h.ne⟩
theorem RS.putA (h : RS w br bx bs bw e so ws v) (z : Int) : RS w br bx bs bw { e with a := z } so ws (v.setCell ⟨bx, 1, none⟩ (.int .i64 z)) := h.put (by rw [heap_setCell_same v bx 1 _ _ _ h.x]; simp [En.o])
theorem RS.putN (h : RS w br bx bs bw e so ws v) (z : Int) : RS w br bx bs bw { e with n := z } so ws (v.setCell ⟨bx, 2, none⟩ (.int .i64 z)) := h.put (by rw [heap_setCell_same v bx 2 _ _ _ h.x]; simp [En.o])
def put3 (v : World) (b : Nat) (e : En) : World := ((v.setCell ⟨b, 0, none⟩ (.int .i64 e.k)).setCell ⟨b, 1, none⟩ (.int .i64 e.a)).setCell ⟨b, 2, none⟩ (.int .i64 e.n)
theorem put3_ok (h : v.heap[br]? = some zEn) (e : En) : (put3 v br e).heap[br]? = some e.o ∧ Kept (ne' br) v (put3 v br e) :=
  set_range (b := br) (t := 42) [.int .i64 e.k, .int .i64 e.a, .int .i64 e.n] [] [.int .i64 0, .int .i64 0, .int .i64 0] v h rfl
end

def atB (k : Nat) : Bool := decide (k ≠ 3)
def nB (k : Nat) : Bool := decide (3 ≤ k)
def shO (k : Nat) : Obj := .cells #[.string ⟨(wdE k).toArray⟩, .bool (atB k), .bool (nB k)] 92 (0, 0)
theorem TabS.gen {w : World} (h : TabS w) {k : Nat} (hk : 1 ≤ k ∧ k ≤ 5) : w.cell? ⟨0, k * 3, none⟩ = some (.string ⟨(wdE k).toArray⟩) ∧ w.cell? ⟨0, k * 3 + 1, none⟩ = some (.bool (atB k)) ∧ w.cell? ⟨0, k * 3 + 2, none⟩ = some (.bool (nB k)) := by
  obtain rfl | rfl | rfl | rfl | rfl : k = 1 ∨ k = 2 ∨ k = 3 ∨ k = 4 ∨ k = 5 := by omega
  · exact h.k1
  · exact h.k2
  · exact h.k3
  · exact h.k4
  · exact h.k5
set_option maxRecDepth 100000 in
set_option maxHeartbeats 4000000 in
theorem read_ok {w : World} (hT : TabR w) (x : List UInt8) (hl : x.length ≤ 6000) {kk : Nat} (hkk : 1 ≤ kk ∧ kk ≤ 5) : Calls Tryd.prog 23 #[.string ⟨x.toArray⟩, .int .i64 kk] w fun r w' => ReadQ w x kk r w' := by
  obtain ⟨W1, hW1⟩ : ∃ W1, W1 = w.alloc zEn := ⟨_, rfl⟩
  have hx1 : Ext w W1 := by rw [hW1]; exact Ext.one _ _
  have hr1 : W1.heap[w.heap.size]? = some zEn := by rw [hW1]; exact World.alloc_heap_new _ _
  have hz1 : W1.heap.size = w.heap.size + 1 := by rw [hW1]; simp
  have hT1 := hT.ext hx1
  obtain ⟨s0, s1, s2⟩ := hT1.a.s.gen hkk
  have sl := hT1.a.s.lt
  have k1 : (1 : Int) ≤ (kk : Int) := by omega
  have k6 : (kk : Int) < 6 := by omega
  have k0 : (0 : Int) ≤ (kk : Int) := by omega
  have HX1 := Lib.hid hx1
  have HR1 := Lib.hid hr1
  have HZ1 := Lib.hid hz1
  have HT := Lib.hid (fun v (k : Ext w v) => hT.ext k)
  have HL := Lib.hid hl
  have HK := Lib.hid hkk
  have HW := Lib.hid hW1
  clear hx1 hW1 hT hT1 hr1 hz1 hl hkk
  go_enter Tryd.func23, Tryd.ntmps23
  go_upto_region 1 with (fail)
  change Code.wp _ _ _ _ (w.alloc zEn)
  rw [← HW.out]
  generalize hbr : w.heap.size = br at *
  clear HW
  refine wp_mono (Q := fun e a v => e = .normal ∧ ∃ bx bs, a = ⟨#[.string ⟨x.toArray⟩, .int .i64 kk, undef, undef, .pointer (some ⟨br, 0, none⟩), .bool false, .pointer (some ⟨bx, 0, none⟩), .pointer (some ⟨bs, 0, none⟩), undef, undef, .int .i64 kk, .agg #[.int .i64 kk, .int .i64 0, .int .i64 0], .int .i64 kk, .pointer (some ⟨0, kk * 3, none⟩), .agg #[.string ⟨(wdE kk).toArray⟩, .bool (atB kk), .bool (nB kk)], undef, undef, undef, undef, undef, undef, undef, undef, undef, undef, undef, undef, undef, undef, undef, undef, undef, undef, undef, undef, undef, undef, undef, undef, undef, undef, undef, undef, undef, undef, undef, undef, undef, undef, undef, undef, undef, undef, undef, undef, undef, undef, undef, undef], []⟩ ∧ Rg1 W1 bx bs ⟨kk, 0, 0⟩ (shO kk) v) ?_ ?_
  · go_region
    · exact ⟨rfl, _, _, rfl, rg1_a W1 _ _⟩
    · exact ⟨rfl, _, _, rfl, rg1_b W1 _ _⟩
  rintro e a W2 ⟨rfl, bx, bs, rfl, hx2, hb2, hs2, lx2, lx3, ls2, n2⟩
  clear s0 s1 s2 sl k1 k6 k0
  have HSP := Lib.hid (split_ok (HT.out W2 (HX1.out.trans hx2)) x HL.out)
  have HRS := Lib.hid (fun v (k : Ext W2 v) (h1 : W2.heap.size < v.heap.size) (hc : ∀ (j : Nat) y, (spw x)[j]? = some y → v.cell? ⟨W2.heap.size, j, none⟩ = some (sL y)) => show RS w br bx bs W2.heap.size ⟨kk, 0, 0⟩ (shO kk) (spw x) v from
    (by
      have kk := k.kept (fun _ _ => true)
      have hz1 := HZ1.out
      exact ⟨HX1.out.trans (hx2.trans k), ((hx2.trans k).kept (fun _ _ => true)).same _ _ HR1.out rfl, kk.same _ _ hb2 rfl, kk.same _ _ hs2 rfl, hc, h1, ⟨by omega, by omega⟩, ⟨by omega, n2, by omega⟩⟩))
  clear hx2 hb2 hs2 lx2 lx3 ls2 n2 HR1 HZ1 HX1
  generalize W2.heap.size = bw at *
  go_upto_region 3 with (go_at_call 43; refine HSP.out.mono ?_; rintro e w3 ⟨cw, rfl, hx3, hl3, hc3⟩; have HR3 := Lib.hid (HRS.out w3 hx3 hl3 hc3); clear hx3 hl3 hc3)
  clear HSP HRS
  have hc0 : ∃ w0, (spw x)[0]? = some w0 := ⟨_, List.getElem?_eq_getElem (by have := (spw_len x).1; omega)⟩
  obtain ⟨w0, hc0⟩ := hc0
  have f0 := HR3.out.c 0 _ hc0
  have f1 : w3.cell? ⟨bs, 0, none⟩ = some (.string ⟨(wdE kk).toArray⟩) := by simp [World.cell?, HR3.out.s, shO]
  have fl := HR3.out.lw
  have fs := (Array.getElem?_eq_some_iff.1 HR3.out.s).1
  have hlen := (spw_len x).1
  have HC0 := Lib.hid hc0
  clear hc0
  unfold sL at f0
  by_cases hw : w0 = wdE kk
  · subst hw
    have HLN := Lib.hid (spw_len x)
    have HWL := Lib.hid (fun y (hy : y ∈ spw x) => Nat.le_trans (splitK_small 32 2 x y hy) (Nat.le_trans HL.out (by decide : 6000 ≤ 100000)))
    go_region
    have HRd := Lib.hid (HR3.out.ext (Ext.drew w3))
    clear f0 f1 fl fs hlen
    change Exit.then _ _ _ _ w3.drew
    generalize w3.drew = wd at *
    clear HR3
    obtain ⟨n, hn⟩ : ∃ n, (spw x).length = n := ⟨_, rfl⟩
    rw [hn]
    have hnn : 1 ≤ n ∧ n ≤ 3 := by have := HLN.out; omega
    have HN := Lib.hid hn
    have HNN := Lib.hid hnn
    clear hn hnn HLN
    obtain ⟨ya, hya⟩ : ∃ y, (spw x)[min 1 (n - 1)]? = some y := ⟨_, List.getElem?_eq_getElem (by have := HN.out; have := HNN.out; omega)⟩
    obtain ⟨yn, hyn⟩ : ∃ y, (spw x)[n - 1]? = some y := ⟨_, List.getElem?_eq_getElem (by have := HN.out; have := HNN.out; omega)⟩
    have HYA := Lib.hid hya
    have HYN := Lib.hid hyn
    clear hya hyn
    obtain ⟨eA, heA⟩ : ∃ eA : Int, eA = if atB kk then valA ya else 0 := ⟨_, rfl⟩
    obtain ⟨eN, heN⟩ : ∃ eN : Int, eN = if nB kk then valA yn else 0 := ⟨_, rfl⟩
    have HE := Lib.hid (show enW (spw x) kk = ⟨kk, eA, eN⟩ by
      have q1 : ((kk : Int) = 3) = (kk = 3) := by simp; omega
      have q2 : ((kk : Int) ≤ 2) = (kk ≤ 2) := by simp; omega
      unfold enW
      rw [HN.out, heA, heN]
      simp only [List.getD_eq_getElem?_getD, HYA.out, HYN.out, Option.getD_some, q1, q2, atB, nB]
      congr 1
      · by_cases h : kk = 3 <;> simp [h]
      · by_cases h : kk ≤ 2
        · have : ¬ 3 ≤ kk := by omega
          simp [h, this]
        · have : 3 ≤ kk := by omega
          simp [h, this])
    have HEA := Lib.hid heA
    have HEN := Lib.hid heN
    clear heA heN
    have s1 : wd.cell? ⟨bs, 1, none⟩ = some (.bool (atB kk)) := by simp [World.cell?, HRd.out.s, shO]
    have sl := (Array.getElem?_eq_some_iff.1 HRd.out.s).1
    go_upto_if 28 with fail
    clear s1 sl
    obtain ⟨lv, hlv⟩ : ∃ lv : Int, lv = wrap64 ((n : Int) - 1) := ⟨_, rfl⟩
    rw [← hlv]
    have HLV := Lib.hid (show lv = (n : Int) - 1 by
      have h3 := HNN.out
      obtain rfl | rfl | rfl : n = 1 ∨ n = 2 ∨ n = 3 := by omega
      · exact hlv.trans wr0
      · exact hlv.trans wr1
      · exact hlv.trans wr2)
    clear hlv
    go_cut [] (fun wx => RS w br bx bs bw ⟨kk, eA, 0⟩ (shO kk) (spw x) wx)
    case first =>
      cases hat : atB kk with
      | false =>
        go_wp2_with fail
        go_meet
        case rel =>
          have : eA = 0 := by rw [HEA.out, hat]; rfl
          rw [this]
          exact HRd.out
      | true =>
        have HA := Lib.hid (show eA = valA ya by rw [HEA.out, hat]; rfl)
        clear hat
        have HC := Lib.hid (atoi_ok (HT.out _ HRd.out.ex) ya (HWL.out _ (List.mem_of_getElem? HYA.out)))
        have gy := HRd.out.c _ _ HYA.out
        have wl := HRd.out.lw
        unfold sL at gy
        have hn3 := HNN.out
        have HM : Hid (∀ (v : World), RS w br bx bs bw ⟨kk, 0, 0⟩ (shO kk) (spw x) v → RS w br bx bs bw ⟨kk, eA, 0⟩ (shO kk) (spw x) (v.setCell ⟨bx, 1, none⟩ (.int .i64 (valA ya)))) := Lib.hid fun v h => by rw [HA.out]; exact h.putA _
        obtain rfl | rfl | rfl : n = 1 ∨ n = 2 ∨ n = 3 := by omega
        · clear hn3
          obtain rfl : lv = 0 := HLV.out.trans (by decide)
          replace gy: wd.cell? ⟨bw, 0, none⟩ = some (.string ⟨ya.toArray⟩) := gy
          go_wp2_with (go_at_call 44; refine HC.out.mono ?_; rintro e w4 ⟨ev, rfl, hx⟩; have HR4 := Lib.hid (HRd.out.ext hx); clear hx gy wl; obtain ⟨x0, x1, x2, xl⟩ := En.o_cells HR4.out.x; have hzx := fun n => frozen_of_row w4 bx n _ _ (show w4.heap[bx]? = some (.cells _ _ _) from HR4.out.x))
          go_meet
          case rel => exact HM.out _ HR4.out
        · clear hn3
          obtain rfl : lv = 1 := HLV.out.trans (by decide)
          replace gy: wd.cell? ⟨bw, 1, none⟩ = some (.string ⟨ya.toArray⟩) := gy
          go_wp2_with (go_at_call 44; refine HC.out.mono ?_; rintro e w4 ⟨ev, rfl, hx⟩; have HR4 := Lib.hid (HRd.out.ext hx); clear hx gy wl; obtain ⟨x0, x1, x2, xl⟩ := En.o_cells HR4.out.x; have hzx := fun n => frozen_of_row w4 bx n _ _ (show w4.heap[bx]? = some (.cells _ _ _) from HR4.out.x))
          go_meet
          case rel => exact HM.out _ HR4.out
        · clear hn3
          obtain rfl : lv = 2 := HLV.out.trans (by decide)
          replace gy: wd.cell? ⟨bw, 1, none⟩ = some (.string ⟨ya.toArray⟩) := gy
          go_wp2_with (go_at_call 44; refine HC.out.mono ?_; rintro e w4 ⟨ev, rfl, hx⟩; have HR4 := Lib.hid (HRd.out.ext hx); clear hx gy wl; obtain ⟨x0, x1, x2, xl⟩ := En.o_cells HR4.out.x; have hzx := fun n => frozen_of_row w4 bx n _ _ (show w4.heap[bx]? = some (.cells _ _ _) from HR4.out.x))
          go_meet
          case rel => exact HM.out _ HR4.out
    case rest =>
      have HR5 := Lib.hid hcut
      clear hcut HRd HYA HEA
      have s2 : wc.cell? ⟨bs, 2, none⟩ = some (.bool (nB kk)) := by simp [World.cell?, HR5.out.s, shO]
      have sl := (Array.getElem?_eq_some_iff.1 HR5.out.s).1
      go_upto_if 40 with fail
      clear s2 sl
      go_cut [] (fun wx => RS w br bx bs bw ⟨kk, eA, eN⟩ (shO kk) (spw x) wx)
      case first =>
        cases hat : nB kk with
        | false =>
          go_wp2_with fail
          go_meet
          case rel =>
            have : eN = 0 := by rw [HEN.out, hat]; rfl
            rw [this]
            exact HR5.out
        | true =>
          have HA := Lib.hid (show eN = valA yn by rw [HEN.out, hat]; rfl)
          clear hat
          have HC := Lib.hid (parse_ok (HT.out _ HR5.out.ex) yn (HWL.out _ (List.mem_of_getElem? HYN.out)))
          have gy := HR5.out.c _ _ HYN.out
          have wl := HR5.out.lw
          unfold sL at gy
          have hn3 := HNN.out
          have HM : Hid (∀ (v : World), RS w br bx bs bw ⟨kk, eA, 0⟩ (shO kk) (spw x) v → RS w br bx bs bw ⟨kk, eA, eN⟩ (shO kk) (spw x) (v.setCell ⟨bx, 2, none⟩ (.int .i64 (valA yn)))) := Lib.hid fun v h => by rw [HA.out]; exact h.putN _
          obtain rfl | rfl | rfl : n = 1 ∨ n = 2 ∨ n = 3 := by omega
          · clear hn3
            obtain rfl : lv = 0 := HLV.out.trans (by decide)
            replace gy : wc.cell? ⟨bw, 0, none⟩ = some (.string ⟨yn.toArray⟩) := gy
            go_wp2_with (go_at_call 45; refine HC.out.mono ?_; rintro e w4 ⟨ev, rfl, hx⟩; have HR4 := Lib.hid (HR5.out.ext hx); clear hx gy wl; obtain ⟨x0, x1, x2, xl⟩ := En.o_cells HR4.out.x; have hzx := fun n => frozen_of_row w4 bx n _ _ (show w4.heap[bx]? = some (.cells _ _ _) from HR4.out.x))
            go_meet
            case rel => exact HM.out _ HR4.out
          · clear hn3
            obtain rfl : lv = 1 := HLV.out.trans (by decide)
            replace gy : wc.cell? ⟨bw, 1, none⟩ = some (.string ⟨yn.toArray⟩) := gy
            go_wp2_with (go_at_call 45; refine HC.out.mono ?_; rintro e w4 ⟨ev, rfl, hx⟩; have HR4 := Lib.hid (HR5.out.ext hx); clear hx gy wl; obtain ⟨x0, x1, x2, xl⟩ := En.o_cells HR4.out.x; have hzx := fun n => frozen_of_row w4 bx n _ _ (show w4.heap[bx]? = some (.cells _ _ _) from HR4.out.x))
            go_meet
            case rel => exact HM.out _ HR4.out
          · clear hn3
            obtain rfl : lv = 2 := HLV.out.trans (by decide)
            replace gy : wc.cell? ⟨bw, 2, none⟩ = some (.string ⟨yn.toArray⟩) := gy
            go_wp2_with (go_at_call 45; refine HC.out.mono ?_; rintro e w4 ⟨ev, rfl, hx⟩; have HR4 := Lib.hid (HR5.out.ext hx); clear hx gy wl; obtain ⟨x0, x1, x2, xl⟩ := En.o_cells HR4.out.x; have hzx := fun n => frozen_of_row w4 bx n _ _ (show w4.heap[bx]? = some (.cells _ _ _) from HR4.out.x))
            go_meet
            case rel => exact HM.out _ HR4.out
      case rest =>
        have HR6 := Lib.hid hcut
        clear hcut HR5 HYN HEN HLV HNN HN HWL
        go_upto_region 10 with fail
        generalize wc = w6 at *
        have HMY := Lib.hid (fun u (k : Ext w6 u) => May_ok (HT.out u (HR6.out.ex.trans k)).a.s ⟨kk, eA, eN⟩)
        have HLI := Lib.hid (fun u (k : Ext w6 u) => line_ok (HT.out u (HR6.out.ex.trans k)).a (e := ⟨kk, eA, eN⟩) (HE.out ▸ enW_ok _ ⟨by have := HK.out; omega, by have := HK.out; omega⟩) ⟨by show (1 : Int) ≤ kk; have := HK.out; omega, by show (kk : Int) ≤ 5; have := HK.out; omega⟩)
        unfold En.v at HMY HLI
        dsimp only at HMY HLI
        have HRD := Lib.hid (show rdK x kk = if mayE ⟨kk, eA, eN⟩ = true ∧ lnE ⟨kk, eA, eN⟩ = x then some ⟨kk, eA, eN⟩ else none by
          unfold rdK
          dsimp only
          have hE := HE.out
          unfold spw at hE HC0
          rw [hE]
          have h0 : (Lib.splitK [32] 0 2 x).getD 0 [] = wdE kk := by rw [List.getD_eq_getElem?_getD, HC0.out]; rfl
          rw [h0]
          simp)
        obtain ⟨x0, x1, x2, xl⟩ := En.o_cells HR6.out.x
        obtain ⟨r0, r1, r2, rl⟩ := En.o_cells (e := ⟨0, 0, 0⟩) HR6.out.r
        have hzr := fun n => frozen_of_row w6 br n _ _ (show w6.heap[br]? = some (.cells _ _ _) from HR6.out.r)
        dsimp only at x0 x1 x2
        clear HE HT HL HC0
        cases hm : mayE ⟨kk, eA, eN⟩ with
        | false =>
          rw [hm] at HMY HRD
          clear hm HLI
          first | (go_region_with (go_at_call 34; refine (HMY.out _ (Ext.drew _)).mono ?_; rintro e w8 ⟨rfl, hx8⟩; have HX8 := Lib.hid ((Ext.drew _).trans hx8); have HR8 := Lib.hid (HR6.out.ext HX8.out); clear hx8 x0 x1 x2 xl r0 r1 r2 rl hzr; obtain ⟨x0, x1, x2, xl⟩ := En.o_cells HR8.out.x; obtain ⟨r0, r1, r2, rl⟩ := En.o_cells (e := ⟨0, 0, 0⟩) HR8.out.r; have hzr := fun n => frozen_of_row w8 br n _ _ (show w8.heap[br]? = some (.cells _ _ _) from HR8.out.r))) | fail
          all_goals
            go_wp2_with fail
            change bodyPost _ _ _ _ _ (put3 w8 br ⟨kk, eA, eN⟩)
            obtain ⟨ho, hk⟩ := put3_ok HR8.out.r ⟨kk, eA, eN⟩
            obtain ⟨z0, z1, z2, zl⟩ := En.o_cells ho
            exact bodyPost_ret (v := .tuple #[En.v ⟨kk, eA, eN⟩, .bool false]) (by simp [results, Tryd.results23, go_sem, En.v, z0, z1, z2]) rfl ⟨_, _, rfl, ext_ne HR8.out.ex hk HR8.out.le.1, fun h => (by cases h), fun _ => by rw [HRD.out]; simp⟩
        | true =>
          rw [hm] at HMY HRD
          clear hm
          by_cases hl : lnE ⟨kk, eA, eN⟩ = x
          · have zz : (lnE ⟨kk, eA, eN⟩ == x) = true := by simpa using hl
            first | (go_region_with (first | (go_at_call 36; refine (HLI.out _ HX8.out).mono ?_; rintro e w9 ⟨rfl, hx9⟩; have HR9 := Lib.hid (HR8.out.ext hx9); clear hx9 hzr x0 x1 x2 xl r0 r1 r2 rl; obtain ⟨x0, x1, x2, xl⟩ := En.o_cells HR9.out.x; obtain ⟨r0, r1, r2, rl⟩ := En.o_cells (e := ⟨0, 0, 0⟩) HR9.out.r; have hzr := fun n => frozen_of_row w9 br n _ _ (show w9.heap[br]? = some (.cells _ _ _) from HR9.out.r)) | (go_at_call 34; refine (HMY.out _ (Ext.drew _)).mono ?_; rintro e w8 ⟨rfl, hx8⟩; have HX8 := Lib.hid ((Ext.drew _).trans hx8); have HR8 := Lib.hid (HR6.out.ext HX8.out); clear hx8 x0 x1 x2 xl r0 r1 r2 rl hzr; obtain ⟨x0, x1, x2, xl⟩ := En.o_cells HR8.out.x; obtain ⟨r0, r1, r2, rl⟩ := En.o_cells (e := ⟨0, 0, 0⟩) HR8.out.r; have hzr := fun n => frozen_of_row w8 br n _ _ (show w8.heap[br]? = some (.cells _ _ _) from HR8.out.r)))) | fail
            all_goals
              go_wp2_with fail
              change bodyPost _ _ _ _ _ (put3 w9 br ⟨kk, eA, eN⟩)
              obtain ⟨ho, hk⟩ := put3_ok HR9.out.r ⟨kk, eA, eN⟩
              obtain ⟨z0, z1, z2, zl⟩ := En.o_cells ho
              exact bodyPost_ret (v := .tuple #[En.v ⟨kk, eA, eN⟩, .bool true]) (by simp [results, Tryd.results23, go_sem, En.v, z0, z1, z2]) rfl ⟨_, _, rfl, ext_ne HR9.out.ex hk HR9.out.le.1, fun _ => by rw [HRD.out, if_pos ⟨trivial, hl⟩], fun h => (by cases h)⟩
          · have zz : (lnE ⟨kk, eA, eN⟩ == x) = false := by simpa using hl
            first | (go_region_with (first | (go_at_call 36; refine (HLI.out _ HX8.out).mono ?_; rintro e w9 ⟨rfl, hx9⟩; have HR9 := Lib.hid (HR8.out.ext hx9); clear hx9 hzr x0 x1 x2 xl r0 r1 r2 rl; obtain ⟨x0, x1, x2, xl⟩ := En.o_cells HR9.out.x; obtain ⟨r0, r1, r2, rl⟩ := En.o_cells (e := ⟨0, 0, 0⟩) HR9.out.r; have hzr := fun n => frozen_of_row w9 br n _ _ (show w9.heap[br]? = some (.cells _ _ _) from HR9.out.r)) | (go_at_call 34; refine (HMY.out _ (Ext.drew _)).mono ?_; rintro e w8 ⟨rfl, hx8⟩; have HX8 := Lib.hid ((Ext.drew _).trans hx8); have HR8 := Lib.hid (HR6.out.ext HX8.out); clear hx8 x0 x1 x2 xl r0 r1 r2 rl hzr; obtain ⟨x0, x1, x2, xl⟩ := En.o_cells HR8.out.x; obtain ⟨r0, r1, r2, rl⟩ := En.o_cells (e := ⟨0, 0, 0⟩) HR8.out.r; have hzr := fun n => frozen_of_row w8 br n _ _ (show w8.heap[br]? = some (.cells _ _ _) from HR8.out.r)))) | fail
            all_goals
              go_wp2_with fail
              change bodyPost _ _ _ _ _ (put3 w9 br ⟨kk, eA, eN⟩)
              obtain ⟨ho, hk⟩ := put3_ok HR9.out.r ⟨kk, eA, eN⟩
              obtain ⟨z0, z1, z2, zl⟩ := En.o_cells ho
              exact bodyPost_ret (v := .tuple #[En.v ⟨kk, eA, eN⟩, .bool false]) (by simp [results, Tryd.results23, go_sem, En.v, z0, z1, z2]) rfl ⟨_, _, rfl, ext_ne HR9.out.ex hk HR9.out.le.1, fun h => (by cases h), fun _ => by rw [HRD.out, if_neg (fun h => hl h.2)]⟩
  · have zz : (w0 == wdE kk) = false := by simpa using hw
    have HRK := Lib.hid (show rdK x kk = none by
      unfold rdK
      dsimp only
      rw [if_neg]
      intro h
      apply hw
      have h1 := h.1
      change (spw x).getD 0 [] = _ at h1
      rw [List.getD_eq_getElem?_getD, HC0.out] at h1
      exact h1)
    obtain ⟨x0, x1, x2, xl⟩ := En.o_cells HR3.out.x
    obtain ⟨r0, r1, r2, rl⟩ := En.o_cells (e := ⟨0, 0, 0⟩) HR3.out.r
    have hzr := fun n => frozen_of_row w3 br n _ _ (show w3.heap[br]? = some (.cells _ _ _) from HR3.out.r)
    go_region
    go_wp2_with fail
    change bodyPost _ _ _ _ _ (put3 w3 br ⟨kk, 0, 0⟩).drew
    obtain ⟨ho, hk⟩ := put3_ok HR3.out.r ⟨kk, 0, 0⟩
    have ho' : (put3 w3 br ⟨kk, 0, 0⟩).drew.heap[br]? = some (En.o ⟨kk, 0, 0⟩) := ho
    obtain ⟨z0, z1, z2, zl⟩ := En.o_cells ho'
    exact bodyPost_ret (v := .tuple #[En.v ⟨kk, 0, 0⟩, .bool false]) (by simp [results, Tryd.results23, go_sem, En.v, z0, z1, z2]) rfl ⟨_, _, rfl, (ext_ne HR3.out.ex hk HR3.out.le.1).trans (Ext.drew _), fun h => (by cases h), fun _ => HRK.out⟩
end Go.Proofs.YtkljdpjdlccidaaDoor
