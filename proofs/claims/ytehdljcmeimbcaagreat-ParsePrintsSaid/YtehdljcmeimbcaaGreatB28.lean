/- The document's printer in memory: Text. -/
import Derived.Test.YtehdljcmeimbcaaGreatB26
import Derived.Test.YtehdljcmeimbcaaGreatB27
import Derived.StillTailTactics
import Derived.Deep.CutRange
import Derived.Deep.DeepCutAuto
namespace Go.Proofs.YtehdljcmeimbcaaGreat
open Go.RowKit
set_option linter.unusedVariables false
set_option linter.unusedSimpArgs false

/-- The text of a tree at a place, as Text answers it. -/
def TextAt (R : List Tw) (b : Nat) (d : Nd) (k : Fo) : Prop := ∀ (m : Int) (va : Value) (w : World), RdO w va R → 0 ≤ m → m + 2 * ((k.size : Int) + 1) ≤ 700 →
    Calls Tryz.prog 20 #[.agg #[va], .int .i64 b, .string ⟨(blanks m).toArray⟩] w fun e w' => e = .returned (.string ⟨(joinT d m k.more (k.txts d m 0)).toArray⟩) ∧ Below w.heap.size w w'
def TextF (R : List Tw) : Nat → Fo → Prop
  | _, .nil => True
  | b, .cons d k r => TextAt R b d k ∧ TextF R (b + 1 + k.size) r

theorem nds_le : ∀ F : Fo, F.len ≤ F.size
  | .nil => Nat.le_refl _
  | .cons d k r => by
    have := nds_le r
    simp only [Fo.len, Fo.nds, List.length_cons, Fo.size] at this ⊢
    omega
def strs (l : List (List UInt8)) : List Value := l.map fun s => .string ⟨s.toArray⟩
theorem own_sr {w : World} {base : Nat} {v : Value} {K : List (List UInt8)} (h : w.ownsRow base 9 1 v K.length (strs K)) : SR w v K := by
  have hc := h
  rcases h.2 with ⟨rfl, h0⟩ | ⟨g, cap, cur, rfl, _, hg, hcap, _⟩
  · obtain rfl : K = [] := List.eq_nil_of_length_eq_zero h0
    exact ⟨_, _, rfl, Nat.le_refl _, fun i s hi => by simp at hi⟩
  · refine ⟨_, _, rfl, hcap, fun i s hi => ⟨g, 0, rfl, lt_of_block hg, ?_⟩⟩
    have hl := (List.getElem?_eq_some_iff.1 hi).1
    obtain ⟨gl, cp, e, _, _, hx⟩ := own_some hc (by omega)
    injection e with e1 _ _
    injection e1 with e1
    injection e1 with e1
    subst e1
    rw [Nat.zero_add]
    exact hx i _ (by unfold strs; rw [List.getElem?_map, hi]; rfl)

theorem infoStr : (Tryz.prog.info? 9).map (fun i => (i.zero, i.size, i.bytes)) = some (some (.string ⟨#[]⟩), 1, 16) := by kernel_rfl
theorem strs_grow {w1 w2 w3 : World} {lA : Option Addr} {n i lc size : Nat} {e : TypeId} {xs : List Value} {o : Obj} (hb : Below w1.heap.size w1 w2) (ho : w2.ownsRow w1.heap.size e size (.slice lA i lc) n xs) (hs : w1.heap.size ≤ w2.heap.size) (hg : (w2.alloc o).grownBy w3 (Value.slice lA i lc).ownBlock) : Below w1.heap.size w1 w3 :=
  ⟨hg.os.trans hb.os, hg.tape.trans hb.tape, hg.output.trans hb.output, by have := hg.size; simp at this; omega, fun b hlt => by
    refine ((hg.block b (by simp; omega) fun e => ?_).trans (Below.heap_alloc _ _ _ (by omega))).trans (hb.block b hlt)
    have := (ho.lt b e.symm).1
    omega⟩

/-- What the loop over the kids keeps: done: the texts so far, F: the kids that are left. -/
def TxI (R : List Tw) (d : Nd) (k : Fo) (m : Int) (b0 : Nat) (w1 : World) (c : Nat) (v8 v9 : Value) (wr : World) : Prop :=
  ∃ (i b : Nat) (F : Fo) (K : List (List UInt8)), i + F.len = k.len ∧ c = F.len ∧ v9 = .int .i64 i ∧ K.length = i ∧ (k.txts d m 0) = K ++ F.txts d m i ∧ (k.starts b0).drop i = F.starts b ∧ TextF R b F ∧ F.fit isNm = true ∧ F.size ≤ k.size ∧
    (∀ q x, (F.flat b)[q]? = some x → R[b + q]? = some x) ∧ (k.nds.map (·.kind)).drop i = F.nds.map (·.kind) ∧ wr.ownsRow w1.heap.size 9 1 v8 K.length (strs K) ∧ Below w1.heap.size w1 wr

theorem TxI.next {R : List Tw} {d : Nd} {k : Fo} {m : Int} {b0 : Nat} {w1 : World} {i b' : Nat} {x : Nd} {kx r : Fo} {K : List (List UInt8)} {v8 v9 : Value} {w4 : World} (S : ByteArray)
    (hik : i + (r.len + 1) = k.len) (hKi : K.length = i) (htx : k.txts d m 0 = K ++ (Fo.cons x kx r).txts d m i) (hst : (k.starts b0).drop i = (Fo.cons x kx r).starts b') (htf : TextF R (b' + 1 + kx.size) r)
    (hff : (Fo.cons x kx r).fit isNm = true) (hfs : (Fo.cons x kx r).size ≤ k.size) (hfp : ∀ q y, ((Fo.cons x kx r).flat b')[q]? = some y → R[b' + q]? = some y) (hkd : (k.nds.map (·.kind)).drop i = (Fo.cons x kx r).nds.map (·.kind))
    (hS : S.data.toList = parT (prn d i x) (joinT x (deepOf d i m) kx.more (kx.txts x (deepOf d i m) 0))) (hown : w4.ownsRow w1.heap.size 9 1 v8 (i + 1) (strs K ++ [.string S])) (hb : Below w1.heap.size w1 w4) (hv : v9 = .int .i64 ((i + 1 : Nat) : Int)) :
    TxI R d k m b0 w1 r.len v8 v9 w4 := by
  have hSe : S = ⟨(parT (prn d i x) (joinT x (deepOf d i m) kx.more (kx.txts x (deepOf d i m) 0))).toArray⟩ := str_ext (by simpa using hS)
  have hd1 : (k.starts b0).drop (i + 1) = r.starts (b' + 1 + kx.size) := by
    rw [← List.drop_drop, hst]
    rfl
  have hd2 : (k.nds.map (·.kind)).drop (i + 1) = r.nds.map (·.kind) := by
    rw [← List.drop_drop, hkd]
    rfl
  simp only [Fo.fit, Bool.and_eq_true] at hff
  simp only [Fo.size] at hfs
  refine ⟨i + 1, b' + 1 + kx.size, r, K ++ [parT (prn d i x) (joinT x (deepOf d i m) kx.more (kx.txts x (deepOf d i m) 0))], by omega, rfl, hv, by rw [List.length_append, hKi]; rfl, ?_, hd1, htf, hff.2, by omega, fun q y hq => ?_, hd2, ?_, hb⟩
  · rw [htx, List.append_assoc]
    rfl
  · have h1 := hfp (1 + kx.size + q) y (by
      rw [Fo.flat, show 1 + kx.size + q = (kx.size + q) + 1 by omega, List.getElem?_cons_succ, List.getElem?_append_right (by rw [Fo.flat_len]; omega), Fo.flat_len, show kx.size + q - kx.size = q by omega]
      exact hq)
    rwa [show b' + (1 + kx.size + q) = b' + 1 + kx.size + q by omega] at h1
  · rw [List.length_append, hKi]
    have e : strs (K ++ [parT (prn d i x) (joinT x (deepOf d i m) kx.more (kx.txts x (deepOf d i m) 0))]) = strs K ++ [.string S] := by
      rw [hSe]
      simp [strs]
    rw [e]
    exact hown

theorem more_kid {R : List Tw} {b : Nat} {k : Fo} (h3 : k.len = 3) (hpos : ∀ q x, (k.flat (b + 1))[q]? = some x → R[b + 1 + q]? = some x) : ∃ (k2 : Nat) (y : Tw), (k.starts (b + 1))[2]? = some (k2 : Int) ∧ R[k2]? = some y ∧ (k.more = true → 0 < y.kids.length) ∧ (k.more = false → y.kids.length = 0) := by
  match k, h3 with
  | .cons d0 k0 (.cons d1 k1 (.cons d2 k2 .nil)), _ =>
    have h := hpos (1 + k0.size + (1 + k1.size)) (d2.tw (k2.starts (b + 1 + 1 + k0.size + 1 + k1.size + 1))) (by
      rw [Fo.flat, show 1 + k0.size + (1 + k1.size) = (k0.size + (1 + k1.size)) + 1 by omega, List.getElem?_cons_succ, List.getElem?_append_right (by rw [Fo.flat_len]; omega), Fo.flat_len, show k0.size + (1 + k1.size) - k0.size = k1.size + 1 by omega]
      rw [Fo.flat, List.getElem?_cons_succ, List.getElem?_append_right (by rw [Fo.flat_len]; omega), Fo.flat_len, show k1.size - k1.size = 0 by omega]
      rfl)
    refine ⟨b + 1 + 1 + k0.size + 1 + k1.size, _, rfl, by rw [← h]; congr 1; omega, fun hm => ?_, fun hm => ?_⟩
    · show 0 < (k2.starts _).length
      rw [Fo.starts_len]
      cases k2 with
      | nil => cases hm
      | cons _ _ _ => simp [Fo.len, Fo.nds]
    · show (k2.starts _).length = 0
      rw [Fo.starts_len]
      cases k2 with
      | nil => rfl
      | cons _ _ _ => cases hm
theorem SR.tail {w : World} {A : Option Addr} {cap : Nat} {x : List UInt8} {K : List (List UInt8)} (h : SR w (.slice A (K.length + 1) cap) (x :: K)) : ∃ g off, A = some ⟨g, off, none⟩ ∧ w.cell? ⟨g, off, none⟩ = some (.string ⟨x.toArray⟩) ∧ K.length + 1 ≤ cap ∧ SR w (.slice (some ⟨g, off + 1, none⟩) K.length (cap - 1)) K := by
  obtain ⟨A', cap', e, hcap, hc⟩ := h
  injection e with e1 _ e3
  subst e1 e3
  obtain ⟨g, off, rfl, hg, h0⟩ := hc 0 x rfl
  refine ⟨g, off, rfl, h0, hcap, _, _, rfl, by simp at hcap; omega, fun i s hi => ?_⟩
  obtain ⟨g2, off2, e2, hg2, h2⟩ := hc (i + 1) s (by simpa using hi)
  injection e2 with e2
  injection e2 with e2 eo
  subst e2 eo
  exact ⟨g, off + 1, rfl, hg2, by rw [show off + 1 + i = off + (i + 1) by omega]; exact h2⟩
theorem flat10_snoc (K : List (List UInt8)) (x : List UInt8) : (K ++ [x]).flatMap (fun x => x ++ [10]) = K.flatMap (fun x => x ++ [10]) ++ (x ++ [10]) := by simp
theorem flat10_len (B : Nat) : ∀ K : List (List UInt8), (∀ x ∈ K, x.length ≤ B) → (K.flatMap fun x => x ++ [10]).length ≤ K.length * (B + 1)
  | [], _ => by simp
  | x :: K, h => by
    have ih := flat10_len B K (fun y hy => h y (List.mem_cons_of_mem _ hy))
    have hx := h x List.mem_cons_self
    rw [List.flatMap_cons, List.length_append, List.length_cons, Nat.add_mul]
    simp only [List.length_append, List.length_cons, List.length_nil]
    omega

set_option maxRecDepth 100000 in
set_option maxHeartbeats 4000000 in
theorem text_step (R : List Tw) (hn : R.length ≤ 300) (b : Nat) (d : Nd) (k : Fo) (hat : R[b]? = some (d.tw (k.starts (b + 1)))) (hok : ndOk isNm d (k.nds.map (·.kind)) = true) (hf : k.fit isNm = true) (hs : k.size ≤ 300) (hk : TextF R (b + 1) k)
    (hpos : ∀ q x, (k.flat (b + 1))[q]? = some x → R[b + 1 + q]? = some x) : TextAt R b d k := by
  intro m va w hR hm0 hm1
  obtain ⟨i0, hi0, hz0, hz1, hz2⟩ := info_parts infoStr
  obtain ⟨t, ht⟩ : ∃ t, t = d.tw (k.starts (b + 1)) := ⟨_, rfl⟩
  have htk : t.kids = k.starts (b + 1) := by rw [ht]; rfl
  have htn : t.nd = d := by rw [ht]; rfl
  have htd : t.kind = d.kind := by rw [ht]; rfl
  have htt : t.text.length ≤ 32 := by rw [ht]; exact nd_text hok
  rw [← ht] at hat
  obtain ⟨A, ca, hva, ha⟩ := id hR
  subst hva
  obtain ⟨g, o6, kv, rfl, hg, hint, hc⟩ := ha b _ hat
  have hbl := (List.getElem?_eq_some_iff.1 hat).1
  obtain ⟨KA, kc, rfl, hkk⟩ := id hint
  have hkl : t.kids.length = k.len := by rw [htk]; exact Fo.starts_len k (b + 1)
  have hlen : k.len ≤ 300 := by
    have := nds_le k
    omega
  obtain ⟨W, hW⟩ : ∃ W : World, W = w.alloc (.cells #[.slice (some ⟨g, o6, none⟩) R.length ca] 26) := ⟨_, rfl⟩
  have hbe : Below w.heap.size w W := by rw [hW]; exact (Below.refl _ w).alloc (Nat.le_refl _) _
  have hbs : W.heap.size = w.heap.size + 1 := by rw [hW]; simp
  have k0 : W.heap[w.heap.size]? = some (.cells #[.slice (some ⟨g, o6, none⟩) R.length ca] 26 (0, 0)) := by
    rw [hW]
    exact heap_alloc_new w _
  have q0 := cell_of_one k0
  have hcx := fun o u (h : (twCells t (.slice KA t.kids.length kc))[o]? = some u) => (hbe.cell (p := ⟨g, o6 + b * 6 + o, none⟩) hg).trans (hc o u h)
  have f0 := hcx 0 _ rfl
  have f1 := hcx 1 _ rfl
  have f2 := hcx 2 _ rfl
  have f3 := hcx 3 _ rfl
  have f4 := hcx 4 _ rfl
  have f5 := hcx 5 _ rfl
  rw [Nat.add_zero] at f0
  have HR := Lib.hid hR
  have HA := Lib.hid ha
  have HI := Lib.hid hint
  have HKK := Lib.hid hkk
  have HBE := Lib.hid hbe
  have HK0 := Lib.hid k0
  have HAT := Lib.hid hat
  have HOK := Lib.hid hok
  have HF := Lib.hid hf
  have HK := Lib.hid hk
  have HPOS := Lib.hid hpos
  have HS := Lib.hid hs
  have HKL := Lib.hid hkl
  have HM1 := Lib.hid hm1
  have HT := Lib.hid ht
  have HTK := Lib.hid htk
  have HTN := Lib.hid htn
  have HTD := Lib.hid htd
  clear ht htk htn htd hR ha hint hkk hbe k0 hat hc hcx hok hf hk hpos hs hkl hm1
  go_enter Tryz.func20, Tryz.ntmps20
  go_upto_region 1 with (fail)
  change Code.wp _ _ _ _ (w.alloc (.cells #[.slice (some ⟨g, o6, none⟩) R.length ca] 26))
  rw [← hW]
  clear hW
  go_upto_region 2 with (fail)
  change Code.wp _ _ _ _ (W.alloc (twO t (.slice KA t.kids.length kc)))
  have hb7 : Below w.heap.size w (W.alloc (twO t (.slice KA t.kids.length kc))) := HBE.out.alloc HBE.out.size _
  have k7 : (W.alloc (twO t (.slice KA t.kids.length kc))).heap[w.heap.size + 1]? = some (twO t (.slice KA t.kids.length kc)) := by rw [← hbs]; exact heap_alloc_new W _
  have k07 : (W.alloc (twO t (.slice KA t.kids.length kc))).heap[w.heap.size]? = some (.cells #[.slice (some ⟨g, o6, none⟩) R.length ca] 26 (0, 0)) := (Below.heap_alloc _ _ _ (by omega)).trans HK0.out
  have hs7 : (W.alloc (twO t (.slice KA t.kids.length kc))).heap.size = w.heap.size + 2 := by simp; omega
  clear q0 f0 f1 f2 f3 f4 f5 HBE HK0 hbs
  generalize W.alloc (twO t (.slice KA t.kids.length kc)) = V at *
  obtain ⟨p0, p1, p2, p3, p4, p5⟩ := tw_cells k7
  have q0 := cell_of_one k07
  have hl7 : w.heap.size + 1 < V.heap.size := by omega
  have hl0 : w.heap.size < V.heap.size := by omega
  have HB7 := Lib.hid hb7
  have HK7 := Lib.hid k7
  have HK07 := Lib.hid k07
  clear hb7 k7 k07
  go_wp2_with fail
  go_loopg [8, 9] k.len (fun c v8 v9 wr => TxI R d k m (b + 1) V c v8 v9 wr)
  case atStart => exact ⟨0, b + 1, k, [], by omega, rfl, rfl, rfl, rfl, rfl, HK.out, HF.out, Nat.le_refl _, HPOS.out, rfl, World.ownsRow_nil _ _ _ _, Below.refl _ _⟩
  case round =>
    obtain ⟨i, b', F, K, hik, rfl, rfl, hKi, htx, hst, hTF, hff, hfs, hfp, hkd, hown, hbr⟩ := hrel
    obtain ⟨s0, s1, s2, s3, s4, s5⟩ := tw_cells ((hbr.block _ hl7).trans HK7.out)
    have sq := cell_of_one ((hbr.block _ hl0).trans HK07.out)
    rw [hKi] at hown
    have HKI := Lib.hid hKi
    clear hKi
    obtain ⟨lA, lc, rfl⟩ := own_form hown
    have hsr := hbr.size
    have hbw := HB7.out.trans (hbr.mono HB7.out.size)
    have HBW := Lib.hid hbw
    have HBR := Lib.hid hbr
    have HOWN := Lib.hid hown
    have HTX := Lib.hid htx
    have HST := Lib.hid hst
    have HTF := Lib.hid hTF
    have HFF := Lib.hid hff
    have HFS := Lib.hid hfs
    have HFP := Lib.hid hfp
    have HKD := Lib.hid hkd
    clear hbw hbr hown htx hst hTF hff hfs hfp hkd
    cases F with
    | cons x kx r =>
      have hlr : (Fo.cons x kx r).len = r.len + 1 := rfl
      rw [hlr] at hik
      have hlk : i < t.kids.length := by rw [HKL.out]; omega
      have hki : t.kids[i]? = some (b' : Int) := by
        rw [HTK.out]
        have := HST.out
        rw [Fo.starts] at this
        have h2 := congrArg (fun l => l[0]?) this
        simpa using h2
      obtain ⟨gk1, ok1, rfl, hgk1, hck⟩ := HKK.out i _ hki
      have hck1 := (HBW.out.cell (p := ⟨gk1, ok1 + i, none⟩) hgk1).trans hck
      have hxi : R[b']? = some (x.tw (kx.starts (b' + 1))) := HFP.out 0 _ rfl
      have hxk : (k.nds.map (·.kind))[i]? = some x.kind := by
        have := HKD.out
        have h2 := congrArg (fun l => l[0]?) this
        rw [show ((Fo.cons x kx r).nds.map (·.kind))[0]? = some x.kind from rfl] at h2
        rw [← h2]
        simp
      have hfx := HFF.out
      simp only [Fo.fit, Bool.and_eq_true] at hfx
      have hxt : textOk isNm x.kind x.text = true := by
        have := hfx.1.1
        simp only [ndOk, Bool.and_eq_true] at this
        exact this.1.1.2
      have hprn := prn_same HOK.out hxk hxt
      have hpar := fun w' (hb : Below w.heap.size w w') => paren2O_ok R (.slice (some ⟨g, o6, none⟩) R.length ca) t (.slice (some ⟨gk1, ok1, none⟩) t.kids.length kc) i b' (x.tw (kx.starts (b' + 1))) w' (HR.out.below hb) (HI.out.below hb) hki hxi (by omega)
      rw [HTN.out, show (x.tw (kx.starts (b' + 1))).nd = x from rfl, hprn] at hpar
      obtain ⟨hat1, htf1⟩ := HTF.out
      have hdp : m ≤ deepOf d i m ∧ deepOf d i m ≤ m + 2 := by
        unfold deepOf
        split <;> omega
      have hsz : kx.size + 1 ≤ k.size := by
        have := HFS.out
        simp only [Fo.size] at this
        omega
      have hm1' := HM1.out
      have htxt := fun w' (hb : Below w.heap.size w w') => hat1 (deepOf d i m) (.slice (some ⟨g, o6, none⟩) R.length ca) w' (HR.out.below hb) (by omega) (by omega)
      have HPAR := Lib.hid hpar
      have HTXT := Lib.hid htxt
      have HTF1 := Lib.hid htf1
      have HDP := Lib.hid hdp
      clear hki hck hxi hxk hfx hxt hprn hpar hat1 htf1 htxt hsz hm1' hlr hdp
      obtain ⟨m2, hm2⟩ : ∃ m2, m2 = deepOf d i m := ⟨_, rfl⟩
      rw [← hm2] at HTXT HDP
      have HM2 := Lib.hid hm2
      clear hm2
      have hbz := str_size (blanks m)
      have hbl2 : (blanks m).length ≤ 1000 := by
        have := HM1.out
        simp only [blanks, List.length_replicate]
        omega
      obtain ⟨db, hdb⟩ : ∃ db : Bool, db = decide (t.kind = 12 ∨ (t.kind = 8 ∧ 0 < i)) := ⟨_, rfl⟩
      have HDB := Lib.hid hdb
      clear hdb
      go_upto_region 7 with (fail)
      go_cut [38] from 19 to 59 (fun v38 wx => v38 = .bool db ∧ wr = wx)
      case first =>
        by_cases h12 : t.kind = 12
        · have b12 : (t.kind == 12) = true := by simpa using h12
          have H12 := Lib.hid h12
          clear h12
          go_wp2_with fail
          go_meet
          refine ⟨congrArg Value.bool ?_, rfl⟩
          rw [HDB.out]
          simp [H12.out]
        · have b12 : (t.kind == 12) = false := by simpa using h12
          have H12 := Lib.hid h12
          clear h12
          by_cases h8 : t.kind = 8
          · have b8 : (t.kind == 8) = true := by simpa using h8
            have H8 := Lib.hid h8
            clear h8
            by_cases hi0' : 0 < i
            · have HI0 := Lib.hid hi0'
              go_wp2_with fail
              go_meet
              refine ⟨congrArg Value.bool ?_, rfl⟩
              rw [HDB.out]
              simp [H8.out, HI0.out]
            · have HI0 := Lib.hid hi0'
              go_wp2_with fail
              go_meet
              refine ⟨congrArg Value.bool ?_, rfl⟩
              rw [HDB.out]
              simp [H8.out, HI0.out]
          · have b8 : (t.kind == 8) = false := by simpa using h8
            have H8 := Lib.hid h8
            clear h8
            go_wp2_with fail
            go_meet
            refine ⟨congrArg Value.bool ?_, rfl⟩
            rw [HDB.out]
            simp [H8.out, H12.out]
      case rest =>
        obtain ⟨rfl, rfl⟩ := hcut
        go_upto_if 38 with (fail)
        go_cut [10] from 19 to 59 (fun v10 wx => v10 = .string ⟨(blanks m2).toArray⟩ ∧ wr = wx)
        case first =>
          have hmm : m2 = if db = true then m + 2 else m := by
            rw [HM2.out, HDB.out]
            unfold deepOf
            rw [← HTD.out]
            simp
          have HMM := Lib.hid hmm
          clear hmm
          cases db with
          | true =>
            go_wp2_with fail
            go_meet
            refine ⟨congrArg Value.string (str_ext ?_), rfl⟩
            rw [HMM.out]
            simp [blanks_two m hm0]
          | false =>
            go_wp2_with fail
            go_meet
            refine ⟨congrArg Value.string (str_ext ?_), rfl⟩
            rw [HMM.out]
            simp
        case rest =>
          obtain ⟨rfl, rfl⟩ := hcut
          go_upto_region 9 with (fail)
          go_still_tail 7, (by kernel_rfl)
          change wpList _ _ _ _ _ wr.drew
          have hbw1 : Below w.heap.size w wr.drew := bdrew HBW.out 1
          have hbr1 : Below V.heap.size V wr.drew := bdrew HBR.out 1
          have hown1 := own_below HOWN.out (bdrew (Below.refl wr.heap.size wr) 1)
          have hown1' : wr.drew.ownsRow V.heap.size 9 1 (.slice lA i lc) i (strs K) := hown1
          have HBW1 := Lib.hid hbw1
          have HBR1 := Lib.hid hbr1
          have HOWN1 := Lib.hid hown1'
          clear hbw1 hbr1 hown1 hown1' s0 s1 s2 s3 s4 s5 sq hck1 HBW HBR HOWN hsr
          generalize wr.drew = W1 at *
          obtain ⟨S0, hS0⟩ : ∃ S0, S0 = joinT x m2 kx.more (kx.txts x m2 0) := ⟨_, rfl⟩
          have htx1 := HTXT.out W1 HBW1.out
          rw [← hS0] at htx1
          have hSl : S0.length ≤ 500000 := by
            have h1 := HTX.out
            rw [Fo.txts, ← HM2.out, ← hS0] at h1
            have h2 := txts_le k d m 0 HF.out hm0 (by have := HM1.out; omega) HS.out (parT (prn d i x) S0) (by rw [h1]; simp)
            have h3 : S0.length ≤ (parT (prn d i x) S0).length := by
              unfold parT
              split
              · simp
                omega
              · omega
            omega
          have hSz := str_size S0
          have HS0 := Lib.hid hS0
          have HTX1 := Lib.hid htx1
          generalize hpb : prn d i x = pb at HPAR
          have HPB := Lib.hid hpb
          clear hS0 htx1 hpb HTXT
          cases pb with
          | false =>
            go_wp2_with (first
              | (go_at_call 20; refine HTX1.out.mono ?_; rintro e w2 ⟨rfl, hb2⟩; have hbr2 := HBR1.out.trans (hb2.mono HBR1.out.size); have hbw2 := HBW1.out.trans (hb2.mono HBW1.out.size); obtain ⟨r0, r1, r2, r3, r4, r5⟩ := tw_cells ((hbr2.block _ hl7).trans HK7.out); have rq := cell_of_one ((hbr2.block _ hl0).trans HK07.out); have hown2 := own_below HOWN1.out hb2; have hp := HPAR.out w2 hbw2; unfold twA at hp; have HP := Lib.hid hp; have HBR2 := Lib.hid hbr2; have HBW2 := Lib.hid hbw2; have HOWN2 := Lib.hid hown2; clear hp hb2 hbr2 hbw2 hown2)
              | (go_at_call 38; refine HP.out.mono ?_; rintro e w3 ⟨rfl, hb3⟩; have hown3 := own_below HOWN2.out hb3; have hbr3 := HBR2.out.trans (hb3.mono HBR2.out.size); have hsr3 := hbr3.size)
              | (at_builtin; refine wpList_append_lies _ rfl _ _ 84 rfl V.heap.size 9 i0 (.string ⟨#[]⟩) 1 16 Tryz.underlying84 hi0 hz0 hz1 hz2 rfl (by decide) (.slice lA i lc) i _ rfl (hown3.alloc _) ⟨w3.heap.size, 0, none⟩ 1 1 [.string ⟨S0.toArray⟩] rfl rfl (World.news_of_block (cs := #[.string ⟨S0.toArray⟩]) (t := 9) (fr := (0, 0)) (heap_alloc_new w3 _)) (by simp [Value.oneCell']) (by decide) (by unfold maxLen; omega) (by omega) (by simp; omega) (w3.heap.size + 1) (by simp) ?_; intro gg cap w4 hown4 hgrow4 hat4 hltg4; have hb4 := strs_grow hbr3 hown3 hsr3 hgrow4))
            go_roundg r.len
            case measure => exact Nat.lt_succ_self _
            case rel => exact TxI.next ⟨S0.toArray⟩ hik HKI.out HTX.out HST.out HTF1.out HFF.out HFS.out HFP.out HKD.out (by rw [HPB.out, ← HM2.out, ← HS0.out]; simp [parT]) hown4 hb4 (by go_num)
          | true =>
            go_wp2_with (first
              | (go_at_call 20; refine HTX1.out.mono ?_; rintro e w2 ⟨rfl, hb2⟩; have hbr2 := HBR1.out.trans (hb2.mono HBR1.out.size); have hbw2 := HBW1.out.trans (hb2.mono HBW1.out.size); obtain ⟨r0, r1, r2, r3, r4, r5⟩ := tw_cells ((hbr2.block _ hl7).trans HK7.out); have rq := cell_of_one ((hbr2.block _ hl0).trans HK07.out); have hown2 := own_below HOWN1.out hb2; have hp := HPAR.out w2 hbw2; unfold twA at hp; have HP := Lib.hid hp; have HBR2 := Lib.hid hbr2; have HBW2 := Lib.hid hbw2; have HOWN2 := Lib.hid hown2; clear hp hb2 hbr2 hbw2 hown2)
              | (go_at_call 38; refine HP.out.mono ?_; rintro e w3 ⟨rfl, hb3⟩; have hown3 := own_below HOWN2.out hb3; have hbr3 := HBR2.out.trans (hb3.mono HBR2.out.size); have hsr3 := hbr3.size)
              | (at_builtin; refine wpList_append_lies _ rfl _ _ 84 rfl V.heap.size 9 i0 (.string ⟨#[]⟩) 1 16 Tryz.underlying84 hi0 hz0 hz1 hz2 rfl (by decide) (.slice lA i lc) i _ rfl (hown3.alloc _) ⟨w3.heap.size, 0, none⟩ 1 1 [.string (⟨#[40]⟩ ++ ⟨S0.toArray⟩ ++ ⟨#[41]⟩)] rfl rfl (World.news_of_block (cs := #[.string (⟨#[40]⟩ ++ ⟨S0.toArray⟩ ++ ⟨#[41]⟩)]) (t := 9) (fr := (0, 0)) (heap_alloc_new w3 _)) (by simp [Value.oneCell']) (by decide) (by unfold maxLen; omega) (by omega) (by simp; omega) (w3.heap.size + 1) (by simp) ?_; intro gg cap w4 hown4 hgrow4 hat4 hltg4; have hb4 := strs_grow hbr3 hown3 hsr3 hgrow4))
            go_roundg r.len
            case measure => exact Nat.lt_succ_self _
            case rel => exact TxI.next (⟨#[40]⟩ ++ ⟨S0.toArray⟩ ++ ⟨#[41]⟩) hik HKI.out HTX.out HST.out HTF1.out HFF.out HFS.out HFP.out HKD.out (by rw [HPB.out, ← HM2.out, ← HS0.out]; simp [parT]) hown4 hb4 (by go_num)
    | nil =>
      obtain rfl : i = k.len := by
        have : (Fo.nil).len = 0 := rfl
        omega
      have htx := HTX.out
      rw [Fo.txts, List.append_nil] at htx
      have hpw : PwH_ d (k.nds.map (·.kind)) K (.slice lA k.len lc) wr := ⟨HOK.out, by rw [HKI.out, List.length_map]; rfl, by
        have h := HOWN.out
        rw [← HKI.out] at h ⊢
        exact own_sr h, by have := nd_text HOK.out; omega, fun x hx => by
        have := txts_le k d m 0 HF.out hm0 (by have := HM1.out; omega) HS.out x (by rw [htx]; exact hx)
        omega, by rw [HKI.out]; omega⟩
      have hrdo := HR.out.below HBW.out
      have hkdo := HI.out.below HBW.out
      have HPW := Lib.hid hpw
      have HRD := Lib.hid hrdo
      have HKO := Lib.hid hkdo
      have HTXE := Lib.hid htx
      have hge : ¬ k.len < t.kids.length := by rw [HKL.out]; omega
      clear hpw hrdo hkdo htx
      cases htm : isTm t.kind with
      | true =>
        have h1 : (t.kind == 1) = false := by simp [isTm] at htm; simp; omega
        have h12 : (t.kind == 12) = false := by simp [isTm] at htm; simp; omega
        have h8 : (t.kind == 8) = false := by simp [isTm] at htm; simp; omega
        have hterm := termP_ok HPW.out (by rw [← HTD.out]; exact htm) (k.starts (b + 1)) (.slice KA t.kids.length kc) m k.more
        rw [← HT.out, HTXE.out.symm] at hterm
        unfold twA at hterm
        have htb := fun w => term2_ok t.kind w
        rw [htm] at htb
        have HTM := Lib.hid hterm
        have HTB := Lib.hid htb
        clear hterm htb htm
        go_wp2_with (first
          | (go_at_call 41; refine (HTB.out _).mono ?_; rintro e w5 ⟨rfl, rfl⟩)
          | (go_at_call 42; refine HTM.out.mono ?_; rintro e w6 ⟨rfl, hb6⟩))
        go_ret
        exact ⟨rfl, HBW.out.trans (hb6.mono HBW.out.size)⟩
      | false =>
        have htb := fun w => term2_ok t.kind w
        rw [htm] at htb
        have HTB := Lib.hid htb
        clear htb
        cases hst2 : isSt t.kind with
        | true =>
          have h1 : (t.kind == 1) = false := by simp [isSt] at hst2; simp; omega
          have h12 : (t.kind == 12) = false := by simp [isSt] at hst2; simp; omega
          have h8 : (t.kind == 8) = false := by simp [isSt] at hst2; simp; omega
          have hstat := statP_ok HPW.out (by rw [← HTD.out]; exact hst2) (k.starts (b + 1)) (.slice KA t.kids.length kc) m k.more R (.slice (some ⟨g, o6, none⟩) R.length ca) HRD.out (by rw [← HTK.out]; exact HKO.out) (fun h => more_kid (by
            have h1 := (kndP HOK.out).1
            rw [h] at h1
            have h2 := rowOk_lenP _ _ (show rowOk [isTm, isK 12, isK 12] noK (k.nds.map (·.kind)) = true from h1)
            rw [List.length_map] at h2
            exact h2) HPOS.out)
          rw [← HT.out, HTXE.out.symm] at hstat
          unfold twA at hstat
          have hsb := fun w => statement2_ok t.kind w
          rw [hst2] at hsb
          have HSM := Lib.hid hstat
          have HSB := Lib.hid hsb
          clear hstat hsb htm hst2
          go_wp2_with (first
            | (go_at_call 41; refine (HTB.out _).mono ?_; rintro e w5 ⟨rfl, rfl⟩)
            | (go_at_call 43; refine (HSB.out _).mono ?_; rintro e w7 ⟨rfl, rfl⟩)
            | (go_at_call 44; refine HSM.out.mono ?_; rintro e w6 ⟨rfl, hb6⟩))
          go_ret
          exact ⟨rfl, HBW.out.trans (hb6.mono HBW.out.size)⟩
        | false =>
          have hsb := fun w => statement2_ok t.kind w
          rw [hst2] at hsb
          have HSB := Lib.hid hsb
          clear hsb
          by_cases k1 : t.kind = 1
          · have b1 : (t.kind == 1) = true := by simpa using k1
            have K1 := Lib.hid k1
            have HX := Lib.hid HPW.out.kids
            have hsr1 := HPW.out.sr
            have HKL3 := HKI
            have hmany := HPW.out.many
            rw [HKI.out] at hmany
            clear htm hst2 k1
            go_wp2_with fail
            go_loopg [12, 13] k.len (fun n v12 v13 wx => ∃ j nq : Nat, j + n = k.len ∧ v13 = .int .i64 j ∧ v12 = .string ⟨((K.take j).flatMap fun x => x ++ [10]).toArray⟩ ∧ wx = wr.drewN nq)
            case atStart => exact ⟨0, 0, by omega, rfl, rfl, rfl⟩
            case round =>
              obtain ⟨j, nq, hjn, rfl, rfl, rfl⟩ := hrel
              have hll := flat10_len 1000000 (K.take j) (fun x hx => HX.out x (List.mem_of_mem_take hx))
              have htl : (K.take j).length ≤ 1000 := by rw [List.length_take]; omega
              have hmul : (K.take j).length * (1000000 + 1) ≤ 1000 * (1000000 + 1) := Nat.mul_le_mul_right _ htl
              obtain ⟨S, hS⟩ : ∃ S, S = (K.take j).flatMap fun x => x ++ [10] := ⟨_, rfl⟩
              have hSl : S.length ≤ 1000001000 := by rw [hS]; omega
              rw [← hS]
              have hSz := str_size S
              have HS2 := Lib.hid hS
              clear hS hll htl hmul
              by_cases hlt : j < k.len
              · have hltK : j < K.length := by rw [HKI.out]; exact hlt
                have hi := List.getElem?_eq_getElem hltK
                have hxl := HX.out _ (List.mem_of_getElem? hi)
                obtain ⟨A2, cap2, e2, _, hc2⟩ := hsr1
                injection e2 with e21 _ e23
                subst e21 e23
                obtain ⟨gs, os, rfl, hgs, hcell⟩ := hc2 j _ hi
                have hT : K.take (j + 1) = K.take j ++ [K[j]] := List.take_succ_eq_append_getElem hltK
                generalize K[j] = x at *
                have hxz := str_size x
                have HT2 := Lib.hid hT
                clear hT hi hc2 hltK
                go_wp2_with fail
                go_roundg (k.len - (j + 1))
                case measure => omega
                case rel =>
                  refine ⟨j + 1, nq, by omega, by go_num, congrArg Value.string (str_ext ?_), rfl⟩
                  rw [HT2.out, flat10_snoc]
                  simp [HS2.out]
              · obtain rfl : j = k.len := by omega
                have hT : K.take k.len = K := List.take_of_length_le (by rw [HKI.out]; exact Nat.le_refl _)
                have HT2 := Lib.hid hT
                clear hT
                go_wp2_with fail
                go_ret
                refine ⟨ret_str ?_, bdrew HBW.out _⟩
                have h := HS2.out
                rw [HT2.out] at h
                rw [h, ← HTXE.out]
                simp [joinT, HTD.out.symm, K1.out]
          · have b1 : (t.kind == 1) = false := by simpa using k1
            by_cases k12 : t.kind = 12
            · have b12 : (t.kind == 12) = true := by simpa using k12
              have hbr5 := braces_ok K m _ wr HPW.out.sr (by have := HM1.out; omega) HPW.out.kids HPW.out.many
              have HBC := Lib.hid hbr5
              have K12 := Lib.hid k12
              clear hbr5 htm hst2 k1 k12
              go_wp2_with (go_at_call 40; refine HBC.out.mono ?_; rintro e w6 ⟨rfl, nq6, rfl⟩)
              go_ret
              refine ⟨ret_str ?_, bdrew HBW.out _⟩
              rw [← HTXE.out]
              simp [joinT, HTD.out.symm, K12.out]
            · have b12 : (t.kind == 12) = false := by simpa using k12
              by_cases k8 : t.kind = 8
              · have b8 : (t.kind == 8) = true := by simpa using k8
                have K8 := Lib.hid k8
                have hkin := (kndP HOK.out).1
                rw [← HTD.out, K8.out] at hkin
                obtain ⟨x0, Kt, hKe⟩ : ∃ x0 Kt, K = x0 :: Kt := by
                  cases K with
                  | cons x0 Kt => exact ⟨x0, Kt, rfl⟩
                  | nil =>
                    exfalso
                    have hl0 : (k.nds.map (·.kind)).length = 0 := by
                      rw [List.length_map]
                      exact HKI.out.symm
                    have hnil := List.eq_nil_of_length_eq_zero hl0
                    rw [hnil] at hkin
                    exact absurd hkin (by decide)
                have hkl3 : k.len = Kt.length + 1 := by rw [← HKI.out, hKe]; rfl
                have hsr1 := HPW.out.sr
                rw [hkl3, hKe] at hsr1
                obtain ⟨gs, os, rfl, hx0c, hcap, hsrt⟩ := hsr1.tail
                have hkt : Kt.length = k.len - 1 := by omega
                rw [hkt] at hsrt
                have hk1 : 1 ≤ k.len := by omega
                have hlc : k.len ≤ lc := by omega
                have hsrt2 : SR wr (.slice (if lc = 1 then some ⟨gs, os, none⟩ else some ⟨gs, os + 1, none⟩) (k.len - 1) (lc - 1)) Kt := by
                  by_cases hlc1 : lc = 1
                  · rw [if_pos hlc1]
                    obtain rfl : Kt = [] := List.eq_nil_of_length_eq_zero (by omega)
                    exact ⟨_, _, by rw [← hkt], by simp, fun i s hi => by simp at hi⟩
                  · rw [if_neg hlc1]
                    exact hsrt
                have HKT := Lib.hid hkt
                clear hkl3 hkt hcap
                have hkids := HPW.out.kids
                have hmany := HPW.out.many
                rw [hKe] at hkids hmany
                have hbc := fun n => braces_ok Kt m (.slice (if lc = 1 then some ⟨gs, os, none⟩ else some ⟨gs, os + 1, none⟩) (k.len - 1) (lc - 1)) (wr.drewN n) (hsrt2.below (bdrew (Below.refl _ _) n)) (by have := HM1.out; omega) (fun x hx => hkids x (List.mem_cons_of_mem _ hx)) (by simp at hmany; omega)
                have hbl := braces_len 700 m (by have := HM1.out; omega) Kt
                have htl := txts_len 700 k d m 0 HF.out hm0 (by have := HM1.out; omega)
                rw [HTXE.out, hKe, lenS_cons] at htl
                have hmul : k.size * (2 * 700 + 200) ≤ 300 * (2 * 700 + 200) := Nat.mul_le_mul_right _ HS.out
                have hbl2 : (bracesT Kt m).length ≤ 500000 := by omega
                have hx0l : x0.length ≤ 500000 := by omega
                have z0 := str_size x0
                have z1 := str_size t.text
                have z2 := str_size (bracesT Kt m)
                have HBC := Lib.hid hbc
                have HKE := Lib.hid hKe
                clear htm hst2 k1 k12 k8 hkin hKe hsr1 hsrt hsrt2 hkids hmany hbc hbl htl hmul
                go_upto_region 24 with (fail)
                go_quiet (first | (go_at_call 40; refine Calls.quiet_of (HBC.out _)))
                all_goals go_wp2_with fail
                all_goals go_ret
                all_goals refine ⟨ret_str ?_, bdrew HBW.out _⟩
                all_goals rw [HTXE.out, HKE.out]
                all_goals (have htxt : t.text = d.text := by rw [HT.out]; rfl)
                all_goals simp [joinT, HTD.out.symm, K8.out, htxt]
              · have b8 : (t.kind == 8) = false := by simpa using k8
                have hdecl := declP_ok HPW.out (by rw [← HTD.out]; exact htm) (by rw [← HTD.out]; exact hst2) (by rw [← HTD.out]; exact k1) (by rw [← HTD.out]; exact k8) (by rw [← HTD.out]; exact k12) (k.starts (b + 1)) (.slice KA t.kids.length kc) m k.more
                rw [← HT.out, HTXE.out.symm] at hdecl
                unfold twA at hdecl
                have HDM := Lib.hid hdecl
                clear hdecl htm hst2 k1 k12 k8
                go_wp2_with (first
                  | (go_at_call 41; refine (HTB.out _).mono ?_; rintro e w5 ⟨rfl, rfl⟩)
                  | (go_at_call 43; refine (HSB.out _).mono ?_; rintro e w7 ⟨rfl, rfl⟩)
                  | (go_at_call 45; refine HDM.out.mono ?_; rintro e w6 ⟨rfl, hb6⟩))
                go_ret
                exact ⟨rfl, HBW.out.trans (hb6.mono HBW.out.size)⟩
end Go.Proofs.YtehdljcmeimbcaaGreat
