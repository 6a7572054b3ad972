/- The document's heap: Copy, Same. -/
import Derived.Test.YtjgggfickbbieaaHrK
namespace Go.Proofs.Ytjgggfickbbieaa
open Go.RowKit Go.Shelf
attribute [local go_sem] Oper.semAt_some
theorem own_low {W : World} {B B' : Nat} {e : TypeId} {size : Nat} {v : Value} {n : Nat} {xs : List Value} (hB : B' ≤ B) (h : W.ownsRow B e size v n xs) : W.ownsRow B' e size v n xs := by
  refine ⟨h.1, ?_⟩
  rcases h.2 with h1 | ⟨g, cap, cur, e, h1, h2⟩
  · exact .inl h1
  · exact .inr ⟨g, cap, cur, e, by omega, h2⟩
theorem rowI_one (l : List Int) : ∀ u ∈ rowI l, u.oneCell' = true := by
  intro u hu
  obtain ⟨z, _, rfl⟩ := List.mem_map.1 hu
  rfl
theorem rowI_len (l : List Int) : (rowI l).length = l.length * 1 := by simp [rowI]
theorem Src.ext {w w' : World} {x : Value} {m : Nat} {news : List Value} (h : Src w x m news) (k : Ext w w') : Src w' x m news := by
  rcases h with h | ⟨ad, c, h1, h2⟩
  · exact .inl h
  · exact .inr ⟨ad, c, h1, fun j u hj => (k.kept (fun _ _ => true)).cell (h2 j u hj) fun _ _ => rfl⟩
/-- New blocks. -/
def rng (B S : Nat) : Nat → Bool := fun b => decide (B ≤ b) && decide (b < S)
/-- A copy of the document's, so far. -/
structure CR (B bo k : Nat) (v : Value) (M L : List Ob) (W : World) : Prop where
  hb : W.heap[bo]? = some (.cells #[v] 30 (0, 0))
  row : W.ownsRow B 45 6 v k (row6 M)
  ml : M.length = k
  key : M.map Ob.key = (L.take k).map Ob.key
  vs : ∀ i, i < k → W.ownsRow B 2 1 (nt M i).v (nt M i).vals.length (rowI (nt M i).vals)
  dis : ∀ i j, i < k → j < k → ∀ g, (nt M i).v.ownBlock = some g → (nt M j).v.ownBlock = some g → i = j
  wid : ∀ i, i < k → (nt M i).vals.length ≤ 256
  boB : B ≤ bo
  le : k ≤ 1024
theorem CR.ext {B bo k : Nat} {v : Value} {M L : List Ob} {W W' : World} (h : CR B bo k v M L W) (x : Ext W W') : CR B bo k v M L W' := by
  obtain ⟨h1, h2, h3, h4, h5, h6, h7, h8, h9⟩ := h
  have k := x.kept (fun _ _ => true)
  exact ⟨k.same _ _ h1 rfl, k.row h2 fun _ _ => rfl, h3, h4, fun i hi => k.row (h5 i hi) fun _ _ => rfl, h6, h7, h8, h9⟩
theorem CR.done {B bo : Nat} {v : Value} {M L : List Ob} {W : World} (h : CR B bo L.length v M L W) : RH (rng B W.heap.size) bo M W ∧ M.map Ob.key = L.map Ob.key := by
  obtain ⟨h1, h2, h3, h4, h5, h6, h7, h8, h9⟩ := h
  rw [List.take_length] at h4
  have hin : ∀ {b : Nat} {o : Obj}, B ≤ b → W.heap[b]? = some o → rng B W.heap.size b = true := fun hb h => by simp [rng, hb, (Array.getElem?_eq_some_iff.1 h).1]
  refine ⟨⟨⟨v, h1, own_zero (by rw [h3]; exact h2), fun g hg => ?_⟩, fun i hi => own_zero (h5 i (by omega)), fun i j hi hj => h6 i j (by omega) (by omega), fun i hi g hg => ?_, hin h8 h1, fun b hb => ?_, by omega, fun i hi => h7 i (by omega)⟩, h4⟩
  · obtain ⟨o, k1, _⟩ := own_is h2 g hg
    exact hin (own_base h2 g hg) k1
  · obtain ⟨o, k1, _⟩ := own_is (h5 i (by omega)) g hg
    exact hin (own_base (h5 i (by omega)) g hg) k1
  · simp [rng] at hb
    exact hb.2
/-- One object more. -/
theorem CR.step {B bo k : Nat} {v v' : Value} {M L : List Ob} {wA wB wC : World} (h : CR B bo k v M L wA) (hk : k < L.length) (hL : L.length ≤ 1024) (x : Ob) (hx : x.key = (nt L k).key) (kB : Ext wA wB) (hxv : wB.ownsRow wA.heap.size 2 1 x.v x.vals.length (rowI x.vals)) (hw : x.vals.length ≤ 256) (hB : B ≤ wA.heap.size)
    (hg : wB.grownBy wC v.ownBlock) (ho : wC.ownsRow B 45 6 v' (k + 1) (row6 (M ++ [x]))) : CR B bo (k + 1) v' (M ++ [x]) L (wC.setCell ⟨bo, 0, none⟩ v') ∧ Kept (pOld B) wA (wC.setCell ⟨bo, 0, none⟩ v') := by
  have hB' := h.ext kB
  have hlt : ∀ {b : Nat} {o : Obj}, wA.heap[b]? = some o → b < wA.heap.size := fun h => (Array.getElem?_eq_some_iff.1 h).1
  have gr : ∀ p : Nat → Option TypeId → Bool, (∀ g, B ≤ g → p g (some 45) = false) → Kept p wB wC := fun p hp => Kept.grown hg fun j o e ho => by rw [(own_tag hB'.row j o e ho).1]; exact hp j (own_base hB'.row j e)
  have h4 := (gr (fun _ t => t != some 45) (by simp)).same _ _ hB'.hb (by simp [tag])
  obtain ⟨s1, s2⟩ := sto1 h4 v'
  have kI : Kept (fun _ t => t == some 2) wB (wC.setCell ⟨bo, 0, none⟩ v') := (gr _ (by simp)).trans (s2 _ (by simp))
  have low : ∀ {i : Nat}, i < k → ∀ {g : Nat}, (nt M i).v.ownBlock = some g → g < wA.heap.size := fun hi g hg => by
    obtain ⟨o, k1, _⟩ := own_is (h.vs _ hi) _ hg
    exact hlt k1
  refine ⟨⟨s1, ?_, by simp [h.ml], ?_, fun i hi => ?_, fun i j hi hj g hgi hgj => ?_, fun i hi => ?_, h.boB, by omega⟩, (kB.kept _).trans ((gr _ fun g hgB => by simp [pOld]; omega).trans (s2 _ (by have := h.boB; simp [pOld]; omega)))⟩
  · refine (s2 (fun b _ => b != bo) (by simp)).row ho fun g hg => ?_
    have : g ≠ bo := fun e => by
      subst e
      obtain ⟨o, k1, k2⟩ := own_is ho g hg
      rw [h4] at k1; cases k1
      simp [tag] at k2
    simpa using this
  · rw [List.map_append, h.key, List.take_add_one, List.getElem?_eq_getElem hk, List.map_append]
    simp only [Option.toList_some, List.map_cons, List.map_nil]
    rw [hx, nt_lt hk]
  · rw [nt_snoc M x i (by rw [h.ml]; exact hi), h.ml]
    split
    · next hl => exact kI.row (hB'.vs i hl) fun _ _ => by simp
    · exact kI.row (own_low hB hxv) fun _ _ => by simp
  · rw [nt_snoc M x i (by rw [h.ml]; exact hi), h.ml] at hgi
    rw [nt_snoc M x j (by rw [h.ml]; exact hj), h.ml] at hgj
    split at hgi
    · next hl =>
      split at hgj
      · next hl2 => exact h.dis i j hl hl2 g hgi hgj
      · have h1 := low hl hgi
        have h2 := own_base hxv g hgj
        omega
    · split at hgj
      · next hl2 =>
        have h1 := low hl2 hgj
        have h2 := own_base hxv g hgi
        omega
      · omega
  · rw [nt_snoc M x i (by rw [h.ml]; exact hi), h.ml]
    split
    · next hl => exact h.wid i hl
    · exact hw
section
variable {own : Nat → Bool} {bw : Nat} {L : List Ob} {W : World}
set_option maxHeartbeats 4000000 in
set_option maxRecDepth 100000 in
theorem refCopy_ok (h : RH own bw L W) :
    Calls Try.prog 13 #[.pointer (some ⟨bw, 0, none⟩)] W fun e W' => ∃ bo M, e = .returned (.pointer (some ⟨bo, 0, none⟩)) ∧ Ext W W' ∧ RH (rng W.heap.size W'.heap.size) bo M W' ∧ M.map Ob.key = L.map Ob.key := by
  obtain ⟨W1, hW1⟩ : ∃ W1, W1 = W.alloc (.cells #[.slice none 0 0] 30 (0, 0)) := ⟨_, rfl⟩
  have hE1 : Ext W W1 := by rw [hW1]; exact Ext.one _ _
  have hb1 : W1.heap[W.heap.size]? = some (.cells #[.slice none 0 0] 30 (0, 0)) := by rw [hW1]; exact World.alloc_heap_new _ _
  have hc1 : CR W.heap.size W.heap.size 0 (.slice none 0 0) [] L W1 := ⟨hb1, World.ownsRow_nil _ _ _ _, rfl, rfl, by simp, by simp, by simp, Nat.le_refl _, by simp⟩
  have hl := h.len
  have HH := Lib.hid h
  have HE1 := Lib.hid hE1
  have HC1 := Lib.hid hc1
  have HW := Lib.hid hW1
  clear h hE1 hb1 hc1 hW1
  obtain ⟨i0, hi0, hz0, hz1, hz2⟩ := infoParts infoI
  obtain ⟨i1, hi1, hy0, hy1, hy2⟩ := infoParts infoObj
  go_enter Try.func13, Try.ntmps13
  go_upto_region 2 with (fail)
  change Code.wp _ _ _ _ (W.alloc (.cells #[.slice none 0 0] 30 (0, 0)))
  rw [← HW.out]
  go_wp2_with fail
  go_loopg [4] L.length (fun k v4 wr => ∃ (i : Nat) (v : Value) (M : List Ob), i + k = L.length ∧ v4 = .int .i64 i ∧ CR W.heap.size W.heap.size i v M L wr ∧ Ext W wr)
  case atStart => exact ⟨0, _, [], by omega, rfl, HC1.out, HE1.out⟩
  case round =>
    clear HC1 HE1 HW
    obtain ⟨i, v, M, hik, rfl, hc, hx⟩ := hrel
    have hrh := HH.out.ext hx
    obtain ⟨vL, e1, e2, _⟩ := hrh.ex
    have HIK := Lib.hid hik
    have HC := Lib.hid hc
    have HX := Lib.hid hx
    obtain ⟨AL, cL, rfl⟩ := own_slice3 e2
    have b0 : wr.cell? ⟨bw, 0, none⟩ = some (.slice AL L.length cL) := by simp [World.cell?, e1]
    by_cases hi : i < L.length
    · obtain ⟨g, c, e, d0, d1, d2, d3, d4, d5⟩ := own6_cells e2 hi
      injection e with ea _ ec
      subst ea ec
      obtain ⟨A2, c2, hv2⟩ := own_slice3 (hrh.vs i hi)
      rw [hv2] at d2
      have hil : (i : Int) < (L.length : Int) := by omega
      have hsrc := Src.of (hrh.vs i hi) (rowI_len _)
      rw [hv2] at hsrc
      have hwi := hrh.wid i hi
      have HS := Lib.hid hsrc
      have HV2 := Lib.hid hv2
      clear hrh e1 e2 hc hx hsrc hv2 hik
      go_upto_region 6 with (fail)
      obtain ⟨w2, hw2⟩ : ∃ w2, w2 = wr.alloc (.cells #[.int .i64 (nt L i).kind, .int .i64 (nt L i).of, .slice A2 (nt L i).vals.length c2, .int .i64 (nt L i).site, .int .i64 (nt L i).by', .int .i64 (nt L i).nth] 45) := ⟨_, rfl⟩
      rw [← hw2]
      have hx2 : Ext wr w2 := by rw [hw2]; exact Ext.one _ _
      have hr2 : w2.heap[wr.heap.size]? = some (obo (nt L i) (nt L i).nth) := by rw [hw2]; unfold obo; rw [HV2.out]; exact World.alloc_heap_new _ _
      obtain ⟨⟨_, _, x2, _⟩, xf, xl⟩ := obo_cells hr2
      rw [HV2.out] at x2
      have hs2 := HS.out.ext hx2
      have HX2 := Lib.hid hx2
      have HR2 := Lib.hid hr2
      have HS2 := Lib.hid hs2
      clear hw2 hx2 hr2 hs2 d0 d1 d2 d3 d4 d5 b0
      go_upto_region 7 with (at_builtin; refine wpList_append_any rfl _ _ 33 rfl w2.heap.size 2 i0 (.int .i64 0) 1 8 Try.underlying33 hi0 hz0 hz1 hz2 rfl (by decide) (.slice none 0 0) 0 [] rfl (World.ownsRow_nil _ _ _ _) (.slice A2 (nt L i).vals.length c2) (nt L i).vals.length (rowI (nt L i).vals) rfl (rowI_len _) HS2.out (rowI_one _) (by unfold maxLen; omega) (by omega) (Nat.le_refl _) (nt L i).vals.length (by omega) (rowI (nt L i).vals) (by simp) ?_; intro A3 c3 w3 hown3 hgrow3 hat3; have hx3 : Ext w2 w3 := grown_ext (Ext.refl _) hgrow3 (by intro b hb; simp [Value.ownBlock] at hb); have hr3 := (hx3.kept (fun _ _ => true)).same _ _ HR2.out rfl; have HX3 := Lib.hid hx3; have HO3 := Lib.hid hown3; have HR3 := Lib.hid hr3; obtain ⟨⟨_, _, y2, _⟩, yf, yl⟩ := obo_cells hr3; clear hown3 hgrow3 hat3 hx3 hr3 x2 xf xl)
      obtain ⟨w4, hw4⟩ : ∃ w4, w4 = w3.setCell ⟨wr.heap.size, 2, none⟩ (.slice A3 (nt L i).vals.length c3) := ⟨_, rfl⟩
      rw [← hw4]
      obtain ⟨x, hxx⟩ : ∃ x : Ob, x = { nt L i with v := .slice A3 (nt L i).vals.length c3 } := ⟨_, rfl⟩
      have hq4 : w4.heap[wr.heap.size]? = some (obo x x.nth) := by
        rw [hw4, heap_setCell_same w3 wr.heap.size 2 _ _ _ HR3.out, hxx]
        simp [obo]
      have hk4 : Kept (fun b _ => b != wr.heap.size) w3 w4 := by rw [hw4]; exact Kept.setCell _ fun o ho => by simp
      have hx4 : Ext wr w4 := Kept.trans (HX2.out.trans HX3.out) (hk4.mono fun b t _ hp => by simp [pOld] at hp; simp; omega)
      have ho4 : w4.ownsRow wr.heap.size 2 1 x.v x.vals.length (rowI x.vals) := by
        rw [hxx]
        refine own_low HX2.out.size (hk4.row HO3.out fun g hg => ?_)
        have h1 := own_base HO3.out g hg
        have h2 := (Array.getElem?_eq_some_iff.1 HR2.out).1
        simp; omega
      have hkey : x.key = (nt L i).key := by rw [hxx]; rfl
      have hwx : x.vals.length ≤ 256 := by rw [hxx]; exact hwi
      obtain ⟨A5, c5, hv5⟩ : ∃ A c, x.v = .slice A x.vals.length c := ⟨A3, c3, by rw [hxx]⟩
      have hc4 := HC.out.ext hx4
      obtain ⟨A6, c6, rfl⟩ := own_slice3 hc4.row
      have b0 : w4.cell? ⟨W.heap.size, 0, none⟩ = some (.slice A6 i c6) := by simp [World.cell?, hc4.hb]
      have lb := (Array.getElem?_eq_some_iff.1 hc4.hb).1
      obtain ⟨⟨z0, z1, z2, z3, z4, z5⟩, zf, zl⟩ := obo_cells hq4
      rw [hv5] at z2
      have hx6 : ∀ u ∈ x.c6, u.oneCell' = true := by simp [Ob.c6, Value.oneCell', hv5]
      have hWr := HX.out.size
      have hW4 : W.heap.size ≤ w4.heap.size := (HX.out.trans hx4).size
      have HX4 := Lib.hid hx4
      have HO4 := Lib.hid ho4
      have HKEY := Lib.hid hkey
      have HV5 := Lib.hid hv5
      have HC4 := Lib.hid hc4
      clear hw4 hxx hq4 hk4 hx4 ho4 hkey hc4 hv5 y2 yf yl
      go_region_law (
        (refine step_append_any (by rfl) _ _ _ (by rfl) W.heap.size 45 i1 (.agg #[.int .i64 0, .int .i64 0, .slice none 0 0, .int .i64 0, .int .i64 0, .int .i64 0]) 6 64 Try.underlying28 hi1 hy0 hy1 hy2 rfl (by omega) (.slice A6 i c6) i (row6 M) (by rfl) (HC4.out.ext ((Ext.drew _).trans (Ext.one _ _))).row (.slice (some ⟨w4.heap.size, 0, none⟩) 1 1) 1 x.c6 (by rfl) (by rfl) (SrcO' (n := x.nth) HV5.out (heap_alloc_new w4.drew _)) hx6 (by unfold maxLen; omega) (by omega) (by simp; omega) (i + 1) rfl (row6 (M ++ [x])) (row6_snoc M x).symm ?_; intro A7 c7 w7 hown7 hgrow7 hat7; have hk7 : Kept (fun _ t => t != some 45) w4 w7 := (((Ext.drew w4).trans (Ext.one _ _)).kept _).trans (Kept.grown hgrow7 fun j o e ho => (by rw [(own_tag (HC4.out.ext ((Ext.drew _).trans (Ext.one _ _))).row j o e ho).1]; rfl)); have hv7 := hk7.same _ _ HC4.out.hb rfl; have q0 : w7.cell? ⟨W.heap.size, 0, none⟩ = some (.slice A6 i c6) := (by simp [World.cell?, hv7]); have f7 := frozen_of_row w7 W.heap.size 0 _ _ hv7; have l7 := (Array.getElem?_eq_some_iff.1 hv7).1))
      all_goals
        have hstep := HC.out.step hi hl x HKEY.out (HX4.out.trans ((Ext.drew w4).trans (Ext.one _ _))) ((((Ext.drew w4).trans (Ext.one _ _)).kept (fun _ _ => true)).row HO4.out fun _ _ => rfl) hwx hWr hgrow7 hown7
        have HST := Lib.hid hstep
        clear hstep hgrow7 hat7 hown7 hk7 hv7 z0 z1 z2 z3 z4 z5 b0
        go_wp2_with fail
        go_roundg (gk - 1)
        case measure => have := HIK.out; omega
        case rel => exact ⟨i + 1, _, _, by have := HIK.out; omega, by go_num, HST.out.1, Kept.trans HX.out HST.out.2⟩
    · have hil : ¬ (i : Int) < (L.length : Int) := by omega
      have ei : i = L.length := by omega
      subst ei
      clear hrh e1 e2 hc hx hik
      go_wp2_with fail
      go_ret
      exact ⟨_, rfl, HX.out, M, HC.out.done⟩
theorem key_nt {M L : List Ob} (h : M.map Ob.key = L.map Ob.key) (i : Nat) : (nt M i).key = (nt L i).key := by
  have e : ∀ X : List Ob, (nt X i).key = (X.map Ob.key).getD i (default : Ob).key := fun X => by
    unfold nt
    simp only [List.getD_eq_getElem?_getD, List.getElem?_map]
    cases X[i]? <;> rfl
  rw [e, e, h]
theorem key_len {M L : List Ob} (h : M.map Ob.key = L.map Ob.key) : M.length = L.length := by simpa using congrArg List.length h
theorem map_key_eq {L M : List Ob} (hl : L.length = M.length) (h : ∀ i, i < L.length → (nt L i).key = (nt M i).key) : L.map Ob.key = M.map Ob.key := by
  apply List.ext_getElem (by simpa using hl)
  intro i h1 h2
  have h1' : i < L.length := by simpa using h1
  have := h i h1'
  rw [nt_lt h1', nt_lt (by omega)] at this
  simpa using this
variable {own' : Nat → Bool} {bo : Nat} {M : List Ob}
set_option maxHeartbeats 4000000 in
set_option maxRecDepth 100000 in
theorem refSame_ok (h : RH own bw L W) (h' : RH own' bo M W) {A1 A2 : Option Addr} {c1 c2 : Nat} (h1 : W.ownsRow 0 45 6 (.slice A1 L.length c1) L.length (row6 L)) (h2 : W.ownsRow 0 45 6 (.slice A2 M.length c2) M.length (row6 M)) :
    Calls Try.prog 15 #[.slice A1 L.length c1, .slice A2 M.length c2] W fun e W' => e = .returned (.bool (decide (L.map Ob.key = M.map Ob.key))) ∧ Ext W W' := by
  obtain ⟨b, hb⟩ : ∃ b, b = decide (L.map Ob.key = M.map Ob.key) := ⟨_, rfl⟩
  rw [← hb]
  have hl1 := h.len
  have hl2 := h'.len
  have HV1 := Lib.hid h.vs
  have HV2 := Lib.hid h'.vs
  have HW1 := Lib.hid h.wid
  have HW2 := Lib.hid h'.wid
  have HB := Lib.hid hb
  have H1 := Lib.hid h1
  have H2 := Lib.hid h2
  clear h h' h1 h2 hb
  by_cases e : L.length = M.length
  case neg =>
    have hbf : b = false := by
      rw [HB.out]
      exact decide_eq_false fun h => e (key_len h)
    have e' : ((L.length : Int) != (M.length : Int)) = true := by simp; omega
    subst hbf
    clear e HB
    go_enter Try.func15, Try.ntmps15
    go_wp2_with fail
    go_ret
    exact ⟨rfl, Ext.refl _⟩
  rw [← e] at H2 ⊢
  have HE := Lib.hid e
  clear e
  go_enter Try.func15, Try.ntmps15
  go_wp2_with fail
  go_loopg [5] L.length (fun k v5 wr => ∃ i : Nat, i + k = L.length ∧ v5 = .int .i64 i ∧ Ext W wr ∧ ∀ j, j < i → (nt L j).key = (nt M j).key)
  case atStart => exact ⟨0, by omega, rfl, Ext.refl _, by simp⟩
  case round =>
    obtain ⟨i, hik, rfl, hx, hall⟩ := hrel
    have HX := Lib.hid hx
    have HIK := Lib.hid hik
    have HALL := Lib.hid hall
    have hxk := hx.kept (fun _ _ => true)
    clear hik hall
    by_cases hlt : i < L.length
    · obtain ⟨g, cc, ea, p0, p1, p2, p3, p4, p5⟩ := own6_cells (hxk.row H1.out fun _ _ => rfl) hlt
      injection ea with ea _ ec
      subst ea ec
      have hlt' : i < M.length := by rw [← HE.out]; exact hlt
      obtain ⟨g2, cc2, eb, q0, q1, q2, q3, q4, q5⟩ := own6_cells (L := M) (by have := hxk.row H2.out fun _ _ => rfl; rw [HE.out] at this; exact this) hlt'
      injection eb with eb _ ed
      subst eb ed
      have hil : (i : Int) < (L.length : Int) := by omega
      have hv1 := ((hx.trans (Ext.drew wr)).kept (fun _ _ => true)).row (HV1.out i hlt) fun _ _ => rfl
      have hv2 := ((hx.trans (Ext.drew wr)).kept (fun _ _ => true)).row (HV2.out i hlt') fun _ _ => rfl
      have hso := refSameOb_ok (nt L i) (nt M i) hv1 hv2 (HW1.out i hlt) (HW2.out i hlt')
      obtain ⟨A5, c5, e5⟩ := own_slice3 hv1
      obtain ⟨A6, c6, e6⟩ := own_slice3 hv2
      rw [e5] at p2 hso
      rw [e6] at q2 hso
      clear hx hxk hv1 hv2 e5 e6
      by_cases hk : (nt L i).key = (nt M i).key
      · rw [show sameOb (nt L i) (nt M i) = true from decide_eq_true hk] at hso
        have HK := Lib.hid hk
        have HSO := Lib.hid hso
        clear hk hso
        go_upto_region 6 with (fail)
        go_still_tail 8, (by kernel_rfl)
        change wpList _ _ _ _ _ wr.drew
        go_wp2_with (go_at_call 32; refine HSO.out.mono ?_; rintro e w3 ⟨rfl, hx3⟩; have HX3 := Lib.hid hx3; clear hx3)
        go_roundg (gk - 1)
        case measure => have := HIK.out; omega
        case rel => exact ⟨i + 1, by have := HIK.out; omega, by go_num, (HX.out.trans (Ext.drew _)).trans HX3.out, fun j hj => by
          rcases Nat.lt_or_ge j i with h | h
          · exact HALL.out j h
          · have : j = i := by omega
            subst this; exact HK.out⟩
      · rw [show sameOb (nt L i) (nt M i) = false from decide_eq_false hk] at hso
        have HK := Lib.hid hk
        have HSO := Lib.hid hso
        clear hk hso
        go_upto_region 6 with (fail)
        go_still_tail 8, (by kernel_rfl)
        change wpList _ _ _ _ _ wr.drew
        go_wp2_with (go_at_call 32; refine HSO.out.mono ?_; rintro e w3 ⟨rfl, hx3⟩; have HX3 := Lib.hid hx3; clear hx3)
        go_ret
        refine ⟨ret_bool ?_, (HX.out.trans (Ext.drew _)).trans HX3.out⟩
        rw [HB.out]
        exact (decide_eq_false fun h => HK.out (key_nt h i)).symm
    · clear hxk hx
      go_wp2_with fail
      go_ret
      refine ⟨ret_bool ?_, HX.out⟩
      rw [HB.out]
      exact (decide_eq_true (map_key_eq HE.out fun j hj => HALL.out j (by omega))).symm
end
end Go.Proofs.Ytjgggfickbbieaa
