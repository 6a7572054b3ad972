/- The program's heap: All. -/
import Derived.Test.YtjgggfickbbieaaHqD
namespace Go.Proofs.Ytjgggfickbbieaa
open Go.RowKit Go.Shelf
attribute [local go_sem] Oper.semAt_some
theorem egAll (args : Array Value) (w : World) : (callFunc 43 args).run Try.prog w = .ok (.enter 43 args) w := by kernel_rfl
/-- The block in which the values of an object that is given stand. -/
def blkOf (x : Array Value) : Option Nat := match x.getD 1 undef with | .agg cs => (cs.getD 2 undef).ownBlock | _ => none
/-- A copy of object number i, its values in new memory. -/
def allE (L : List Ob) (B i : Nat) (x : Array Value) (W : World) : Prop := ∃ A c, x = #[.int .i64 ((i : Int) + 1), .agg #[.int .i64 (nt L i).kind, .int .i64 (nt L i).of, .slice A (nt L i).vals.length c, .int .i64 (nt L i).site, .int .i64 (nt L i).by', .int .i64 (nt L i).nth]] ∧ W.ownsRow B 2 1 (.slice A (nt L i).vals.length c) (nt L i).vals.length (rowI (nt L i).vals)
def idxOf (y : Array Value) : Nat := match y.getD 0 undef with | .int _ z => (z - 1).toNat | _ => 0
/-- What the loop's body leaves: numbers may turn, and the values of the object at hand. -/
def KinA (M : List Ob) (y : Array Value) (b : Nat) (t : TypeId) : Bool := t != 3 && (t != 2 || (nt M (idxOf y)).v.ownBlock != some b)
theorem own_raise {W : World} {B B' : Nat} {e : TypeId} {size : Nat} {v : Value} {n : Nat} {xs : List Value} (h : W.ownsRow B e size v n xs) (hB : ∀ g, v.ownBlock = some g → B' ≤ g) : W.ownsRow B' e size v n xs := by
  refine ⟨h.1, ?_⟩
  rcases h.2 with h1 | ⟨g, cap, cur, e, _, h2⟩
  · exact .inl h1
  · exact .inr ⟨g, cap, cur, e, hB g (by rw [e]; rfl), h2⟩
theorem list17 (l : List Value) (h : l.length = 17) : ∃ x0 x1 x2 x3 x4 x5 x6 x7 x8 x9 x10 x11 x12 x13 x14 x15 x16, l = [x0, x1, x2, x3, x4, x5, x6, x7, x8, x9, x10, x11, x12, x13, x14, x15, x16] := by
  match l, h with
  | [x0, x1, x2, x3, x4, x5, x6, x7, x8, x9, x10, x11, x12, x13, x14, x15, x16], _ => exact ⟨x0, x1, x2, x3, x4, x5, x6, x7, x8, x9, x10, x11, x12, x13, x14, x15, x16, rfl⟩
/-- What the operations give ahead of the yield. -/
def GA (lp i p : Nat) (ov : Value) (_ : Bool) : Nat → Value → World → Prop
  | 0, u, _ => u = .func (.yield lp) #[] #[]
  | 1, u, _ => u = .int .i64 ((i : Int) + 1)
  | 2, u, _ => u = .pointer (some ⟨p, 0, none⟩)
  | 3, u, _ => u = .pointer (some ⟨p, 0, none⟩)
  | 4, u, _ => u = ov
  | _, _, _ => False
theorem GA.mono {lp i p : Nat} {ov : Value} : ∀ (f : Bool) (j : Nat) (u : Value) (w w' : World), GA lp i p ov f j u w → Ext w w' → GA lp i p ov f j u w'
  | _, 0, _, _, _, h, _ => h
  | _, 1, _, _, _, h, _ => h
  | _, 2, _, _, _, h, _ => h
  | _, 3, _, _, _, h, _ => h
  | _, 4, _, _, _, h, _ => h
  | _, _ + 5, _, _, _, h, _ => h
theorem ext_mono {W : World} : ∀ (_ : Bool) (w w' : World), Ext W w → Ext w w' → Ext W w' := fun _ _ _ h k => h.trans k
section
variable {own : Nat → Bool} {bh bl : Nat} {ps : List Nat} {L : List Ob}
set_option maxHeartbeats 4000000 in
set_option maxRecDepth 100000 in
theorem all_seq {w : World} (h : PH own bh ps L w) (hbl : w.heap[bl]? = some (.cells #[.pointer (some ⟨bh, 0, none⟩)] 25 (0, 0)))
    (K : Array Value → Nat → TypeId → Bool) (hK : ∀ x b t, t ≠ 3 → (t = 2 → blkOf x ≠ some b) → K x b t = true) :
    Seq 43 #[.pointer (some ⟨bl, 0, none⟩)] (allE L w.heap.size) K L.length w := by
  intro n lp J Jx W hW hJ hJx hY h0
  have hx : Ext w W := hW
  have hkx := hx.kept (fun _ _ => true)
  have hh := h.ext hx
  have h1 := hkx.same _ _ hbl rfl
  have c0 : W.cell? ⟨bl, 0, none⟩ = some (.pointer (some ⟨bh, 0, none⟩)) := by simp [World.cell?, h1]
  have hbl1 := (Array.getElem?_eq_some_iff.1 h1).1
  have hwW := hx.size
  clear hW hkx h hbl h1
  refine callsIn_of_wp_marks (F := Fence.wide) Try.func43 rfl trivial ?_ rfl
  simp only [Try.ntmps43, List.size_toArray, List.length_cons, List.length_nil, Nat.reduceAdd, Nat.reduceSub, Array.replicate_succ, Array.replicate_zero, List.push_toArray, List.append_toArray, List.nil_append, List.cons_append]
  obtain ⟨w1, hW1⟩ : ∃ W1, W1 = W.alloc (.cells #[.func (.yield lp) #[] #[]] 87 (0, 0)) := ⟨_, rfl⟩
  have hE1 : Ext W w1 := by rw [hW1]; exact Ext.one _ _
  have hy1 : w1.heap[W.heap.size]? = some (.cells #[.func (.yield lp) #[] #[]] 87 (0, 0)) := by rw [hW1]; exact World.alloc_heap_new _ _
  have HCP := Lib.hid (Copy_ok (hh.ext hE1))
  have HW := Lib.hid hW1
  have HY := Lib.hid hY
  have HJ := Lib.hid hJ
  have HJX := Lib.hid hJx
  have H0 := Lib.hid h0
  have HE1 := Lib.hid hE1
  have HY1 := Lib.hid hy1
  have HK := Lib.hid hK
  clear hW1 hY hJ hJx h0 hE1 hy1 hh hK hx
  generalize hQ : bodyPostM Fence.wide n Try.prog _ _ = Q
  have HQ := Lib.hid hQ
  clear hQ
  gi_wp2
  refine ⟨trivial, fun h => by simp [Fence.wide] at h, ?_⟩
  change CallsIn _ _ _ _ _ (W.alloc (.cells #[.func (.yield lp) #[] #[]] 87 (0, 0))) _
  rw [← HW.out]
  refine callsIn_wide.2 (HCP.out.mono ?_)
  rintro e w2 ⟨bc, ps', M, rfl, hx2, hph2, hkey⟩
  have HX2 := Lib.hid hx2
  have HPH2 := Lib.hid hph2
  have HKEY := Lib.hid hkey
  clear hx2 hph2 hkey HCP
  gi_wp2
  refine ⟨trivial, fun h => by simp [Fence.wide] at h, ?_⟩
  refine callsIn_wide.2 ((each_ok (some ⟨bc, 0, none⟩) w2).mono ?_)
  rintro e w3 ⟨rfl, hw3⟩
  have hx3 : Ext w2 w3 := by rw [hw3]; exact Ext.one _ _
  have hbl3 : w3.heap[w2.heap.size]? = some (.cells #[.pointer (some ⟨bc, 0, none⟩)] 25 (0, 0)) := by rw [hw3]; exact World.alloc_heap_new _ _
  have hsz1 : W.heap.size < w1.heap.size := by rw [HW.out]; simp
  clear hw3
  gi_wp2
  have hph3 := HPH2.out.ext hx3
  obtain ⟨A3, c3, mv3, hv3, _, _⟩ := hph3.list
  have hML := key_len HKEY.out
  have hx13 : Ext w1 w3 := HX2.out.trans hx3
  have hxW3 : Ext W w3 := HE1.out.trans hx13
  have hsz3 := hxW3.size
  have hown : ∀ g, rng w1.heap.size w2.heap.size g = true → w.heap.size ≤ g := fun g hg => by simp [rng] at hg; omega
  have hrows : ∀ i, i < M.length → w3.ownsRow w.heap.size 2 1 (nt M i).v (nt M i).vals.length (rowI (nt M i).vals) := fun i hi => own_raise (hph3.vs i hi) fun g hg => hown g (hph3.ovs i hi g hg)
  have hseq := each_seq (bl := w2.heap.size) (K := KinA M) hph3 hv3 hbl3 (fun x g _ => by simp [KinA])
  have hdis := hph3.dis
  have HX13 := Lib.hid hx13
  have HPH3 := Lib.hid hph3
  have HROWS := Lib.hid hrows
  have HDIS := Lib.hid hdis
  have HML := Lib.hid hML
  have hJ3 : J 0 w3 := HJ.out 0 _ _ H0.out (hxW3.kept _)
  have hy3 : w3.heap[W.heap.size]? = some (.cells #[.func (.yield lp) #[] #[]] 87 (0, 0)) := (hx13.kept (fun _ _ => true)).same _ _ HY1.out rfl
  have hI0 : J 0 w3 ∧ w3.heap[W.heap.size]? = some (.cells #[.func (.yield lp) #[] #[]] 87 (0, 0)) ∧ ∀ i, 0 ≤ i → i < M.length → w3.heap[pt ps' i]? = some (obo (nt M i) (nt M i).nth) ∧ w3.ownsRow w.heap.size 2 1 (nt M i).v (nt M i).vals.length (rowI (nt M i).vals) := ⟨hJ3, hy3, fun i _ hi => ⟨hph3.bo i hi, hrows i hi⟩⟩
  clear hbl3 hph3 hv3 hML hx13 hxW3 hown hrows hdis hJ3 hy3 H0 hx3
  refine range_q (gf := 46) (lb := #[.pointer (some ⟨w2.heap.size, 0, none⟩)]) rfl egEach hseq (fun k x W' hx => by rw [hx]; rfl)
    (fun k W' => J k W' ∧ W'.heap[W.heap.size]? = some (.cells #[.func (.yield lp) #[] #[]] 87 (0, 0)) ∧ ∀ i, k ≤ i → i < M.length → W'.heap[pt ps' i]? = some (obo (nt M i) (nt M i).nth) ∧ W'.ownsRow w.heap.size 2 1 (nt M i).v (nt M i).vals.length (rowI (nt M i).vals))
    (fun c k W' => c = .ret ∧ Jx k W')
    (fun s X Y h k => ⟨(HJ.out s).le hsz3 _ _ h.1 k, k.same _ _ h.2.1 (by simp [pR, tag]), fun i hi hl => ⟨k.same _ _ (h.2.2 i hi hl).1 (by simp [pR, tag, obo]), k.row (h.2.2 i hi hl).2 fun _ _ => by simp [pR]⟩⟩)
    (fun c s X Y h k => ⟨h.1, (HJX.out s).le hsz3 _ _ h.2 k⟩)
    hI0
    (fun k x a' W' => x = #[.int .i64 ((k : Int) + 1), .pointer (some ⟨pt ps' k, 0, none⟩)] ∧ a' = ⟨#[.func (.yield lp) #[] #[], .pointer (some ⟨bl, 0, none⟩), .pointer (some ⟨W.heap.size, 0, none⟩), .int .i64 ((k : Int) + 1), .pointer (some ⟨pt ps' k, 0, none⟩), .pointer (some ⟨bh, 0, none⟩), .pointer (some ⟨bc, 0, none⟩), .func (.func 46) #[] #[.pointer (some ⟨w2.heap.size, 0, none⟩)], .int .i64 ((k : Int) + 1), .pointer (some ⟨pt ps' k, 0, none⟩), undef, undef, undef, undef, undef, undef, undef], []⟩)
    (fun k x a' X Y h _ => h)
    ?assign ?body ?done ?stop
  case assign =>
    rintro lq k x W' C hk rfl hI hC
    have HC := Lib.hid hC
    have HI := Lib.hid hI
    clear hC hI
    gi_wp2
    exact HC.out _ _ (Kept.refl _ _) HI.out ⟨trivial, rfl⟩
  case body =>
    rintro lq k x a' W' hlq hk ⟨hIJ, hIy, hIo⟩ ⟨rfl, rfl⟩
    obtain ⟨hbo, hrow⟩ := hIo k (Nat.le_refl _) hk
    obtain ⟨A4, c4, hv4⟩ := own_slice3 hrow
    obtain ⟨⟨x0, x1, x2, x3, x4, x5⟩, xf, xl⟩ := obo_cells hbo
    rw [hv4] at x2
    have y0 : W'.cell? ⟨W.heap.size, 0, none⟩ = some (.func (.yield lp) #[] #[]) := by simp [World.cell?, hIy]
    have hys : W.heap.size < W'.heap.size := (Array.getElem?_eq_some_iff.1 hIy).1
    obtain ⟨k1, k2, k3, k4, k5, k6⟩ : (nt M k).kind = (nt L k).kind ∧ (nt M k).of = (nt L k).of ∧ (nt M k).site = (nt L k).site ∧ (nt M k).by' = (nt L k).by' ∧ (nt M k).nth = (nt L k).nth ∧ (nt M k).vals = (nt L k).vals := by
      have := key_nt HKEY.out k
      simpa [Ob.key] using this
    have hkL : k < L.length := by rw [← HML.out]; exact hk
    have HIJ := Lib.hid hIJ
    have HIY := Lib.hid hIy
    have HIO := Lib.hid hIo
    have HROW := Lib.hid hrow
    have HV4 := Lib.hid hv4
    have HKK := Lib.hid (And.intro k1 (And.intro k2 (And.intro k3 (And.intro k4 (And.intro k5 k6)))))
    obtain ⟨ov, hov⟩ : ∃ ov, ov = Value.agg #[.int .i64 (nt M k).kind, .int .i64 (nt M k).of, .slice A4 (nt M k).vals.length c4, .int .i64 (nt M k).site, .int .i64 (nt M k).by', .int .i64 (nt M k).nth] := ⟨_, rfl⟩
    have HOV := Lib.hid hov
    clear hIJ hIy hIo hbo hrow hv4 k1 k2 k3 k4 k5 k6 hseq hI0 hov
    gi_wp2
    refine region_grow_in (n := 5) (s := 5) (by kernel_rfl) (GA lp k (pt ps' k) ov) (fun _ w => Ext W' w) rfl (Ext.drew _) (by kernel_rfl) (RgOps.of (z := 17) (by kernel_rfl) rfl GA.mono ext_mono ?op (fun _ h => absurd h (Nat.lt_irrefl _))) ?fin
    case op =>
      intro i o hi hs ho f a' w' hF hX hD K9 hK9
      have e2 : a'.tmps.getD 2 undef = .pointer (some ⟨W.heap.size, 0, none⟩) := hF.2.2 2 (by kernel_rfl)
      have e3 : a'.tmps.getD 3 undef = .int .i64 ((k : Int) + 1) := hF.2.2 3 (by kernel_rfl)
      have e4 : a'.tmps.getD 4 undef = .pointer (some ⟨pt ps' k, 0, none⟩) := hF.2.2 4 (by kernel_rfl)
      have hxk := hX.kept (fun _ _ => true)
      have y0 := hxk.cell y0 fun _ _ => rfl
      have x0 := hxk.cell x0 fun _ _ => rfl
      have x1 := hxk.cell x1 fun _ _ => rfl
      have x2 := hxk.cell x2 fun _ _ => rfl
      have x3 := hxk.cell x3 fun _ _ => rfl
      have x4 := hxk.cell x4 fun _ _ => rfl
      have x5 := hxk.cell x5 fun _ _ => rfl
      have hys : W.heap.size < w'.heap.size := Nat.lt_of_lt_of_le hys hX.size
      have xl : pt ps' k < w'.heap.size := Nat.lt_of_lt_of_le xl hX.size
      clear xf hxk
      match i, hi with
      | n + 5, h => exact absurd h (by omega)
      | 0, _ =>
        obtain rfl := Option.some.inj (show some _ = some o from ho)
        clear ho hD
        go_simp
        exact hK9 _ _ rfl (Ext.refl _)
      | 1, _ =>
        obtain rfl := Option.some.inj (show some _ = some o from ho)
        clear ho hD
        go_simp
        exact hK9 _ _ rfl (Ext.refl _)
      | 2, _ =>
        obtain rfl := Option.some.inj (show some _ = some o from ho)
        clear ho hD
        go_simp
        exact hK9 _ _ rfl (Ext.refl _)
      | 3, _ =>
        obtain rfl := Option.some.inj (show some _ = some o from ho)
        obtain ⟨d, hd, hG⟩ := hD _ (Array.mem_of_getElem? (i := 0) rfl) rfl
        cases hd
        replace hG : a'.tmps.getD 12 undef = _ := hG
        clear ho hD
        go_simp
        exact hK9 _ _ rfl (Ext.refl _)
      | 4, _ =>
        obtain rfl := Option.some.inj (show some _ = some o from ho)
        obtain ⟨d, hd, hG⟩ := hD _ (Array.mem_of_getElem? (i := 0) rfl) rfl
        cases hd
        replace hG : a'.tmps.getD 13 undef = _ := hG
        clear ho hD
        go_simp
        exact hK9 _ _ HOV.out.symm (Ext.refl _)
    case fin =>
      intro a' w' hF hX hG
      obtain ⟨⟨l⟩, df⟩ := a'
      obtain ⟨f1, f2, f3⟩ := hF
      replace f1 : df = [] := f1
      replace f2 : l.length = 17 := f2
      subst f1
      obtain ⟨z0, z1, z2, z3, z4, z5, z6, z7, z8, z9, z10, z11, z12, z13, z14, z15, z16, rfl⟩ := list17 l f2
      obtain ⟨d, hd, g0⟩ := hG 0 (by omega)
      cases hd
      obtain ⟨d, hd, g1⟩ := hG 1 (by omega)
      cases hd
      obtain ⟨d, hd, g4⟩ := hG 4 (by omega)
      cases hd
      replace g0 : z10 = _ := g0
      replace g1 : z11 = _ := g1
      replace g4 : z14 = _ := g4
      replace g4 := g4.symm
      subst g0 g1 g4
      clear f2 f3 hG x0 x1 x2 x3 x4 x5 xf xl
      obtain ⟨q1, q2, q3, q4, q5, q6⟩ := HKK.out
      have henc : allE L w.heap.size k #[.int .i64 ((k : Int) + 1), ov] w' := by
        refine ⟨A4, c4, ?_, ?_⟩
        · rw [HOV.out, q1, q2, q3, q4, q5, q6]
        · have := (hX.kept (fun _ _ => true)).row HROW.out fun _ _ => rfl
          rw [HV4.out, q6] at this
          exact this
      clear q1 q2 q3 q4 q5 q6
      obtain ⟨fn, tmps, assign, body, hy, hR⟩ := HY.out k _ w' hkL henc ((HJ.out k).le hsz3 _ _ HIJ.out (hX.kept _))
      have hIO' : ∀ i, k ≤ i → i < M.length → w'.heap[pt ps' i]? = some (obo (nt M i) (nt M i).nth) ∧ w'.ownsRow w.heap.size 2 1 (nt M i).v (nt M i).vals.length (rowI (nt M i).vals) := fun i h1 h2 => ⟨(hX.kept (fun _ _ => true)).same _ _ (HIO.out i h1 h2).1 rfl, (hX.kept (fun _ _ => true)).row (HIO.out i h1 h2).2 fun _ _ => rfl⟩
      have hIY' := (hX.kept (fun _ _ => true)).same _ _ HIY.out rfl
      have HIO2 := Lib.hid hIO'
      have HIY2 := Lib.hid hIY'
      have HX2' := Lib.hid hX
      have HENC := Lib.hid henc
      clear hIO' hIY' hX y0 hys henc
      simp only [List.drop_succ_cons, List.drop_zero]
      gi_wp2
      refine ⟨fun h => by simp [Fence.wide] at h, round_any (hR.mono ?_)⟩
      clear hR hy
      have hkin : ∀ b t, pK (KinA M #[.int .i64 ((k : Int) + 1), .pointer (some ⟨pt ps' k, 0, none⟩)]) w3.heap.size b t = true → pK (K #[.int .i64 ((k : Int) + 1), ov]) W.heap.size b t = true := fun b t hp => by
        cases t with
        | none => simp [pK] at hp ⊢; omega
        | some t =>
          replace hp : KinA M #[.int .i64 ((k : Int) + 1), .pointer (some ⟨pt ps' k, 0, none⟩)] b t = true := hp
          simp only [KinA, Bool.and_eq_true, bne_iff_ne, Bool.or_eq_true] at hp
          refine HK.out _ b t hp.1 fun ht => ?_
          have h2 := hp.2.resolve_left fun h => h ht
          rw [show idxOf #[.int .i64 ((k : Int) + 1), .pointer (some ⟨pt ps' k, 0, none⟩)] = k by simp [idxOf]] at h2
          rw [show blkOf #[.int .i64 ((k : Int) + 1), ov] = (nt M k).v.ownBlock by rw [HOV.out, HV4.out]; simp [blkOf]]
          exact h2
      have hidx : idxOf #[.int .i64 ((k : Int) + 1), .pointer (some ⟨pt ps' k, 0, none⟩)] = k := by simp [idxOf]
      have HKIN := Lib.hid hkin
      have HIDX := Lib.hid hidx
      clear hkin hidx
      rintro e W3 (⟨rfl, hJ3, hk3⟩ | ⟨rfl, hJx3, hk3⟩)
      · have HJ3 := Lib.hid hJ3
        have HK3 := Lib.hid hk3
        clear hJ3 hk3
        gi_wp2
        have hkk : Kept (pK (KinA M #[.int .i64 ((k : Int) + 1), .pointer (some ⟨pt ps' k, 0, none⟩)]) w3.heap.size) w' W3 := HK3.out.mono fun b t _ => HKIN.out b t
        refine ⟨(HX2'.out.kept _).trans hkk, HJ3.out, hkk.same _ _ HIY2.out (by simp [pK, KinA, tag]), fun i hi hl => ⟨hkk.same _ _ (HIO2.out i (by omega) hl).1 (by simp [pK, KinA, tag, obo]), hkk.row (HIO2.out i (by omega) hl).2 fun g hg => ?_⟩⟩
        simp only [pK, KinA, HIDX.out]
        have : (nt M k).v.ownBlock ≠ some g := fun h => by have := HDIS.out i k hl hk g hg h; omega
        simp [this]
      · have HJ3 := Lib.hid hJx3
        have HK3 := Lib.hid hk3
        clear hJx3 hk3
        gi_wp2
        exact ⟨(HX2'.out.kept _).trans (HK3.out.mono fun b t _ => pN_le hsz3 b t), rfl, HJ3.out⟩
  case done =>
    rintro W' ⟨hj, _⟩ hD
    show Q _ _ _
    rw [← HQ.out]
    rw [HML.out] at hj
    exact leave1 hD ⟨.tuple #[], by simp [results, Try.results43, go_sem], ⟨_, rfl⟩, .inl ((HJ.out _).putObj _ hj hsz3 (dtag hD))⟩
  case stop =>
    rintro c k W' hk ⟨rfl, hc⟩ hD
    gi_wp2
    show Q _ _ _
    rw [← HQ.out]
    exact leave1 hD ⟨.tuple #[], by simp [results, Try.results43, go_sem], ⟨_, rfl⟩, .inr ⟨k, by rw [← HML.out]; exact hk, (HJX.out _).putObj _ hc hsz3 (dtag hD)⟩⟩
set_option maxHeartbeats 1000000 in
set_option maxRecDepth 100000 in
theorem All_ok (a : Option Addr) (w : World) :
    Calls Try.prog 24 #[.pointer a] w fun e w' => e = .returned (.func (.func 43) #[] #[.pointer (some ⟨w.heap.size, 0, none⟩)]) ∧ w' = w.alloc (.cells #[.pointer a] 25) := by
  have hmf : ∀ (fn : Fn) (first cap : Array Value) (w : World), (Instr.makeFunc fn first cap).run Try.prog w = .ok (.func fn first cap) w := fun _ _ _ _ => rfl
  go_enter Try.func24, Try.ntmps24
  go_wp2
  go_ret
  exact ⟨rfl, rfl⟩
end
end Go.Proofs.Ytjgggfickbbieaa
