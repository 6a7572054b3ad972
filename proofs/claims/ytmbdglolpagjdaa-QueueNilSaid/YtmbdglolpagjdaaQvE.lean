/- The document's queue: an item is dropped, or taken. -/
import Derived.Test.YtmbdglolpagjdaaQvD
namespace Go.Proofs.Ytmbdglolpagjdaa
open Go.RowKit Go.Shelf
attribute [local go_sem] Oper.semAt_some

/-- No two items of one task. -/
def Dst (E : List Ent) : Prop := E.Pairwise fun a b => a.task ≠ b.task
def drE (E : List Ent) (t : Int) : List Ent := E.filter fun x => x.task != t
def hasE (E : List Ent) (t : Int) : Bool := E.any fun x => x.task == t
theorem drE_not {E : List Ent} {t : Int} (h : ∀ k, k < E.length → (nth E k).task ≠ t) : drE E t = E ∧ hasE E t = false := by
  have hm : ∀ x, x ∈ E → x.task ≠ t := fun x hx => by
    obtain ⟨k, hk, e⟩ := List.getElem_of_mem hx
    rw [← e, ← nth_lt hk]; exact h k hk
  refine ⟨List.filter_eq_self.2 fun x hx => by simpa using hm x hx, ?_⟩
  unfold hasE
  rw [List.any_eq_false]
  intro x hx
  simpa using hm x hx
theorem drE_at {E : List Ent} {t : Int} (hd : Dst E) {i : Nat} (hi : i < E.length) (h : (nth E i).task = t) : drE E t = E.take i ++ E.drop (i + 1) ∧ hasE E t = true := by
  have e : E = E.take i ++ nth E i :: E.drop (i + 1) := by
    rw [nth_lt hi]; simp
  have h1 : (E.take i ++ nth E i :: E.drop (i + 1)).Pairwise fun a b => a.task ≠ b.task := by rw [← e]; exact hd
  rw [List.pairwise_append, List.pairwise_cons] at h1
  obtain ⟨_, ⟨h2, _⟩, h3⟩ := h1
  constructor
  · unfold drE
    conv => lhs; rw [e]
    rw [List.filter_append, List.filter_cons, if_neg (by simp [h])]
    rw [List.filter_eq_self.2 fun x hx => by simpa [h] using h3 x hx (nth E i) (by simp), List.filter_eq_self.2 fun x hx => by simpa [h] using (h2 x hx).symm]
  · unfold hasE
    rw [List.any_eq_true]
    exact ⟨nth E i, nth_mem hi, by simp [h]⟩
theorem row3_take (E : List Ent) (i : Nat) : row3 (E.take i) = (row3 E).take (i * 3) := by
  induction E generalizing i with
  | nil => simp [row3]
  | cons x r ih =>
    cases i with
    | zero => simp [row3]
    | succ i =>
      have e1 : row3 ((x :: r).take (i + 1)) = x.it3 ++ row3 (r.take i) := by simp [row3]
      have e2 : row3 (x :: r) = x.it3 ++ row3 r := by simp [row3]
      have e3 : x.it3.length = 3 := rfl
      rw [e1, e2, ih, List.take_append, List.take_of_length_le (l := x.it3) (by omega), e3]
      congr 2; omega
theorem row3_drop (E : List Ent) (i : Nat) : row3 (E.drop i) = (row3 E).drop (i * 3) := by
  induction E generalizing i with
  | nil => simp [row3]
  | cons x r ih =>
    cases i with
    | zero => simp
    | succ i =>
      have e2 : row3 (x :: r) = x.it3 ++ row3 r := by simp [row3]
      have e3 : x.it3.length = 3 := rfl
      rw [List.drop_succ_cons, e2, ih, List.drop_append, List.drop_of_length_le (l := x.it3) (by omega), e3, List.nil_append]
      congr 1; omega
/-- The beginning, and the end, of a slice of items, as they are read. -/
theorem Src.take {W : World} {B : Nat} {g n c : Nat} {E : List Ent} (h : W.ownsRow B 32 3 (.slice (some ⟨g, 0, none⟩) n c) n (row3 E)) (i c' : Nat) : Src W (.slice (some ⟨g, 0, none⟩) i c') i (row3 (E.take i)) :=
  .inr ⟨_, _, rfl, fun j u hj => by
    rw [row3_take, List.getElem?_take] at hj
    split at hj
    · exact h.cells (g := g) rfl j u hj
    · cases hj⟩
theorem Src.drop {W : World} {B : Nat} {g n c : Nat} {E : List Ent} (h : W.ownsRow B 32 3 (.slice (some ⟨g, 0, none⟩) n c) n (row3 E)) (i m c' : Nat) : Src W (.slice (some ⟨g, i * 3, none⟩) m c') m (row3 (E.drop i)) :=
  .inr ⟨_, _, rfl, fun j u hj => by
    rw [row3_drop, List.getElem?_drop] at hj
    have := h.cells (g := g) rfl (i * 3 + j) u hj
    have e : ((⟨g, i * 3, none⟩ : Addr).add j) = (⟨g, 0, none⟩ : Addr).add (i * 3 + j) := by
      unfold Addr.add
      by_cases hj : j = 0
      · by_cases hi : i = 0
        · subst hj hi; simp
        · subst hj; simp; omega
      · simp [hj]
    rw [e]; exact this⟩
theorem Src.none {W : World} {g : Addr} {c : Nat} : Src W (.slice (some g) 0 c) 0 [] := .inr ⟨_, _, rfl, fun j u hj => by simp at hj⟩
/-- The block in which the row of the document's queue lies. -/
def Rowb (bw : Nat) (W : World) (g : Nat) : Prop := ∃ v, W.heap[bw]? = some (.cells #[v] 29 (0, 0)) ∧ v.ownBlock = some g
theorem RQ.of2 {p : Nat → Option TypeId → Bool} {bw : Nat} {E : List Ent} {W W' : World} (h : RQ bw E W) (k : Kept p W W') (h1 : p bw (some 29) = true) (h2 : ∀ g, Rowb bw W g → p g (some 32) = true) : RQ bw E W' := by
  obtain ⟨v, h3, h4⟩ := h
  exact ⟨v, k.same _ _ h3 h1, k.row h4 fun g hg => h2 g ⟨v, h3, hg⟩⟩
theorem RQ.rowb {bw : Nat} {E : List Ent} {W : World} (h : RQ bw E W) {g : Nat} (hg : Rowb bw W g) : g < W.heap.size := by
  obtain ⟨v, h3, h4⟩ := h
  obtain ⟨v', h5, h6⟩ := hg
  rw [h3] at h5
  simp only [Option.some.injEq, Obj.cells.injEq, and_true] at h5
  have e : v = v' := by simpa using h5
  subst e
  obtain ⟨o, h7, _⟩ := own_is h4 g h6
  exact (Array.getElem?_eq_some_iff.1 h7).1
theorem Rowb.back {bw : Nat} {E : List Ent} {W W' : World} (h : RQ bw E W) (k : Ext W W') {g : Nat} (hg : Rowb bw W' g) : Rowb bw W g := by
  obtain ⟨v, h3, h4⟩ := h
  obtain ⟨v', h5, h6⟩ := hg
  have h7 := (k.kept (fun _ _ => true)).same _ _ h3 rfl
  rw [h5] at h7
  simp only [Option.some.injEq, Obj.cells.injEq, and_true] at h7
  have e : v' = v := by simpa using h7
  exact ⟨v, h3, e ▸ h6⟩
theorem Rowb.set {bw : Nat} {E : List Ent} {W W1 : World} (h : RQ bw E W) {v : Value} {n : Nat} {xs : List Value} {B : Nat} (ho : W1.ownsRow B 32 3 v n xs) (k : Ext W W1) {g : Nat} (hg : Rowb bw (W1.setCell ⟨bw, 0, none⟩ v) g) : B ≤ g := by
  obtain ⟨v0, h1, _⟩ := h.ext k
  obtain ⟨h3, _⟩ := sto1 h1 v
  obtain ⟨v', h5, h6⟩ := hg
  rw [h3] at h5
  simp only [Option.some.injEq, Obj.cells.injEq, and_true] at h5
  have e : v = v' := by simpa using h5
  subst e
  exact own_base ho g h6
section
variable {E : List Ent} {bw : Nat} {W : World}
set_option maxHeartbeats 2000000 in
set_option maxRecDepth 100000 in
theorem refDrop_ok (h : RQ bw E W) (hd : Dst E) (hn : E.length ≤ 1000000) (task : Int) :
    Calls Try.prog 26 #[.pointer (some ⟨bw, 0, none⟩), .int .i64 task] W fun e W' => e = .returned (.bool (hasE E task)) ∧ RQ bw (drE E task) W' ∧ Kept (pW bw) W W' ∧ ∀ g, Rowb bw W' g → Rowb bw W g ∨ W.heap.size ≤ g := by
  have hof := of_ok h hn task
  have HR := Lib.hid h
  have HD := Lib.hid hd
  obtain ⟨b, hb⟩ : ∃ b, b = hasE E task := ⟨_, rfl⟩
  obtain ⟨F, hF⟩ : ∃ F, F = drE E task := ⟨_, rfl⟩
  rw [← hb, ← hF]
  have HB := Lib.hid hb
  have HF := Lib.hid hF
  clear h hd hb hF
  go_enter Try.func26, Try.ntmps26
  go_wp2_with fail
  refine hof.mono ?_
  rintro e w2 ⟨ho, rfl⟩
  clear hof
  rcases ho with ⟨i, hi, rfl, hit, _⟩ | ⟨rfl, hno⟩
  · obtain ⟨e1, e2⟩ := drE_at HD.out hi hit
    have hb := HB.out
    have hF := HF.out
    rw [e2] at hb
    rw [e1] at hF
    subst hb
    have HF2 := Lib.hid hF
    clear HB HF e1 e2 hF hit
    have hlt := HR.out.lt
    obtain ⟨v, h1, h2⟩ := HR.out
    have hcap : ∃ g c, v = .slice (some ⟨g, 0, none⟩) E.length c ∧ E.length ≤ c ∧ c ≤ maxLen := by
      rcases h2.2 with ⟨_, h0⟩ | ⟨g, cap, cur, e, _, _, h4, h5, _⟩
      · omega
      · exact ⟨g, cap, e, h4, h5⟩
    obtain ⟨g, c, rfl, hc1, hc2⟩ := hcap
    have c0 : w2.cell? ⟨bw, 0, none⟩ = some (.slice (some ⟨g, 0, none⟩) E.length c) := by simp [World.cell?, h1]
    have f0 := frozen_of_row w2 bw 0 _ _ h1
    have hc3 : (i : Int) ≤ (c : Int) := by omega
    have hc4 : (i : Int) + 1 ≤ (E.length : Int) := by omega
    have hc5 : (i : Int) + 1 ≤ (c : Int) := by omega
    have hik : ¬ (i : Int) < 0 := by omega
    have hni : (E.length : Int) ≤ 1000000 := by omega
    have hil : (i : Int) < (E.length : Int) := by omega
    have hwr : IntKind.i64.wrap ((i : Int) + 1) = (i : Int) + 1 := by rw [IntKind.wrap_i64]; omega
    have hto : ((i : Int) + 1).toNat = i + 1 := by omega
    have hi1 : (0 : Int) ≤ (i : Int) + 1 := by omega
    have hO := Lib.hid h2
    have hsd : ∀ w', Ext w2 w' → Src w' (.slice (if c = i + 1 then some ⟨g, 0, none⟩ else some ⟨g, (i + 1) * 3, none⟩) (E.length - (i + 1)) (c - (i + 1))) (E.length - (i + 1)) (row3 (E.drop (i + 1))) := fun w' hx => by
      have h3 := (hx.kept (fun _ _ => true)).row h2 fun _ _ => rfl
      split
      · have : E.length = i + 1 := by omega
        have e1 : E.length - (i + 1) = 0 := by omega
        rw [List.drop_of_length_le (by omega), e1]
        exact Src.none
      · exact Src.drop h3 (i + 1) _ _
    have HSD := Lib.hid hsd
    clear hsd
    clear h1 h2
    obtain ⟨i0, hi0, hz0, hz1, hz2⟩ := info_parts infoItem
    go_wp2_with fail
    go_region_law (first
      | (refine step_append_any (by rfl) _ _ _ (by rfl) w2.heap.size 32 i0 (.agg #[.int .i64 0, .bool false, .int .i64 0]) 3 24 Try.underlying27 hi0 hz0 hz1 hz2 rfl (by omega) (.slice none 0 0) 0 [] (by rfl) (World.ownsRow_nil _ _ _ _) _ i (row3 (E.take i)) (by rfl) (by rw [row3_len, List.length_take, Nat.min_eq_left (by omega)]) (Src.take ((Ext.drew w2).kept (fun _ _ => true) |>.row hO.out fun _ _ => rfl) i _) (row3_one _) (by unfold maxLen; omega) (by omega) (Nat.le_refl _) i (by omega) (row3 (E.take i)) (by simp) ?_; intro A1 c1 w3 hown1 hgrow1 hat1; have hx3 : Ext w2 w3 := grown_ext (Ext.drew _) hgrow1 (by intro b hb; simp [Value.ownBlock] at hb); have d0 : w3.cell? ⟨bw, 0, none⟩ = some (.slice (some ⟨g, 0, none⟩) E.length c) := (hx3.kept (fun _ _ => true)).cell c0 fun _ _ => rfl; have hl3 := hx3.size)
      | (refine step_append_any (by rfl) _ _ _ (by rfl) w2.heap.size 32 i0 (.agg #[.int .i64 0, .bool false, .int .i64 0]) 3 24 Try.underlying27 hi0 hz0 hz1 hz2 rfl (by omega) (.slice A1 i c1) i (row3 (E.take i)) (by rfl) hown1 (.slice (if c = i + 1 then some ⟨g, 0, none⟩ else some ⟨g, (i + 1) * 3, none⟩) (E.length - (i + 1)) (c - (i + 1))) (E.length - (i + 1)) (row3 (E.drop (i + 1))) (by rfl) (by rw [row3_len, List.length_drop]) (HSD.out _ hx3) (row3_one _) (by unfold maxLen; omega) (by omega) hl3 (E.length - 1) (by omega) (row3 (E.take i ++ E.drop (i + 1))) (row3_app _ _).symm ?_; intro A2 c2 w4 hown2 hgrow2 hat2; have hx4 : Ext w2 w4 := grown_ext hx3 hgrow2 (own_base hown1); have d4 : w4.cell? ⟨bw, 0, none⟩ = some (.slice (some ⟨g, 0, none⟩) E.length c) := (hx4.kept (fun _ _ => true)).cell c0 fun _ _ => rfl; obtain ⟨A9, c9, ⟨_, df⟩, _⟩ := (HR.out.ext hx4).src))
    all_goals
      obtain ⟨hQ, hK⟩ := HR.out.store hx4 hown2 (by simp; omega) rfl
      have HG := Lib.hid (fun g (hg : Rowb bw _ g) => Rowb.set HR.out hown2 hx4 hg)
      have HQ := Lib.hid hQ
      have HK := Lib.hid hK
      clear hQ hK c0 f0 d0 d4 df hown1 hgrow1 hat1 hown2 hgrow2 hat2 hx3 hx4
      go_wp2_with fail
      all_goals
        go_ret
        exact ⟨rfl, by rw [HF2.out]; exact HQ.out, HK.out, fun g hg => .inr (HG.out g hg)⟩
  · obtain ⟨e1, e2⟩ := drE_not hno
    have hb := HB.out
    have hF := HF.out
    rw [e2] at hb
    rw [e1] at hF
    subst hb hF
    clear HB HF e1 e2 hno
    go_wp2_with fail
    go_ret
    exact ⟨rfl, HR.out, Kept.refl _ _, fun g hg => .inl hg⟩

/-- What is left behind Take. -/
def tkE (now : Int) (E : List Ent) : List Ent := match duP now E with | none => E | some x => drE E x.task
set_option maxHeartbeats 2000000 in
set_option maxRecDepth 100000 in
theorem refTake_ok (h : RQ bw E W) (ho : Ord E) (hd : Dst E) (hn : E.length ≤ 1000000) {now : Int} :
    Calls Try.prog 25 #[.pointer (some ⟨bw, 0, none⟩), .int .i64 now] W fun e W' => e = .returned (dueW (duP now E)) ∧ RQ bw (tkE now E) W' ∧ Kept (pW bw) W W' := by
  obtain ⟨W1, hW1⟩ : ∃ W1, W1 = W.alloc (itmo 0 false 0) := ⟨_, rfl⟩
  have hE1 : Ext W W1 := by rw [hW1]; exact Ext.one _ _
  have hr0 : W1.heap[W.heap.size]? = some (itmo 0 false 0) := by rw [hW1]; exact World.alloc_heap_new _ _
  have hbl := h.lt
  have hdu := refDue_ok (now := now) (h.ext hE1) ho hn
  have HR := Lib.hid h
  have HE1 := Lib.hid hE1
  have HR0 := Lib.hid hr0
  have HW := Lib.hid hW1
  have HD := Lib.hid hd
  obtain ⟨R, hR⟩ : ∃ R, R = duP now E := ⟨_, rfl⟩
  obtain ⟨F, hF⟩ : ∃ F, F = tkE now E := ⟨_, rfl⟩
  unfold tkE at hF
  rw [← hR] at hdu ⊢
  rw [← hR] at hF
  have e0 : tkE now E = F := by unfold tkE; rw [← hR]; exact hF.symm
  rw [e0]
  clear h ho hE1 hr0 hW1 hR e0 hd
  go_enter Try.func25, Try.ntmps25
  go_wp2_with fail
  change Calls _ _ _ (W.alloc (itmo 0 false 0)) _
  rw [← HW.out]
  refine hdu.mono ?_
  rintro e w2 ⟨rfl, hx⟩
  have HX := Lib.hid hx
  clear hx hdu
  cases R with
  | none =>
    subst hF
    unfold dueW
    have hr2 := (HX.out.kept (fun _ _ => true)).same _ _ HR0.out rfl
    obtain ⟨⟨q0, q1, q2⟩, qf, hls⟩ := itmo_cells hr2
    obtain ⟨w3, hw3⟩ : ∃ w3, w3 = w2.alloc (itmo 0 false 0) := ⟨_, rfl⟩
    have hE3 : Ext w2 w3 := by rw [hw3]; exact Ext.one _ _
    have hr3 := (hE3.kept (fun _ _ => true)).same _ _ hr2 rfl
    have hr4 : w3.heap[w2.heap.size]? = some (itmo 0 false 0) := by rw [hw3]; exact World.alloc_heap_new _ _
    have hls3 : W.heap.size < w3.heap.size := (Array.getElem?_eq_some_iff.1 hr3).1
    obtain ⟨⟨q0', q1', q2'⟩, qf', _⟩ := itmo_cells hr3
    obtain ⟨⟨y0, y1, y2⟩, _, _⟩ := itmo_cells hr4
    have HR3 := Lib.hid hr3
    have HE3 := Lib.hid hE3
    have HW3 := Lib.hid hw3
    clear hr2 hr3 hr4 hE3 hw3
    go_upto_region 2 with (fail)
    change Code.wp _ _ _ _ (w2.alloc (itmo 0 false 0))
    rw [← HW3.out]
    go_wp2_with fail
    obtain ⟨r1, r2⟩ := itm_set (t' := 0) (f' := false) (d' := 0) HR3.out rfl
    have hkx := (HE1.out.trans HX.out).trans HE3.out
    have hk := Kept.trans hkx (r2 (pOld W.heap.size) (oldNot _ _ (Nat.le_refl _) _))
    generalize ((w3.setCell ⟨W.heap.size, 0, none⟩ (.int .i64 0)).setCell ⟨W.heap.size, 1, none⟩ (.bool false)).setCell ⟨W.heap.size, 2, none⟩ (.int .i64 0) = wz at *
    obtain ⟨⟨c0, c1, c2⟩, _⟩ := itmo_cells r1
    refine bodyPost_ret (v := dueW none) (by simp [results, Try.results25, go_sem, c0, c1, c2]; rfl) rfl ?_
    exact ⟨rfl, HR.out.ext hk, (show Ext W wz from hk).kept _⟩
  | some x =>
    dsimp only at hF
    subst hF
    unfold dueW
    have hr2 := (HX.out.kept (fun _ _ => true)).same _ _ HR0.out rfl
    obtain ⟨⟨q0, q1, q2⟩, qf, hls⟩ := itmo_cells hr2
    obtain ⟨w3, hw3⟩ : ∃ w3, w3 = w2.alloc (itmo x.task x.front x.due) := ⟨_, rfl⟩
    have hE3 : Ext w2 w3 := by rw [hw3]; exact Ext.one _ _
    have hr3 := (hE3.kept (fun _ _ => true)).same _ _ hr2 rfl
    have hr4 : w3.heap[w2.heap.size]? = some (itmo x.task x.front x.due) := by rw [hw3]; exact World.alloc_heap_new _ _
    have hls3 : W.heap.size < w3.heap.size := (Array.getElem?_eq_some_iff.1 hr3).1
    obtain ⟨⟨y0, y1, y2⟩, _, _⟩ := itmo_cells hr4
    have hkx := (HE1.out.trans HX.out).trans hE3
    have hdr := refDrop_ok (HR.out.ext hkx) HD.out hn x.task
    have hb1 := HX.out.size
    have HR3 := Lib.hid hr3
    have HR4 := Lib.hid hr4
    have HE3 := Lib.hid hE3
    have HW3 := Lib.hid hw3
    have HKX := Lib.hid hkx
    have HDR := Lib.hid hdr
    clear hr2 hr3 hr4 hE3 hw3 hkx hdr q0 q1 q2 qf
    go_upto_region 2 with (fail)
    change Code.wp _ _ _ _ (w2.alloc (itmo x.task x.front x.due))
    rw [← HW3.out]
    go_wp2_with fail
    refine HDR.out.mono ?_
    rintro e w4 ⟨rfl, hq4, hk4, hg4⟩
    have hg5 : ∀ g, Rowb bw w4 g → g ≠ W.heap.size := fun g hg e => by
      rcases hg4 g hg with h | h
      · have := HR.out.rowb (Rowb.back HR.out HKX.out h); omega
      · omega
    have HG5 := Lib.hid hg5
    have hr5 := hk4.same _ _ HR3.out (by simp [pW]; omega)
    have hr6 := hk4.same _ _ HR4.out (by simp [pW]; omega)
    obtain ⟨⟨z0, z1, z2⟩, zf, zl⟩ := itmo_cells hr5
    obtain ⟨⟨v0, v1, v2⟩, _, _⟩ := itmo_cells hr6
    have HQ4 := Lib.hid hq4
    have HK4 := Lib.hid hk4
    have HR5 := Lib.hid hr5
    clear hg4 hg5 hq4 hk4 hr5 hr6 y0 y1 y2 HDR
    go_wp2_with fail
    obtain ⟨r1, r2⟩ := itm_set (t' := x.task) (f' := x.front) (d' := x.due) HR5.out rfl
    have k4 := Kept.trans (HKX.out.kept (pW bw)) HK4.out
    have k5 : Kept (fun b t => pW bw b t && decide (b < W.heap.size)) W _ := (k4.mono fun b t _ hp => by simp at hp; exact hp.1).trans (r2 _ (by simp))
    have hq := HQ4.out.of2 (r2 (fun b _ => b != W.heap.size) (by simp)) (by simp; omega) (fun g hg => by simpa using HG5.out g hg)
    have hk : Kept (pW bw) W _ := k5.mono fun b t hb hp => by simp [hp, hb]
    clear k4 k5 r2
    generalize ((w4.setCell ⟨W.heap.size, 0, none⟩ (.int .i64 x.task)).setCell ⟨W.heap.size, 1, none⟩ (.bool x.front)).setCell ⟨W.heap.size, 2, none⟩ (.int .i64 x.due) = wz at *
    obtain ⟨⟨c0, c1, c2⟩, _⟩ := itmo_cells r1
    refine bodyPost_ret (v := dueW (some x)) (by simp [results, Try.results25, go_sem, c0, c1, c2]; rfl) rfl ?_
    exact ⟨rfl, hq, hk⟩
end
end Go.Proofs.Ytmbdglolpagjdaa
