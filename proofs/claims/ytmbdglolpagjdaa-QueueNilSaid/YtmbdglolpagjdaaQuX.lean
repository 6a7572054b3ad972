/- The law's list of a queue's items. -/
import Derived.Test.YtmbdglolpagjdaaQuV
import Derived.Test.YtmbdglolpagjdaaQvF
namespace Go.Proofs.Ytmbdglolpagjdaa
open Go.RowKit Go.Shelf
attribute [local go_sem] Oper.semAt_some
@[go_sem] theorem eqnil_func (f : Fn) (a c : Array Value) (w : World) : (binOp .eql 67 (.func f a c) .nilFunc).run Try.prog w = .ok (.bool false) w := by kernel_rfl
/-- Items in a row, its slice in a box. -/
def OutB (B bo : Nat) (P : List Ent) (W : World) : Prop := ∃ v, W.heap[bo]? = some (.cells #[v] 27 (0, 0)) ∧ W.ownsRow B 32 3 v P.length (row3 P)
theorem OutB.of {B bo : Nat} {P : List Ent} {W W' : World} {p : PP} (h : OutB B bo P W) (k : Kept p W W') (h1 : p bo (some 27) = true) (h2 : ∀ b, b < W.heap.size → p b (some 32) = true) : OutB B bo P W' := by
  obtain ⟨v, h3, h4⟩ := h
  refine ⟨v, k.same _ _ h3 h1, h4.1, ?_⟩
  rcases h4.2 with h | ⟨g, cap, cur, e, h5, h6, h7⟩
  · exact .inl h
  · exact .inr ⟨g, cap, cur, e, h5, k.same _ _ h6 (h2 _ (Array.getElem?_eq_some_iff.1 h6).1), h7⟩
/-- One item more. -/
theorem OutB.step {B bo : Nat} {P : List Ent} {x : Ent} {W W1 W2 : World} {v v' : Value} (h1 : W.heap[bo]? = some (.cells #[v] 27 (0, 0))) (h2 : W.ownsRow B 32 3 v P.length (row3 P))
    (hg : W.grownBy W1 v.ownBlock) (ho : W1.ownsRow B 32 3 v' (P.length + 1) (row3 P ++ x.it3)) (hW2 : W2 = W1.setCell ⟨bo, 0, none⟩ v') :
    OutB B bo (P ++ [x]) W2 ∧ ∀ p : PP, (∀ g, B ≤ g → p g (some 32) = false) → p bo (some 27) = false → Kept p W W2 := by
  have kg : ∀ p : PP, (∀ g, B ≤ g → p g (some 32) = false) → Kept p W W1 := fun p hp => Kept.grown hg fun j o e ho => by rw [(own_tag h2 j o e ho).1]; exact hp j (own_tag h2 j o e ho).2
  have hb1 := (kg (fun _ t => t != some 32) (by simp)).same _ _ h1 (by simp [tag])
  obtain ⟨h3, k3⟩ := set1 hb1 v'
  subst hW2
  refine ⟨⟨v', h3, ?_⟩, fun p hp hp2 => (kg p hp).trans (k3 p hp2)⟩
  rw [row3_snoc, List.length_append]
  refine (k3 (fun b _ => b != bo) (by simp)).row ho fun g hv => ?_
  obtain ⟨o, ho1, ho2⟩ := own_is ho g hv
  simp
  intro e; subst e
  rw [hb1] at ho1; cases ho1; cases ho2
theorem wpListIn_append_any {F : Fence} {n0 : Nat} {P : Program} {w : World} {ops : Array Oper} {rest : List Oper} {o : Oper} {a : Act} {Q : Exit → Act → World → Prop} (hgd : o.guard = none) (s x : Operand) (t : TypeId)
    (ho : o.op = Op.call { callee := Callee.builtin Builtin.append, args := #[s, x], argTypes := #[t, t] }) (base : Nat) (e : TypeId) (i : TypeInfo) (z : Value) (size bytes : Nat) (ht : P.underlying t = some (.slice e)) (hi : P.info? e = some i) (hz : i.zero = some z) (hsize : i.size = size) (hby : i.bytes = bytes)
    (hzs : z.cells.size = size) (hsz : 0 < size) (v : Value) (n : Nat) (xs : List Value) (hs : a.eval s = v) (hown : w.ownsRow base e size v n xs) (xv : Value) (m : Nat) (news : List Value) (hx : a.eval x = xv) (hl : news.length = m * size) (hsrc : Src w xv m news) (h1 : ∀ u ∈ news, u.oneCell' = true)
    (h63 : n + m ≤ maxLen) (hbytes : (n + m) * bytes ≤ 140737488355328) (hbase : base ≤ w.heap.size) (T : Nat) (hT : n + m = T) (ys : List Value) (hY : xs ++ news = ys)
    (h : ∀ A c w', w'.ownsRow base e size (.slice A T c) T ys → w.grownBy w' v.ownBlock → ((Value.slice A T c).ownBlock = v.ownBlock ∨ (Value.slice A T c).ownBlock = some w.heap.size) → wpListIn F n0 P ops Q rest (a.put o.dst (.slice A T c)) w') :
    wpListIn F n0 P ops Q (o :: rest) a w := by
  subst hT hY
  refine wpListIn_plain hgd fun K hK => ?_
  obtain ⟨A, c, w', hrun, h2, h3, h4⟩ := run_append_any w base t o.type e i z size bytes ht hi hz hsize hby hzs hsz v n xs hown xv m news hl hsrc h1 h63 hbytes hbase
  unfold Oper.wpIn
  refine ⟨?_, ?_⟩
  · simp [Oper.about, ho, resolve, Target.leads, Sem.run_pure]
  · rw [Oper.semAt_plain F _ _ (by rw [ho]; intro c hc'; cases hc')]
    simp [execOp, ho, resolve, invoke, builtin, hs, hx, hrun, Result.andThen]
    exact hK _ _ (h A c w' h2 h3 h4)
section
variable {l : List Ent} {qv : Value} {most : Int}
set_option maxHeartbeats 1000000 in
set_option maxRecDepth 100000 in
theorem list_ok (ht : Tri l) (hh : Heap eLt (nth l) l.length) (hsm : l.length ≤ 900000) (W : World) (hE : EV qv l W) :
    Calls Try.prog 19 #[qv, .int .i64 most] W fun e W' => ∃ P A c, P = (if 0 < most then (srt l).take most.toNat else srt l) ∧ e = .returned (.tuple #[.slice A P.length c, .bool true]) ∧ Ext W W' ∧ W'.ownsRow W.heap.size 32 3 (.slice A P.length c) P.length (row3 P) := by
  obtain ⟨q, rfl⟩ := hE.ptr
  obtain ⟨i0, hi0, hz0, hz1, hz2⟩ := info_parts infoItem
  refine (callsIn_wide (n := 3)).1 (callsIn_of_wp_marks (F := Fence.wide) Try.func19 rfl trivial ?_ rfl)
  simp only [Try.ntmps19, List.size_toArray, List.length_cons, List.length_nil, Nat.reduceAdd, Nat.reduceSub, Array.replicate_succ, Array.replicate_zero, List.push_toArray, List.append_toArray, List.nil_append, List.cons_append]
  obtain ⟨W1, hW1⟩ : ∃ W1, W1 = (W.alloc (.cells #[.int .i64 most] 3 (0, 0))).alloc (.cells #[.slice none 0 0] 27 (0, 0)) := ⟨_, rfl⟩
  have hE1 : Ext W W1 := by rw [hW1]; exact Ext.two _ _ _
  have hs1 : W1.heap.size = W.heap.size + 2 := by rw [hW1]; simp
  have hr0 : W1.heap[W.heap.size]? = some (.cells #[.int .i64 most] 3 (0, 0)) := by rw [hW1]; exact (Below.heap_alloc _ _ _ (by simp)).trans (World.alloc_heap_new _ _)
  have hr1 : W1.heap[W.heap.size + 1]? = some (.cells #[.slice none 0 0] 27 (0, 0)) := by rw [hW1]; have := World.alloc_heap_new (W.alloc (.cells #[.int .i64 most] 3 (0, 0))) (.cells #[.slice none 0 0] 27 (0, 0)); rwa [World.size_alloc] at this
  have hall := All_ok W1 (hE.ext hE1) hsm
  have HW := Lib.hid hW1
  have HE1 := Lib.hid hE1
  have HALL := Lib.hid hall
  have HR0 := Lib.hid hr0
  have HR1 := Lib.hid hr1
  have HS1 := Lib.hid hs1
  clear hW1 hE1 hr0 hr1 hall hE hs1
  generalize hQ : bodyPostM Fence.wide 3 Try.prog _ _ = Q
  have HQ := Lib.hid hQ
  clear hQ
  gi_wp2
  refine ⟨trivial, ?_⟩
  change CallsIn _ _ _ _ _ ((W.alloc (.cells #[.int .i64 most] 3 (0, 0))).alloc (.cells #[.slice none 0 0] 27 (0, 0))) _
  rw [← HW.out]
  refine callsIn_wide.2 (HALL.out.mono ?_)
  rintro e w2 ⟨bl, A, c, rfl, hx2, hbl, hbl2, how2⟩
  have HX2 := Lib.hid hx2
  have HBL := Lib.hid hbl
  have HBL2 := Lib.hid hbl2
  have HOW2 := Lib.hid how2
  clear hx2 hbl hbl2 how2
  gi_wp2
  have hK := Ext.trans HE1.out HX2.out
  have hKx := HX2.out.kept (fun _ _ => true)
  have hm2 := hKx.same _ _ HR0.out rfl
  have ho2 := hKx.same _ _ HR1.out rfl
  have hs2 : W.heap.size + 2 ≤ w2.heap.size := by have := HX2.out.size; have := HS1.out; omega
  have hseq := all_seq (bl := bl) ht hh hsm w2 A c HBL2.out (own_zero HOW2.out)
  refine range_q (a := ⟨#[.pointer q, .int .i64 most, undef, .pointer (some ⟨W.heap.size, 0, none⟩), .slice none 0 0, .bool false, .pointer (some ⟨W.heap.size + 1, 0, none⟩), .func (.func 45) #[] #[.pointer (some ⟨bl, 0, none⟩)], undef, .pointer q, .func (.func 45) #[] #[.pointer (some ⟨bl, 0, none⟩)], .func (.func 45) #[] #[.pointer (some ⟨bl, 0, none⟩)], .bool false, .func (.func 45) #[] #[.pointer (some ⟨bl, 0, none⟩)], undef, undef, undef, undef, undef, undef, undef, undef, undef, undef], []⟩)
    (gf := 45) (lb := #[.pointer (some ⟨bl, 0, none⟩)]) rfl eg45 hseq (fun _ => rfl)
    (fun pre W' => OutB W.heap.size (W.heap.size + 1) pre W' ∧ Kept (pOld W.heap.size) W W' ∧ W'.heap[W.heap.size]? = some (.cells #[.int .i64 most] 3 (0, 0)) ∧ (0 < most → (pre.length : Int) < most))
    (fun c pre W' => c = .exit 0 ∧ OutB W.heap.size (W.heap.size + 1) pre W' ∧ Kept (pOld W.heap.size) W W' ∧ (pre.length : Int) = most)
    (fun s X Y h k => ⟨h.1.of k (by simp [pR]) (fun b _ => by simp [pR]), rOld h.2.1 k (by omega), k.same _ _ h.2.2.1 (pR_low (by omega) _), h.2.2.2⟩)
    (fun c s X Y h k => ⟨h.1, h.2.1.of k (by simp [pR]) (fun b _ => by simp [pR]), rOld h.2.2.1 k (by omega), h.2.2.2⟩)
    ⟨⟨_, ho2, World.ownsRow_nil _ _ _ _⟩, hK, hm2, fun h => by simpa using h⟩
    (fun x a' W' => ∃ bx, a' = ⟨#[.pointer q, .int .i64 most, undef, .pointer (some ⟨W.heap.size, 0, none⟩), .slice none 0 0, .bool false, .pointer (some ⟨W.heap.size + 1, 0, none⟩), .func (.func 45) #[] #[.pointer (some ⟨bl, 0, none⟩)], .pointer (some ⟨bx, 0, none⟩), .pointer q, .func (.func 45) #[] #[.pointer (some ⟨bl, 0, none⟩)], .func (.func 45) #[] #[.pointer (some ⟨bl, 0, none⟩)], .bool false, .func (.func 45) #[] #[.pointer (some ⟨bl, 0, none⟩)], x.it, undef, undef, undef, undef, undef, undef, undef, undef, undef], []⟩ ∧ W'.heap[bx]? = some (ito x))
    (fun x a' X Y ⟨bx, e, h⟩ k => ⟨bx, e, k.same _ _ h (by simp [pR, tag, ito])⟩)
    ?assign ?body ?done ?stop
  case assign =>
    rintro lq pre x W' K hI hpre hK
    have HKK := Lib.hid hK
    have HI := Lib.hid hI
    clear hK hI
    unfold Ent.it itV
    gi_wp2
    have h := HI.out
    exact HKK.out _ _ (Kept.alloc _ _ _) ⟨h.1.of (Kept.alloc (fun _ _ => true) _ _) rfl (fun _ _ => rfl), h.2.1.trans (Kept.alloc _ _ _), (Kept.alloc (fun _ _ => true) W' _).same _ _ h.2.2.1 rfl, h.2.2.2⟩ ⟨_, rfl, World.alloc_heap_new _ _⟩
  case body =>
    rintro lq pre x a' W' hlq hpre hI ⟨bx, rfl, hbx⟩
    obtain ⟨⟨v, hv1, hv2⟩, hIk, hIm, hIl⟩ := hI
    obtain ⟨A1, c1, rfl⟩ := own_slice3 hv2
    obtain ⟨x0, x1, x2⟩ := ito_cells hbx
    have b0 : W'.cell? ⟨W.heap.size + 1, 0, none⟩ = some (.slice A1 pre.length c1) := by simp [World.cell?, hv1]
    have hl0 := (Array.getElem?_eq_some_iff.1 hv1).1
    have hpl : pre.length + 1 ≤ l.length := by have := hpre.length_le; rw [(srt_perm l).length_eq] at this; simpa using this
    have hbl : W.heap.size ≤ W'.heap.size := hIk.size
    have HV1 := Lib.hid hv1
    have HV2 := Lib.hid hv2
    have HIK := Lib.hid hIk
    have HIM := Lib.hid hIm
    have HIL := Lib.hid hIl
    have HT := Lib.hid ht
    clear hv1 hv2 hIk hIm hIl hbx hm2 ho2 hKx hseq hpre ht hh
    by_cases hmo : (pre.length : Int) + 1 = most
    · have hq : ((pre.length : Int) + 1 == most) = true := by simpa using hmo
      have HMO := Lib.hid hmo
      clear hmo
      gi_wp2_with (gi_at_builtin; refine wpListIn_append_any rfl _ _ 27 rfl W.heap.size 32 i0 (.agg #[.int .i64 0, .bool false, .int .i64 0]) 3 24 Try.underlying27 hi0 hz0 hz1 hz2 rfl (by decide) (.slice A1 pre.length c1) pre.length (row3 pre) rfl (HV2.out.alloc _) (.slice (some ⟨W'.heap.size, 0, none⟩) 1 1) 1 x.it3 rfl rfl (Src.new (heap_alloc_new W' _)) (it3_one x) (by unfold maxLen; omega) (by omega) (by simp; omega) (pre.length + 1) rfl (row3 pre ++ x.it3) rfl ?_; intro A4 c4 w4 hown4 hgrow4 hat4; have hk4 : Kept (fun _ t => t != some 32) W' w4 := (Kept.alloc _ _ _).trans (Kept.grown hgrow4 fun j o e ho => (by rw [(own_tag (HV2.out.alloc _) j o e ho).1]; rfl)); have hv4 := hk4.same _ _ HV1.out rfl; have hm4 := hk4.same _ _ HIM.out rfl; have b4 : w4.cell? ⟨W.heap.size + 1, 0, none⟩ = some (.slice A1 pre.length c1) := (by simp [World.cell?, hv4]); have f4 := frozen_of_row w4 (W.heap.size + 1) 0 _ _ hv4; have m4 : w4.cell? ⟨W.heap.size, 0, none⟩ = some (.int .i64 most) := (by simp [World.cell?, hm4]); have hl4 := (Array.getElem?_eq_some_iff.1 hv4).1; have HSTEP := Lib.hid (OutB.step ((Kept.alloc (fun _ _ => true) W' (ito x)).same _ _ HV1.out rfl) (HV2.out.alloc (ito x)) hgrow4 hown4 rfl); clear hk4 hv4 hm4 hown4 hgrow4 hat4)
      gi_wp2
      obtain ⟨r1, r2⟩ := HSTEP.out
      refine ⟨?_, rfl, r1, ?_, by simpa using HMO.out⟩
      · exact (Kept.alloc _ _ _).trans (r2 _ (fun g _ => rfl) rfl)
      · exact (HIK.out.trans (Kept.alloc _ _ _)).trans (r2 _ (fun g hg => by simp [pOld]; omega) (by simp [pOld]))
    · have hq : ((pre.length : Int) + 1 == most) = false := by simpa using hmo
      have HMO := Lib.hid hmo
      clear hmo
      gi_wp2_with (gi_at_builtin; refine wpListIn_append_any rfl _ _ 27 rfl W.heap.size 32 i0 (.agg #[.int .i64 0, .bool false, .int .i64 0]) 3 24 Try.underlying27 hi0 hz0 hz1 hz2 rfl (by decide) (.slice A1 pre.length c1) pre.length (row3 pre) rfl (HV2.out.alloc _) (.slice (some ⟨W'.heap.size, 0, none⟩) 1 1) 1 x.it3 rfl rfl (Src.new (heap_alloc_new W' _)) (it3_one x) (by unfold maxLen; omega) (by omega) (by simp; omega) (pre.length + 1) rfl (row3 pre ++ x.it3) rfl ?_; intro A4 c4 w4 hown4 hgrow4 hat4; have hk4 : Kept (fun _ t => t != some 32) W' w4 := (Kept.alloc _ _ _).trans (Kept.grown hgrow4 fun j o e ho => (by rw [(own_tag (HV2.out.alloc _) j o e ho).1]; rfl)); have hv4 := hk4.same _ _ HV1.out rfl; have hm4 := hk4.same _ _ HIM.out rfl; have b4 : w4.cell? ⟨W.heap.size + 1, 0, none⟩ = some (.slice A1 pre.length c1) := (by simp [World.cell?, hv4]); have f4 := frozen_of_row w4 (W.heap.size + 1) 0 _ _ hv4; have m4 : w4.cell? ⟨W.heap.size, 0, none⟩ = some (.int .i64 most) := (by simp [World.cell?, hm4]); have hl4 := (Array.getElem?_eq_some_iff.1 hv4).1; have HSTEP := Lib.hid (OutB.step ((Kept.alloc (fun _ _ => true) W' (ito x)).same _ _ HV1.out rfl) (HV2.out.alloc (ito x)) hgrow4 hown4 rfl); clear hk4 hv4 hm4 hown4 hgrow4 hat4)
      gi_wp2
      obtain ⟨r1, r2⟩ := HSTEP.out
      refine ⟨?_, r1, ?_, ?_, fun h => ?_⟩
      · exact (Kept.alloc _ _ _).trans (r2 _ (fun g _ => rfl) rfl)
      · exact (HIK.out.trans (Kept.alloc _ _ _)).trans (r2 _ (fun g hg => by simp [pOld]; omega) (by simp [pOld]))
      · exact ((Kept.alloc (fun b t => t != some 32 && b != W.heap.size + 1) _ _).trans (r2 _ (by simp) (by simp))).same _ _ HIM.out (by simp [tag])
      · have h1 := HIL.out h
        have h2 := HMO.out
        simp; omega
  case done =>
    rintro W' ⟨hO, hk, _, hlm⟩ hD
    obtain ⟨v, hv1, hv2⟩ := hO
    obtain ⟨A1, c1, rfl⟩ := own_slice3 hv2
    have b0 : W'.cell? ⟨W.heap.size + 1, 0, none⟩ = some (.slice A1 (srt l).length c1) := by simp [World.cell?, hv1]
    have HV2 := Lib.hid hv2
    have HKK := Lib.hid hk
    have HDD := Lib.hid hD
    have hP : (srt l) = (if 0 < most then (srt l).take most.toNat else srt l) := by
      split
      · rw [List.take_of_length_le]
        have := hlm ‹_›
        omega
      · rfl
    have HP := Lib.hid hP
    clear hv1 hv2 hk hD hm2 ho2 hKx hseq hP hlm
    gi_wp2
    rw [← HQ.out]
    refine leave1 HDD.out ⟨.tuple #[.slice A1 (srt l).length c1, .bool true], by simp [results, Try.results19, go_sem], srt l, A1, c1, HP.out, rfl, putOld HKK.out (by omega), ?_⟩
    exact (Kept.putObj (p := fun _ t => t.isSome) (o' := .deferred none) fun o ho => by rw [dtag HDD.out o ho]; rfl).row HV2.out fun _ _ => rfl
  case stop =>
    rintro c pre x W' hpre ⟨rfl, hO, hk, hlm⟩ hD
    obtain ⟨v, hv1, hv2⟩ := hO
    obtain ⟨A1, c1, rfl⟩ := own_slice3 hv2
    have b0 : W'.cell? ⟨W.heap.size + 1, 0, none⟩ = some (.slice A1 (pre ++ [x]).length c1) := by simp [World.cell?, hv1]
    have HV2 := Lib.hid hv2
    have HKK := Lib.hid hk
    have HDD := Lib.hid hD
    have hP : (pre ++ [x]) = (if 0 < most then (srt l).take most.toNat else srt l) := by
      rw [if_pos (by have : 0 < (pre ++ [x]).length := (by simp); omega)]
      have h1 := List.prefix_iff_eq_take.1 hpre
      rw [h1]
      congr 1
      rw [← hlm]; simp
    have HP := Lib.hid hP
    clear hv1 hv2 hk hD hm2 ho2 hKx hseq hP hlm hpre
    gi_wp2
    rw [← HQ.out]
    refine leave1 HDD.out ⟨.tuple #[.slice A1 (pre ++ [x]).length c1, .bool true], by simp [results, Try.results19, go_sem], pre ++ [x], A1, c1, HP.out, rfl, putOld HKK.out (by omega), ?_⟩
    exact (Kept.putObj (p := fun _ t => t.isSome) (o' := .deferred none) fun o ho => by rw [dtag HDD.out o ho]; rfl).row HV2.out fun _ _ => rfl
end
end Go.Proofs.Ytmbdglolpagjdaa
