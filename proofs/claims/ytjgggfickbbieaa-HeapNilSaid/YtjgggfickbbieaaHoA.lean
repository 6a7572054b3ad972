/- A heap that is not there. -/
import Derived.Test.YtjgggfickbbieaaHnA
import Derived.Test.YtjgggfickbbieaaHmC
namespace Go.Proofs.Ytjgggfickbbieaa
open Go.RowKit Go.Shelf
attribute [local go_sem] Oper.semAt_some
@[go_sem] theorem eqp_none (b : Nat) (w : World) : (binOp .eql 25 (.pointer none) (.pointer (some ⟨b, 0, none⟩))).run Try.prog w = .ok (.bool false) w := by kernel_rfl
set_option maxRecDepth 100000 in
theorem nilFind (W : World) (id : Int) : Calls Try.prog 40 #[.pointer none, .int .i64 id] W fun e W' => e = .returned (.tuple #[.pointer none, .int .i64 1]) ∧ W' = W := by
  go_enter Try.func40, Try.ntmps40
  go_wp2_with fail
  exact bodyPost_ret (v := .tuple #[.pointer none, .int .i64 1]) (by simp [results, Try.results40, go_sem]) rfl ⟨rfl, rfl⟩
set_option maxRecDepth 100000 in
theorem nilValue (W : World) (id i : Int) : Calls Try.prog 42 #[.pointer none, .int .i64 id, .int .i64 i] W fun e W' => e = .returned (.tuple #[.pointer none, .int .i64 1]) ∧ W' = W := by
  have HF := Lib.hid (nilFind W id)
  go_enter Try.func42, Try.ntmps42
  go_wp2_with (go_at_call 40; refine HF.out.mono ?_; rintro e w2 ⟨rfl, rfl⟩)
  exact bodyPost_ret (v := .tuple #[.pointer none, .int .i64 1]) (by simp [results, Try.results42, go_sem]) rfl ⟨rfl, rfl⟩
set_option maxRecDepth 100000 in
theorem nilGet (W : World) (id i : Int) : Calls Try.prog 20 #[.pointer none, .int .i64 id, .int .i64 i] W fun e W' => e = .returned (.tuple #[.int .i64 0, .int .i64 1]) ∧ W' = W := by
  have HF := Lib.hid (nilValue W id i)
  go_enter Try.func20, Try.ntmps20
  go_wp2_with (go_at_call 42; refine HF.out.mono ?_; rintro e w2 ⟨rfl, rfl⟩)
  exact bodyPost_ret (v := .tuple #[.int .i64 0, .int .i64 1]) (by simp [results, Try.results20, go_sem]) rfl ⟨rfl, rfl⟩
set_option maxRecDepth 100000 in
theorem nilSet (W : World) (id i z : Int) : Calls Try.prog 21 #[.pointer none, .int .i64 id, .int .i64 i, .int .i64 z] W fun e W' => e = .returned (.int .i64 1) ∧ W' = W := by
  have HF := Lib.hid (nilValue W id i)
  go_enter Try.func21, Try.ntmps21
  go_wp2_with (go_at_call 42; refine HF.out.mono ?_; rintro e w2 ⟨rfl, rfl⟩)
  go_ret
  exact ⟨rfl, rfl⟩
set_option maxRecDepth 100000 in
theorem nilIs (W : World) (id k : Int) : Calls Try.prog 22 #[.pointer none, .int .i64 id, .int .i64 k] W fun e W' => e = .returned (.bool false) ∧ W' = W := by
  have HF := Lib.hid (nilFind W id)
  go_enter Try.func22, Try.ntmps22
  go_wp2_with (go_at_call 40; refine HF.out.mono ?_; rintro e w2 ⟨rfl, rfl⟩)
  go_ret
  exact ⟨rfl, rfl⟩
set_option maxRecDepth 100000 in
theorem nilLen (W : World) (id : Int) : Calls Try.prog 23 #[.pointer none, .int .i64 id] W fun e W' => e = .returned (.int .i64 0) ∧ W' = W := by
  have HF := Lib.hid (nilFind W id)
  go_enter Try.func23, Try.ntmps23
  go_wp2_with (go_at_call 40; refine HF.out.mono ?_; rintro e w2 ⟨rfl, rfl⟩)
  go_ret
  exact ⟨rfl, rfl⟩
set_option maxRecDepth 100000 in
theorem nilCount (W : World) : Calls Try.prog 18 #[.pointer none] W fun e W' => e = .returned (.int .i64 0) ∧ W' = W := by
  go_enter Try.func18, Try.ntmps18
  go_wp2_with fail
  go_ret
  exact ⟨rfl, rfl⟩
set_option maxRecDepth 100000 in
theorem nilCopy (W : World) : Calls Try.prog 12 #[.pointer none] W fun e W' => e = .returned (.pointer none) ∧ W' = W := by
  go_enter Try.func12, Try.ntmps12
  go_wp2_with fail
  go_ret
  exact ⟨rfl, rfl⟩
set_option maxRecDepth 100000 in
theorem nilMake (W : World) (k o s si b : Int) : Calls Try.prog 16 #[.pointer none, .int .i64 k, .int .i64 o, .int .i64 s, .int .i64 si, .int .i64 b] W fun e W' => e = .returned (.tuple #[.int .i64 0, .int .i64 1]) ∧ W' = W := by
  go_enter Try.func16, Try.ntmps16
  go_wp2_with fail
  exact bodyPost_ret (v := .tuple #[.int .i64 0, .int .i64 1]) (by simp [results, Try.results16, go_sem]) rfl ⟨rfl, rfl⟩
set_option maxRecDepth 100000 in
theorem nilClosure (W : World) (o si b : Int) (A : Option Addr) (m c : Nat) : Calls Try.prog 19 #[.pointer none, .int .i64 o, .slice A m c, .int .i64 si, .int .i64 b] W fun e W' => e = .returned (.tuple #[.int .i64 0, .int .i64 1]) ∧ W' = W := by
  go_enter Try.func19, Try.ntmps19
  go_wp2_with fail
  exact bodyPost_ret (v := .tuple #[.int .i64 0, .int .i64 1]) (by simp [results, Try.results19, go_sem]) rfl ⟨rfl, rfl⟩
set_option maxRecDepth 100000 in
theorem nilSame (W : World) : Calls Try.prog 14 #[.pointer none, .pointer none] W fun e W' => e = .returned (.bool true) ∧ W' = W := by
  go_enter Try.func14, Try.ntmps14
  go_wp2_with fail
  exact bodyPost_ret (v := .bool true) (by simp [results, Try.results14, go_sem]) rfl ⟨rfl, rfl⟩
set_option maxRecDepth 100000 in
theorem nilSome (W : World) (b : Nat) : Calls Try.prog 14 #[.pointer none, .pointer (some ⟨b, 0, none⟩)] W fun e W' => e = .returned (.bool false) ∧ W' = W := by
  go_enter Try.func14, Try.ntmps14
  go_wp2_with fail
  exact bodyPost_ret (v := .bool false) (by simp [results, Try.results14, go_sem]) rfl ⟨rfl, rfl⟩
set_option maxRecDepth 100000 in
theorem someNil (W : World) (b : Nat) : Calls Try.prog 14 #[.pointer (some ⟨b, 0, none⟩), .pointer none] W fun e W' => e = .returned (.bool false) ∧ W' = W := by
  go_enter Try.func14, Try.ntmps14
  go_wp2_with fail
  exact bodyPost_ret (v := .bool false) (by simp [results, Try.results14, go_sem]) rfl ⟨rfl, rfl⟩
set_option maxHeartbeats 1000000 in
set_option maxRecDepth 100000 in
theorem nilObject (W : World) (id : Int) : Calls Try.prog 17 #[.pointer none, .int .i64 id] W fun e W' => e = .returned (.tuple #[.agg #[.int .i64 0, .int .i64 0, .slice none 0 0, .int .i64 0, .int .i64 0, .int .i64 0], .int .i64 1]) ∧ Ext W W' := by
  obtain ⟨W1, hW1⟩ : ∃ W1, W1 = W.alloc zeroO := ⟨_, rfl⟩
  have hE1 : Ext W W1 := by rw [hW1]; exact Ext.one _ _
  have hr0 : W1.heap[W.heap.size]? = some (obo ⟨0, 0, .slice none 0 0, [], 0, 0, 0⟩ 0) := by rw [hW1]; exact World.alloc_heap_new _ _
  have HF := Lib.hid (nilFind W1 id)
  have hsz : W.heap.size < W1.heap.size := by rw [hW1]; simp
  obtain ⟨⟨z0, z1, z2, z3, z4, z5⟩, zf, zl⟩ := obo_cells hr0
  dsimp only at z0 z1 z2 z3 z4 z5
  have HE1 := Lib.hid hE1
  have HR0 := Lib.hid hr0
  have HW := Lib.hid hW1
  clear hE1 hr0 hW1
  go_enter Try.func17, Try.ntmps17
  go_upto_region 1 with (fail)
  change Code.wp _ _ _ _ (W.alloc zeroO)
  rw [← HW.out]
  go_wp2_with (go_at_call 40; refine HF.out.mono ?_; rintro e w2 ⟨rfl, rfl⟩)
  obtain ⟨p1, p2⟩ := obo_put HR0.out ⟨0, 0, .slice none 0 0, [], 0, 0, 0⟩ 0
  dsimp only [obW] at p1 p2
  generalize (((((w2.setCell ⟨W.heap.size, 0, none⟩ (.int .i64 0)).setCell ⟨W.heap.size, 1, none⟩ (.int .i64 0)).setCell ⟨W.heap.size, 2, none⟩ (.slice none 0 0)).setCell ⟨W.heap.size, 3, none⟩ (.int .i64 0)).setCell ⟨W.heap.size, 4, none⟩ (.int .i64 0)).setCell ⟨W.heap.size, 5, none⟩ (.int .i64 0) = w4 at *
  obtain ⟨⟨u0, u1, u2, u3, u4, u5⟩, _, _⟩ := obo_cells p1
  dsimp only at u0 u1 u2 u3 u4 u5
  refine bodyPost_ret (v := .tuple #[.agg #[.int .i64 0, .int .i64 0, .slice none 0 0, .int .i64 0, .int .i64 0, .int .i64 0], .int .i64 1]) (by simp [results, Try.results17, go_sem, u0, u1, u2, u3, u4, u5]) rfl ?_
  exact ⟨rfl, Kept.trans HE1.out (p2.mono fun b t hb hp => by simp [pOld] at hp; simp; omega)⟩
section
variable {bl : Nat} {enc : Nat → Array Value → World → Prop} {K : Array Value → Nat → TypeId → Bool} {w : World}
set_option maxRecDepth 100000 in
theorem each_nil (hbl : w.heap[bl]? = some (.cells #[.pointer none] 25 (0, 0))) : Seq 46 #[.pointer (some ⟨bl, 0, none⟩)] enc K 0 w := by
  intro n lp J Jx W hW hJ hJx hY h0
  have hx : Ext w W := hW
  have h2 := (hx.kept (fun _ _ => true)).same _ _ hbl rfl
  have c0 : W.cell? ⟨bl, 0, none⟩ = some (.pointer none) := by simp [World.cell?, h2]
  have H0 := Lib.hid h0
  clear hW hx h2 hJ hJx hY h0 hbl
  refine callsIn_of_wp Try.func46 rfl trivial ?_ rfl
  simp only [Try.ntmps46, List.size_toArray, List.length_cons, List.length_nil, Nat.reduceAdd, Nat.reduceSub, Array.replicate_succ, Array.replicate_zero, List.push_toArray, List.append_toArray, List.nil_append, List.cons_append]
  gi_wp2
  refine bodyPost_ret (results_none rfl _ _ _) rfl ?_
  exact ⟨⟨_, rfl⟩, .inl H0.out⟩
set_option maxHeartbeats 1000000 in
set_option maxRecDepth 100000 in
theorem all_nil (hbl : w.heap[bl]? = some (.cells #[.pointer none] 25 (0, 0))) : Seq 43 #[.pointer (some ⟨bl, 0, none⟩)] enc K 0 w := by
  intro n lp J Jx W hW hJ hJx hY h0
  have hx : Ext w W := hW
  have h1 := (hx.kept (fun _ _ => true)).same _ _ hbl rfl
  have c0 : W.cell? ⟨bl, 0, none⟩ = some (.pointer none) := by simp [World.cell?, h1]
  have hbl1 := (Array.getElem?_eq_some_iff.1 h1).1
  refine callsIn_of_wp_marks (F := Fence.wide) Try.func43 rfl trivial ?_ rfl
  simp only [Try.ntmps43, List.size_toArray, List.length_cons, List.length_nil, Nat.reduceAdd, Nat.reduceSub, Array.replicate_succ, Array.replicate_zero, List.push_toArray, List.append_toArray, List.nil_append, List.cons_append]
  obtain ⟨w1, hW1⟩ : ∃ W1, W1 = W.alloc (.cells #[.func (.yield lp) #[] #[]] 87 (0, 0)) := ⟨_, rfl⟩
  have hE1 : Ext W w1 := by rw [hW1]; exact Ext.one _ _
  have HW := Lib.hid hW1
  have HJ := Lib.hid hJ
  have H0 := Lib.hid h0
  have HE1 := Lib.hid hE1
  clear hW hW1 hY hJ hJx h0 hE1 hx hbl h1
  generalize hQ : bodyPostM Fence.wide n Try.prog _ _ = Q
  have HQ := Lib.hid hQ
  clear hQ
  gi_wp2
  refine ⟨trivial, fun h => by simp [Fence.wide] at h, ?_⟩
  change CallsIn _ _ _ _ _ (W.alloc (.cells #[.func (.yield lp) #[] #[]] 87 (0, 0))) _
  rw [← HW.out]
  refine callsIn_wide.2 ((nilCopy w1).mono ?_)
  rintro e w2 ⟨rfl, hw2⟩
  rw [hw2]
  clear hw2
  gi_wp2
  refine ⟨trivial, fun h => by simp [Fence.wide] at h, ?_⟩
  refine callsIn_wide.2 ((each_ok none w1).mono ?_)
  rintro e w3 ⟨rfl, hw3⟩
  have hx3 : Ext w1 w3 := by rw [hw3]; exact Ext.one _ _
  have hbl3 : w3.heap[w1.heap.size]? = some (.cells #[.pointer none] 25 (0, 0)) := by rw [hw3]; exact World.alloc_heap_new _ _
  clear hw3
  gi_wp2
  have hxW3 : Ext W w3 := HE1.out.trans hx3
  have hsz3 := hxW3.size
  have hJ3 : J 0 w3 := HJ.out 0 _ _ H0.out (hxW3.kept _)
  refine range_q (gf := 46) (lb := #[.pointer (some ⟨w1.heap.size, 0, none⟩)]) rfl egEach (each_nil (enc := fun _ x _ => x.size = 2) (K := fun _ _ _ => true) hbl3) (fun k x W' hx => hx)
    (fun k W' => J 0 W')
    (fun c k W' => False)
    (fun s X Y h k => (HJ.out 0).le hsz3 _ _ h k)
    (fun c s X Y h k => h.elim)
    hJ3
    (fun k x a' W' => True)
    (fun k x a' X Y h _ => h)
    (fun l k x W C hk => absurd hk (Nat.not_lt_zero _)) (fun l k x a' W hl hk => absurd hk (Nat.not_lt_zero _)) ?done (fun c k W' hk => absurd hk (Nat.not_lt_zero _))
  case done =>
    intro W' hj hD
    show Q _ _ _
    rw [← HQ.out]
    exact leave1 hD ⟨.tuple #[], by simp [results, Try.results43, go_sem], ⟨_, rfl⟩, .inl ((HJ.out _).putObj _ hj hsz3 (dtag hD))⟩
end
end Go.Proofs.Ytjgggfickbbieaa
