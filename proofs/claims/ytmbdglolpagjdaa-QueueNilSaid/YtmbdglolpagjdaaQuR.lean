/- Entries of a queue that may not be there; those that are due, gone over. -/
import Derived.Test.YtmbdglolpagjdaaQuQ
namespace Go.Proofs.Ytmbdglolpagjdaa
open Go.RowKit Go.Shelf
attribute [local go_sem] Oper.semAt_some

/-- What a queue's entries are, of one that is there or not. -/
def EV (qv : Value) (l : List Ent) (W : World) : Prop :=
  (qv = .pointer none ∧ l = []) ∨ ∃ bq v mv pu, qv = .pointer (some ⟨bq, 0, none⟩) ∧ W.heap[bq]? = some (.cells #[v, mv, .int .i64 pu] 59 (0, 0)) ∧ W.ownsRow 0 63 4 v l.length (row4 l)
theorem EV.of {p : PP} {qv : Value} {l : List Ent} {W W' : World} (h : EV qv l W) (k : Kept p W W') (hp : ∀ b, b < W.heap.size → p b (some 59) = true ∧ p b (some 63) = true) : EV qv l W' := by
  rcases h with h | ⟨bq, v, mv, pu, h1, h2, h3⟩
  · exact .inl h
  · refine .inr ⟨bq, v, mv, pu, h1, k.same _ _ h2 (hp _ (Array.getElem?_eq_some_iff.1 h2).1).1, ?_⟩
    refine ⟨h3.1, ?_⟩
    rcases h3.2 with h | ⟨g, cap, cur, e, h4, h5, h6⟩
    · exact .inl h
    · exact .inr ⟨g, cap, cur, e, h4, k.same _ _ h5 (hp _ (Array.getElem?_eq_some_iff.1 h5).1).2, h6⟩
theorem EV.ext {qv : Value} {l : List Ent} {W W' : World} (h : EV qv l W) (k : Ext W W') : EV qv l W' := EV.of h k fun b hb => by simp [pOld, hb]
theorem EV.pR {B : Nat} {qv : Value} {l : List Ent} {W W' : World} (h : EV qv l W) (k : Kept (pR B) W W') : EV qv l W' := EV.of h k fun b _ => by simp [Go.Proofs.Ytmbdglolpagjdaa.pR]
theorem EV.pK {B : Nat} {qv : Value} {l : List Ent} {W W' : World} (h : EV qv l W) (k : Kept (pK B) W W') : EV qv l W' := EV.of h k fun b _ => by simp [Go.Proofs.Ytmbdglolpagjdaa.pK]

set_option maxHeartbeats 1000000 in
set_option maxRecDepth 100000 in
theorem entries_ok {qv : Value} {l : List Ent} {W : World} (h : EV qv l W) :
    Calls Try.prog 39 #[qv] W fun e W' => ∃ A c, e = .returned (.slice A l.length c) ∧ W' = W ∧ W.ownsRow 0 63 4 (.slice A l.length c) l.length (row4 l) := by
  rcases h with ⟨rfl, rfl⟩ | ⟨bq, v, mv, pu, rfl, h1, h2⟩
  · go_enter Try.func39, Try.ntmps39
    go_wp2
    go_ret
    exact ⟨none, 0, rfl, rfl, World.ownsRow_nil _ _ _ _⟩
  · have hlt := (Array.getElem?_eq_some_iff.1 h1).1
    have c0 : W.cell? ⟨bq, 0, none⟩ = some v := by simp [World.cell?, h1]
    obtain ⟨A, c, rfl⟩ := own4 h2
    have H2 := Lib.hid h2
    clear h1 h2
    go_enter Try.func39, Try.ntmps39
    go_wp2
    go_ret
    exact ⟨A, c, rfl, rfl, H2.out⟩

def dueAt (now : Int) (x : Ent) : Bool := x.front || decide (x.due ≤ now)
set_option maxHeartbeats 1000000 in
set_option maxRecDepth 100000 in
theorem isDue_ok (x : Ent) (now : Int) (w : World) : Calls Try.prog 56 #[x.val, .int .i64 now] w fun e w' => e = .returned (.bool (dueAt now x)) ∧ Ext w w' := by
  obtain ⟨t, f, d, n⟩ := x
  unfold Ent.val
  dsimp only
  go_enter Try.func56, Try.ntmps56
  cases f with
  | true =>
    go_wp2
    go_ret
    exact ⟨by simp [dueAt], Ext.one _ _⟩
  | false =>
    go_wp2
    go_ret
    exact ⟨by simp [dueAt], Ext.one _ _⟩

theorem tw_pre {α : Type} {p : α → Bool} : ∀ {L pre : List α}, pre <+: L → (∀ x, x ∈ pre → p x = true) → pre <+: L.takeWhile p
  | L, [], _, _ => List.nil_prefix
  | [], x :: r, h, _ => by simp at h
  | y :: L, x :: r, h, hp => by
    obtain ⟨rfl, h2⟩ := List.cons_prefix_cons.1 h
    rw [List.takeWhile_cons, if_pos (hp x (by simp))]
    exact List.cons_prefix_cons.2 ⟨rfl, tw_pre h2 fun z hz => hp z (by simp [hz])⟩
theorem tw_stop {α : Type} {p : α → Bool} : ∀ {L pre : List α} {x : α}, pre ++ [x] <+: L → (∀ x, x ∈ pre → p x = true) → p x = false → L.takeWhile p = pre
  | [], pre, x, h, _, _ => by simp at h
  | y :: L, [], x, h, _, hx => by
    obtain ⟨rfl, _⟩ := List.cons_prefix_cons.1 h
    rw [List.takeWhile_cons, if_neg (by simp [hx])]
  | y :: L, z :: r, x, h, hp, hx => by
    obtain ⟨rfl, h2⟩ := List.cons_prefix_cons.1 h
    rw [List.takeWhile_cons, if_pos (hp z (by simp)), tw_stop h2 (fun z hz => hp z (by simp [hz])) hx]

theorem tw_all {α : Type} {p : α → Bool} : ∀ {L : List α}, (∀ x, x ∈ L → p x = true) → L.takeWhile p = L
  | [], _ => rfl
  | x :: r, h => by rw [List.takeWhile_cons, if_pos (h x (by simp)), tw_all fun z hz => h z (by simp [hz])]
/-- A function's way out over the mark of its one loop. -/
theorem leave1 {F : Fence} {n : Nat} {P : Program} {fn : Func} {tmps : Array Value} {R : Ending → World → Prop} {D : Nat} {w : World} (hd : w.heap[D]? = some (.deferred (some [])))
    (h : ∃ v, (results fn tmps).run P (w.putObj D (.deferred none)) = .ok v (w.putObj D (.deferred none)) ∧ R (.returned v) (w.putObj D (.deferred none))) : LeavesInM F n P fn tmps R [markAt D] .returning w :=
  ⟨by simp, .inl ⟨D, _, rfl, run_takeDeferred hd, h⟩⟩
theorem dtag {w : World} {D : Nat} (hd : w.heap[D]? = some (.deferred (some []))) : ∀ o, w.heap[D]? = some o → tag o = none := fun o ho => by rw [hd] at ho; cases ho; rfl

theorem round_any {n m l l' : Nat} {P : Program} {f : FuncId} {tmps : Array Value} {assign body : Code} {w : World} {R : Ending → World → Prop} (h : RoundIn Fence.wide n P l f tmps assign body w R) : RoundIn (Fence.wide.inRound l') m P l f tmps assign body w R :=
  ⟨trivial, fun c cs _ => h.2 c cs (room_wide _)⟩
theorem calls_any {m l' : Nat} {P : Program} {f : FuncId} {args : Array Value} {w : World} {R : Ending → World → Prop} (h : Calls P f args w R) : CallsIn (Fence.wide.inRound l') m P f args w R := (callsIn_wide.2 h : CallsIn Fence.wide m P f args w R).inRound l'
theorem eg50 (args : Array Value) (w : World) : (callFunc 50 args).run Try.prog w = .ok (.enter 50 args) w := by kernel_rfl
section
variable {l : List Ent} {qv : Value} {b1 b2 : Nat} {now : Int}
set_option maxHeartbeats 1000000 in
set_option maxRecDepth 100000 in
theorem due_seq (ht : Tri l) (hh : Heap eLt (nth l) l.length) (hsm : l.length ≤ 900000) (w : World) (hE : EV qv l w) (h1 : w.heap[b1]? = some (.cells #[qv] 24 (0, 0))) (h2 : w.heap[b2]? = some (.cells #[.int .i64 now] 2 (0, 0))) :
    Seq 55 #[.pointer (some ⟨b1, 0, none⟩), .pointer (some ⟨b2, 0, none⟩)] (fun x : Ent => #[x.val]) ((srt l).takeWhile (dueAt now)) w := by
  intro n lp J Jx W hW hJ hJx hY h0
  have hlt : ∀ {b : Nat} {o : Obj}, w.heap[b]? = some o → b < w.heap.size := fun h => (Array.getElem?_eq_some_iff.1 h).1
  have k1 := hW.same _ _ h1 (by simp [pOld, hlt h1])
  have k2 := hW.same _ _ h2 (by simp [pOld, hlt h2])
  have hEW := hE.ext hW
  clear h1 h2 hE hW hlt
  have c1 : W.cell? ⟨b1, 0, none⟩ = some qv := by simp [World.cell?, k1]
  have hb1 := (Array.getElem?_eq_some_iff.1 k1).1
  refine callsIn_of_wp_marks (F := Fence.wide) Try.func55 rfl trivial ?_ rfl
  simp only [Try.ntmps55, List.size_toArray, List.length_cons, List.length_nil, Nat.reduceAdd, Nat.reduceSub, Array.replicate_succ, Array.replicate_zero, List.push_toArray, List.append_toArray, List.nil_append, List.cons_append]
  obtain ⟨W1, hW1⟩ : ∃ W1, W1 = W.alloc (.cells #[.func (.yield lp) #[] #[]] 91 (0, 0)) := ⟨_, rfl⟩
  have hE1 : Ext W W1 := by rw [hW1]; exact Ext.one _ _
  have hen := entries_ok (hEW.ext hE1)
  have HEN := Lib.hid hen
  have HW := Lib.hid hW1
  have HY := Lib.hid hY
  have HJ := Lib.hid hJ
  have HJX := Lib.hid hJx
  have H0 := Lib.hid h0
  have HE1 := Lib.hid hE1
  have HT := Lib.hid ht
  have HHH := Lib.hid hh
  have K2 := Lib.hid k2
  clear hen hW1 hY hJ hJx h0 hE1 hEW k1 k2 ht hh
  generalize hQ : bodyPostM Fence.wide n Try.prog _ _ = Q
  have HQ := Lib.hid hQ
  clear hQ
  gi_wp2
  refine ⟨trivial, fun h => by simp [Fence.wide] at h, ?_⟩
  change CallsIn _ _ _ _ _ (W.alloc (.cells #[.func (.yield lp) #[] #[]] 91 (0, 0))) _
  rw [← HW.out]
  refine callsIn_wide.2 (HEN.out.mono ?_)
  rintro e w1 ⟨A, c, rfl, hw1, how⟩
  subst hw1
  have HOW := Lib.hid how
  clear how
  gi_wp2
  refine ⟨trivial, fun h => by simp [Fence.wide] at h, ?_⟩
  refine callsIn_wide.2 ((inOrder_ok A l.length c w1).mono ?_)
  rintro e w2 ⟨rfl, hw2⟩
  have HW2 := Lib.hid hw2
  clear hw2
  gi_wp2
  have hw1 : W.heap.size < w1.heap.size := by rw [HW.out]; simp
  have hby : w2.heap[W.heap.size]? = some (.cells #[.func (.yield lp) #[] #[]] 91 (0, 0)) := by
    rw [HW2.out, Below.heap_alloc _ _ _ (by omega), HW.out]; exact World.alloc_heap_new _ _
  have hE2 : Ext w1 w2 := by rw [HW2.out]; exact Ext.one _ _
  have hEE := HE1.out.trans hE2
  have hb22 := (hEE.kept (fun _ _ => true)).same _ _ K2.out rfl
  have hbl : w2.heap[w1.heap.size]? = some (.cells #[.slice A l.length c] 56 (0, 0)) := by rw [HW2.out]; exact World.alloc_heap_new _ _
  have how2 := (hE2.kept (fun _ _ => true)).row HOW.out fun _ _ => rfl
  have hsz : W.heap.size ≤ w2.heap.size := hEE.size
  have hseq := inOrder_seq HT.out HHH.out hsm w2 A c hbl how2
  have hj2 := HJ.out [] _ _ H0.out (hEE.kept _)
  refine range_q (a := ⟨#[.func (.yield lp) #[] #[], .pointer (some ⟨b1, 0, none⟩), .pointer (some ⟨b2, 0, none⟩), .pointer (some ⟨W.heap.size, 0, none⟩), undef, qv, .slice A l.length c, .func (.func 50) #[] #[.pointer (some ⟨w1.heap.size, 0, none⟩)], undef, undef, undef, undef, undef, undef, undef, undef, undef, undef, undef], []⟩)
    (gf := 50) (lb := #[.pointer (some ⟨w1.heap.size, 0, none⟩)]) rfl eg50 hseq (fun _ => rfl)
    (fun pre W' => J pre W' ∧ (∀ x, x ∈ pre → dueAt now x = true) ∧ W'.heap[W.heap.size]? = some (.cells #[.func (.yield lp) #[] #[]] 91 (0, 0)) ∧ W'.heap[b2]? = some (.cells #[.int .i64 now] 2 (0, 0)))
    (fun c pre' W' => c = .ret ∧ ((∃ pre x, pre' = pre ++ [x] ∧ dueAt now x = false ∧ (∀ y, y ∈ pre → dueAt now y = true) ∧ J pre W') ∨ ((∀ y, y ∈ pre' → dueAt now y = true) ∧ Jx pre' W')))
    (fun s X Y h k => ⟨(HJ.out s).le hsz _ _ h.1 k, h.2.1, k.same _ _ h.2.2.1 (by simp [pR, tag]), k.same _ _ h.2.2.2 (by simp [pR, tag])⟩)
    (fun c s X Y h k => ⟨h.1, h.2.imp (fun ⟨pre, x, e, h1, h2, h3⟩ => ⟨pre, x, e, h1, h2, (HJ.out pre).le hsz _ _ h3 k⟩) fun ⟨h1, h2⟩ => ⟨h1, (HJX.out s).le hsz _ _ h2 k⟩⟩)
    ⟨hj2, by simp, hby, hb22⟩
    (fun x a' W' => ∃ bx, a' = ⟨#[.func (.yield lp) #[] #[], .pointer (some ⟨b1, 0, none⟩), .pointer (some ⟨b2, 0, none⟩), .pointer (some ⟨W.heap.size, 0, none⟩), .pointer (some ⟨bx, 0, none⟩), qv, .slice A l.length c, .func (.func 50) #[] #[.pointer (some ⟨w1.heap.size, 0, none⟩)], x.val, undef, undef, undef, undef, undef, undef, undef, undef, undef, undef], []⟩ ∧ W'.heap[bx]? = some (ento x))
    (fun x a' X Y ⟨bx, e, h⟩ k => ⟨bx, e, k.same _ _ h (by simp [pR, tag, ento])⟩)
    ?assign ?body ?done ?stop
  case assign =>
    rintro lq pre x W' K hI hpre hK
    have HK := Lib.hid hK
    have HI := Lib.hid hI
    clear hK hI
    unfold Ent.val
    gi_wp2
    have h := HI.out
    exact HK.out _ _ (Kept.alloc _ _ _) ⟨(HJ.out pre).le hsz _ _ h.1 (Kept.alloc _ _ _), h.2.1, (Kept.alloc (fun _ _ => true) W' _).same _ _ h.2.2.1 rfl, (Kept.alloc (fun _ _ => true) W' _).same _ _ h.2.2.2 rfl⟩ ⟨_, rfl, World.alloc_heap_new _ _⟩
  case body =>
    rintro lq pre x a' W' hlq hpre hI ⟨bx, rfl, hbx⟩
    obtain ⟨hIJ, hId, hIy, hIn⟩ := hI
    obtain ⟨x0, x1, x2, x3⟩ := ento_cells hbx
    have y0 : W'.cell? ⟨W.heap.size, 0, none⟩ = some (.func (.yield lp) #[] #[]) := by simp [World.cell?, hIy]
    have n0 : W'.cell? ⟨b2, 0, none⟩ = some (.int .i64 now) := by simp [World.cell?, hIn]
    have HIJ := Lib.hid hIJ
    have HID := Lib.hid hId
    have HIY := Lib.hid hIy
    have HIN := Lib.hid hIn
    have HBX := Lib.hid hbx
    have HPRE := Lib.hid hpre
    have hdu := isDue_ok x now W'
    have HDU := Lib.hid hdu
    clear hIJ hId hIy hIn hbx hpre hdu hby hb22 hbl how2 hseq hj2
    simp only [Ent.val] at HDU
    unfold Ent.val
    gi_wp2
    refine ⟨trivial, fun h => by simp [Fence.wide] at h, ?_⟩
    refine calls_any (HDU.out.mono ?_)
    rintro e w3 ⟨rfl, hx3⟩
    have hk3 := hx3.kept (fun _ _ => true)
    cases hdue : dueAt now x with
    | false =>
      have HD := Lib.hid hdue
      have HX3 := Lib.hid hx3
      clear hdue hx3 hk3
      gi_wp2
      refine ⟨(by intro f h; cases h), ?_⟩
      gi_wp2
      exact ⟨HX3.out.kept _, rfl, .inl ⟨pre, x, rfl, HD.out, HID.out, (HJ.out pre).le hsz _ _ HIJ.out (HX3.out.kept _)⟩⟩
    | true =>
      obtain ⟨fn, tmps, assign, body, hy, hR⟩ := HY.out pre x w3 (tw_pre HPRE.out fun z hz => by
        rcases List.mem_append.1 hz with h | h
        · exact HID.out z h
        · simp at h; subst h; exact hdue) ((HJ.out pre).le hsz _ _ HIJ.out (hx3.kept _))
      obtain ⟨x0, x1, x2, x3⟩ := ento_cells (hk3.same _ _ HBX.out rfl)
      have y0 : w3.cell? ⟨W.heap.size, 0, none⟩ = some (.func (.yield lp) #[] #[]) := by simp [World.cell?, hk3.same _ _ HIY.out rfl]
      have HD := Lib.hid hdue
      have HX3 := Lib.hid hx3
      clear hdue hx3 hk3
      simp only [Ent.val] at hy
      have hIY3 := (HX3.out.kept (fun _ _ => true)).same _ _ HIY.out rfl
      have hIN3 := (HX3.out.kept (fun _ _ => true)).same _ _ HIN.out rfl
      have HIY3 := Lib.hid hIY3
      have HIN3 := Lib.hid hIN3
      clear hIY3 hIN3
      gi_wp2
      refine ⟨fun h => by simp [Fence.wide] at h, round_any (hR.mono ?_)⟩
      have hdue1 : ∀ y, y ∈ pre ++ [x] → dueAt now y = true := fun y hy => by
        rcases List.mem_append.1 hy with h | h
        · exact HID.out y h
        · simp at h; subst h; exact HD.out
      have HD1 := Lib.hid hdue1
      clear hdue1 hR hy
      rintro e W3 (⟨rfl, hJ3, hk3⟩ | ⟨rfl, hJx3, hk3⟩)
      · have HJ3 := Lib.hid hJ3
        have HK3 := Lib.hid hk3
        clear hJ3 hk3
        gi_wp2
        exact ⟨(HX3.out.kept _).trans (HK3.out.mono fun b t _ => pK_le hsz b t), HJ3.out, HD1.out, HK3.out.same _ _ HIY3.out rfl, HK3.out.same _ _ HIN3.out rfl⟩
      · have HJ3 := Lib.hid hJx3
        have HK3 := Lib.hid hk3
        clear hJx3 hk3
        gi_wp2
        exact ⟨(HX3.out.kept _).trans (HK3.out.mono fun b t _ => pN_le hsz b t), rfl, .inr ⟨HD1.out, HJ3.out⟩⟩
  case done =>
    rintro W' ⟨hj, hd, _, _⟩ hD
    have e : (srt l).takeWhile (dueAt now) = srt l := tw_all hd
    show Q _ _ _
    rw [← HQ.out]
    refine leave1 hD ⟨.tuple #[], by simp [results, Try.results55, go_sem], ⟨_, rfl⟩, .inl ?_⟩
    rw [e]
    exact (HJ.out _).putObj _ hj hsz (dtag hD)
  case stop =>
    rintro c pre x W' hpre ⟨rfl, hc⟩ hD
    gi_wp2
    show Q _ _ _
    rw [← HQ.out]
    refine leave1 hD ⟨.tuple #[], by simp [results, Try.results55, go_sem], ⟨_, rfl⟩, ?_⟩
    rcases hc with ⟨pre', x', e, h1, h2, h3⟩ | ⟨h1, h2⟩
    · left
      obtain ⟨rfl, e2⟩ := List.append_inj' e rfl
      simp at e2; subst e2
      rw [tw_stop hpre h2 h1]
      exact (HJ.out _).putObj _ h3 hsz (dtag hD)
    · right
      exact ⟨pre, x, tw_pre hpre h1, (HJX.out _).putObj _ h2 hsz (dtag hD)⟩
end
end Go.Proofs.Ytmbdglolpagjdaa
