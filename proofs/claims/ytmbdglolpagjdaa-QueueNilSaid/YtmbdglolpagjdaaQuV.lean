/- A queue's items, gone over. -/
import Derived.Test.YtmbdglolpagjdaaQuU
namespace Go.Proofs.Ytmbdglolpagjdaa
open Go.RowKit Go.Shelf
attribute [local go_sem] Oper.semAt_some
section
variable {l : List Ent} {bl : Nat}
set_option maxHeartbeats 1000000 in
set_option maxRecDepth 100000 in
theorem all_seq (ht : Tri l) (hh : Heap eLt (nth l) l.length) (hsm : l.length ≤ 900000) (w : World) (A : Option Addr) (c : Nat)
    (hbl0 : w.heap[bl]? = some (.cells #[.slice A l.length c] 56 (0, 0))) (how0 : w.ownsRow 0 63 4 (.slice A l.length c) l.length (row4 l)) :
    Seq 45 #[.pointer (some ⟨bl, 0, none⟩)] (fun x : Ent => #[x.it]) (srt l) w := by
  intro n lp J Jx W hW hJ hJx hY h0
  have hlt : ∀ {b : Nat} {o : Obj}, w.heap[b]? = some o → b < w.heap.size := fun h => (Array.getElem?_eq_some_iff.1 h).1
  have k1 := hW.same _ _ hbl0 (by simp [pOld, hlt hbl0])
  have how := (show Ext w W from hW).kept (fun _ _ => true) |>.row how0 fun _ _ => rfl
  clear hbl0 how0 hW hlt
  have c1 : W.cell? ⟨bl, 0, none⟩ = some (.slice A l.length c) := by simp [World.cell?, k1]
  have hb1 := (Array.getElem?_eq_some_iff.1 k1).1
  refine callsIn_of_wp_marks (F := Fence.wide) Try.func45 rfl trivial ?_ rfl
  simp only [Try.ntmps45, List.size_toArray, List.length_cons, List.length_nil, Nat.reduceAdd, Nat.reduceSub, Array.replicate_succ, Array.replicate_zero, List.push_toArray, List.append_toArray, List.nil_append, List.cons_append]
  obtain ⟨w1, hW1⟩ : ∃ W1, W1 = W.alloc (.cells #[.func (.yield lp) #[] #[]] 85 (0, 0)) := ⟨_, rfl⟩
  have hE1 : Ext W w1 := by rw [hW1]; exact Ext.one _ _
  have how1 := (hE1.kept (fun _ _ => true)).row how fun _ _ => rfl
  have HW := Lib.hid hW1
  have HY := Lib.hid hY
  have HJ := Lib.hid hJ
  have HJX := Lib.hid hJx
  have H0 := Lib.hid h0
  have HE1 := Lib.hid hE1
  have HT := Lib.hid ht
  have HHH := Lib.hid hh
  have HOW := Lib.hid how1
  clear hW1 hY hJ hJx h0 hE1 k1 ht hh how how1
  generalize hQ : bodyPostM Fence.wide n Try.prog _ _ = Q
  have HQ := Lib.hid hQ
  clear hQ
  gi_wp2
  refine ⟨trivial, fun h => by simp [Fence.wide] at h, ?_⟩
  change CallsIn _ _ _ _ _ (W.alloc (.cells #[.func (.yield lp) #[] #[]] 85 (0, 0))) _
  rw [← HW.out]
  refine callsIn_wide.2 ((inOrder_ok A l.length c w1).mono ?_)
  rintro e w2 ⟨rfl, hw2⟩
  have HW2 := Lib.hid hw2
  clear hw2
  gi_wp2
  have hw1 : W.heap.size < w1.heap.size := by rw [HW.out]; simp
  have hby : w2.heap[W.heap.size]? = some (.cells #[.func (.yield lp) #[] #[]] 85 (0, 0)) := by
    rw [HW2.out, Below.heap_alloc _ _ _ (by omega), HW.out]; exact World.alloc_heap_new _ _
  have hE2 : Ext w1 w2 := by rw [HW2.out]; exact Ext.one _ _
  have hEE := HE1.out.trans hE2
  have hbl2 : w2.heap[w1.heap.size]? = some (.cells #[.slice A l.length c] 56 (0, 0)) := by rw [HW2.out]; exact World.alloc_heap_new _ _
  have how2 := (hE2.kept (fun _ _ => true)).row HOW.out fun _ _ => rfl
  have hsz : W.heap.size ≤ w2.heap.size := hEE.size
  have hseq := inOrder_seq HT.out HHH.out hsm w2 A c hbl2 how2
  have hj2 := HJ.out [] _ _ H0.out (hEE.kept _)
  refine range_q (a := ⟨#[.func (.yield lp) #[] #[], .pointer (some ⟨bl, 0, none⟩), .pointer (some ⟨W.heap.size, 0, none⟩), undef, .slice A l.length c, .func (.func 50) #[] #[.pointer (some ⟨w1.heap.size, 0, none⟩)], undef, undef, undef, undef, undef, undef], []⟩)
    (gf := 50) (lb := #[.pointer (some ⟨w1.heap.size, 0, none⟩)]) rfl eg50 hseq (fun _ => rfl)
    (fun pre W' => J pre W' ∧ W'.heap[W.heap.size]? = some (.cells #[.func (.yield lp) #[] #[]] 85 (0, 0)))
    (fun c pre' W' => c = .ret ∧ Jx pre' W')
    (fun s X Y h k => ⟨(HJ.out s).le hsz _ _ h.1 k, k.same _ _ h.2 (by simp [pR, tag])⟩)
    (fun c s X Y h k => ⟨h.1, (HJX.out s).le hsz _ _ h.2 k⟩)
    ⟨hj2, hby⟩
    (fun x a' W' => ∃ bx, a' = ⟨#[.func (.yield lp) #[] #[], .pointer (some ⟨bl, 0, none⟩), .pointer (some ⟨W.heap.size, 0, none⟩), .pointer (some ⟨bx, 0, none⟩), .slice A l.length c, .func (.func 50) #[] #[.pointer (some ⟨w1.heap.size, 0, none⟩)], x.val, undef, undef, undef, undef, undef], []⟩ ∧ W'.heap[bx]? = some (ento x))
    (fun x a' X Y ⟨bx, e, h⟩ k => ⟨bx, e, k.same _ _ h (by simp [pR, tag, ento])⟩)
    ?assign ?body ?done ?stop
  case assign =>
    rintro lq pre x W' K hI hpre hK
    have HK := Lib.hid hK
    have HI := Lib.hid hI
    clear hK hI
    unfold Ent.val
    gi_wp2
    have h := HI.out
    exact HK.out _ _ (Kept.alloc _ _ _) ⟨(HJ.out pre).le hsz _ _ h.1 (Kept.alloc _ _ _), (Kept.alloc (fun _ _ => true) W' _).same _ _ h.2 rfl⟩ ⟨_, rfl, World.alloc_heap_new _ _⟩
  case body =>
    rintro lq pre x a' W' hlq hpre hI ⟨bx, rfl, hbx⟩
    obtain ⟨hIJ, hIy⟩ := hI
    obtain ⟨x0, x1, x2, x3⟩ := ento_cells hbx
    have y0 : W'.cell? ⟨W.heap.size, 0, none⟩ = some (.func (.yield lp) #[] #[]) := by simp [World.cell?, hIy]
    have HIY := Lib.hid hIy
    obtain ⟨fn, tmps, assign, body, hy, hR⟩ := HY.out pre x W' hpre hIJ
    clear hIJ hIy hbx hpre hby hbl2 how2 hseq hj2
    simp only [Ent.it, itV] at hy
    unfold Ent.val
    gi_wp2
    refine ⟨fun h => by simp [Fence.wide] at h, round_any (hR.mono ?_)⟩
    clear hR hy
    rintro e W3 (⟨rfl, hJ3, hk3⟩ | ⟨rfl, hJx3, hk3⟩)
    · have HJ3 := Lib.hid hJ3
      have HK3 := Lib.hid hk3
      clear hJ3 hk3
      gi_wp2
      exact ⟨HK3.out.mono fun b t _ => pK_le hsz b t, HJ3.out, HK3.out.same _ _ HIY.out rfl⟩
    · have HJ3 := Lib.hid hJx3
      have HK3 := Lib.hid hk3
      clear hJx3 hk3
      gi_wp2
      exact ⟨HK3.out.mono fun b t _ => pN_le hsz b t, rfl, HJ3.out⟩
  case done =>
    rintro W' ⟨hj, _⟩ hD
    show Q _ _ _
    rw [← HQ.out]
    exact leave1 hD ⟨.tuple #[], by simp [results, Try.results45, go_sem], ⟨_, rfl⟩, .inl ((HJ.out _).putObj _ hj hsz (dtag hD))⟩
  case stop =>
    rintro c pre x W' hpre ⟨rfl, hc⟩ hD
    gi_wp2
    show Q _ _ _
    rw [← HQ.out]
    exact leave1 hD ⟨.tuple #[], by simp [results, Try.results45, go_sem], ⟨_, rfl⟩, .inr ⟨pre, x, hpre, (HJX.out _).putObj _ hc hsz (dtag hD)⟩⟩
end
end Go.Proofs.Ytmbdglolpagjdaa
