/- slices.AppendSeq and slices.Collect of a queue's items. -/
import Derived.Test.YtmbdglolpagjdaaQuX
import Derived.Test.YtmbdglolpagjdaaQvH
namespace Go.Proofs.Ytmbdglolpagjdaa
open Go.RowKit Go.Shelf
attribute [local go_sem] Oper.semAt_some
section
variable {l : List Ent} {bl : Nat} {A : Option Addr} {c : Nat}
set_option maxHeartbeats 1000000 in
set_option maxRecDepth 100000 in
theorem appSeq_ok (ht : Tri l) (hh : Heap eLt (nth l) l.length) (hsm : l.length ≤ 900000) (W : World) (hbl : W.heap[bl]? = some (.cells #[.slice A l.length c] 56 (0, 0))) (how : W.ownsRow 0 63 4 (.slice A l.length c) l.length (row4 l)) :
    Calls Try.prog 44 #[.slice none 0 0, .func (.func 45) #[] #[.pointer (some ⟨bl, 0, none⟩)]] W fun e W' => ∃ A c, e = .returned (.slice A (srt l).length c) ∧ Ext W W' ∧ W'.ownsRow W.heap.size 32 3 (.slice A (srt l).length c) (srt l).length (row3 (srt l)) := by
  obtain ⟨i0, hi0, hz0, hz1, hz2⟩ := info_parts infoItem
  refine (callsIn_wide (n := 3)).1 (callsIn_of_wp_marks (F := Fence.wide) Try.func44 rfl trivial ?_ rfl)
  simp only [Try.ntmps44, List.size_toArray, List.length_cons, List.length_nil, Nat.reduceAdd, Nat.reduceSub, Array.replicate_succ, Array.replicate_zero, List.push_toArray, List.append_toArray, List.nil_append, List.cons_append]
  obtain ⟨w2, hW1⟩ : ∃ W1, W1 = W.alloc (.cells #[.slice none 0 0] 27 (0, 0)) := ⟨_, rfl⟩
  have hE1 : Ext W w2 := by rw [hW1]; exact Ext.one _ _
  have hs2 : w2.heap.size = W.heap.size + 1 := by rw [hW1]; simp
  have ho2 : w2.heap[W.heap.size]? = some (.cells #[.slice none 0 0] 27 (0, 0)) := by rw [hW1]; exact World.alloc_heap_new _ _
  have hk := hE1.kept (fun _ _ => true)
  have hseq := all_seq (bl := bl) ht hh hsm w2 A c (hk.same _ _ hbl rfl) (hk.row how fun _ _ => rfl)
  have HW := Lib.hid hW1
  clear hW1 hk hbl how
  generalize hQ : bodyPostM Fence.wide 3 Try.prog _ _ = Q
  have HQ := Lib.hid hQ
  clear hQ
  gi_wp2
  rw [← HW.out]
  have hK : Kept (pOld W.heap.size) W w2 := hE1
  refine range_q (a := ⟨#[.slice none 0 0, .func (.func 45) #[] #[.pointer (some ⟨bl, 0, none⟩)], .pointer (some ⟨W.heap.size, 0, none⟩), undef, .slice none 0 0, undef, .func (.func 45) #[] #[.pointer (some ⟨bl, 0, none⟩)], undef, undef, undef, undef, undef, undef], []⟩)
    (gf := 45) (lb := #[.pointer (some ⟨bl, 0, none⟩)]) rfl eg45 hseq (fun _ => rfl)
    (fun pre W' => OutB W.heap.size W.heap.size pre W' ∧ Kept (pOld W.heap.size) W W')
    (fun c pre W' => False)
    (fun s X Y h k => ⟨h.1.of k (by simp [pR]) (fun b _ => by simp [pR]), rOld h.2 k (by omega)⟩)
    (fun c s X Y h k => h)
    ⟨⟨_, ho2, World.ownsRow_nil _ _ _ _⟩, hK⟩
    (fun x a' W' => ∃ bx, a' = ⟨#[.slice none 0 0, .func (.func 45) #[] #[.pointer (some ⟨bl, 0, none⟩)], .pointer (some ⟨W.heap.size, 0, none⟩), undef, .slice none 0 0, .pointer (some ⟨bx, 0, none⟩), .func (.func 45) #[] #[.pointer (some ⟨bl, 0, none⟩)], x.it, undef, undef, undef, undef, undef], []⟩ ∧ W'.heap[bx]? = some (ito x))
    (fun x a' X Y ⟨bx, e, h⟩ k => ⟨bx, e, k.same _ _ h (by simp [pR, tag, ito])⟩)
    ?assign ?body ?done ?stop
  case assign =>
    rintro lq pre x W' K hI hpre hK
    have HKK := Lib.hid hK
    have HI := Lib.hid hI
    clear hK hI
    unfold Ent.it itV
    gi_wp2
    have h := HI.out
    exact HKK.out _ _ (Kept.alloc _ _ _) ⟨h.1.of (Kept.alloc (fun _ _ => true) _ _) rfl (fun _ _ => rfl), h.2.trans (Kept.alloc _ _ _)⟩ ⟨_, rfl, World.alloc_heap_new _ _⟩
  case body =>
    rintro lq pre x a' W' hlq hpre hI ⟨bx, rfl, hbx⟩
    obtain ⟨⟨v, hv1, hv2⟩, hIk⟩ := hI
    obtain ⟨A1, c1, rfl⟩ := own_slice3 hv2
    obtain ⟨x0, x1, x2⟩ := ito_cells hbx
    have b0 : W'.cell? ⟨W.heap.size, 0, none⟩ = some (.slice A1 pre.length c1) := by simp [World.cell?, hv1]
    have hl0 := (Array.getElem?_eq_some_iff.1 hv1).1
    have hpl : pre.length + 1 ≤ l.length := by have := hpre.length_le; rw [(srt_perm l).length_eq] at this; simpa using this
    have hbl : W.heap.size ≤ W'.heap.size := hIk.size
    have HV1 := Lib.hid hv1
    have HV2 := Lib.hid hv2
    have HIK := Lib.hid hIk
    have HT := Lib.hid ht
    clear hv1 hv2 hIk hbx ho2 hseq hpre ht hh hK
    gi_wp2_with (gi_at_builtin; refine wpListIn_append_any rfl _ _ 27 rfl W.heap.size 32 i0 (.agg #[.int .i64 0, .bool false, .int .i64 0]) 3 24 Try.underlying27 hi0 hz0 hz1 hz2 rfl (by decide) (.slice A1 pre.length c1) pre.length (row3 pre) rfl (HV2.out.alloc _) (.slice (some ⟨W'.heap.size, 0, none⟩) 1 1) 1 x.it3 rfl rfl (Src.new (heap_alloc_new W' _)) (it3_one x) (by unfold maxLen; omega) (by omega) (by simp; omega) (pre.length + 1) rfl (row3 pre ++ x.it3) rfl ?_; intro A4 c4 w4 hown4 hgrow4 hat4; have hk4 : Kept (fun _ t => t != some 32) W' w4 := (Kept.alloc _ _ _).trans (Kept.grown hgrow4 fun j o e ho => (by rw [(own_tag (HV2.out.alloc _) j o e ho).1]; rfl)); have hv4 := hk4.same _ _ HV1.out rfl; have b4 : w4.cell? ⟨W.heap.size, 0, none⟩ = some (.slice A1 pre.length c1) := (by simp [World.cell?, hv4]); have f4 := frozen_of_row w4 W.heap.size 0 _ _ hv4; have hl4 := (Array.getElem?_eq_some_iff.1 hv4).1; have HSTEP := Lib.hid (OutB.step ((Kept.alloc (fun _ _ => true) W' (ito x)).same _ _ HV1.out rfl) (HV2.out.alloc (ito x)) hgrow4 hown4 rfl); clear hk4 hv4 hown4 hgrow4 hat4)
    gi_wp2
    obtain ⟨r1, r2⟩ := HSTEP.out
    refine ⟨?_, r1, ?_⟩
    · exact (Kept.alloc _ _ _).trans (r2 _ (fun g _ => rfl) rfl)
    · exact (HIK.out.trans (Kept.alloc _ _ _)).trans (r2 _ (fun g hg => by simp [pOld]; omega) (by simp [pOld]))
  case done =>
    rintro W' ⟨hO, hk⟩ hD
    obtain ⟨v, hv1, hv2⟩ := hO
    obtain ⟨A1, c1, rfl⟩ := own_slice3 hv2
    have b0 : W'.cell? ⟨W.heap.size, 0, none⟩ = some (.slice A1 (srt l).length c1) := by simp [World.cell?, hv1]
    have HV2 := Lib.hid hv2
    have HKK := Lib.hid hk
    have HDD := Lib.hid hD
    clear hv1 hv2 hk hD ho2 hseq hK
    gi_wp2
    rw [← HQ.out]
    refine leave1 HDD.out ⟨.slice A1 (srt l).length c1, by simp [results, Try.results44, go_sem], A1, c1, rfl, putOld HKK.out (by omega), ?_⟩
    exact (Kept.putObj (p := fun _ t => t.isSome) (o' := .deferred none) fun o ho => by rw [dtag HDD.out o ho]; rfl).row HV2.out fun _ _ => rfl
  case stop =>
    rintro c pre x W' hpre hF hD
    exact hF.elim
theorem collect_ok (ht : Tri l) (hh : Heap eLt (nth l) l.length) (hsm : l.length ≤ 900000) (W : World) (hbl : W.heap[bl]? = some (.cells #[.slice A l.length c] 56 (0, 0))) (how : W.ownsRow 0 63 4 (.slice A l.length c) l.length (row4 l)) :
    Calls Try.prog 32 #[.func (.func 45) #[] #[.pointer (some ⟨bl, 0, none⟩)]] W fun e W' => ∃ A c, e = .returned (.slice A (srt l).length c) ∧ Ext W W' ∧ W'.ownsRow W.heap.size 32 3 (.slice A (srt l).length c) (srt l).length (row3 (srt l)) := by
  have h := appSeq_ok ht hh hsm W hbl how
  go_enter Try.func32, Try.ntmps32
  have H := Lib.hid h
  clear h hbl how
  go_wp2_with (go_at_call 44; refine H.out.mono ?_; rintro e w2 ⟨A2, c2, rfl, hx, ho⟩; have HX := Lib.hid hx; have HO := Lib.hid ho; clear hx ho)
  go_ret
  exact ⟨A2, c2, rfl, HX.out, HO.out⟩
end
set_option maxHeartbeats 2000000 in
set_option maxRecDepth 100000 in
theorem equal_ok {W : World} {L M : List Ent} {A B : Option Addr} {c d : Nat} {B1 B2 : Nat} (hA : W.ownsRow B1 32 3 (.slice A L.length c) L.length (row3 L)) (hB : W.ownsRow B2 32 3 (.slice B M.length d) M.length (row3 M)) (hn : L.length ≤ 1000000) :
    Calls Try.prog 31 #[.slice A L.length c, .slice B M.length d] W fun e W' => e = .returned (.bool (sameE L M)) ∧ Ext W W' := by
  have HA := Lib.hid hA
  have HB := Lib.hid hB
  clear hA hB
  by_cases hl : L.length = M.length
  · rw [← hl] at HB ⊢
    obtain ⟨b, hb⟩ : ∃ b, b = sameE L M := ⟨_, rfl⟩
    rw [← hb]
    have HBB := Lib.hid hb
    have HL := Lib.hid hl
    clear hb hl
    go_enter Try.func31, Try.ntmps31
    go_wp2_with fail
    go_loopg [13] L.length (fun k v5 wr => ∃ i : Nat, i + k = L.length ∧ v5 = .int .i64 i ∧ Ext W wr ∧ ∀ j, j < i → (nth L j).key = (nth M j).key)
    case atStart => exact ⟨0, by omega, rfl, Ext.refl _, by simp⟩
    case round =>
      obtain ⟨i, hik, rfl, hx, hall⟩ := hrel
      have HX0 := Lib.hid hx
      have hA := (hx.kept (fun _ _ => true)).row HA.out fun _ _ => rfl
      have hB := (hx.kept (fun _ _ => true)).row HB.out fun _ _ => rfl
      have HIK := Lib.hid hik
      have HALL := Lib.hid hall
      have hi : i ≤ L.length := by omega
      clear hik hall hx
      by_cases hlt : i < L.length
      · obtain ⟨g, rfl, p0, p1, p2⟩ := own3_cells hA hlt
        obtain ⟨g', rfl, q0, q1, q2⟩ := own3_cells (l := M) (by rw [HL.out] at hB; exact hB) (show i < M.length by rw [← HL.out]; exact hlt)
        have hil : (i : Int) < (L.length : Int) := by omega
        obtain ⟨x, hx⟩ : ∃ x, x = nth L i := ⟨_, rfl⟩
        obtain ⟨y, hy⟩ : ∃ y, y = nth M i := ⟨_, rfl⟩
        rw [← hx] at p0 p1 p2
        rw [← hy] at q0 q1 q2
        have HX := Lib.hid hx
        have HY := Lib.hid hy
        clear hx hy hA hB
        by_cases hk : x.key = y.key
        · obtain ⟨k1, k2, k3⟩ : x.task = y.task ∧ x.front = y.front ∧ x.due = y.due := by simpa [Ent.key] using hk
          rw [← k1] at q0
          rw [← k2] at q1
          rw [← k3] at q2
          have HK := Lib.hid hk
          clear hk k1 k2 k3
          go_upto_region 6 with (fail)
          go_region
          all_goals
            go_wp2_with fail
            go_roundg (gk - 1)
            case measure => have := HIK.out; omega
            case rel => exact ⟨i + 1, by have := HIK.out; omega, by go_num, HX0.out.trans (Ext.drew _), fun j hj => by
              rcases Nat.lt_or_ge j i with h | h
              · exact HALL.out j h
              · have : j = i := by omega
                subst this; rw [← HX.out, ← HY.out]; exact HK.out⟩
        · have HK := Lib.hid hk
          by_cases k1 : x.task = y.task
          · rw [← k1] at q0
            by_cases k2 : x.front = y.front
            · rw [← k2] at q1
              have k3 : ¬ x.due = y.due := fun k3 => hk (by simp [Ent.key, k1, k2, k3])
              clear hk k1 k2
              go_upto_region 6 with (fail)
              go_region
              all_goals
                go_wp2_with fail
                go_ret
                refine ⟨ret_bool ?_, HX0.out.trans (Ext.drew _)⟩
                rw [HBB.out, same_at hlt (by rw [← HL.out]; exact hlt) (by rw [← HX.out, ← HY.out]; exact HK.out)]
            · clear hk k1
              go_upto_region 6 with (fail)
              go_region
              all_goals
                go_wp2_with fail
                go_ret
                refine ⟨ret_bool ?_, HX0.out.trans (Ext.drew _)⟩
                rw [HBB.out, same_at hlt (by rw [← HL.out]; exact hlt) (by rw [← HX.out, ← HY.out]; exact HK.out)]
          · clear hk
            go_upto_region 6 with (fail)
            go_region
            all_goals
              go_wp2_with fail
              go_ret
              refine ⟨ret_bool ?_, HX0.out.trans (Ext.drew _)⟩
              rw [HBB.out, same_at hlt (by rw [← HL.out]; exact hlt) (by rw [← HX.out, ← HY.out]; exact HK.out)]
      · clear hA hB
        go_wp2_with fail
        go_ret
        exact ⟨ret_bool (by rw [HBB.out]; exact (same_all HL.out (fun k hk => HALL.out k (by omega))).symm), HX0.out⟩
  · rw [same_ne hl]
    go_enter Try.func31, Try.ntmps31
    have hl' : ((L.length : Int) == (M.length : Int)) = false := by simp; omega
    go_wp2_with fail
    go_ret
    exact ⟨rfl, Ext.refl _⟩
end Go.Proofs.Ytmbdglolpagjdaa
