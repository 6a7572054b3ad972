/- The law's all. -/
import Derived.Test.YtjgggfickbbieaaHmC0
namespace Go.Proofs.Ytjgggfickbbieaa
open Go.RowKit Go.Shelf
attribute [local go_sem] Oper.semAt_some
section
variable {oP oR : Nat → Bool} {bh bw : Nat} {ps : List Nat} {L M : List Ob} {W : World}
set_option maxHeartbeats 8000000 in
set_option maxRecDepth 100000 in
theorem all_ok (h : Both oP oR bh bw ps L M W) (most : Int) :
    Calls Try.prog 11 #[.pointer (some ⟨bh, 0, none⟩), .pointer (some ⟨bw, 0, none⟩), .int .i64 most] W fun e W' => e = .returned (.bool true) ∧ Ext W W' := by
  have HH := Lib.hid h
  clear h
  refine (callsIn_wide (n := 3)).1 (callsIn_of_wp_marks (F := Fence.wide) Try.func11 rfl trivial ?_ rfl)
  simp only [Try.ntmps11, List.size_toArray, List.length_cons, List.length_nil, Nat.reduceAdd, Nat.reduceSub, Array.replicate_succ, Array.replicate_zero, List.push_toArray, List.append_toArray, List.nil_append, List.cons_append]
  refine wpIn_wide.2 ?_
  refine wp_mono (Q := noPanic (bodyPostM Fence.wide 3 Try.prog _ _)) ?_ noPanic_le
  generalize hQ : bodyPostM Fence.wide 3 Try.prog _ _ = Q
  have HQ := Lib.hid hQ
  clear hQ
  go_upto_region 1 with (fail)
  obtain ⟨W1, hW1⟩ : ∃ W1, W1 = ((W.alloc (.cells #[.pointer (some ⟨bw, 0, none⟩)] 27)).alloc (.cells #[.int .i64 most] 3)).alloc (.cells #[.bool false] 4) := ⟨_, rfl⟩
  rw [← hW1]
  have hs1 : W1.heap.size = W.heap.size + 3 := by rw [hW1]; simp
  have hE1 : Ext W W1 := by rw [hW1]; exact (Ext.two _ _ _).trans (Ext.one _ _)
  have h4 : W1.heap[W.heap.size]? = some (.cells #[.pointer (some ⟨bw, 0, none⟩)] 27 (0, 0)) := by rw [hW1]; exact (Below.heap_alloc _ _ _ (by simp; omega)).trans ((Below.heap_alloc _ _ _ (by simp)).trans (World.alloc_heap_new _ _))
  have h5 : W1.heap[W.heap.size + 1]? = some (.cells #[.int .i64 most] 3 (0, 0)) := by
    have := World.alloc_heap_new (W.alloc (.cells #[.pointer (some ⟨bw, 0, none⟩)] 27)) (.cells #[.int .i64 most] 3)
    rw [World.size_alloc] at this
    rw [hW1]; exact (Below.heap_alloc _ _ _ (by simp)).trans this
  have h6 : W1.heap[W.heap.size + 1 + 1]? = some (.cells #[.bool false] 4 (0, 0)) := by
    have := World.alloc_heap_new ((W.alloc (.cells #[.pointer (some ⟨bw, 0, none⟩)] 27)).alloc (.cells #[.int .i64 most] 3)) (.cells #[.bool false] 4)
    rw [World.size_alloc, World.size_alloc] at this
    rw [hW1]; exact this
  have HX1 := Lib.hid hE1
  have H4 := Lib.hid h4
  have H5 := Lib.hid h5
  have H6 := Lib.hid h6
  have HS1 := Lib.hid hs1
  clear hW1 h4 h5 h6 hE1 hs1
  go_wp2_with (go_at_call 24; refine (All_ok _ _).mono ?_; rintro e w2 ⟨rfl, rfl⟩)
  obtain ⟨w3, hw3⟩ : ∃ w3, w3 = (W1.alloc (.cells #[.pointer (some ⟨bh, 0, none⟩)] 25)).alloc (.cells #[.int .i64 0] 3) := ⟨_, rfl⟩
  rw [← hw3]
  have hs3 : w3.heap.size = W1.heap.size + 2 := by rw [hw3]; simp
  have hx3 : Ext W1 w3 := by rw [hw3]; exact Ext.two _ _ _
  have hl3 : w3.heap[W1.heap.size]? = some (.cells #[.pointer (some ⟨bh, 0, none⟩)] 25 (0, 0)) := by rw [hw3]; exact (Below.heap_alloc _ _ _ (by simp)).trans (World.alloc_heap_new _ _)
  have h83 : w3.heap[W1.heap.size + 1]? = some (.cells #[.int .i64 ((0 : Nat) : Int)] 3 (0, 0)) := by rw [hw3]; have := World.alloc_heap_new (W1.alloc (.cells #[.pointer (some ⟨bh, 0, none⟩)] 25)) (.cells #[.int .i64 0] 3); rwa [World.size_alloc] at this
  have hk3 := hx3.kept (fun _ _ => true)
  have hab : AB W bh bw most W.heap.size (W.heap.size + 1) (W.heap.size + 1 + 1) W1.heap.size (W1.heap.size + 1) ((0 : Nat) : Int) [] w3 :=
    ⟨HX1.out.trans hx3, hk3.same _ _ H4.out rfl, hk3.same _ _ H5.out rfl, hk3.same _ _ H6.out rfl, hl3, h83, by simp, by simp, by have := HS1.out; omega⟩
  have HAB := Lib.hid hab
  clear hw3 hs3 hx3 hl3 h83 hk3 hab H4 H5 H6
  refine wp_loop_ghost_k (fun c a wr => ∃ (t b8 : Nat) (Ds : List Nat) (j9 j10 j11 j12 j17 j18 j19 j20 j21 j22 j23 j24 j25 j26 j27 j28 j29 j30 j31 j32 j33 j34 j35 j36 j37 j38 j39 j40 j41 j42 j43 j44 j45 j46 j47 j48 j49 j50 j51 j52 j53 j54 j55 j56 j57 j58 j59 j60 j61 j62 j63 j64 j65 j66 j67 j68 j69 j70 j71 j72 j73 j74 j75 j76 j77 j78 j79 j80 j81 j82 j83 j84 j85 j86 j87 j88 j89 j90 j91 j92 j93 j94 j95 j96 : Value), t + c = 2 ∧ AB W bh bw most W.heap.size (W.heap.size + 1) (W.heap.size + 1 + 1) W1.heap.size b8 t Ds wr ∧ a = ⟨#[.pointer (some ⟨bh, 0, none⟩), .pointer (some ⟨bw, 0, none⟩), .int .i64 most, undef, .pointer (some ⟨W.heap.size, 0, none⟩), .pointer (some ⟨W.heap.size + 1, 0, none⟩), .pointer (some ⟨W.heap.size + 1 + 1, 0, none⟩), .func (.func 43) #[] #[.pointer (some ⟨W1.heap.size, 0, none⟩)], .pointer (some ⟨b8, 0, none⟩), j9, j10, j11, j12, .pointer (some ⟨bh, 0, none⟩), .func (.func 43) #[] #[.pointer (some ⟨W1.heap.size, 0, none⟩)], .func (.func 43) #[] #[.pointer (some ⟨W1.heap.size, 0, none⟩)], .bool false, j17, j18, j19, j20, j21, j22, j23, j24, j25, j26, j27, j28, j29, j30, j31, j32, j33, j34, j35, j36, j37, j38, j39, j40, j41, j42, j43, j44, j45, j46, j47, j48, j49, j50, j51, j52, j53, j54, j55, j56, j57, j58, j59, j60, j61, j62, j63, j64, j65, j66, j67, j68, j69, j70, j71, j72, j73, j74, j75, j76, j77, j78, j79, j80, j81, j82, j83, j84, j85, j86, j87, j88, j89, j90, j91, j92, j93, j94, j95, j96], Ds.map markAt⟩) 2 ?_ ?_
  · exact ⟨0, W1.heap.size + 1, [], _, _, _, _, _, _, _, _, _, _, _, _, _, _, _, _, _, _, _, _, _, _, _, _, _, _, _, _, _, _, _, _, _, _, _, _, _, _, _, _, _, _, _, _, _, _, _, _, _, _, _, _, _, _, _, _, _, _, _, _, _, _, _, _, _, _, _, _, _, _, _, _, _, _, _, _, _, _, _, _, _, _, _, _, rfl, HAB.out, rfl⟩
  clear HAB
  intro c a wo
  refine ex_intro fun t => ex_intro fun b8 => ex_intro fun Ds => ex_intro fun j9 => ex_intro fun j10 => ex_intro fun j11 => ex_intro fun j12 => ex_intro fun j17 => ex_intro fun j18 => ex_intro fun j19 => ex_intro fun j20 => ex_intro fun j21 => ex_intro fun j22 => ex_intro fun j23 => ex_intro fun j24 => ex_intro fun j25 => ex_intro fun j26 => ex_intro fun j27 => ex_intro fun j28 => ex_intro fun j29 => ex_intro fun j30 => ex_intro fun j31 => ex_intro fun j32 => ex_intro fun j33 => ex_intro fun j34 => ex_intro fun j35 => ex_intro fun j36 => ex_intro fun j37 => ex_intro fun j38 => ex_intro fun j39 => ex_intro fun j40 => ex_intro fun j41 => ex_intro fun j42 => ex_intro fun j43 => ex_intro fun j44 => ex_intro fun j45 => ex_intro fun j46 => ex_intro fun j47 => ex_intro fun j48 => ex_intro fun j49 => ex_intro fun j50 => ex_intro fun j51 => ex_intro fun j52 => ex_intro fun j53 => ex_intro fun j54 => ex_intro fun j55 => ex_intro fun j56 => ex_intro fun j57 => ex_intro fun j58 => ex_intro fun j59 => ex_intro fun j60 => ex_intro fun j61 => ex_intro fun j62 => ex_intro fun j63 => ex_intro fun j64 => ex_intro fun j65 => ex_intro fun j66 => ex_intro fun j67 => ex_intro fun j68 => ex_intro fun j69 => ex_intro fun j70 => ex_intro fun j71 => ex_intro fun j72 => ex_intro fun j73 => ex_intro fun j74 => ex_intro fun j75 => ex_intro fun j76 => ex_intro fun j77 => ex_intro fun j78 => ex_intro fun j79 => ex_intro fun j80 => ex_intro fun j81 => ex_intro fun j82 => ex_intro fun j83 => ex_intro fun j84 => ex_intro fun j85 => ex_intro fun j86 => ex_intro fun j87 => ex_intro fun j88 => ex_intro fun j89 => ex_intro fun j90 => ex_intro fun j91 => ex_intro fun j92 => ex_intro fun j93 => ex_intro fun j94 => ex_intro fun j95 => ex_intro fun j96 => ?_
  rintro ⟨htc, hab, rfl⟩ J K hJ hK
  cases c with
  | zero =>
    obtain rfl : t = 2 := by omega
    obtain ⟨y8, y4⟩ : wo.cell? ⟨b8, 0, none⟩ = some (.int .i64 ((2 : Nat) : Int)) ∧ wo.cell? ⟨W.heap.size, 0, none⟩ = some (.pointer (some ⟨bw, 0, none⟩)) := by
      constructor
      · simp [World.cell?, hab.h8]
      · simp [World.cell?, hab.h4]
    obtain ⟨A7, c7, e7⟩ : ∃ A c, wo.heap[bw]? = some (.cells #[.slice A M.length c] 30 (0, 0)) := by
      obtain ⟨vM, e1, e2, _⟩ := (HH.out.ext hab.x).r.ex
      obtain ⟨A7, c7, rfl⟩ := own_slice3 e2
      exact ⟨A7, c7, e1⟩
    have w0 : wo.cell? ⟨bw, 0, none⟩ = some (.slice A7 M.length c7) := by simp [World.cell?, e7]
    have lw := (Array.getElem?_eq_some_iff.1 e7).1
    have l6 := (Array.getElem?_eq_some_iff.1 hab.h6).1
    have f6 := frozen_of_row wo (W.heap.size + 1 + 1) 0 _ _ hab.h6
    have hml := key_len HH.out.key
    have hcnt := fun w (x : Ext wo w) => Count_ok ((HH.out.ext hab.x).p.ext x)
    rw [hml] at hcnt
    have HCNT := Lib.hid hcnt
    have HAB := Lib.hid hab
    have HML := Lib.hid hml
    clear hab hcnt e7 hml
    go_wp2_with fail
    refine wp_region_still_tail 8 (by kernel_rfl) (by kernel_rfl) ?_
    simp only [List.take_succ_cons, List.take_zero, List.drop_succ_cons, List.drop_zero]
    repeat still_step
    refine wpStill_step (fun K hK => ?_)
    go_simp
    refine ⟨_, HCNT.out _ (Ext.drew _), hK _ ?_⟩
    clear hK K
    repeat still_step
    refine wpStill_nil ?_
    change wpList _ _ _ _ _ wo.drew
    have habd := HAB.out.ext (Ext.drew wo)
    have l6' : W.heap.size + 1 + 1 < wo.drew.heap.size := l6
    have f6' := frozen_of_row wo.drew (W.heap.size + 1 + 1) 0 _ _ habd.h6
    obtain ⟨s1, s2⟩ := sto1 habd.h6 (.bool true)
    have c6 : wo.drew.cell? ⟨W.heap.size + 1 + 1, 0, none⟩ = some (.bool false) := by simp [World.cell?, habd.h6]
    have HABD := Lib.hid habd
    have HS1' := Lib.hid s1
    have HS2' := Lib.hid s2
    clear habd s1 s2 HCNT y8 y4 w0 lw l6 f6
    generalize wo.drew = wd at *
    go_wp2_with fail
    show Q _ _ _
    rw [← HQ.out]
    show LeavesInM Fence.wide 3 Try.prog _ _ _ (Ds.map markAt) .returning _
    have hm6 : W.heap.size + 1 + 1 ∉ Ds := fun hm => by have h1 := (HABD.out.ds _ hm).1; rw [HABD.out.h6] at h1; cases h1
    have hk := HS2'.out (fun b _ => b != W.heap.size + 1 + 1) (by simp)
    refine leaves_marks Ds _ HABD.out.nd (fun D hD => hk.same _ _ (HABD.out.ds D hD).1 (by simp; rintro rfl; exact hm6 hD)) fun w' h1 h2 h3 h4 h5 => ?_
    have hcl : w'.cell? ⟨W.heap.size + 1 + 1, 0, none⟩ = some (.bool true) := by
      have := (h5 _ hm6).trans HS1'.out
      simp [World.cell?, this]
    refine ⟨.bool true, by simp [results, Try.results11, go_sem, hcl], rfl, ?_⟩
    have hx : Ext W (wd.setCell ⟨W.heap.size + 1 + 1, 0, none⟩ (.bool true)) := Kept.trans HABD.out.x (hk.mono fun b t _ hp => by simp [pOld] at hp; simp; omega)
    have hk2 : Kept (fun b _ => decide (b ∉ Ds)) (wd.setCell ⟨W.heap.size + 1 + 1, 0, none⟩ (.bool true)) w' := ⟨h1, h2, h3, by rw [h4]; exact Nat.le_refl _, fun b o ho hp => (h5 b (by simpa using hp)).trans ho⟩
    exact Kept.trans hx (hk2.mono fun b t _ hp => by
      simp [pOld] at hp
      simp only [decide_eq_true_eq]
      intro hm
      have := (HABD.out.ds b hm).2
      omega)
  | succ c =>
    obtain ⟨x8, x5, x4⟩ : wo.cell? ⟨b8, 0, none⟩ = some (.int .i64 t) ∧ wo.cell? ⟨W.heap.size + 1, 0, none⟩ = some (.int .i64 most) ∧ wo.cell? ⟨W.heap.size, 0, none⟩ = some (.pointer (some ⟨bw, 0, none⟩)) := by
      refine ⟨?_, ?_, ?_⟩
      · simp [World.cell?, hab.h8]
      · simp [World.cell?, hab.h5]
      · simp [World.cell?, hab.h4]
    have ht2 : (t : Int) < 2 := by omega
    have hlt := hab.lt
    have HAB := Lib.hid hab
    have HLT := Lib.hid hlt
    clear hab hlt
    go_wp2_with fail
    obtain ⟨w4, hw4⟩ : ∃ w4, w4 = wo.alloc (.cells #[.int .i64 0] 3) := ⟨_, rfl⟩
    change Code.wp _ _ _ _ (wo.alloc (.cells #[.int .i64 0] 3))
    rw [← hw4]
    have hx4 : Ext wo w4 := by rw [hw4]; exact Ext.one _ _
    have hs4 : w4.heap.size = wo.heap.size + 1 := by rw [hw4]; simp
    have h94 : w4.heap[wo.heap.size]? = some (.cells #[.int .i64 ((0 : Nat) : Int)] 3 (0, 0)) := by rw [hw4]; exact World.alloc_heap_new _ _
    have hab4 := HAB.out.ext hx4
    have hboth := HH.out.ext hab4.x
    have hseq := all_seq (K := fun x b t => t != 3 && (t != 2 || blkOf x != some b)) hboth.p hab4.hl (fun x b t h1 h2 => by
      simp only [Bool.and_eq_true, bne_iff_ne, Bool.or_eq_true]
      refine ⟨h1, ?_⟩
      by_cases h3 : t = 2
      · exact .inr (h2 h3)
      · exact .inl h3)
    have hI0 : AB W bh bw most W.heap.size (W.heap.size + 1) (W.heap.size + 1 + 1) W1.heap.size b8 t Ds w4 ∧ w4.heap[wo.heap.size]? = some (.cells #[.int .i64 ((0 : Nat) : Int)] 3 (0, 0)) := ⟨hab4, h94⟩
    have HSQ := Lib.hid hseq
    have HX4 := Lib.hid hx4
    have HS4 := Lib.hid hs4
    have HTC := Lib.hid htc
    have HHJ := Lib.hid hJ
    have HHK := Lib.hid hK
    clear hw4 hx4 hs4 h94 hab4 hboth hseq x8 x5 x4 htc hJ hK
    rename_i K9 hK9
    have HREST : ∀ (kk : Nat) (W' : World), AB W bh bw most W.heap.size (W.heap.size + 1) (W.heap.size + 1 + 1) W1.heap.size b8 t Ds W' → W'.heap[wo.heap.size]? = some (.cells #[.int .i64 (kk : Int)] 3 (0, 0)) → (kk = L.length ∨ (t = 0 ∧ (kk : Int) = most)) → W'.heap[w4.heap.size]? = some (.deferred (some [])) → K9 ⟨#[.pointer (some ⟨bh, 0, none⟩), .pointer (some ⟨bw, 0, none⟩), .int .i64 most, undef, .pointer (some ⟨W.heap.size, 0, none⟩), .pointer (some ⟨W.heap.size + 1, 0, none⟩), .pointer (some ⟨W.heap.size + 1 + 1, 0, none⟩), .func (.func 43) #[] #[.pointer (some ⟨W1.heap.size, 0, none⟩)], .pointer (some ⟨b8, 0, none⟩), .pointer (some ⟨wo.heap.size, 0, none⟩), j10, j11, j12, .pointer (some ⟨bh, 0, none⟩), .func (.func 43) #[] #[.pointer (some ⟨W1.heap.size, 0, none⟩)], .func (.func 43) #[] #[.pointer (some ⟨W1.heap.size, 0, none⟩)], .bool false, .int .i64 t, .bool true, j19, j20, .func (.func 43) #[] #[.pointer (some ⟨W1.heap.size, 0, none⟩)], j22, j23, j24, j25, j26, j27, j28, j29, j30, j31, j32, j33, j34, j35, j36, j37, j38, j39, j40, j41, j42, j43, j44, j45, j46, j47, j48, j49, j50, j51, j52, j53, j54, j55, j56, j57, j58, j59, j60, j61, j62, j63, j64, j65, j66, j67, j68, j69, j70, j71, j72, j73, j74, j75, j76, j77, j78, j79, j80, j81, j82, j83, j84, j85, j86, j87, j88, j89, j90, j91, j92, j93, j94, j95, j96], markAt w4.heap.size :: Ds.map markAt⟩ W' := by
      intro kk W' hab h9 hend hD
      refine hK9 _ _ ?_
      have hK := HHK.out
      obtain ⟨A7, c7, e7⟩ : ∃ A c, W'.heap[bw]? = some (.cells #[.slice A M.length c] 30 (0, 0)) := by
        obtain ⟨vM, e1, e2, _⟩ := (HH.out.ext hab.x).r.ex
        obtain ⟨A7, c7, rfl⟩ := own_slice3 e2
        exact ⟨A7, c7, e1⟩
      have w0 : W'.cell? ⟨bw, 0, none⟩ = some (.slice A7 M.length c7) := by simp [World.cell?, e7]
      have lw := (Array.getElem?_eq_some_iff.1 e7).1
      have y9 : W'.cell? ⟨wo.heap.size, 0, none⟩ = some (.int .i64 (kk : Int)) := by simp [World.cell?, h9]
      have y8 : W'.cell? ⟨b8, 0, none⟩ = some (.int .i64 t) := by simp [World.cell?, hab.h8]
      have y5 : W'.cell? ⟨W.heap.size + 1, 0, none⟩ = some (.int .i64 most) := by simp [World.cell?, hab.h5]
      have y4 : W'.cell? ⟨W.heap.size, 0, none⟩ = some (.pointer (some ⟨bw, 0, none⟩)) := by simp [World.cell?, hab.h4]
      have hml := key_len HH.out.key
      have HAB7 := Lib.hid hab
      have HD7 := Lib.hid hD
      have HEND := Lib.hid hend
      clear hab h9 hD e7 hI0 hend
      have l8 := HAB7.out.lt.2.2.2.2.1
      by_cases hkl : (kk : Int) = (M.length : Int)
      · have hkk : ((kk : Int) != (M.length : Int)) = false := by simp [hkl]
        clear hkl
        go_wp2_with fail
        go_quiet (fail)
        obtain ⟨wd, hwd⟩ : ∃ wd, wd = W'.drewN nq := ⟨_, rfl⟩
        rw [← hwd]
        have hxd : Ext W' wd := by rw [hwd]; exact Ext.drewN _ _
        have habd := HAB7.out.ext hxd
        have yd8 : wd.cell? ⟨b8, 0, none⟩ = some (.int .i64 t) := by simp [World.cell?, habd.h8]
        have ld8 := habd.lt.2.2.2.2.1
        have HXD := Lib.hid hxd
        have HABD := Lib.hid habd
        clear hwd hxd habd y9 y8 y5 y4 w0 lw l8
        go_upto_region 6 with (fail)
        obtain ⟨w5, hw5⟩ : ∃ w5, w5 = wd.alloc (.cells #[.int .i64 t] 3) := ⟨_, rfl⟩
        change Code.wp _ _ _ _ (wd.alloc (.cells #[.int .i64 t] 3))
        rw [← hw5]
        have hx5 : Ext wd w5 := by rw [hw5]; exact Ext.one _ _
        have hb5 : w5.heap[wd.heap.size]? = some (.cells #[.int .i64 t] 3 (0, 0)) := by rw [hw5]; exact World.alloc_heap_new wd _
        have c5' : w5.cell? ⟨wd.heap.size, 0, none⟩ = some (.int .i64 t) := by simp [World.cell?, hb5]
        have f5 := frozen_of_row w5 wd.heap.size 0 _ _ hb5
        have l5 := (Array.getElem?_eq_some_iff.1 hb5).1
        have hab5 := HABD.out.ext hx5
        have hd5 := ((HXD.out.trans hx5).kept (fun _ _ => true)).same _ _ HD7.out rfl
        obtain ⟨s1, s2⟩ := sto1 hb5 (.int .i64 ((t : Int) + 1))
        have hsz5 := HABD.out.x.size
        have hlt7 := HABD.out.lt
        have hszd := HXD.out.size
        have hdm : w4.heap.size < W'.heap.size := (Array.getElem?_eq_some_iff.1 HD7.out).1
        have hdn : w4.heap.size ∉ Ds := fun h => by have := HLT.out.2.2.2.2.2 _ h; have := HS4.out; omega
        have hge4 : W.heap.size ≤ w4.heap.size := by have := HAB.out.x.size; have := HS4.out; omega
        have habf : AB W bh bw most W.heap.size (W.heap.size + 1) (W.heap.size + 1 + 1) W1.heap.size wd.heap.size ((t + 1 : Nat) : Int) (w4.heap.size :: Ds) (w5.setCell ⟨wd.heap.size, 0, none⟩ (.int .i64 ((t : Int) + 1))) := by
          have s3 := s2 (fun b _ => b != wd.heap.size) (by simp)
          have k3 : ∀ b o, w5.heap[b]? = some o → b ≠ wd.heap.size → (w5.setCell ⟨wd.heap.size, 0, none⟩ (.int .i64 ((t : Int) + 1))).heap[b]? = some o := fun b o h1 h2 => s3.same _ _ h1 (by simpa using h2)
          exact ⟨Kept.trans hab5.x (s3.mono fun b t _ hp => by simp [pOld] at hp; simp; omega), k3 _ _ hab5.h4 (by omega), k3 _ _ hab5.h5 (by omega), k3 _ _ hab5.h6 (by omega), k3 _ _ hab5.hl (by omega), by simpa using s1, fun D hd => by
            rcases List.mem_cons.1 hd with rfl | hd
            · exact ⟨k3 _ _ hd5 (by omega), hge4⟩
            · exact ⟨k3 _ _ (hab5.ds D hd).1 (by have := hlt7.2.2.2.2.2 D hd; omega), (hab5.ds D hd).2⟩, List.nodup_cons.2 ⟨hdn, hab5.nd⟩, hab5.g.1, hab5.g.2.1, hab5.g.2.2.1, hab5.g.2.2.2.1, by omega⟩
        have HABF := Lib.hid habf
        clear hw5 hx5 hb5 hab5 hd5 s1 s2 habf hlt7 hdn
        go_wp2_with fail
        refine Handed.intro c (by omega) (HHJ.out _ _ _ ?_)
        exact ⟨t + 1, wd.heap.size, w4.heap.size :: Ds, _, _, _, _, _, _, _, _, _, _, _, _, _, _, _, _, _, _, _, _, _, _, _, _, _, _, _, _, _, _, _, _, _, _, _, _, _, _, _, _, _, _, _, _, _, _, _, _, _, _, _, _, _, _, _, _, _, _, _, _, _, _, _, _, _, _, _, _, _, _, _, _, _, _, _, _, _, _, _, _, _, _, _, _, by have := HTC.out; omega, HABF.out, rfl⟩
      · have hkk : ((kk : Int) != (M.length : Int)) = true := by simpa using hkl
        obtain ⟨rfl, hkm⟩ : t = 0 ∧ (kk : Int) = most := by
          rcases HEND.out with h | h
          · exact absurd (by rw [h, hml]) hkl
          · exact h
        have hmm : ((kk : Int) != most) = false := by simpa using hkm
        clear hkl hkm
        go_wp2_with fail
        go_quiet (fail)
        obtain ⟨t, ht⟩ : ∃ t : Nat, t = 0 := ⟨0, rfl⟩
        have HABT := Lib.hid (show AB W bh bw most W.heap.size (W.heap.size + 1) (W.heap.size + 1 + 1) W1.heap.size b8 (t : Int) Ds W' from by rw [ht]; exact HAB7.out)
        have HTT := Lib.hid ht
        have ht9 : (t : Int) < 2 := by omega
        clear HAB7
        have HAB7 := HABT
        clear ht
        obtain ⟨wd, hwd⟩ : ∃ wd, wd = W'.drewN nq := ⟨_, rfl⟩
        rw [← hwd]
        have hxd : Ext W' wd := by rw [hwd]; exact Ext.drewN _ _
        have habd := HAB7.out.ext hxd
        have yd8 : wd.cell? ⟨b8, 0, none⟩ = some (.int .i64 t) := by simp [World.cell?, habd.h8]
        have ld8 := habd.lt.2.2.2.2.1
        have HXD := Lib.hid hxd
        have HABD := Lib.hid habd
        clear hwd hxd habd y9 y8 y5 y4 w0 lw l8
        go_upto_region 6 with (fail)
        obtain ⟨w5, hw5⟩ : ∃ w5, w5 = wd.alloc (.cells #[.int .i64 t] 3) := ⟨_, rfl⟩
        change Code.wp _ _ _ _ (wd.alloc (.cells #[.int .i64 t] 3))
        rw [← hw5]
        have hx5 : Ext wd w5 := by rw [hw5]; exact Ext.one _ _
        have hb5 : w5.heap[wd.heap.size]? = some (.cells #[.int .i64 t] 3 (0, 0)) := by rw [hw5]; exact World.alloc_heap_new wd _
        have c5' : w5.cell? ⟨wd.heap.size, 0, none⟩ = some (.int .i64 t) := by simp [World.cell?, hb5]
        have f5 := frozen_of_row w5 wd.heap.size 0 _ _ hb5
        have l5 := (Array.getElem?_eq_some_iff.1 hb5).1
        have hab5 := HABD.out.ext hx5
        have hd5 := ((HXD.out.trans hx5).kept (fun _ _ => true)).same _ _ HD7.out rfl
        obtain ⟨s1, s2⟩ := sto1 hb5 (.int .i64 ((t : Int) + 1))
        have hsz5 := HABD.out.x.size
        have hlt7 := HABD.out.lt
        have hszd := HXD.out.size
        have hdm : w4.heap.size < W'.heap.size := (Array.getElem?_eq_some_iff.1 HD7.out).1
        have hdn : w4.heap.size ∉ Ds := fun h => by have := HLT.out.2.2.2.2.2 _ h; have := HS4.out; omega
        have hge4 : W.heap.size ≤ w4.heap.size := by have := HAB.out.x.size; have := HS4.out; omega
        have habf : AB W bh bw most W.heap.size (W.heap.size + 1) (W.heap.size + 1 + 1) W1.heap.size wd.heap.size ((t + 1 : Nat) : Int) (w4.heap.size :: Ds) (w5.setCell ⟨wd.heap.size, 0, none⟩ (.int .i64 ((t : Int) + 1))) := by
          have s3 := s2 (fun b _ => b != wd.heap.size) (by simp)
          have k3 : ∀ b o, w5.heap[b]? = some o → b ≠ wd.heap.size → (w5.setCell ⟨wd.heap.size, 0, none⟩ (.int .i64 ((t : Int) + 1))).heap[b]? = some o := fun b o h1 h2 => s3.same _ _ h1 (by simpa using h2)
          exact ⟨Kept.trans hab5.x (s3.mono fun b t _ hp => by simp [pOld] at hp; simp; omega), k3 _ _ hab5.h4 (by omega), k3 _ _ hab5.h5 (by omega), k3 _ _ hab5.h6 (by omega), k3 _ _ hab5.hl (by omega), by simpa using s1, fun D hd => by
            rcases List.mem_cons.1 hd with rfl | hd
            · exact ⟨k3 _ _ hd5 (by omega), hge4⟩
            · exact ⟨k3 _ _ (hab5.ds D hd).1 (by have := hlt7.2.2.2.2.2 D hd; omega), (hab5.ds D hd).2⟩, List.nodup_cons.2 ⟨hdn, hab5.nd⟩, hab5.g.1, hab5.g.2.1, hab5.g.2.2.1, hab5.g.2.2.2.1, by omega⟩
        have HABF := Lib.hid habf
        clear hw5 hx5 hb5 hab5 hd5 s1 s2 habf hlt7 hdn
        go_wp2_with fail
        refine Handed.intro c (by omega) (HHJ.out _ _ _ ?_)
        exact ⟨t + 1, wd.heap.size, w4.heap.size :: Ds, _, _, _, _, _, _, _, _, _, _, _, _, _, _, _, _, _, _, _, _, _, _, _, _, _, _, _, _, _, _, _, _, _, _, _, _, _, _, _, _, _, _, _, _, _, _, _, _, _, _, _, _, _, _, _, _, _, _, _, _, _, _, _, _, _, _, _, _, _, _, _, _, _, _, _, _, _, _, _, _, _, _, _, _, by have := HTC.out; have := HTT.out; omega, HABF.out, rfl⟩
    refine wpIn_wide.1 (range_q (n := 3) (gf := 43) (lb := #[.pointer (some ⟨W1.heap.size, 0, none⟩)]) rfl egAll HSQ.out (fun k x W' hx => by obtain ⟨A, c2, e, _⟩ := hx; rw [e]; rfl)
      (fun k W' => AB W bh bw most W.heap.size (W.heap.size + 1) (W.heap.size + 1 + 1) W1.heap.size b8 t Ds W' ∧ W'.heap[wo.heap.size]? = some (.cells #[.int .i64 (k : Int)] 3 (0, 0)))
      (fun c k W' => c = .exit 2 ∧ (AB W bh bw most W.heap.size (W.heap.size + 1) (W.heap.size + 1 + 1) W1.heap.size b8 t Ds W' ∧ W'.heap[wo.heap.size]? = some (.cells #[.int .i64 (k : Int)] 3 (0, 0))) ∧ (k : Int) = most ∧ t = 0)
      (fun s X Y h k => ?stab)
      (fun c s X Y h k => ?stabx)
      hI0
      (fun k x a' W' => ∃ bx A c2, x = #[.int .i64 ((k : Int) + 1), .agg #[.int .i64 (nt L k).kind, .int .i64 (nt L k).of, .slice A (nt L k).vals.length c2, .int .i64 (nt L k).site, .int .i64 (nt L k).by', .int .i64 (nt L k).nth]] ∧ a' = ⟨#[.pointer (some ⟨bh, 0, none⟩), .pointer (some ⟨bw, 0, none⟩), .int .i64 most, undef, .pointer (some ⟨W.heap.size, 0, none⟩), .pointer (some ⟨W.heap.size + 1, 0, none⟩), .pointer (some ⟨W.heap.size + 1 + 1, 0, none⟩), .func (.func 43) #[] #[.pointer (some ⟨W1.heap.size, 0, none⟩)], .pointer (some ⟨b8, 0, none⟩), .pointer (some ⟨wo.heap.size, 0, none⟩), .int .i64 ((k : Int) + 1), .pointer (some ⟨bx, 0, none⟩), j12, .pointer (some ⟨bh, 0, none⟩), .func (.func 43) #[] #[.pointer (some ⟨W1.heap.size, 0, none⟩)], .func (.func 43) #[] #[.pointer (some ⟨W1.heap.size, 0, none⟩)], .bool false, .int .i64 t, .bool true, j19, j20, .func (.func 43) #[] #[.pointer (some ⟨W1.heap.size, 0, none⟩)], .int .i64 ((k : Int) + 1), .agg #[.int .i64 (nt L k).kind, .int .i64 (nt L k).of, .slice A (nt L k).vals.length c2, .int .i64 (nt L k).site, .int .i64 (nt L k).by', .int .i64 (nt L k).nth], j24, j25, j26, j27, j28, j29, j30, j31, j32, j33, j34, j35, j36, j37, j38, j39, j40, j41, j42, j43, j44, j45, j46, j47, j48, j49, j50, j51, j52, j53, j54, j55, j56, j57, j58, j59, j60, j61, j62, j63, j64, j65, j66, j67, j68, j69, j70, j71, j72, j73, j74, j75, j76, j77, j78, j79, j80, j81, j82, j83, j84, j85, j86, j87, j88, j89, j90, j91, j92, j93, j94, j95, j96], []⟩ ∧ W'.heap[bx]? = some (obo { nt L k with v := .slice A (nt L k).vals.length c2 } (nt L k).nth) ∧ W'.ownsRow w4.heap.size 2 1 (.slice A (nt L k).vals.length c2) (nt L k).vals.length (rowI (nt L k).vals))
      (fun k x a' X Y h k2 => ?stab3)
      ?assign ?body ?done ?stop)
    case stab =>
      have hlt := HAB.out.lt
      have := HS4.out
      exact ⟨h.1.of k (fun b t hb => by have := HAB.out.x.size; have := HS4.out; simp [pR]; left; omega) (by simp [pR]) (by simp [pR]) (by simp [pR]) (by simp [pR]) (by simp [pR]) fun D hd => by have := HAB.out.lt.2.2.2.2.2 D hd; have := HS4.out; simp [pR]; omega, k.same _ _ h.2 (by simp [pR, tag])⟩
    case stabx =>
      obtain ⟨e1, h, e2, e3⟩ := h
      exact ⟨e1, ⟨h.1.of k (fun b t hb => by have := HAB.out.x.size; have := HS4.out; simp [pR]; left; omega) (by simp [pR]) (by simp [pR]) (by simp [pR]) (by simp [pR]) (by simp [pR]) fun D hd => by have := HAB.out.lt.2.2.2.2.2 D hd; have := HS4.out; simp [pR]; omega, k.same _ _ h.2 (by simp [pR, tag])⟩, e2, e3⟩
    case stab3 =>
      obtain ⟨bx, A, c2, e1, e2, e3, e4⟩ := h
      exact ⟨bx, A, c2, e1, e2, k2.same _ _ e3 (by simp [pR, tag, obo]), k2.row e4 fun _ _ => by simp [pR]⟩
    case assign =>
      rintro lq k x W' C hk ⟨A, c2, rfl, how⟩ hI hC
      have HC := Lib.hid hC
      have HI := Lib.hid hI
      have HOW := Lib.hid how
      clear hC hI how
      gi_wp2
      have hx1 : Ext W' _ := Ext.one W' (.cells #[.int .i64 (nt L k).kind, .int .i64 (nt L k).of, .slice A (nt L k).vals.length c2, .int .i64 (nt L k).site, .int .i64 (nt L k).by', .int .i64 (nt L k).nth] 45)
      exact HC.out _ _ (hx1.kept _) ⟨HI.out.1.ext hx1, (hx1.kept (fun _ _ => true)).same _ _ HI.out.2 rfl⟩ ⟨_, A, c2, rfl, rfl, World.alloc_heap_new _ _, (hx1.kept (fun _ _ => true)).row HOW.out fun _ _ => rfl⟩
    case body =>
      rintro lq k x a' W' hlq hk ⟨hab, h9⟩ ⟨bx, A, c2, rfl, rfl, hbx, how⟩
      have hboth := HH.out.ext hab.x
      have hkM : k < M.length := by rw [← key_len HH.out.key]; exact hk
      have hL := HH.out.p.len
      have hkey := key_nt HH.out.key k
      obtain ⟨vM, e1, e2, _⟩ := hboth.r.ex
      obtain ⟨g, cM, rfl, d0, d1, d2, d3, d4, d5⟩ := own6_cells e2 hkM
      obtain ⟨A6, c6, hv6⟩ := own_slice3 (hboth.r.vs k hkM)
      rw [hv6] at d2
      have w0 : W'.cell? ⟨bw, 0, none⟩ = some (.slice (some ⟨g, 0, none⟩) M.length cM) := by simp [World.cell?, e1]
      have lw := (Array.getElem?_eq_some_iff.1 e1).1
      obtain ⟨⟨z0, z1, z2, z3, z4, z5⟩, zf, zl⟩ := obo_cells hbx
      dsimp only at z0 z1 z2 z3 z4 z5
      have x9 : W'.cell? ⟨wo.heap.size, 0, none⟩ = some (.int .i64 (k : Int)) := by simp [World.cell?, h9]
      have x4 : W'.cell? ⟨W.heap.size, 0, none⟩ = some (.pointer (some ⟨bw, 0, none⟩)) := by simp [World.cell?, hab.h4]
      have l9 := (Array.getElem?_eq_some_iff.1 h9).1
      have l4 := hab.lt.1
      have hso : ∀ w, Ext W' w → Calls Try.prog 32 #[.agg #[.int .i64 (nt L k).kind, .int .i64 (nt L k).of, .slice A (nt L k).vals.length c2, .int .i64 (nt L k).site, .int .i64 (nt L k).by', .int .i64 (nt L k).nth], .agg #[.int .i64 (nt M k).kind, .int .i64 (nt M k).of, .slice A6 (nt M k).vals.length c6, .int .i64 (nt M k).site, .int .i64 (nt M k).by', .int .i64 (nt M k).nth]] w fun e w9 => e = .returned (.bool true) ∧ Ext w w9 := fun w hw => by
        have := refSameOb_ok (W := w) { nt L k with v := .slice A (nt L k).vals.length c2 } (nt M k) ((hw.kept (fun _ _ => true)).row how fun _ _ => rfl) ((hw.kept (fun _ _ => true)).row (hboth.r.vs k hkM) fun _ _ => rfl) (HH.out.p.wid k hk) (hboth.r.wid k hkM)
        rw [sameOb_self (show ({ nt L k with v := .slice A (nt L k).vals.length c2 } : Ob).key = (nt M k).key from hkey), hv6] at this
        exact this
      have HSO := Lib.hid hso
      have HAB' := Lib.hid hab
      have H9 := Lib.hid h9
      have HBX := Lib.hid hbx
      have HOW := Lib.hid how
      have hkL : (k : Int) < 1024 := by omega
      have hkM2 : (k : Int) < (M.length : Int) := by omega
      have hw : IntKind.i64.wrap ((k : Int) + 1) = (k : Int) + 1 := by rw [IntKind.wrap_i64]; omega
      clear hso hab h9 hbx how e1 e2 hv6 hboth hI0
      gi_wp2
      refine region_grow_in (n := 24) (s := 24) (by kernel_rfl) (fun _ j u _ => u = (GBv k M.length bw g cM (.agg #[.int .i64 (nt L k).kind, .int .i64 (nt L k).of, .slice A (nt L k).vals.length c2, .int .i64 (nt L k).site, .int .i64 (nt L k).by', .int .i64 (nt L k).nth]) (.agg #[.int .i64 (nt M k).kind, .int .i64 (nt M k).of, .slice A6 (nt M k).vals.length c6, .int .i64 (nt M k).site, .int .i64 (nt M k).by', .int .i64 (nt M k).nth])).getD j undef) (fun _ w => Ext W' w) rfl (Ext.drew _) (by kernel_rfl) (RgOps.ofG (z := 97) GBg (by kernel_rfl) rfl (GBg_ok _ _ _ _ _ _ _) (fun _ _ _ _ h _ => h) (fun _ _ h k => h.trans k) ?op) ?fin
      case op =>
        intro i o hi ho a' w' hF hX hD K hK
        have e4 : a'.tmps.getD 4 undef = .pointer (some ⟨W.heap.size, 0, none⟩) := hF.2.2 4 (by kernel_rfl)
        have e9 : a'.tmps.getD 9 undef = .pointer (some ⟨wo.heap.size, 0, none⟩) := hF.2.2 9 (by kernel_rfl)
        have e10 : a'.tmps.getD 10 undef = .int .i64 ((k : Int) + 1) := hF.2.2 10 (by kernel_rfl)
        have e11 : a'.tmps.getD 11 undef = .pointer (some ⟨bx, 0, none⟩) := hF.2.2 11 (by kernel_rfl)
        have hxk := hX.kept (fun _ _ => true)
        have x9 := hxk.cell x9 fun _ _ => rfl
        have x4 := hxk.cell x4 fun _ _ => rfl
        have w0 := hxk.cell w0 fun _ _ => rfl
        have z0 := hxk.cell z0 fun _ _ => rfl
        have z1 := hxk.cell z1 fun _ _ => rfl
        have z2 := hxk.cell z2 fun _ _ => rfl
        have z3 := hxk.cell z3 fun _ _ => rfl
        have z4 := hxk.cell z4 fun _ _ => rfl
        have z5 := hxk.cell z5 fun _ _ => rfl
        have d0 := hxk.cell d0 fun _ _ => rfl
        have d1 := hxk.cell d1 fun _ _ => rfl
        have d2 := hxk.cell d2 fun _ _ => rfl
        have d3 := hxk.cell d3 fun _ _ => rfl
        have d4 := hxk.cell d4 fun _ _ => rfl
        have d5 := hxk.cell d5 fun _ _ => rfl
        have l9 := Nat.lt_of_lt_of_le l9 hX.size
        have l4 := Nat.lt_of_lt_of_le l4 hX.size
        have lw := Nat.lt_of_lt_of_le lw hX.size
        have zl := Nat.lt_of_lt_of_le zl hX.size
        clear zf hxk
        match i, hi with
        | n + 24, h => exact absurd h (by omega)
        | 0, _ =>
          obtain rfl := Option.some.inj (show some _ = some o from ho)
          clear ho hD
          go_simp
          exact hK _ _ rfl (Ext.refl _)
        | 1, _ =>
          obtain rfl := Option.some.inj (show some _ = some o from ho)
          clear ho hD
          go_simp
          exact hK _ _ rfl (Ext.refl _)
        | 2, _ =>
          obtain rfl := Option.some.inj (show some _ = some o from ho)
          obtain ⟨d, hd, hG0⟩ := hD _ (Array.mem_of_getElem? (i := 0) rfl) rfl
          cases hd
          replace hG0 : a'.tmps.getD 25 undef = .int .i64 (k : Int) := hG0
          clear ho hD
          go_simp
          exact hK _ _ rfl (Ext.refl _)
        | 3, _ =>
          obtain rfl := Option.some.inj (show some _ = some o from ho)
          obtain ⟨d, hd, hG0⟩ := hD _ (Array.mem_of_getElem? (i := 0) rfl) rfl
          cases hd
          replace hG0 : a'.tmps.getD 24 undef = .int .i64 ((k : Int) + 1) := hG0
          obtain ⟨d, hd, hG1⟩ := hD _ (Array.mem_of_getElem? (i := 1) rfl) rfl
          cases hd
          replace hG1 : a'.tmps.getD 26 undef = .int .i64 ((k : Int) + 1) := hG1
          clear ho hD
          go_simp
          exact hK _ _ (by simp [GBv]) (Ext.refl _)
        | 4, _ =>
          obtain rfl := Option.some.inj (show some _ = some o from ho)
          obtain ⟨d, hd, hG0⟩ := hD _ (Array.mem_of_getElem? (i := 0) rfl) rfl
          cases hd
          replace hG0 : a'.tmps.getD 27 undef = .bool false := hG0
          clear ho hD
          go_simp
          exact hK _ _ rfl (Ext.refl _)
        | 5, _ =>
          obtain rfl := Option.some.inj (show some _ = some o from ho)
          clear ho hD
          go_simp
          exact hK _ _ rfl (Ext.refl _)
        | 6, _ =>
          obtain rfl := Option.some.inj (show some _ = some o from ho)
          clear ho hD
          go_simp
          exact hK _ _ rfl (Ext.refl _)
        | 7, _ =>
          obtain rfl := Option.some.inj (show some _ = some o from ho)
          obtain ⟨d, hd, hG0⟩ := hD _ (Array.mem_of_getElem? (i := 0) rfl) rfl
          cases hd
          replace hG0 : a'.tmps.getD 30 undef = .pointer (some ⟨bw, 0, none⟩) := hG0
          clear ho hD
          go_simp
          exact hK _ _ rfl (Ext.refl _)
        | 8, _ =>
          obtain rfl := Option.some.inj (show some _ = some o from ho)
          obtain ⟨d, hd, hG0⟩ := hD _ (Array.mem_of_getElem? (i := 0) rfl) rfl
          cases hd
          replace hG0 : a'.tmps.getD 31 undef = .pointer (some ⟨bw, 0, none⟩) := hG0
          clear ho hD
          go_simp
          exact hK _ _ rfl (Ext.refl _)
        | 9, _ =>
          obtain rfl := Option.some.inj (show some _ = some o from ho)
          obtain ⟨d, hd, hG0⟩ := hD _ (Array.mem_of_getElem? (i := 0) rfl) rfl
          cases hd
          replace hG0 : a'.tmps.getD 32 undef = .pointer (some ⟨bw, 0, none⟩) := hG0
          clear ho hD
          go_simp
          exact hK _ _ rfl (Ext.refl _)
        | 10, _ =>
          obtain rfl := Option.some.inj (show some _ = some o from ho)
          obtain ⟨d, hd, hG0⟩ := hD _ (Array.mem_of_getElem? (i := 0) rfl) rfl
          cases hd
          replace hG0 : a'.tmps.getD 33 undef = .slice (some ⟨g, 0, none⟩) M.length cM := hG0
          clear ho hD
          go_simp
          exact hK _ _ rfl (Ext.refl _)
        | 11, _ =>
          obtain rfl := Option.some.inj (show some _ = some o from ho)
          obtain ⟨d, hd, hG0⟩ := hD _ (Array.mem_of_getElem? (i := 0) rfl) rfl
          cases hd
          replace hG0 : a'.tmps.getD 29 undef = .int .i64 (k : Int) := hG0
          obtain ⟨d, hd, hG1⟩ := hD _ (Array.mem_of_getElem? (i := 1) rfl) rfl
          cases hd
          replace hG1 : a'.tmps.getD 34 undef = .int .i64 (M.length : Int) := hG1
          clear ho hD
          go_simp
          exact hK _ _ (by simp [GBv]; omega) (Ext.refl _)
        | 12, _ =>
          obtain rfl := Option.some.inj (show some _ = some o from ho)
          obtain ⟨d, hd, hG0⟩ := hD _ (Array.mem_of_getElem? (i := 0) rfl) rfl
          cases hd
          replace hG0 : a'.tmps.getD 28 undef = .bool false := hG0
          obtain ⟨d, hd, hG1⟩ := hD _ (Array.mem_of_getElem? (i := 1) rfl) rfl
          cases hd
          replace hG1 : a'.tmps.getD 35 undef = .bool false := hG1
          clear ho hD
          go_simp
          exact hK _ _ rfl (Ext.refl _)
        | 13, _ =>
          obtain rfl := Option.some.inj (show some _ = some o from ho)
          obtain ⟨d, hd, hG0⟩ := hD _ (Array.mem_of_getElem? (i := 0) rfl) rfl
          cases hd
          replace hG0 : a'.tmps.getD 36 undef = .bool false := hG0
          clear ho hD
          go_simp
          exact hK _ _ rfl (Ext.refl _)
        | 14, _ =>
          obtain rfl := Option.some.inj (show some _ = some o from ho)
          clear ho hD
          go_simp
          exact hK _ _ rfl (Ext.refl _)
        | 15, _ =>
          obtain rfl := Option.some.inj (show some _ = some o from ho)
          clear ho hD
          go_simp
          exact hK _ _ rfl (Ext.refl _)
        | 16, _ =>
          obtain rfl := Option.some.inj (show some _ = some o from ho)
          obtain ⟨d, hd, hG0⟩ := hD _ (Array.mem_of_getElem? (i := 0) rfl) rfl
          cases hd
          replace hG0 : a'.tmps.getD 39 undef = .pointer (some ⟨bw, 0, none⟩) := hG0
          clear ho hD
          go_simp
          exact hK _ _ rfl (Ext.refl _)
        | 17, _ =>
          obtain rfl := Option.some.inj (show some _ = some o from ho)
          obtain ⟨d, hd, hG0⟩ := hD _ (Array.mem_of_getElem? (i := 0) rfl) rfl
          cases hd
          replace hG0 : a'.tmps.getD 40 undef = .pointer (some ⟨bw, 0, none⟩) := hG0
          clear ho hD
          go_simp
          exact hK _ _ rfl (Ext.refl _)
        | 18, _ =>
          obtain rfl := Option.some.inj (show some _ = some o from ho)
          obtain ⟨d, hd, hG0⟩ := hD _ (Array.mem_of_getElem? (i := 0) rfl) rfl
          cases hd
          replace hG0 : a'.tmps.getD 41 undef = .pointer (some ⟨bw, 0, none⟩) := hG0
          clear ho hD
          go_simp
          exact hK _ _ rfl (Ext.refl _)
        | 19, _ =>
          obtain rfl := Option.some.inj (show some _ = some o from ho)
          clear ho hD
          go_simp
          exact hK _ _ rfl (Ext.refl _)
        | 20, _ =>
          obtain rfl := Option.some.inj (show some _ = some o from ho)
          obtain ⟨d, hd, hG0⟩ := hD _ (Array.mem_of_getElem? (i := 0) rfl) rfl
          cases hd
          replace hG0 : a'.tmps.getD 42 undef = .slice (some ⟨g, 0, none⟩) M.length cM := hG0
          obtain ⟨d, hd, hG1⟩ := hD _ (Array.mem_of_getElem? (i := 1) rfl) rfl
          cases hd
          replace hG1 : a'.tmps.getD 43 undef = .int .i64 (k : Int) := hG1
          clear ho hD
          go_simp
          exact hK _ _ rfl (Ext.refl _)
        | 21, _ =>
          obtain rfl := Option.some.inj (show some _ = some o from ho)
          obtain ⟨d, hd, hG0⟩ := hD _ (Array.mem_of_getElem? (i := 0) rfl) rfl
          cases hd
          replace hG0 : a'.tmps.getD 44 undef = .pointer (some ⟨g, k * 6, none⟩) := hG0
          clear ho hD
          go_simp
          exact hK _ _ rfl (Ext.refl _)
        | 22, _ =>
          obtain rfl := Option.some.inj (show some _ = some o from ho)
          obtain ⟨d, hd, hG0⟩ := hD _ (Array.mem_of_getElem? (i := 0) rfl) rfl
          cases hd
          replace hG0 : a'.tmps.getD 38 undef = .agg #[.int .i64 (nt L k).kind, .int .i64 (nt L k).of, .slice A (nt L k).vals.length c2, .int .i64 (nt L k).site, .int .i64 (nt L k).by', .int .i64 (nt L k).nth] := hG0
          obtain ⟨d, hd, hG1⟩ := hD _ (Array.mem_of_getElem? (i := 1) rfl) rfl
          cases hd
          replace hG1 : a'.tmps.getD 45 undef = .agg #[.int .i64 (nt M k).kind, .int .i64 (nt M k).of, .slice A6 (nt M k).vals.length c6, .int .i64 (nt M k).site, .int .i64 (nt M k).by', .int .i64 (nt M k).nth] := hG1
          have hcall := HSO.out w' hX
          clear ho hD x9 x4 w0 z0 z1 z2 z3 z4 z5 d0 d1 d2 d3 d4 d5
          go_simp
          refine hcall.mono ?_
          rintro e w9 ⟨rfl, hx9⟩
          exact hK _ _ rfl hx9
        | 23, _ =>
          obtain rfl := Option.some.inj (show some _ = some o from ho)
          obtain ⟨d, hd, hG0⟩ := hD _ (Array.mem_of_getElem? (i := 0) rfl) rfl
          cases hd
          replace hG0 : a'.tmps.getD 46 undef = .bool true := hG0
          clear ho hD
          go_simp
          exact hK _ _ rfl (Ext.refl _)
      case fin =>
        intro a' w' hF hX hG
        obtain ⟨⟨l⟩, df⟩ := a'
        obtain ⟨f1, f2, f3⟩ := hF
        replace f1 : df = [] := f1
        replace f2 : l.length = 97 := f2
        subst f1
        have q4 := f3 4 (by kernel_rfl)
        have q5 := f3 5 (by kernel_rfl)
        have q8 := f3 8 (by kernel_rfl)
        have q9 := f3 9 (by kernel_rfl)
        have q11 := f3 11 (by kernel_rfl)
        obtain ⟨d, hd, g13⟩ := hG 13 (by omega)
        cases hd
        obtain ⟨d, hd, g23⟩ := hG 23 (by omega)
        cases hd
        clear f3 hG
        have hl97 := list97 l f2
        revert hl97
        refine ex_intro fun y0 => ex_intro fun y1 => ex_intro fun y2 => ex_intro fun y3 => ex_intro fun y4 => ex_intro fun y5 => ex_intro fun y6 => ex_intro fun y7 => ex_intro fun y8 => ex_intro fun y9 => ex_intro fun y10 => ex_intro fun y11 => ex_intro fun y12 => ex_intro fun y13 => ex_intro fun y14 => ex_intro fun y15 => ex_intro fun y16 => ex_intro fun y17 => ex_intro fun y18 => ex_intro fun y19 => ex_intro fun y20 => ex_intro fun y21 => ex_intro fun y22 => ex_intro fun y23 => ex_intro fun y24 => ex_intro fun y25 => ex_intro fun y26 => ex_intro fun y27 => ex_intro fun y28 => ex_intro fun y29 => ex_intro fun y30 => ex_intro fun y31 => ex_intro fun y32 => ex_intro fun y33 => ex_intro fun y34 => ex_intro fun y35 => ex_intro fun y36 => ex_intro fun y37 => ex_intro fun y38 => ex_intro fun y39 => ex_intro fun y40 => ex_intro fun y41 => ex_intro fun y42 => ex_intro fun y43 => ex_intro fun y44 => ex_intro fun y45 => ex_intro fun y46 => ex_intro fun y47 => ex_intro fun y48 => ex_intro fun y49 => ex_intro fun y50 => ex_intro fun y51 => ex_intro fun y52 => ex_intro fun y53 => ex_intro fun y54 => ex_intro fun y55 => ex_intro fun y56 => ex_intro fun y57 => ex_intro fun y58 => ex_intro fun y59 => ex_intro fun y60 => ex_intro fun y61 => ex_intro fun y62 => ex_intro fun y63 => ex_intro fun y64 => ex_intro fun y65 => ex_intro fun y66 => ex_intro fun y67 => ex_intro fun y68 => ex_intro fun y69 => ex_intro fun y70 => ex_intro fun y71 => ex_intro fun y72 => ex_intro fun y73 => ex_intro fun y74 => ex_intro fun y75 => ex_intro fun y76 => ex_intro fun y77 => ex_intro fun y78 => ex_intro fun y79 => ex_intro fun y80 => ex_intro fun y81 => ex_intro fun y82 => ex_intro fun y83 => ex_intro fun y84 => ex_intro fun y85 => ex_intro fun y86 => ex_intro fun y87 => ex_intro fun y88 => ex_intro fun y89 => ex_intro fun y90 => ex_intro fun y91 => ex_intro fun y92 => ex_intro fun y93 => ex_intro fun y94 => ex_intro fun y95 => ex_intro fun y96 => ?_
        rintro rfl
        replace q4 : y4 = .pointer (some ⟨W.heap.size, 0, none⟩) := q4
        replace q5 : y5 = .pointer (some ⟨W.heap.size + 1, 0, none⟩) := q5
        replace q8 : y8 = .pointer (some ⟨b8, 0, none⟩) := q8
        replace q9 : y9 = .pointer (some ⟨wo.heap.size, 0, none⟩) := q9
        replace q11 : y11 = .pointer (some ⟨bx, 0, none⟩) := q11
        replace g13 : y37 = .bool false := g13
        replace g23 : y47 = .bool false := g23
        subst q4 q5 q8 q9 q11 g13 g23
        clear f2 x9 x4 w0 z0 z1 z2 z3 z4 z5 d0 d1 d2 d3 d4 d5 zf
        simp only [List.drop_succ_cons, List.drop_zero]
        gi_wp2
        have HX' := Lib.hid hX
        clear hX
        gi_loopg [12] (nt L k).vals.length (fun kk v12 wx => ∃ (j : Nat) (l' : List Int), j + kk = (nt L k).vals.length ∧ v12 = .int .i64 j ∧ l'.length = (nt L k).vals.length ∧ wx.ownsRow w4.heap.size 2 1 (.slice A (nt L k).vals.length c2) (nt L k).vals.length (rowI l') ∧ wx.heap[bx]? = some (obo { nt L k with v := .slice A (nt L k).vals.length c2 } (nt L k).nth) ∧ Kept (fun b t => t != some 2 || (Value.slice A (nt L k).vals.length c2).ownBlock != some b) w' wx)
        case atStart => exact ⟨0, (nt L k).vals, by omega, rfl, rfl, (HX'.out.kept (fun _ _ => true)).row HOW.out fun _ _ => rfl, (HX'.out.kept (fun _ _ => true)).same _ _ HBX.out rfl, Kept.refl _ _⟩
        case round =>
          obtain ⟨j, l', hjk, rfl, hl', hrow, hbx, hkp⟩ := hrel
          obtain ⟨⟨_, _, z2, _⟩, zf, zl⟩ := obo_cells hbx
          dsimp only at z2
          have hwd := HH.out.p.wid k hk
          have HJK := Lib.hid hjk
          have HBX2 := Lib.hid hbx
          have HKP := Lib.hid hkp
          clear hjk hbx hkp
          by_cases hj : j < (nt L k).vals.length
          · rw [← hl'] at hrow
            obtain ⟨g5, c5, e5, hset, hfz, hg5, ⟨o5, hto, hta⟩, hk5⟩ := ownI_set hrow (show j < l'.length by omega) (wrap64 (l'[j]?.getD 0 + 1))
            obtain ⟨g6, c6', e6, dj⟩ := ownI_cell hrow (show j < l'.length by omega)
            rw [e5] at e6
            injection e6 with e6 _ e8
            injection e6 with e6
            injection e6 with e6
            subst e6 e8
            injection e5 with e5 _ e7
            subst e5 e7
            rw [hl'] at hset
            have hjl : (j : Int) < ((nt L k).vals.length : Int) := by omega
            have hne : bx ≠ g5 := fun e => by
              have := HBX2.out
              rw [e, hto] at this; cases this; simp [tag, obo] at hta
            have HSET := Lib.hid hset
            have HK5 := Lib.hid hk5
            have HNE := Lib.hid hne
            have HL := Lib.hid hl'
            have HTT := Lib.hid (And.intro hto hta)
            clear hrow hset hk5 hl' hto hta hne
            gi_wp2
            gi_roundg (gk - 1)
            case measure => have := HJK.out; omega
            case rel => exact ⟨j + 1, _, by have := HJK.out; omega, by go_num, by simp [HL.out], HSET.out, HK5.out.same _ _ HBX2.out (by simpa using HNE.out), HKP.out.trans (Kept.setCell _ fun o ho => by obtain ⟨q1, q2⟩ := HTT.out; rw [q1] at ho; cases ho; rw [q2]; simp [Value.ownBlock])⟩
          · have hjl : ¬ (j : Int) < ((nt L k).vals.length : Int) := by omega
            have hab2 := (HAB'.out.ext HX'.out).of HKP.out (fun b t hb => by simp; right; intro e; have := own_base hrow b e; have := HAB.out.x.size; have := HS4.out; omega) (by simp) (by simp) (by simp) (by simp) (by simp) (fun _ _ => by simp)
            have h92 := HKP.out.same _ _ ((HX'.out.kept (fun _ _ => true)).same _ _ H9.out rfl) (by simp [tag])
            have y9 : wr.cell? ⟨wo.heap.size, 0, none⟩ = some (.int .i64 (k : Int)) := by simp [World.cell?, h92]
            have y8 : wr.cell? ⟨b8, 0, none⟩ = some (.int .i64 t) := by simp [World.cell?, hab2.h8]
            have y5 : wr.cell? ⟨W.heap.size + 1, 0, none⟩ = some (.int .i64 most) := by simp [World.cell?, hab2.h5]
            have f9 := frozen_of_row wr wo.heap.size 0 _ _ h92
            have l92 := (Array.getElem?_eq_some_iff.1 h92).1
            have n8 : ¬ b8 = wo.heap.size := by have := HLT.out.2.2.2.2.1; omega
            have n5 : ¬ W.heap.size + 1 = wo.heap.size := by have := HLT.out.2.1; omega
            obtain ⟨s1, s2⟩ := sto1 h92 (.int .i64 ((k : Int) + 1))
            have hfin : AB W bh bw most W.heap.size (W.heap.size + 1) (W.heap.size + 1 + 1) W1.heap.size b8 t Ds (wr.setCell ⟨wo.heap.size, 0, none⟩ (.int .i64 ((k : Int) + 1))) := hab2.of (s2 (fun b t => t != some 3 || b != wo.heap.size) (by simp)) (fun b t hb => by have := HAB.out.x.size; simp; omega) (by simp) (by simpa using n5) (by simp) (by simp) (by simpa using n8) (fun _ _ => by simp)
            have hkf : Kept (pK (fun b t => t != 3 && (t != 2 || blkOf #[.int .i64 ((k : Int) + 1), .agg #[.int .i64 (nt L k).kind, .int .i64 (nt L k).of, .slice A (nt L k).vals.length c2, .int .i64 (nt L k).site, .int .i64 (nt L k).by', .int .i64 (nt L k).nth]] != some b)) w4.heap.size) W' (wr.setCell ⟨wo.heap.size, 0, none⟩ (.int .i64 ((k : Int) + 1))) := by
              refine (HX'.out.kept _).trans ((HKP.out.mono fun b t _ hp => ?_).trans (s2 _ (by simp [pK])))
              cases t with
              | none => simp
              | some t =>
                simp only [pK, blkOf, Bool.and_eq_true, Bool.or_eq_true, bne_iff_ne] at hp
                simpa using hp.2
            have HFIN := Lib.hid hfin
            have HKF := Lib.hid hkf
            have HS1' := Lib.hid s1
            clear hrow hl' hab2 h92 hfin hkf s1 s2
            by_cases ht0 : t = 0
            · subst ht0
              by_cases hm : (k : Int) + 1 = most
              · have hmm : ((k : Int) + 1 == most) = true := by simpa using hm
                have HM := Lib.hid hm
                clear hm
                gi_wp2
                exact ⟨HKF.out.mono fun b t _ hp => pN_pK b t hp, rfl, ⟨HFIN.out, by simpa using HS1'.out⟩, by simpa using HM.out⟩
              · have hmm : ((k : Int) + 1 == most) = false := by simpa using hm
                clear hm
                gi_wp2
                exact ⟨HKF.out, HFIN.out, by simpa using HS1'.out⟩
            · obtain rfl : t = 1 := by have := HTC.out; omega
              gi_wp2
              exact ⟨HKF.out, HFIN.out, by simpa using HS1'.out⟩
    case done =>
      rintro W' ⟨hab, h9⟩ hD
      simp only [Exit.inBlock, Exit.then]
      exact HREST _ _ hab h9 (.inl rfl) hD
    case stop =>
      rintro c k W' hk ⟨rfl, ⟨hab, h9⟩, hm, ht⟩ hD
      have hfin := HREST _ _ hab h9 (.inr ⟨ht, hm⟩) hD
      clear hm ht hab h9 hD
      first
        | exact hfin
        | (simp only [Code.wpIn]; exact hfin)
        | (simp only [Code.wpIn, Exit.inBlock]; exact hfin)
        | (gi_wp2; exact hfin)
end
end Go.Proofs.Ytjgggfickbbieaa
