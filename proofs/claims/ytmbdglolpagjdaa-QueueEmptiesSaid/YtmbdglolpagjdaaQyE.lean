/- QueueEmpties' walk. -/
import Derived.Test.YtmbdglolpagjdaaQyD
namespace Go.Proofs.Ytmbdglolpagjdaa
open Go.RowKit Go.Shelf
attribute [local go_sem] Oper.semAt_some
section
variable {W : World}
/-- All items, in the order in which they come first; how many are gone. -/
structure Em3 (W : World) (pu : Int) (N : List Int) (S : List Ent) (A : Option Addr) (c B : Nat) (i : Nat) (l : List Ent) (wr : World) : Prop where
  em : Em W pu l wr
  srt : Go.Proofs.Ytmbdglolpagjdaa.srt l = S.drop i
  len : l.length + i = S.length
  row : wr.ownsRow B 32 3 (.slice A S.length c) S.length (row3 S)
  no : ∀ k, (h : k < N.length) → hasE l N[k] = false
set_option maxHeartbeats 8000000 in
set_option maxRecDepth 100000 in
theorem empties_walk (T : List ItD) (N : List Int) (A B : Option Addr) (c d : Nat) (W : World) (hT : Items W A T) (hN : Ints W B N) (hn : T.length ≤ 60) (hn2 : N.length ≤ 60) :
    Calls Try.prog 5 #[.slice A T.length c, .slice B N.length d] W fun e W' => e = .returned (.bool true) ∧ Ext W W' := by
  have HT := Lib.hid hT
  have HN := Lib.hid hN
  have HNEW := Lib.hid (New_ok W)
  have hn1' : ¬ (T.length : Int) > 60 := by omega
  have hn2' : ¬ (N.length : Int) > 60 := by omega
  clear hT hN
  go_enter Try.func5, Try.ntmps5
  go_upto_region 5 with (go_at_call 9; refine HNEW.out.mono ?_; rintro e w1 ⟨rfl, hx1, hq1⟩; have HX1 := Lib.hid hx1; have HQ1 := Lib.hid hq1; clear hx1 hq1)
  clear HNEW
  go_wp2_with fail
  go_loopg [6, 7] T.length (fun k v6 v7 wr => ∃ (i : Nat) (l : List Ent) (pu : Int), i + k = T.length ∧ v7 = .int .i64 i ∧ v6 = .int .i64 l.length ∧ Em W pu l wr ∧ pu ≤ i ∧ l.length ≤ i)
  case atStart => exact ⟨0, [], 0, by omega, rfl, rfl, ⟨⟨_, [], HQ1.out, .nil, fun b hb => by simp [newQ] at hb; omega⟩, fun x hx => (by cases hx), HX1.out⟩, by omega, by simp⟩
  case round =>
    clear HX1 HQ1
    obtain ⟨i, l, pu, hik, rfl, rfl, hem, hpu, hli⟩ := hrel
    have HEM := Lib.hid hem
    rcases Nat.lt_or_ge i T.length with hi | hi
    · obtain ⟨g, off, x, rfl, hwf, hwd, a0, a1, a2⟩ := Items.at (HT.out.kept hem.ext) hi
      have hput := hem.put x hwf hwd (by omega)
      have hil : (i : Int) < (T.length : Int) := by omega
      have HPUT := Lib.hid hput
      clear hem hput hwf hwd
      go_wp2_with fail
      refine HPUT.out.mono ?_
      rintro e w3 ⟨r, rfl, l', hem3, hl3⟩
      have hli' : (l.length : Int) ≤ 60 := by omega
      by_cases hr : r = 0
      · subst hr
        rw [if_pos rfl] at hem3 hl3
        have HEM3 := Lib.hid hem3
        have HL3 := Lib.hid hl3
        clear hem3 hl3
        go_wp2_with fail
        go_roundg (gk - 1)
        case measure => omega
        case rel => exact ⟨i + 1, l', pu + 1, by omega, by go_num, by rw [HL3.out]; go_num, HEM3.out, by omega, by rw [HL3.out]; omega⟩
      · have hb : (r == 0) = false := by simpa using hr
        rw [if_neg hr] at hem3 hl3
        have HEM3 := Lib.hid hem3
        have HL3 := Lib.hid hl3
        clear hem3 hl3 hr
        go_wp2_with fail
        go_roundg (gk - 1)
        case measure => omega
        case rel => exact ⟨i + 1, l', pu, by omega, by go_num, by rw [HL3.out], HEM3.out, by omega, by rw [HL3.out]; omega⟩
    · have hil : ¬ (i : Int) < (T.length : Int) := by omega
      clear hem HT
      go_wp2_with fail
      have hl60 : l.length ≤ 60 := by omega
      obtain ⟨l0, hl0⟩ : ∃ l0, l0 = l := ⟨_, rfl⟩
      go_loopg [6, 8] N.length (fun k v6 v8 wr => ∃ (j : Nat) (l : List Ent), j + k = N.length ∧ v8 = .int .i64 j ∧ v6 = .int .i64 l.length ∧ Em W pu l wr ∧ l.length ≤ 60 ∧ ∀ m, (h : m < N.length) → m < j → hasE l N[m] = false)
      case atStart => exact ⟨0, l, by omega, rfl, rfl, HEM.out, hl60, fun m _ h => by omega⟩
      case round =>
        clear HEM
        obtain ⟨j, l2, hjk, rfl, rfl, hem, hl2, hno⟩ := hrel
        have HEM := Lib.hid hem
        have HNO := Lib.hid hno
        rcases Nat.lt_or_ge j N.length with hj | hj
        · obtain ⟨g, off, rfl, hwf, n0⟩ := Ints.at (HN.out.kept hem.ext) hj
          have hdr := hem.drop N[j] hwf
          have hjl : (j : Int) < (N.length : Int) := by omega
          have HDR := Lib.hid hdr
          clear hem hdr hwf hno
          generalize hnj : N[j] = t at *
          have HNJ := Lib.hid hnj
          clear hnj
          go_wp2_with fail
          refine HDR.out.mono ?_
          rintro e w3 ⟨b, rfl, l3, hem3, hl3, hnt, hns⟩
          have HEM3 := Lib.hid hem3
          have hno3 : ∀ m, (h : m < N.length) → m < j + 1 → hasE l3 N[m] = false := fun m h hm => by
            rcases Nat.lt_or_ge m j with h1 | h1
            · exact hns _ (HNO.out m h h1)
            · have : m = j := by omega
              subst this; rw [HNJ.out]; exact hnt
          have HNO3 := Lib.hid hno3
          have hli' : (l2.length : Int) ≤ 60 := by omega
          clear hem3 hnt hns hno3
          rcases hl3 with ⟨rfl, hl3⟩ | ⟨rfl, hl3⟩
          · have HL3 := Lib.hid hl3
            clear hl3
            go_wp2_with fail
            go_roundg (gk - 1)
            case measure => omega
            case rel => exact ⟨j + 1, l3, by omega, by go_num, by rw [← HL3.out]; go_num, HEM3.out, by have := HL3.out; omega, HNO3.out⟩
          · have HL3 := Lib.hid hl3
            clear hl3
            go_wp2_with fail
            go_roundg (gk - 1)
            case measure => omega
            case rel => exact ⟨j + 1, l3, by omega, by go_num, by rw [HL3.out], HEM3.out, by rw [HL3.out]; omega, HNO3.out⟩
        · have hjl : ¬ (j : Int) < (N.length : Int) := by omega
          have HLS := Lib.hid hem.list
          have hnoA : ∀ k, (h : k < N.length) → hasE l2 N[k] = false := fun k h => hno k h (by omega)
          have HNOA := Lib.hid hnoA
          obtain ⟨S, hS⟩ : ∃ S, S = Go.Proofs.Ytmbdglolpagjdaa.srt l2 := ⟨_, rfl⟩
          have hSl : S.length = l2.length := by rw [hS, (srt_perm l2).length_eq]
          rw [← hS] at HLS
          have HS := Lib.hid hS
          have hSi : (l2.length : Int) = (S.length : Int) := by omega
          have HSL := Lib.hid hSl
          have hS60 : (S.length : Int) ≤ 60 := by omega
          clear hem hno hnoA hS HNO
          rw [hSi]
          clear hSi hSl
          go_upto_region 16 with (go_at_call 19; refine HLS.out.mono ?_; rintro e w3 ⟨A3, c3, rfl, hx3, hr3⟩; have HX3 := Lib.hid hx3; have HR3 := Lib.hid hr3; clear hx3 hr3)
          have h3 : Em3 W pu N S A3 c3 wr.heap.size 0 l2 w3 := ⟨HEM.out.ext' HX3.out, by rw [HS.out]; rfl, by rw [HSL.out]; rfl, HR3.out, HNOA.out⟩
          have H3 := Lib.hid h3
          clear h3 HEM HX3 HR3 HNOA HLS
          generalize wr.heap.size = Bb at *
          go_wp2_with fail
          go_loopg [11] S.length (fun k v11 wr => ∃ (i : Nat) (l : List Ent), i + k = S.length ∧ v11 = .int .i64 i ∧ Em3 W pu N S A3 c3 Bb i l wr)
          case atStart => exact ⟨0, l2, by omega, rfl, H3.out⟩
          case round =>
            clear H3 HS HSL
            obtain ⟨i, l3, hik3, rfl, h3⟩ := hrel
            have H3 := Lib.hid h3
            rcases Nat.lt_or_ge i S.length with hi3 | hi3
            · obtain ⟨g3, rfl, r0, r1, r2⟩ := own3_cells h3.row hi3
              obtain ⟨y, hy⟩ : ∃ y, y = nth S i := ⟨_, rfl⟩
              have hsy : Go.Proofs.Ytmbdglolpagjdaa.srt l3 = y :: S.drop (i + 1) := by rw [h3.srt, List.drop_eq_getElem_cons hi3, hy, nth_lt hi3]
              have hyl : y ∈ l3 := (srt_perm l3).mem_iff.1 (by rw [hsy]; simp)
              have hyn : ∀ m, (h : m < N.length) → (y.task == N[m]) = false := fun m h => by
                simp only [beq_eq_false_iff_ne, ne_eq]
                intro e
                have := h3.no m h
                rw [hasE_iff.2 (mem_task.2 ⟨y, hyl, e⟩)] at this; cases this
              have hil3 : (i : Int) < (S.length : Int) := by omega
              have HY := Lib.hid hy
              have HSY := Lib.hid hsy
              have HYN := Lib.hid hyn
              clear h3 hy hsy hyl hyn r0 r1 r2
              go_wp2_with fail
              obtain ⟨wq, rfl⟩ : ∃ z, z = wr := ⟨_, rfl⟩
              go_loopg [12] N.length (fun k v12 wx => ∃ m : Nat, m + k = N.length ∧ v12 = .int .i64 m ∧ Ext wq wx)
              case atStart => exact ⟨0, by omega, rfl, Ext.refl _⟩
              case round =>
                obtain ⟨m, hmk, rfl, hxm⟩ := hrel
                have HXM := Lib.hid hxm
                rcases Nat.lt_or_ge m N.length with hm | hm
                · obtain ⟨g, off, rfl, _, n0⟩ := Ints.at (HN.out.kept (H3.out.em.ext.trans hxm)) hm
                  obtain ⟨g', e, r0, r1, r2⟩ := own3_cells ((hxm.kept (fun _ _ => true)).row H3.out.row fun _ _ => rfl) hi3
                  injection e with e; injection e with e; subst e
                  rw [← HY.out] at r0
                  have hne := HYN.out m hm
                  generalize N[m] = tm at *
                  have hml : (m : Int) < (N.length : Int) := by omega
                  clear hxm r1 r2
                  go_upto_region 24 with (fail)
                  go_region
                  all_goals
                    go_wp2_with fail
                    go_roundg (gk - 1)
                    case measure => omega
                    case rel => exact ⟨m + 1, by omega, by go_num, HXM.out.trans (Ext.drew _)⟩
                · have hml : ¬ (m : Int) < (N.length : Int) := by omega
                  have htk := (H3.out.em.ext' hxm).take
                  rw [HSY.out] at htk
                  have hrow := (hxm.kept (fun _ _ => true)).row H3.out.row fun _ _ => rfl
                  have HROW := Lib.hid hrow
                  have HTK := Lib.hid htk
                  clear hxm htk hrow
                  go_upto_region 27 with (go_at_call 20; refine HTK.out.mono ?_; rintro e w4 ⟨rfl, ⟨l4, hem4, hs4, hl4, hn4⟩, hr4⟩; have HEM4 := Lib.hid hem4; have HS4 := Lib.hid hs4; have HL4 := Lib.hid hl4; have HN4 := Lib.hid hn4; have HR4 := Lib.hid (hr4 HROW.out); clear hem4 hs4 hl4 hn4 hr4; unfold dueW; dsimp only [List.head?_cons])
                  obtain ⟨w5, hw5⟩ : ∃ w5, w5 = w4.alloc (itmo y.task y.front y.due) := ⟨_, rfl⟩
                  have hE5 : Ext w4 w5 := by rw [hw5]; exact Ext.one _ _
                  have hb5 : w5.heap[w4.heap.size]? = some (itmo y.task y.front y.due) := by rw [hw5]; exact World.alloc_heap_new _ _
                  obtain ⟨⟨y0, y1, y2⟩, _, hl5⟩ := itmo_cells hb5
                  have hrow5 := (hE5.kept (fun _ _ => true)).row HR4.out fun _ _ => rfl
                  obtain ⟨g', e, r0, r1, r2⟩ := own3_cells hrow5 hi3
                  injection e with e; injection e with e; subst e
                  have hg5 := World.block_lt_of_cell? _ _ r0
                  rw [← HY.out] at r0 r1 r2
                  have hll := H3.out.len
                  have hlen4 : (l4.length : Int) = (S.length : Int) - 1 - (i : Int) := by
                    have := HL4.out
                    omega
                  have hln : ∀ n, Calls Try.prog 21 #[.pointer (some ⟨W.heap.size, 0, none⟩)] (w5.drewN n) fun e w' => e = .returned (.int .i64 ((S.length : Int) - 1 - (i : Int))) ∧ w' = w5.drewN n := fun n => by
                    have := (HEM4.out.ext' (hE5.trans (Ext.drewN w5 n))).len
                    rwa [hlen4] at this
                  have HLN := Lib.hid hln
                  have HEM5 := Lib.hid (HEM4.out.ext' hE5)
                  have HROW5 := Lib.hid hrow5
                  change Code.wp _ _ _ _ (w4.alloc (itmo y.task y.front y.due))
                  rw [← hw5]
                  clear hw5 hE5 hb5 hrow5 hln HEM4 HR4 HTK HROW hlen4
                  go_quiet (first | (go_at_call 21; refine Calls.quiet_of_same (HLN.out _)))
                  go_wp2_with fail
                  go_roundg (S.length - (i + 1))
                  case measure => omega
                  case rel => exact ⟨i + 1, l4, by omega, by go_num, ⟨HEM5.out.ext' (Ext.drewN _ _), HS4.out, by have := HL4.out; omega, ((Ext.drewN w5 _).kept (fun _ _ => true)).row HROW5.out fun _ _ => rfl, fun m h => HN4.out _ (H3.out.no m h)⟩⟩
            · have hil3 : ¬ (i : Int) < (S.length : Int) := by omega
              have htk := h3.em.take
              have hnil : Go.Proofs.Ytmbdglolpagjdaa.srt l3 = [] := by rw [h3.srt]; exact List.drop_of_length_le hi3
              rw [hnil] at htk
              have HTK := Lib.hid htk
              clear h3 htk hnil
              go_wp2_with (first
                | (go_at_call 20; refine HTK.out.mono ?_; rintro e w4 ⟨rfl, ⟨l4, hem4, _, _, _⟩, _⟩; have HEM4 := Lib.hid hem4; clear hem4; unfold dueW; dsimp only [List.head?_nil])
                | (go_at_call 8; refine (known_ok _).mono ?_; rintro e w6 ⟨rfl, hx6⟩; have HX6 := Lib.hid hx6; clear hx6))
              go_ret
              exact ⟨rfl, (HEM4.out.ext.trans (Ext.one _ _)).trans HX6.out⟩
end
end Go.Proofs.Ytmbdglolpagjdaa
