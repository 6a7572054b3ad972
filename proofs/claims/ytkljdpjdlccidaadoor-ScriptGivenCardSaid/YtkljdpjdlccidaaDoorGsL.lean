/- What is given by a script, as the document picks it. Written by genGsL.py. -/
import Derived.Test.YtkljdpjdlccidaaDoorGsK
import Derived.Test.YtkljdpjdlccidaaDoorSaI
import Derived.Deep.DeepCutAuto
import Derived.Deep.CutRange
namespace Go.Proofs.YtkljdpjdlccidaaDoor
open Go.RowKit Go.Shelf
attribute [local go_sem] Oper.semAt_some
/-- Errors that came in. -/
def RowsZ (w : World) (A : Option Addr) (l : List Int) : Prop := Rows3 (fun n => [.int .i64 n]) 1 (fun _ => True) w A l
theorem RowsZ.at {w : World} {A : Option Addr} {l : List Int} (h : RowsZ w A l) {i : Nat} {n : Int} (hi : l[i]? = some n) : ∃ g off, A = some ⟨g, off, none⟩ ∧ g < w.heap.size ∧ w.cell? ⟨g, off + i, none⟩ = some (.int .i64 n) := by
  obtain ⟨g, off, e1, e2, _, e4⟩ := h i n hi
  have := e4 0 _ rfl
  exact ⟨g, off, e1, e2, by simpa using this⟩
theorem cls_len (D : List (En × Int)) (kk : Int) : (cls D kk).length ≤ D.length := by
  unfold cls okD
  refine Nat.le_trans (List.length_filter_le _ _) ?_
  rw [List.length_map]
  exact List.length_filter_le _ _
theorem picked_len (D : List (En × Int)) (kk : Int) (b : Bool) (last : Int) : (picked D kk b last).length ≤ D.length := by
  unfold picked
  rw [soS_length]
  exact Nat.le_trans (List.length_filter_le _ _) (cls_len D kk)
set_option maxRecDepth 100000 in
set_option maxHeartbeats 8000000 in
theorem refGiven_ok {A B : Option Addr} {c d : Nat} {l : List En} {zs : List Int} {w : World} (h : RowsE w A l) (hz : RowsZ w B zs) (hl : l.length ≤ 1000) (hzl : zs.length ≤ 1000) : Calls Tryd.prog 9 #[.slice A l.length c, .slice B zs.length d] w fun r w' => ∃ A' c', r = .returned (.slice A' (soS ltE (givE (l.zip zs))).length c') ∧ Ext w w' ∧ w'.ownsRow w.heap.size 42 3 (.slice A' (soS ltE (givE (l.zip zs))).length c') (soS ltE (givE (l.zip zs))).length ((soS ltE (givE (l.zip zs))).flatMap En.cells) := by
  obtain ⟨i0, hi0, hz0, hz1, hz2⟩ := infoParts infoEn
  have HR := Lib.hid (fun v (k : Ext w v) => Rows3.kept h k)
  have HZ := Lib.hid (fun v (k : Ext w v) => Rows3.kept hz k)
  obtain ⟨D, hD⟩ : ∃ D, D = l.zip zs := ⟨_, rfl⟩
  rw [← hD]
  have HDL := Lib.hid (show D.length = min l.length zs.length by rw [hD, List.length_zip])
  have HDA := Lib.hid (fun (i : Nat) (x : En) (z : Int) (hx : l[i]? = some x) (hz : zs[i]? = some z) => show D[i]? = some (x, z) by rw [hD, List.getElem?_zip_eq_some]; exact ⟨hx, hz⟩)
  obtain ⟨F, hF⟩ : ∃ F, F = soS ltE (givE D) := ⟨_, rfl⟩
  rw [← hF]
  have HF := Lib.hid hF
  clear h hz hD hF
  go_enter Tryd.func9, Tryd.ntmps9
  go_upto_region 3 with (fail)
  go_loopg [5, 6, 7, 8, 9, 10, 11, 12] 2 (fun k v5 v6 v7 v8 v9 v10 v11 v12 wr => ∃ (j : Nat) (O : List En) (Ao : Option Addr) (co : Nat), j + k = 2 ∧ O = (if j = 0 then [] else if j = 1 then soS ltE (cls D 5) else F) ∧ v6 = .int .i64 (5 - (j : Int)) ∧ v5 = .slice Ao O.length co ∧ Ext w wr ∧ wr.ownsRow w.heap.size 42 3 (.slice Ao O.length co) O.length (O.flatMap En.cells))
  case atStart => exact ⟨0, [], none, 0, rfl, rfl, rfl, rfl, Ext.refl _, World.ownsRow_nil _ _ _ _⟩
  case round =>
    obtain ⟨j, O, Ao, co, hjk, hO, rfl, rfl, hx, ho⟩ := hrel
    have HX := Lib.hid hx
    have HO := Lib.hid ho
    have HJ := Lib.hid hjk
    clear hx ho
    by_cases hj : j < 2
    · obtain ⟨kk, hkk⟩ : ∃ kk : Int, kk = 5 - (j : Int) := ⟨_, rfl⟩
      rw [← hkk]
      have zk : (4 : Int) ≤ kk := by omega
      have zk5 : kk ≤ 5 := by omega
      have HNX := Lib.hid (show O ++ soS ltE (cls D kk) = (if j + 1 = 0 then [] else if j + 1 = 1 then soS ltE (cls D 5) else F) by
        obtain rfl | rfl : j = 0 ∨ j = 1 := by omega
        · rw [hO, hkk]; simp
        · rw [hO, hkk, HF.out, ← given_two]; simp)
      have HOL := Lib.hid (show O.length ≤ 1000 by
        have hdl := HDL.out
        have hc := cls_len D 5
        obtain rfl | rfl : j = 0 ∨ j = 1 := by omega
        · rw [hO]; simp
        · rw [hO]; simp only [Nat.one_ne_zero, if_false, if_true, soS_length]; omega)
      have HKK := Lib.hid hkk
      clear hO hjk hj hkk
      go_upto_region 6 with (fail)
      go_loopg [5, 7, 8, 9, 10, 11, 12] (left D kk false 0) (fun k v5 v7 v8 v9 v10 v11 v12 wr => ∃ (b : Bool) (last : Int) (P : List En) (Ap : Option Addr) (cp : Nat), left D kk b last = k ∧ P = O ++ picked D kk b last ∧ v7 = .int .i64 last ∧ v8 = .bool b ∧ v5 = .slice Ap P.length cp ∧ Ext w wr ∧ wr.ownsRow w.heap.size 42 3 (.slice Ap P.length cp) P.length (P.flatMap En.cells))
      case atStart => exact ⟨false, 0, O, Ao, co, rfl, by rw [picked_none, List.append_nil], rfl, rfl, rfl, HX.out, HO.out⟩
      case round =>
        clear HX HO
        obtain ⟨b, last, P, Ap, cp, hlf, hP, rfl, rfl, rfl, hx, ho⟩ := hrel
        have HX := Lib.hid hx
        have HO := Lib.hid ho
        have HLF := Lib.hid hlf
        have HP := Lib.hid hP
        clear hx ho hlf hP
        go_upto_region 8 with (fail)
        go_loopg [9, 10, 11] D.length (fun k v9 v10 v11 wr => ∃ i : Nat, i + k = D.length ∧ v11 = .int .i64 i ∧ v9 = .int .i64 (nxt kk b last (D.take i)).1 ∧ v10 = .bool (nxt kk b last (D.take i)).2 ∧ Ext w wr ∧ wr.ownsRow w.heap.size 42 3 (.slice Ap P.length cp) P.length (P.flatMap En.cells))
        case atStart => exact ⟨0, by omega, rfl, rfl, rfl, HX.out, HO.out⟩
        case round =>
          clear HX HO
          obtain ⟨i, hik, rfl, rfl, rfl, hx, ho⟩ := hrel
          have HX3 := Lib.hid hx
          have HO3 := Lib.hid ho
          have HIK := Lib.hid hik
          clear hx ho
          obtain ⟨⟨s1, s2⟩, hs⟩ : ∃ s, s = nxt kk b last (D.take i) := ⟨_, rfl⟩
          rw [← hs]
          have HS := Lib.hid hs
          clear hs
          dsimp only
          have hdl := HDL.out
          by_cases hlt : i < D.length
          · have zi : (i : Int) < (l.length : Int) := by omega
            have zj : (i : Int) < (zs.length : Int) := by omega
            obtain ⟨x, hxi⟩ : ∃ x, l[i]? = some x := ⟨_, List.getElem?_eq_getElem (by omega)⟩
            obtain ⟨z, hzi⟩ : ∃ z, zs[i]? = some z := ⟨_, List.getElem?_eq_getElem (by omega)⟩
            have HT := Lib.hid (show D.take (i + 1) = D.take i ++ [(x, z)] by rw [List.take_add_one, HDA.out i x z hxi hzi]; rfl)
            obtain ⟨g, off, rfl, gl, c0, c1, c2⟩ := RowsE.at (HR.out _ HX3.out) hxi
            obtain ⟨g2, off2, rfl, gl2, d0⟩ := RowsZ.at (HZ.out _ HX3.out) hzi
            have HIL := Lib.hid hlt
            clear hik hdl hlt hxi hzi
            by_cases z0 : z = 0
            · subst z0
              by_cases hk : x.k = kk
              · have hkb : (x.k == kk) = true := by simpa using hk
                cases b with
                | true =>
                  by_cases hla : last < x.a
                  · cases s2 with
                    | false =>
                      have HN := Lib.hid (show nxt kk true last (D.take (i + 1)) = (x.a, true) by rw [HT.out, nxt_snoc, ← HS.out]; unfold stpE; simp [hk, hla, selE])
                      go_wp2_with fail
                      go_roundg (D.length - (i + 1))
                      case measure => have h1 := HIK.out; have h2 := HIL.out; omega
                      case rel => exact ⟨i + 1, by have := HIK.out; have := HIL.out; omega, by go_num, by rw [HN.out], by rw [HN.out], HX3.out, HO3.out⟩
                    | true =>
                      by_cases hs1 : x.a < s1
                      · skip
                        have HN := Lib.hid (show nxt kk true last (D.take (i + 1)) = (x.a, true) by rw [HT.out, nxt_snoc, ← HS.out]; unfold stpE; simp [hk, hla, selE, hs1])
                        go_wp2_with fail
                        go_roundg (D.length - (i + 1))
                        case measure => have h1 := HIK.out; have h2 := HIL.out; omega
                        case rel => exact ⟨i + 1, by have := HIK.out; have := HIL.out; omega, by go_num, by rw [HN.out], by rw [HN.out], HX3.out, HO3.out⟩
                      · skip
                        have hs2 : s1 ≤ x.a := by omega
                        have HN := Lib.hid (show nxt kk true last (D.take (i + 1)) = (s1, true) by rw [HT.out, nxt_snoc, ← HS.out]; unfold stpE; simp [hk, hla, selE, hs1])
                        go_wp2_with fail
                        go_roundg (D.length - (i + 1))
                        case measure => have h1 := HIK.out; have h2 := HIL.out; omega
                        case rel => exact ⟨i + 1, by have := HIK.out; have := HIL.out; omega, by go_num, by rw [HN.out], by rw [HN.out], HX3.out, HO3.out⟩
                  · have hla2 : x.a ≤ last := by omega
                    have HN := Lib.hid (show nxt kk true last (D.take (i + 1)) = (s1, s2) by rw [HT.out, nxt_snoc, ← HS.out]; unfold stpE; simp [selE, hla])
                    go_wp2_with fail
                    go_roundg (D.length - (i + 1))
                    case measure => have h1 := HIK.out; have h2 := HIL.out; omega
                    case rel => exact ⟨i + 1, by have := HIK.out; have := HIL.out; omega, by go_num, by rw [HN.out], by rw [HN.out], HX3.out, HO3.out⟩
                | false =>
                  cases s2 with
                  | false =>
                    have HN := Lib.hid (show nxt kk false last (D.take (i + 1)) = (x.a, true) by rw [HT.out, nxt_snoc, ← HS.out]; unfold stpE; simp [hk, selE])
                    go_wp2_with fail
                    go_roundg (D.length - (i + 1))
                    case measure => have h1 := HIK.out; have h2 := HIL.out; omega
                    case rel => exact ⟨i + 1, by have := HIK.out; have := HIL.out; omega, by go_num, by rw [HN.out], by rw [HN.out], HX3.out, HO3.out⟩
                  | true =>
                    by_cases hs1 : x.a < s1
                    · skip
                      have HN := Lib.hid (show nxt kk false last (D.take (i + 1)) = (x.a, true) by rw [HT.out, nxt_snoc, ← HS.out]; unfold stpE; simp [hk, selE, hs1])
                      go_wp2_with fail
                      go_roundg (D.length - (i + 1))
                      case measure => have h1 := HIK.out; have h2 := HIL.out; omega
                      case rel => exact ⟨i + 1, by have := HIK.out; have := HIL.out; omega, by go_num, by rw [HN.out], by rw [HN.out], HX3.out, HO3.out⟩
                    · skip
                      have hs2 : s1 ≤ x.a := by omega
                      have HN := Lib.hid (show nxt kk false last (D.take (i + 1)) = (s1, true) by rw [HT.out, nxt_snoc, ← HS.out]; unfold stpE; simp [hk, selE, hs1])
                      go_wp2_with fail
                      go_roundg (D.length - (i + 1))
                      case measure => have h1 := HIK.out; have h2 := HIL.out; omega
                      case rel => exact ⟨i + 1, by have := HIK.out; have := HIL.out; omega, by go_num, by rw [HN.out], by rw [HN.out], HX3.out, HO3.out⟩
              · have hkb : (x.k == kk) = false := by simpa using hk
                have HN := Lib.hid (show nxt kk b last (D.take (i + 1)) = (s1, s2) by rw [HT.out, nxt_snoc, ← HS.out]; unfold stpE; simp [hk])
                go_wp2_with fail
                go_roundg (D.length - (i + 1))
                case measure => have h1 := HIK.out; have h2 := HIL.out; omega
                case rel => exact ⟨i + 1, by have := HIK.out; have := HIL.out; omega, by go_num, by rw [HN.out], by rw [HN.out], HX3.out, HO3.out⟩
            · have hzb : (z == 0) = false := by simpa using z0
              have HN := Lib.hid (show nxt kk b last (D.take (i + 1)) = (s1, s2) by rw [HT.out, nxt_snoc, ← HS.out]; unfold stpE; simp [z0])
              go_wp2_with fail
              go_roundg (D.length - (i + 1))
              case measure => have h1 := HIK.out; have h2 := HIL.out; omega
              case rel => exact ⟨i + 1, by have := HIK.out; have := HIL.out; omega, by go_num, by rw [HN.out], by rw [HN.out], HX3.out, HO3.out⟩
          · have hiD : i = D.length := by omega
            have HF3 := Lib.hid (show (s1, s2) = nxt kk b last D by rw [HS.out, hiD, List.take_length])
            go_upto_region 8 with (fail)
            go_cut [26] (fun v26 wx => v26 = .bool false ∧ wr = wx)
            case first =>
              by_cases q : i < l.length
              · have z1 : (i : Int) < (l.length : Int) := by omega
                have z2 : ¬ (i : Int) < (zs.length : Int) := by omega
                clear hik hdl hlt hiD
                go_wp2_with fail
                go_meet
                case rel => exact ⟨by simp, rfl⟩
              · have z1 : ¬ (i : Int) < (l.length : Int) := by omega
                have z2 : decide ((i : Int) < (l.length : Int)) = false := by simp; omega
                clear hik hdl hlt hiD
                go_wp2_with fail
                go_meet
                case rel => exact ⟨rfl, rfl⟩
            case rest =>
            obtain ⟨rfl, rfl⟩ := hcut
            clear hik hdl hlt hiD
            cases s2 with
            | false =>
              have HPA := Lib.hid (show P = O ++ soS ltE (cls D kk) by
                rw [HP.out]
                congr 1
                refine picked_all ?_
                rcases nxt_ok kk b last D with ⟨-, h⟩ | ⟨h, -⟩
                · exact h
                · rw [← HF3.out] at h; cases h)
              go_wp2_with fail
              go_roundg (2 - (j + 1))
              case measure => have h1 := HJ.out; have h2 := HKK.out; omega
              case rel => exact ⟨j + 1, P, Ap, cp, by have h1 := HJ.out; have h2 := HKK.out; omega, by rw [HPA.out]; exact HNX.out, by have h2 := HKK.out; first | (congr 1; omega) | (rw [h2]; congr 1; omega), rfl, HX3.out, HO3.out⟩
            | true =>
              have HNO := Lib.hid (show (∃ x ∈ cls D kk, selE b last x = true ∧ x.a = s1) ∧ ∀ x ∈ cls D kk, selE b last x = true → s1 ≤ x.a by
                rcases nxt_ok kk b last D with ⟨h, -⟩ | ⟨-, h1, h2⟩
                · rw [← HF3.out] at h; cases h
                · rw [← HF3.out] at h1 h2; exact ⟨h1, h2⟩)
              have HPL := Lib.hid (show P.length ≤ 2000 by
                have h1 := HOL.out
                have h2 := picked_len D kk b last
                have h3 := HDL.out
                rw [HP.out, List.length_append]
                omega)
              go_upto_region 15 with (fail)
              go_loopg [5, 12] D.length (fun k v5 v12 wr => ∃ (i : Nat) (Q : List En) (Aq : Option Addr) (cq : Nat), i + k = D.length ∧ Q = P ++ (cls (D.take i) kk).filter (fun x => decide (x.a = s1)) ∧ v12 = .int .i64 i ∧ v5 = .slice Aq Q.length cq ∧ Ext w wr ∧ wr.ownsRow w.heap.size 42 3 (.slice Aq Q.length cq) Q.length (Q.flatMap En.cells))
              case atStart => exact ⟨0, P, Ap, cp, by omega, by simp [cls, okD], rfl, rfl, HX3.out, HO3.out⟩
              case round =>
                clear HX3 HO3 HIK
                obtain ⟨i, Q, Aq, cq, hik, hQ, rfl, rfl, hx, ho⟩ := hrel
                have HX4 := Lib.hid hx
                have HO4 := Lib.hid ho
                have HIK := Lib.hid hik
                have HQ := Lib.hid hQ
                clear hx ho hQ
                have hdl := HDL.out
                by_cases hlt : i < D.length
                · have zi : (i : Int) < (l.length : Int) := by omega
                  have zj : (i : Int) < (zs.length : Int) := by omega
                  obtain ⟨x, hxi⟩ : ∃ x, l[i]? = some x := ⟨_, List.getElem?_eq_getElem (by omega)⟩
                  obtain ⟨z, hzi⟩ : ∃ z, zs[i]? = some z := ⟨_, List.getElem?_eq_getElem (by omega)⟩
                  have HT := Lib.hid (show D.take (i + 1) = D.take i ++ [(x, z)] by rw [List.take_add_one, HDA.out i x z hxi hzi]; rfl)
                  have HQL := Lib.hid (show Q.length ≤ 4000 by
                    have h1 := HPL.out
                    have h2 : ((cls (D.take i) kk).filter (fun x => decide (x.a = s1))).length ≤ D.length := by
                      refine Nat.le_trans (List.length_filter_le _ _) (Nat.le_trans (cls_len _ _) ?_)
                      rw [List.length_take]; omega
                    rw [HQ.out, List.length_append]
                    omega)
                  obtain ⟨g, off, rfl, gl, c0, c1, c2⟩ := RowsE.at (HR.out _ HX4.out) hxi
                  obtain ⟨g2, off2, rfl, gl2, d0⟩ := RowsZ.at (HZ.out _ HX4.out) hzi
                  have HIL := Lib.hid hlt
                  clear hik hdl hlt hxi hzi
                  by_cases z0 : z = 0
                  · subst z0
                    by_cases hk : x.k = kk
                    · have hkb : (x.k == kk) = true := by simpa using hk
                      by_cases ha : x.a = s1
                      · have hab : (x.a == s1) = true := by simpa using ha
                        have HQN := Lib.hid (show Q ++ [x] = P ++ (cls (D.take (i + 1)) kk).filter (fun x => decide (x.a = s1)) by rw [HT.out, cls_snoc, List.filter_append, HQ.out]; simp [hk, ha])
                        have HNEW := Lib.hid (show Src (wr.alloc (En.o x)) (.slice (some ⟨wr.heap.size, 0, none⟩) 1 1) 1 (En.cells x) from .inr ⟨_, _, rfl, World.news_of_block (World.alloc_heap_new wr (En.o x))⟩)
                        have HAPP := Lib.hid (show Q.flatMap En.cells ++ En.cells x = (Q ++ [x]).flatMap En.cells by simp)
                        have HSZ := Lib.hid HX4.out.size
                        have HEL := Lib.hid (En.flat_len Q)
                        clear hk ha
                        go_wp2_with (at_builtin; refine wpList_append_any rfl _ _ 22 rfl w.heap.size 42 i0 (.agg #[.int .i64 0, .int .i64 0, .int .i64 0]) 3 24 Tryd.underlying22 hi0 hz0 hz1 hz2 rfl (by decide) (.slice Aq Q.length cq) Q.length (Q.flatMap En.cells) rfl (((Ext.one wr (En.o x)).kept (fun _ _ => true)).row HO4.out fun _ _ => rfl) (.slice (some ⟨wr.heap.size, 0, none⟩) 1 1) 1 (En.cells x) rfl (by simp [En.cells]) HNEW.out (by simp [En.cells, Value.oneCell']) (by unfold maxLen; have := HQL.out; omega) (by have := HQL.out; omega) (by have := HSZ.out; simp; omega) (Q.length + 1) rfl ((Q ++ [x]).flatMap En.cells) HAPP.out ?_; intro A5 c5 w5 hown hgrow hat; have HX5 := Lib.hid (grown_ext (HX4.out.trans (Ext.one wr (En.o x))) hgrow fun b hb => own_base HO4.out b hb); have HO5 := Lib.hid hown; clear hown hgrow hat c0 c1 c2 gl gl2 d0)
                        go_roundg (D.length - (i + 1))
                        case measure => have h1 := HIK.out; have h2 := HIL.out; omega
                        case rel => exact ⟨i + 1, Q ++ [x], A5, c5, by have h1 := HIK.out; have h2 := HIL.out; omega, HQN.out, by go_num, by simp, HX5.out, by simpa using HO5.out⟩
                      · have hab : (x.a == s1) = false := by simpa using ha
                        have HQN := Lib.hid (show Q = P ++ (cls (D.take (i + 1)) kk).filter (fun x => decide (x.a = s1)) by rw [HT.out, cls_snoc, List.filter_append, HQ.out]; simp [hk, ha])
                        clear hk ha
                        go_wp2_with fail
                        go_roundg (D.length - (i + 1))
                        case measure => have h1 := HIK.out; have h2 := HIL.out; omega
                        case rel => exact ⟨i + 1, Q, Aq, cq, by have h1 := HIK.out; have h2 := HIL.out; omega, HQN.out, by go_num, rfl, HX4.out, HO4.out⟩
                    · have hkb : (x.k == kk) = false := by simpa using hk
                      have HQN := Lib.hid (show Q = P ++ (cls (D.take (i + 1)) kk).filter (fun x => decide (x.a = s1)) by rw [HT.out, cls_snoc, List.filter_append, HQ.out]; simp [hk])
                      clear hk
                      go_wp2_with fail
                      go_roundg (D.length - (i + 1))
                      case measure => have h1 := HIK.out; have h2 := HIL.out; omega
                      case rel => exact ⟨i + 1, Q, Aq, cq, by have h1 := HIK.out; have h2 := HIL.out; omega, HQN.out, by go_num, rfl, HX4.out, HO4.out⟩
                  · have hzb : (z == 0) = false := by simpa using z0
                    have HQN := Lib.hid (show Q = P ++ (cls (D.take (i + 1)) kk).filter (fun x => decide (x.a = s1)) by rw [HT.out, cls_snoc, List.filter_append, HQ.out]; simp [z0])
                    clear z0
                    go_wp2_with fail
                    go_roundg (D.length - (i + 1))
                    case measure => have h1 := HIK.out; have h2 := HIL.out; omega
                    case rel => exact ⟨i + 1, Q, Aq, cq, by have h1 := HIK.out; have h2 := HIL.out; omega, HQN.out, by go_num, rfl, HX4.out, HO4.out⟩
                · have hiD : i = D.length := by omega
                  have HPN := Lib.hid (show Q = O ++ picked D kk true s1 by rw [HQ.out, hiD, List.take_length, HP.out, List.append_assoc, picked_next HNO.out.1 HNO.out.2])
                  go_upto_region 15 with (fail)
                  go_cut [85] (fun v85 wx => v85 = .bool false ∧ wr = wx)
                  case first =>
                    by_cases q : i < l.length
                    · have z1 : (i : Int) < (l.length : Int) := by omega
                      have z2 : ¬ (i : Int) < (zs.length : Int) := by omega
                      clear hik hdl hlt hiD
                      go_wp2_with fail
                      go_meet
                      case rel => exact ⟨by simp, rfl⟩
                    · have z1 : ¬ (i : Int) < (l.length : Int) := by omega
                      have z2 : decide ((i : Int) < (l.length : Int)) = false := by simp; omega
                      clear hik hdl hlt hiD
                      go_wp2_with fail
                      go_meet
                      case rel => exact ⟨rfl, rfl⟩
                  case rest =>
                  obtain ⟨rfl, rfl⟩ := hcut
                  clear hik hdl hlt hiD
                  go_wp2_with fail
                  go_roundg (left D kk true s1)
                  case measure => have h1 := left_next HNO.out.1; have h2 := HLF.out; omega
                  case rel => exact ⟨true, s1, Q, Aq, cq, rfl, HPN.out, rfl, rfl, rfl, HX4.out, HO4.out⟩
    · obtain rfl : j = 2 := by omega
      have HOF := Lib.hid (show O = F by rw [hO]; simp)
      clear hO hjk hj
      go_wp2_with fail
      go_ret
      exact ⟨Ao, co, by rw [← HOF.out]; rfl, HX.out, by rw [← HOF.out]; exact HO.out⟩
end Go.Proofs.YtkljdpjdlccidaaDoor
