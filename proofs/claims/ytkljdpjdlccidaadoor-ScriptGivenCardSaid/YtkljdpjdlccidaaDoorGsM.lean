/- What is given by a script, as the program tells it. -/
import Derived.Test.YtkljdpjdlccidaaDoorGsI
import Derived.Test.YtkljdpjdlccidaaDoorGsL
namespace Go.Proofs.YtkljdpjdlccidaaDoor
open Go.RowKit Go.Shelf
attribute [local go_sem] Oper.semAt_some
theorem insertNil (w : World) (fv : Value) : Calls Tryd.prog 58 #[.slice none 0 0, .int .i64 0, .int .i64 0, fv] w fun e w' => e = .returned (.tuple #[]) ∧ w' = w := by
  go_enter Tryd.func58, Tryd.ntmps58
  go_upto_region 1 with (fail)
  refine wp_loop_rounds 1 ?_
  rw [rounds_succ]
  go_wp2_with fail
  go_end0
  exact ⟨rfl, rfl⟩
theorem stableNil (w : World) (fv : Value) : Calls Tryd.prog 39 #[.slice none 0 0, .int .i64 0, fv] w fun e w' => e = .returned (.tuple #[]) ∧ w' = w := by
  have HC := Lib.hid (insertNil w fv)
  go_enter Tryd.func39, Tryd.ntmps39
  go_upto_region 2 with (fail)
  refine wp_loop_rounds 1 ?_
  rw [rounds_succ]
  go_upto_region 7 with (go_at_call 58; refine HC.out.mono ?_; rintro e w2 ⟨rfl, hw⟩; rw [hw]; clear hw)
  refine wp_loop_rounds 1 ?_
  rw [rounds_succ]
  go_wp2_with fail
  go_end0
  exact ⟨rfl, rfl⟩
theorem sortNil (w : World) (fv : Value) : Calls Tryd.prog 17 #[.slice none 0 0, fv] w fun e w' => e = .returned (.tuple #[]) ∧ w' = w := by
  have HC := Lib.hid (stableNil w fv)
  go_enter Tryd.func17, Tryd.ntmps17
  go_wp2_with (go_at_call 39; refine HC.out.mono ?_; rintro e w2 ⟨rfl, hw⟩; rw [hw]; clear hw)
  go_end0
  exact ⟨rfl, rfl⟩
theorem givE_snoc (D : List (En × Int)) (d : En × Int) : givE (D ++ [d]) = givE D ++ (if d.2 = 0 ∧ (d.1.k = 4 ∨ d.1.k = 5) then [d.1] else []) := by
  unfold givE
  rw [okD_snoc, List.filter_append]
  congr 1
  by_cases h : d.2 = 0 <;> by_cases h4 : d.1.k = 4 <;> by_cases h5 : d.1.k = 5 <;> simp [h, h4, h5]
theorem givE_len (D : List (En × Int)) : (givE D).length ≤ D.length := by
  unfold givE okD
  refine Nat.le_trans (List.length_filter_le _ _) ?_
  rw [List.length_map]
  exact List.length_filter_le _ _
theorem givE_mem {l : List En} {zs : List Int} {x : En} (h : x ∈ givE (l.zip zs)) : x ∈ l := by
  unfold givE okD at h
  obtain ⟨h, -⟩ := List.mem_filter.1 h
  obtain ⟨⟨a, b⟩, hd, rfl⟩ := List.mem_map.1 h
  exact (List.of_mem_zip (List.mem_filter.1 hd).1).1
theorem rowG_rows {g : Nat} {T : List En} {w : World} (h : RowG g 0 T w) (hok : ∀ x ∈ T, x.ok) : RowsE w (some ⟨g, 0, none⟩) T := fun i x hi => by
  obtain ⟨c0, c1, c2⟩ := h.at hi
  refine ⟨g, 0, rfl, h.lt, hok x (List.mem_of_getElem? hi), fun j u hj => ?_⟩
  match j, hj with
  | 0, hj => obtain rfl := Option.some.inj hj; exact c0
  | 1, hj => obtain rfl := Option.some.inj hj; exact c1
  | 2, hj => obtain rfl := Option.some.inj hj; exact c2
  | n + 3, hj => simp [En.cells] at hj
set_option maxRecDepth 100000 in
set_option maxHeartbeats 8000000 in
theorem given_ok {A B : Option Addr} {c d : Nat} {l : List En} {zs : List Int} {w : World} (h : RowsE w A l) (hz : RowsZ w B zs) (hl : l.length ≤ 1000) (hzl : zs.length ≤ 1000) : Calls Tryd.prog 7 #[.slice A l.length c, .slice B zs.length d] w fun r w' => ∃ A' c', r = .returned (.slice A' (soS ltE (givE (l.zip zs))).length c') ∧ Ext w w' ∧ RowsE w' A' (soS ltE (givE (l.zip zs))) := by
  obtain ⟨i0, hi0, hz0, hz1, hz2⟩ := infoParts infoEn
  have HR := Lib.hid (fun v (k : Ext w v) => Rows3.kept h k)
  have HZ := Lib.hid (fun v (k : Ext w v) => Rows3.kept hz k)
  have HOK := Lib.hid (fun x (hx : x ∈ soS ltE (givE (l.zip zs))) => (RowsE.ok h) x (givE_mem (soS_mem hx)))
  obtain ⟨D, hD⟩ : ∃ D, D = l.zip zs := ⟨_, rfl⟩
  rw [← hD] at HOK ⊢
  have hdl : D.length = min l.length zs.length := by rw [hD, List.length_zip]
  have HDL := Lib.hid hdl
  have HDA := Lib.hid (fun (i : Nat) (x : En) (z : Int) (hx : l[i]? = some x) (hz : zs[i]? = some z) => show D[i]? = some (x, z) by rw [hD, List.getElem?_zip_eq_some]; exact ⟨hx, hz⟩)
  have hmin : min (l.length : Int) (zs.length : Int) = (D.length : Int) := by rw [hdl]; omega
  have hmax : (if (zs.length : Int) < (l.length : Int) then (zs.length : Int) else (l.length : Int)) = (D.length : Int) := by rw [hdl]; split <;> omega
  clear h hz hD hdl
  go_enter Tryd.func7, Tryd.ntmps7
  go_upto_region 3 with (fail)
  clear hmin hmax
  go_loopg [5, 6, 12] D.length (fun k v5 v6 v12 wr => ∃ (i : Nat) (L : List En) (Ao : Option Addr) (co : Nat), i + k = D.length ∧ L = givE (D.take i) ∧ v12 = .int .i64 i ∧ v5 = .slice Ao L.length co ∧ Ext w wr ∧ wr.ownsRow w.heap.size 42 3 (.slice Ao L.length co) L.length (L.flatMap En.cells))
  case atStart => exact ⟨0, [], none, 0, by omega, by simp [givE, okD], rfl, rfl, Ext.refl _, World.ownsRow_nil _ _ _ _⟩
  case round =>
    obtain ⟨i, L, Ao, co, hik, hL, rfl, rfl, hx, ho⟩ := hrel
    have HX := Lib.hid hx
    have HO := Lib.hid ho
    have HIK := Lib.hid hik
    have HL := Lib.hid hL
    clear hx ho hL
    have hdl := HDL.out
    by_cases hlt : i < D.length
    · have z : (i : Int) < (D.length : Int) := by omega
      have zi : (i : Int) < (l.length : Int) := by omega
      have zj : (i : Int) < (zs.length : Int) := by omega
      have hiN : i ≤ 1000 := by omega
      obtain ⟨x, hxi⟩ : ∃ x, l[i]? = some x := ⟨_, List.getElem?_eq_getElem (by omega)⟩
      obtain ⟨n, hzi⟩ : ∃ n, zs[i]? = some n := ⟨_, List.getElem?_eq_getElem (by omega)⟩
      have HT := Lib.hid (show D.take (i + 1) = D.take i ++ [(x, n)] by rw [List.take_add_one, HDA.out i x n hxi hzi]; rfl)
      have HLL := Lib.hid (show L.length ≤ 1000 by
        have h1 := givE_len (D.take i)
        rw [List.length_take] at h1
        rw [HL.out]
        omega)
      obtain ⟨g, off, rfl, gl, c0, c1, c2⟩ := RowsE.at (HR.out _ HX.out) hxi
      obtain ⟨g2, off2, rfl, gl2, d0⟩ := RowsZ.at (HZ.out _ HX.out) hzi
      have HIL := Lib.hid hlt
      clear hik hdl hlt hxi hzi
      have stay : (¬ (n = 0 ∧ (x.k = 4 ∨ x.k = 5))) → L = givE (D.take (i + 1)) := fun h => by
        rw [HT.out, givE_snoc, if_neg h, List.append_nil, HL.out]
      have take : (n = 0 ∧ (x.k = 4 ∨ x.k = 5)) → L ++ [x] = givE (D.take (i + 1)) := fun h => by
        rw [HT.out, givE_snoc, if_pos h, HL.out]
      have ST := Lib.hid stay
      have TK := Lib.hid take
      clear stay take
      by_cases z0 : n = 0
      · by_cases hk : x.k = 4 ∨ x.k = 5
        · have HLN := Lib.hid (TK.out ⟨z0, hk⟩)
          subst z0
          have HNEW := Lib.hid (show Src (wr.alloc (En.o x)) (.slice (some ⟨wr.heap.size, 0, none⟩) 1 1) 1 (En.cells x) from .inr ⟨_, _, rfl, World.news_of_block (World.alloc_heap_new wr (En.o x))⟩)
          have HAPP := Lib.hid (show L.flatMap En.cells ++ En.cells x = (L ++ [x]).flatMap En.cells by simp)
          have HSZ := Lib.hid HX.out.size
          have HEL := Lib.hid (En.flat_len L)
          have hb : (x.k == 4) = true ∨ ((x.k == 4) = false ∧ (x.k == 5) = true) := by
            by_cases h4 : x.k = 4
            · exact .inl (by simpa using h4)
            · refine .inr ⟨by simpa using h4, ?_⟩
              rcases hk with h | h
              · exact absurd h h4
              · simpa using h
          clear hk
          rcases hb with hb | ⟨hb, hb5⟩
          all_goals
            go_wp2_with (at_builtin; refine wpList_append_any rfl _ _ 22 rfl w.heap.size 42 i0 (.agg #[.int .i64 0, .int .i64 0, .int .i64 0]) 3 24 Tryd.underlying22 hi0 hz0 hz1 hz2 rfl (by decide) (.slice Ao L.length co) L.length (L.flatMap En.cells) rfl (((Ext.one wr (En.o x)).kept (fun _ _ => true)).row HO.out fun _ _ => rfl) (.slice (some ⟨wr.heap.size, 0, none⟩) 1 1) 1 (En.cells x) rfl (by simp [En.cells]) HNEW.out (by simp [En.cells, Value.oneCell']) (by unfold maxLen; have := HLL.out; omega) (by have := HLL.out; omega) (by have := HSZ.out; simp; omega) (L.length + 1) rfl ((L ++ [x]).flatMap En.cells) HAPP.out ?_; intro A5 c5 w5 hown hgrow hat; have HX5 := Lib.hid (grown_ext (HX.out.trans (Ext.one wr (En.o x))) hgrow fun b hb => own_base HO.out b hb); have HO5 := Lib.hid hown; clear hown hgrow hat c0 c1 c2 gl gl2 d0)
            go_roundg (D.length - (i + 1))
            case measure => have h1 := HIK.out; have h2 := HIL.out; omega
            case rel => exact ⟨i + 1, L ++ [x], A5, c5, by have h1 := HIK.out; have h2 := HIL.out; omega, HLN.out, by go_num, by simp, HX5.out, by simpa using HO5.out⟩
        · have HLN := Lib.hid (ST.out fun h => hk h.2)
          subst z0
          have h4 : (x.k == 4) = false := by simp; omega
          have h5 : (x.k == 5) = false := by simp; omega
          clear hk
          go_wp2_with fail
          go_roundg (D.length - (i + 1))
          case measure => have h1 := HIK.out; have h2 := HIL.out; omega
          case rel => exact ⟨i + 1, L, Ao, co, by have h1 := HIK.out; have h2 := HIL.out; omega, HLN.out, by go_num, rfl, HX.out, HO.out⟩
      · have HLN := Lib.hid (ST.out fun h => z0 h.1)
        have hzb : (n == 0) = false := by simpa using z0
        clear z0
        go_wp2_with fail
        go_roundg (D.length - (i + 1))
        case measure => have h1 := HIK.out; have h2 := HIL.out; omega
        case rel => exact ⟨i + 1, L, Ao, co, by have h1 := HIK.out; have h2 := HIL.out; omega, HLN.out, by go_num, rfl, HX.out, HO.out⟩
    · have hiD : i = D.length := by omega
      have hLD : L = givE D := by rw [HL.out, hiD, List.take_length]
      have HLD := Lib.hid hLD
      have z : ¬ (i : Int) < (D.length : Int) := by omega
      have hLl : L.length ≤ 1000 := by
        have := givE_len D
        rw [hLD]; omega
      have HLX := Lib.hid (show (soS ltE (givE D)).length = L.length by rw [soS_length, hLD])
      clear hLD hik hdl hlt hiD
      rcases HO.out.2 with ⟨e, h0⟩ | ⟨g, cap, cur, e, hB, h1, h2, h3, h4, h5⟩
      · injection e with e1 e2 e3
        subst e1 e3
        have hl0 : L.length = 0 := e2
        have HNIL := Lib.hid (sortNil wr (.func (.func 18) #[] #[]))
        rw [hl0]
        rw [hl0] at HLX
        clear hl0 h0 e2 HO
        go_wp2_with (go_at_call 17; refine HNIL.out.mono ?_; rintro e w2 ⟨rfl, hw⟩; rw [hw]; clear hw)
        go_ret
        refine ⟨none, 0, by rw [HLX.out]; rfl, HX.out, fun i x hi => ?_⟩
        rw [List.length_eq_zero_iff.1 HLX.out] at hi
        simp at hi
      · injection e with e1 e2 e3
        subst e1 e3
        have hrg : RowG g 0 L wr := ⟨[], cur.toList.drop (L.length * 3), 42, rfl, by
          rw [h1, List.nil_append, ← h5, List.take_append_drop]⟩
        have HSO := Lib.hid (sortS_ok (c := co) hrg rfl hLl)
        have HBG := Lib.hid hB
        clear h1 h2 h3 h4 h5 hB e2 hrg HO
        go_wp2_with (go_at_call 17; refine HSO.out.mono ?_; rintro e w2 ⟨rfl, hr2, hk2⟩; have HR2 := Lib.hid hr2; have HX2 := Lib.hid (ext_ne HX.out hk2 HBG.out); clear hr2 hk2)
        go_ret
        exact ⟨_, co, by rw [HLX.out]; rfl, HX2.out, rowG_rows (by have h := HR2.out; rw [HLD.out] at h; exact h) HOK.out⟩
end Go.Proofs.YtkljdpjdlccidaaDoor
