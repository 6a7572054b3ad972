/- The program's heap: Same. -/
import Derived.Test.YtjgggfickbbieaaHqE
namespace Go.Proofs.Ytjgggfickbbieaa
open Go.RowKit Go.Shelf
attribute [local go_sem] Oper.semAt_some
section
variable {W : World}
set_option maxHeartbeats 2000000 in
set_option maxRecDepth 100000 in
/-- slices.Equal of numbers. -/
theorem equalI_ok {l m : List Int} {A1 A2 : Option Addr} {c1 c2 : Nat} {B1 B2 : Nat} (hx : W.ownsRow B1 2 1 (.slice A1 l.length c1) l.length (rowI l)) (hy : W.ownsRow B2 2 1 (.slice A2 m.length c2) m.length (rowI m)) (hn : l.length ≤ 256) (b : Bool) (hb : b = decide (l = m)) :
    Calls Try.prog 47 #[.slice A1 l.length c1, .slice A2 m.length c2] W fun e W' => e = .returned (.bool b) ∧ ∃ n, W' = W.drewN n := by
  have HX := Lib.hid hx
  have HY := Lib.hid hy
  clear hx hy
  by_cases e : l.length = m.length
  case neg =>
    have hbf : b = false := by
      rw [hb]
      exact decide_eq_false fun h => e (by rw [h])
    have e' : ((l.length : Int) != (m.length : Int)) = true := by simp; omega
    subst hbf
    clear e hb
    go_enter Try.func47, Try.ntmps47
    go_wp2_with fail
    go_ret
    exact ⟨rfl, 0, rfl⟩
  rw [← e] at HY ⊢
  have HE := Lib.hid e
  have HB := Lib.hid hb
  clear e hb
  go_enter Try.func47, Try.ntmps47
  go_wp2_with fail
  go_loopg [13] l.length (fun k v13 wr => ∃ i : Nat, i + k = l.length ∧ v13 = .int .i64 i ∧ (∃ n, wr = W.drewN n) ∧ ∀ j, j < i → l.getD j 0 = m.getD j 0)
  case atStart => exact ⟨0, by omega, rfl, ⟨0, rfl⟩, by simp⟩
  case round =>
    obtain ⟨i, hik, rfl, ⟨nn, rfl⟩, hall⟩ := hrel
    have hA := HX.out
    have hB := HY.out
    have HIK := Lib.hid hik
    have HALL := Lib.hid hall
    clear hik hall
    by_cases hlt : i < l.length
    · obtain ⟨g, cc, ea, d0⟩ := ownI_cell hA hlt
      injection ea with ea _ ec
      subst ea ec
      obtain ⟨g2, cc2, eb, d1⟩ := ownI_cell (l := m) (by rw [HE.out] at hB; exact hB) (show i < m.length by rw [← HE.out]; exact hlt)
      injection eb with eb _ ed
      subst eb ed
      have hil : (i : Int) < (l.length : Int) := by omega
      clear hA hB
      by_cases hk : l.getD i 0 = m.getD i 0
      · rw [← hk] at d1
        have HK := Lib.hid hk
        clear hk
        generalize l.getD i 0 = z at d0 d1
        go_upto_region 6 with (fail)
        go_region
        all_goals
          go_wp2_with fail
          go_roundg (gk - 1)
          case measure => have := HIK.out; omega
          case rel => exact ⟨i + 1, by have := HIK.out; omega, by go_num, ⟨nn + 1, by simp [World.drewN]⟩, fun j hj => by
            rcases Nat.lt_or_ge j i with h | h
            · exact HALL.out j h
            · have : j = i := by omega
              subst this; exact HK.out⟩
      · have HK := Lib.hid hk
        obtain ⟨z, hz⟩ : ∃ z, z = l.getD i 0 := ⟨_, rfl⟩
        obtain ⟨z2, hz2⟩ : ∃ z, z = m.getD i 0 := ⟨_, rfl⟩
        rw [← hz] at d0
        rw [← hz2] at d1
        have hk' : ¬ z = z2 := by rw [hz, hz2]; exact hk
        clear hk hz hz2
        go_upto_region 6 with (fail)
        go_region
        all_goals
          go_wp2_with fail
          go_ret
          refine ⟨ret_bool ?_, nn + 1, by simp [World.drewN]⟩
          rw [HB.out]
          exact (decide_eq_false fun h => HK.out (by rw [h])).symm
    · clear hA hB
      go_wp2_with fail
      go_ret
      refine ⟨ret_bool ?_, nn, rfl⟩
      have : l = m := getD_ext HE.out fun j hj => HALL.out j (by omega)
      rw [HB.out]
      exact (decide_eq_true this).symm
set_option maxHeartbeats 4000000 in
set_option maxRecDepth 100000 in
theorem same_ok {bx by' : Nat} (x y : Ob) (h1 : W.heap[bx]? = some (obo x x.nth)) (h2 : W.heap[by']? = some (obo y y.nth)) (hx : W.ownsRow 0 2 1 x.v x.vals.length (rowI x.vals)) (hy : W.ownsRow 0 2 1 y.v y.vals.length (rowI y.vals)) (hn : x.vals.length ≤ 256) :
    Calls Try.prog 37 #[.pointer (some ⟨bx, 0, none⟩), .pointer (some ⟨by', 0, none⟩)] W fun e W' => e = .returned (.bool (sameOb x y)) ∧ ∃ n, W' = W.drewN n := by
  obtain ⟨A1, c1, hv1⟩ := own_slice3 hx
  obtain ⟨A2, c2, hv2⟩ := own_slice3 hy
  rw [hv1] at hx
  rw [hv2] at hy
  obtain ⟨⟨x0, x1, x2, x3, x4, x5⟩, _, xl⟩ := obo_cells h1
  obtain ⟨⟨y0, y1, y2, y3, y4, y5⟩, _, yl⟩ := obo_cells h2
  rw [hv1] at x2
  rw [hv2] at y2
  obtain ⟨b, hb⟩ : ∃ b, b = decide (x.vals = y.vals) := ⟨_, rfl⟩
  have HEQ := Lib.hid (fun n : Nat => equalI_ok (((Ext.drewN W n).kept (fun _ _ => true)).row hx fun _ _ => rfl) (((Ext.drewN W n).kept (fun _ _ => true)).row hy fun _ _ => rfl) hn b hb)
  have HB1 := Lib.hid h1
  have HB2 := Lib.hid h2
  have HV1 := Lib.hid hv1
  have HV2 := Lib.hid hv2
  clear hx hy h1 h2 hv1 hv2
  by_cases e0 : x.kind = y.kind
  case neg =>
    have E := Lib.hid e0
    have e' : (x.kind == y.kind) = false := by simpa using e0
    clear e0 hb
    rw [same_not (fun h => E.out (by simp [Ob.key] at h; simp [h]))]
    go_enter Try.func37, Try.ntmps37
    go_wp2_with fail
    simp only [List.append]
    go_quiet (fail)
    go_wp2_with fail
    go_ret
    exact ⟨rfl, _, rfl⟩
  by_cases e1 : x.of = y.of
  case neg =>
    have E := Lib.hid e1
    have e' : (x.of == y.of) = false := by simpa using e1
    rw [e0] at x0
    clear e0 e1 hb
    rw [same_not (fun h => E.out (by simp [Ob.key] at h; simp [h]))]
    go_enter Try.func37, Try.ntmps37
    go_wp2_with fail
    simp only [List.append]
    go_quiet (fail)
    go_wp2_with fail
    go_ret
    exact ⟨rfl, _, rfl⟩
  rw [e0] at x0
  rw [e1] at x1
  have E01 := Lib.hid (And.intro e0 e1)
  clear e0 e1
  cases b with
  | false =>
    have E := Lib.hid hb
    clear hb
    rw [same_not (fun h => by have := of_decide_eq_false E.out.symm; exact this (by simp [Ob.key] at h; simp [h]))]
    go_enter Try.func37, Try.ntmps37
    go_wp2_with fail
    simp only [List.append]
    go_quiet ((go_at_call 47; exact Calls.quiet_of (HEQ.out _)))
    go_wp2_with fail
    go_ret
    exact ⟨rfl, _, rfl⟩
  | true =>
    have EV := Lib.hid (of_decide_eq_true hb.symm)
    clear hb
    by_cases e3 : x.site = y.site
    case neg =>
      have E := Lib.hid e3
      have e' : (x.site == y.site) = false := by simpa using e3
      clear e3
      rw [same_not (fun h => E.out (by simp [Ob.key] at h; simp [h]))]
      go_enter Try.func37, Try.ntmps37
      go_wp2_with fail
      simp only [List.append]
      go_quiet ((go_at_call 47; exact Calls.quiet_of (HEQ.out _)))
      go_wp2_with fail
      go_ret
      exact ⟨rfl, _, rfl⟩
    by_cases e4 : x.by' = y.by'
    case neg =>
      have E := Lib.hid e4
      rw [e3] at x3
      have E3 := Lib.hid e3
      have e' : (x.by' == y.by') = false := by simpa using e4
      clear e3 e4
      rw [same_not (fun h => E.out (by simp [Ob.key] at h; simp [h]))]
      go_enter Try.func37, Try.ntmps37
      go_wp2_with fail
      simp only [List.append]
      go_quiet ((go_at_call 47; exact Calls.quiet_of (HEQ.out _)))
      go_wp2_with fail
      go_ret
      exact ⟨rfl, _, rfl⟩
    rw [e3] at x3
    rw [e4] at x4
    have E3 := Lib.hid e3
    have E4 := Lib.hid e4
    clear e3 e4
    by_cases e5 : x.nth = y.nth
    case neg =>
      have E := Lib.hid e5
      have e' : (x.nth == y.nth) = false := by simpa using e5
      clear e5
      rw [same_not (fun h => E.out (by simp [Ob.key] at h; simp [h]))]
      go_enter Try.func37, Try.ntmps37
      go_wp2_with fail
      simp only [List.append]
      go_quiet ((go_at_call 47; exact Calls.quiet_of (HEQ.out _)))
      go_wp2_with fail
      go_ret
      exact ⟨rfl, _, rfl⟩
    rw [e5] at x5
    have E5 := Lib.hid e5
    clear e5
    have hs : sameOb x y = true := by
      simp [sameOb, Ob.key, E01.out.1, E01.out.2, E3.out, E4.out, E5.out, EV.out]
    rw [hs]
    clear hs
    go_enter Try.func37, Try.ntmps37
    go_wp2_with fail
    simp only [List.append]
    go_quiet ((go_at_call 47; exact Calls.quiet_of (HEQ.out _)))
    go_wp2_with fail
    go_ret
    exact ⟨rfl, _, rfl⟩
variable {own own' : Nat → Bool} {bh bo : Nat} {ps ps' : List Nat} {L M : List Ob}
set_option maxHeartbeats 4000000 in
set_option maxRecDepth 100000 in
theorem equalF_ok (h : PH own bh ps L W) (h' : PH own' bo ps' M W) {A1 A2 : Option Addr} {c1 c2 : Nat} (h1 : W.ownsRow 0 75 1 (.slice A1 L.length c1) L.length (rowP ps)) (h2 : W.ownsRow 0 75 1 (.slice A2 M.length c2) M.length (rowP ps')) :
    Calls Try.prog 36 #[.slice A1 L.length c1, .slice A2 M.length c2, .func (.func 37) #[] #[]] W fun e W' => e = .returned (.bool (decide (L.map Ob.key = M.map Ob.key))) ∧ ∃ n, W' = W.drewN n := by
  obtain ⟨b, hb⟩ : ∃ b, b = decide (L.map Ob.key = M.map Ob.key) := ⟨_, rfl⟩
  rw [← hb]
  have hl1 := h.len
  have hl2 := h'.len
  have HS := Lib.hid (fun (i n : Nat) (hi : i < L.length) (hj : i < M.length) => same_ok (nt L i) (nt M i) ((Ext.drewN W n).kept (fun _ _ => true) |>.same _ _ (h.bo i hi) rfl) ((Ext.drewN W n).kept (fun _ _ => true) |>.same _ _ (h'.bo i hj) rfl) ((Ext.drewN W n).kept (fun _ _ => true) |>.row (h.vs i hi) fun _ _ => rfl) ((Ext.drewN W n).kept (fun _ _ => true) |>.row (h'.vs i hj) fun _ _ => rfl) (h.wid i hi))
  have HB := Lib.hid hb
  have HP1 := Lib.hid h.pl
  have HP2 := Lib.hid h'.pl
  have H1 := Lib.hid h1
  have H2 := Lib.hid h2
  clear h h' h1 h2 hb
  by_cases e : L.length = M.length
  case neg =>
    have hbf : b = false := by
      rw [HB.out]
      exact decide_eq_false fun h => e (key_len h)
    have e' : ((L.length : Int) != (M.length : Int)) = true := by simp; omega
    subst hbf
    clear e HB
    go_enter Try.func36, Try.ntmps36
    go_wp2_with fail
    go_ret
    exact ⟨rfl, 0, rfl⟩
  rw [← e] at H2 HP2 ⊢
  have HE := Lib.hid e
  clear e
  go_enter Try.func36, Try.ntmps36
  go_wp2_with fail
  go_loopg [17] L.length (fun k v17 wr => ∃ i : Nat, i + k = L.length ∧ v17 = .int .i64 i ∧ (∃ n, wr = W.drewN n) ∧ ∀ j, j < i → (nt L j).key = (nt M j).key)
  case atStart => exact ⟨0, by omega, rfl, ⟨0, rfl⟩, by simp⟩
  case round =>
    obtain ⟨i, hik, rfl, ⟨nn, rfl⟩, hall⟩ := hrel
    have HIK := Lib.hid hik
    have HALL := Lib.hid hall
    clear hik hall
    by_cases hlt : i < L.length
    · obtain ⟨g, cc, ea, d0⟩ := ownP_cell HP1.out H1.out hlt
      injection ea with ea _ ec
      subst ea ec
      obtain ⟨g2, cc2, eb, d1⟩ := ownP_cell HP2.out H2.out hlt
      injection eb with eb _ ed
      subst eb ed
      have hil : (i : Int) < (L.length : Int) := by omega
      have hs := fun n => HS.out i n hlt (by rw [← HE.out]; exact hlt)
      by_cases hk : (nt L i).key = (nt M i).key
      · rw [show sameOb (nt L i) (nt M i) = true from decide_eq_true hk] at hs
        have HK := Lib.hid hk
        have HSI := Lib.hid hs
        clear hk hs
        go_wp2_with (go_at_call 37; refine (HSI.out nn).mono ?_; rintro e w2 ⟨rfl, m2, rfl⟩)
        go_roundg (gk - 1)
        case measure => have := HIK.out; omega
        case rel => exact ⟨i + 1, by have := HIK.out; omega, by go_num, ⟨nn + m2, by simp [World.drewN]⟩, fun j hj => by
          rcases Nat.lt_or_ge j i with h | h
          · exact HALL.out j h
          · have : j = i := by omega
            subst this; exact HK.out⟩
      · rw [show sameOb (nt L i) (nt M i) = false from decide_eq_false hk] at hs
        have HK := Lib.hid hk
        have HSI := Lib.hid hs
        clear hk hs
        go_wp2_with (go_at_call 37; refine (HSI.out nn).mono ?_; rintro e w2 ⟨rfl, m2, rfl⟩)
        go_ret
        refine ⟨ret_bool ?_, nn + m2, by simp [World.drewN]⟩
        rw [HB.out]
        exact (decide_eq_false fun h => HK.out (key_nt h i)).symm
    · go_wp2_with fail
      go_ret
      refine ⟨ret_bool ?_, nn, rfl⟩
      rw [HB.out]
      exact (decide_eq_true (map_key_eq HE.out fun j hj => HALL.out j (by omega))).symm
set_option maxHeartbeats 4000000 in
set_option maxRecDepth 100000 in
theorem Same_ok (h : PH own bh ps L W) (h' : PH own' bo ps' M W) :
    Calls Try.prog 14 #[.pointer (some ⟨bh, 0, none⟩), .pointer (some ⟨bo, 0, none⟩)] W fun e W' => e = .returned (.bool (decide (L.map Ob.key = M.map Ob.key))) ∧ ∃ n, W' = W.drewN n := by
  obtain ⟨b, hb⟩ : ∃ b, b = decide (L.map Ob.key = M.map Ob.key) := ⟨_, rfl⟩
  obtain ⟨v1, mv1, q1, q2, _⟩ := h.ex
  obtain ⟨v2, mv2, r1, r2, _⟩ := h'.ex
  obtain ⟨A1, c1, rfl⟩ := own_slice3 q2
  obtain ⟨A2, c2, rfl⟩ := own_slice3 r2
  have HEQ := Lib.hid (fun n : Nat => equalF_ok (h.ext (Ext.drewN W n)) (h'.ext (Ext.drewN W n)) ((Ext.drewN W n).kept (fun _ _ => true) |>.row q2 fun _ _ => rfl) ((Ext.drewN W n).kept (fun _ _ => true) |>.row r2 fun _ _ => rfl))
  rw [← hb] at HEQ ⊢
  have c0 : W.cell? ⟨bh, 0, none⟩ = some (.slice A1 L.length c1) := by simp [World.cell?, q1]
  have d0 : W.cell? ⟨bo, 0, none⟩ = some (.slice A2 M.length c2) := by simp [World.cell?, r1]
  have hl1 := h.bl
  have hl2 := h'.bl
  clear h h' q1 q2 r1 r2 hb
  go_enter Try.func14, Try.ntmps14
  go_wp2_with fail
  go_quiet ((go_at_call 36; exact Calls.quiet_of (HEQ.out _)))
  go_wp2_with fail
  go_ret
  exact ⟨rfl, _, rfl⟩
end
end Go.Proofs.Ytjgggfickbbieaa
