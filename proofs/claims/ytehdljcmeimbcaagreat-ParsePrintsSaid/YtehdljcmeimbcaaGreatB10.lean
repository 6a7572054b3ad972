/- parser.block. -/
import Derived.Test.YtehdljcmeimbcaaGreatB07
namespace Go.Proofs.YtehdljcmeimbcaaGreat
open Go.RowKit

/-- What a loop has that collects kids: a tree's kids so far, their numbers in a row of the call's own. -/
structure Lp (C : Cx) (w0 : World) (k0 : Nat) (v0 : Value) (tw0 : List Tw) (L : List (Nat × Obj)) (m q : Nat) (acc : Fo) (j : Nat) (vv x : Value) (wr : World) : Prop where
  st : St (C.ex x) w0 k0 v0 tw0 wr j m vv acc q L
  own : wr.ownsRow w0.heap.size 3 1 x acc.len ((acc.ids tw0.length).map (Value.int .i64))
theorem ids_len : ∀ (f : Fo) (b : Nat), (f.ids b).length = f.len
  | .nil, _ => rfl
  | .cons d k r, b => by have := ids_len r (b + k.size + 1); simp [Fo.len] at this; simp [Fo.ids, Fo.len, Fo.nds, this]
theorem len_le : ∀ f : Fo, f.len ≤ f.size
  | .nil => Nat.le_refl _
  | .cons d k r => by have := len_le r; simp [Fo.len, Fo.nds, Fo.size] at this ⊢; omega
theorem nds_app : ∀ f g : Fo, (f.app g).nds = f.nds ++ g.nds
  | .nil, g => rfl
  | .cons d k r, g => by simp [Fo.app, Fo.nds, nds_app r g]
theorem len_app (f g : Fo) : (f.app g).len = f.len + g.len := by simp [Fo.len, nds_app]
variable {C : Cx} {w0 wr w' : World} {k0 j m q : Nat} {v0 vv x : Value} {tw0 : List Tw} {L : List (Nat × Obj)} {acc : Fo}
theorem Lp.few (h : Lp C w0 k0 v0 tw0 L m q acc j vv x wr) : acc.len ≤ 2000000 := by
  have h1 := len_le acc
  have h2 := h.st.sz
  have h3 := h.st.ps.kle
  have h4 := h.st.ps.big
  have h5 : (C.ex x).T = C.T := rfl
  rw [h5] at h3 h4
  omega
/-- Behind an item, and the append of its number. -/
theorem Lp.next {v3 : Value} {w3 w4 : World} {d : Nd} {f : Fo} {j' g cap : Nat} {N : Int} (_h : Lp C w0 k0 v0 tw0 L m q acc j vv x wr) (hs : St (C.ex x) w0 k0 v0 tw0 w3 j' m v3 (acc.app (one d f)) q L) (hp : C.p < w0.heap.size) (ho : w3.ownsRow w0.heap.size 3 1 x acc.len ((acc.ids tw0.length).map (Value.int .i64))) (o : Obj)
    (hg : (w3.alloc o).grownBy w4 x.ownBlock) (hown : w4.ownsRow w0.heap.size 3 1 (.slice (some ⟨g, 0, none⟩) (acc.len + 1) cap) (acc.len + 1) ((acc.ids tw0.length).map (Value.int .i64) ++ [.int .i64 N])) (hat : x.ownBlock = some g ∨ g = w3.heap.size + 1) (hlt : g < w4.heap.size) (hN : ((tw0.length + acc.size + f.size : Nat) : Int) = N) (hL : ∀ y ∈ L, ∃ cs t mm, y.2 = .cells cs t mm ∧ t ≠ 3) :
    Lp C w0 k0 v0 tw0 L m q (acc.app (one d f)) j' v3 (.slice (some ⟨g, 0, none⟩) (acc.len + 1) cap) w4 := by
  refine ⟨(hs.al o).growI (ho.alloc o) (Nat.le_refl _) hp hg (fun b hb => ?_) (fun b hb => ?_) (fun y hy e => ?_), ?_⟩
  · simp [Value.ownBlock] at hb
    subst hb
    exact hat.imp id fun e => by simp; omega
  · simp [Value.ownBlock] at hb
    subst hb
    exact hlt
  · obtain ⟨cs, t, mm, h1, h2⟩ := hL y hy
    have h3 := ((hs.al o).loc y hy).is
    rw [h1] at h3
    obtain ⟨cur, h4⟩ := own_type (ho.alloc o) y.1 e
    exact not_int h3 h2 h4 rfl
  · rw [len_app, ids_snoc, List.map_append, hN]
    exact hown
theorem Lp.kids (h : Lp C w0 k0 v0 tw0 L m q acc j vv x wr) (hX : ∀ b ∈ C.X, b < w0.heap.size) : IntRow wr C.X x (acc.ids tw0.length) :=
  own_introw (by rw [ids_len]; exact h.own) hX
theorem Lp.keep {v' : Value} (h : Lp C w0 k0 v0 tw0 L m q acc j vv x wr) (hp : C.p < w0.heap.size) {j' m' q' : Nat} (hs : St (C.ex x) w0 k0 v0 tw0 w' j' m' v' acc q' L) (hk : Kp C.p vv wr v' w') : Lp C w0 k0 v0 tw0 L m' q' acc j' v' x w' :=
  ⟨hs, ownI_keep h.own h.st.ps hp hk⟩

set_option maxRecDepth 100000 in
set_option maxHeartbeats 2000000 in
theorem block_yes (n : Nat) (HST : Hid (∀ i, i ≤ n → Ct 112 i .stmt)) (C : Cx) (w : World) (k m : Nat) (v : Value) (tw : List Tw) (h : PS w C k m v tw) (h1 : seesM (C.T.drop k) [[123]] = true) (hnd : P (n + 1) .block (C.T.drop k) m ≠ .dry) :
    Calls Tryz.prog 94 #[C.ptr] w (Ret C w k m v tw (P (n + 1) .block (C.T.drop k) m)) := by
  have hpw := h.lt
  have HXW := Lib.hid h.xlt
  obtain ⟨i0, hi0, hz0, hz1, hz2⟩ := info_parts infoInt
  have HS0 := Lib.hid (St.start h)
  clear h
  generalize ho : P (n + 1) .block (C.T.drop k) m = o at hnd ⊢
  have HND := Lib.hid hnd
  clear hnd
  rw [P] at ho
  simp only [h1, if_true] at ho
  have hlt : k < C.T.length := sees_lt (x := 4) (by decide) (seesK_kind h1)
  have H1 := Lib.hid h1
  clear h1
  have HO0 := Lib.hid ho
  clear ho
  go_enter Tryz.func94, Tryz.ntmps94
  go_wp2_with fail
  refine (seesMark_is C _ _ _ _ _ [[123]] _ _ _ true HS0.out.ps (by simp) rfl rfl (by decide) H1.out).mono ?_
  rintro e w1 ⟨rfl, hb⟩
  have HS1 := Lib.hid (HS0.out.below hb)
  clear hb HS0
  go_wp2_with fail
  by_cases hm : m = 64
  · have ho' := HO0.out
    rw [ent_no hm] at ho'
    subst hm
    refine (enter_bad C _ _ _ _ HS1.out.ps).mono ?_
    rintro e w' ⟨rfl, hb⟩
    have HB := Lib.hid (HS1.out.bad (m0 := 64) ho' hb)
    clear hb ho'
    go_wp2_with fail
    exact ⟨rfl, HB.out⟩
  have ho' := HO0.out
  rw [ent_yes hm, tail_drop'] at ho'
  have HO1 := Lib.hid ho'
  have hm' : m < 64 := by have := HS1.out.ps.nest; omega
  refine (enter_ok C _ _ _ _ _ HS1.out.ps hlt hm').mono ?_
  rintro e w2 ⟨rfl, hs, hk⟩
  have HS2 := Lib.hid (HS1.out.took hs hk)
  clear hs hk HS1 ho'
  unfold tokV
  go_wp2_with fail
  have HSL := Lib.hid (HS2.out.var (w2.heap.size) (by simp) (.cells #[.int .i64 (hd (C.T.drop k)).kind, .string ⟨(hd (C.T.drop k)).text.toArray⟩, .int .i64 (hd (C.T.drop k)).n, .int .i64 (hd (C.T.drop k)).line, .int .i64 (hd (C.T.drop k)).col] 61))
  go_loopg [4] n (fun i v4 wr => ∃ (acc : Fo) (j : Nat) (vv : Value), i ≤ n ∧ Lp C w k v tw [(w2.heap.size, .cells #[.int .i64 (hd (C.T.drop k)).kind, .string ⟨(hd (C.T.drop k)).text.toArray⟩, .int .i64 (hd (C.T.drop k)).n, .int .i64 (hd (C.T.drop k)).line, .int .i64 (hd (C.T.drop k)).col] 61)] (m + 1) 2 acc j vv v4 wr ∧ P i (.stmts (hd (C.T.drop k)) acc) (C.T.drop j) (m + 1) = o)
  case atStart => exact ⟨.nil, k + 1, _, Nat.le_refl _, ⟨HSL.out, World.ownsRow_nil _ _ _ _⟩, HO1.out⟩
  case round =>
    obtain ⟨acc, j, vv, hin, hLp, hPo⟩ := hrel
    generalize u4 = x at hLp ⊢
    have HLP := Lib.hid hLp
    have HPO := Lib.hid hPo
    clear hLp hPo
    cases gk with
    | zero => exact absurd HPO.out.symm HND.out
    | succ i =>
    cases hx : seesM (C.T.drop j) [[125]]
    · have hp := HPO.out
      rw [P] at hp
      simp only [hx, Bool.false_eq_true, if_false] at hp
      have HP1 := Lib.hid hp
      have HX := Lib.hid hx
      clear hp hx HPO
      go_wp2_with fail
      refine (seesMark_is (C.ex _) _ _ _ _ _ [[125]] _ _ _ false HLP.out.st.ps rfl rfl rfl (by decide) HX.out).mono ?_
      rintro e w13 ⟨rfl, hb⟩
      have HL2 := Lib.hid (HLP.out.keep hpw (HLP.out.st.below hb) (.of hb))
      clear hb HLP
      go_wp2_with fail
      have hnd : P i .stmt (C.T.drop j) (m + 1) ≠ .dry := fun hdry => by have h1 := HP1.out; rw [hdry] at h1; exact HND.out h1.symm
      refine (HST.out i (by omega) (C.ex _) _ _ _ _ _ HL2.out.st.ps hnd).mono ?_
      rintro e w14 hr0
      have hr : Ret (C.ex x) w13 j (m + 1) vv (tw ++ acc.post tw.length) (P i .stmt (C.T.drop j) (m + 1)) e w14 := hr0
      clear hr0
      rcases hP : P i .stmt (C.T.drop j) (m + 1) with _ | ⟨er, r⟩ | ⟨d9, f9, r⟩
      · exact absurd hP hnd
      · rw [hP] at hr
        have ho' := HP1.out
        rw [hP] at ho'
        have hR : Ret C w k m v tw o e w14 := by subst ho'; exact ⟨hr.1, HL2.out.st.lowB hr.2⟩
        have HR := Lib.hid hR
        obtain ⟨rfl, _⟩ := hr
        clear hnd hP ho' hR
        go_wp2_with fail
        exact ⟨rfl, HR.out⟩
      rw [hP] at hr
      obtain ⟨_, _, _, _, _, hk3, _⟩ := id hr
      have HW3 := Lib.hid (ownI_keep HL2.out.own HL2.out.st.ps hpw hk3)
      obtain ⟨j9, v9, rfl, rfl, hs⟩ := HL2.out.st.sub hr
      have ho' := HP1.out
      rw [hP] at ho'
      dsimp only [Out.and, Cx.ex] at ho'
      have HO9 := Lib.hid ho'
      have HS9 := Lib.hid hs
      have hfew := HL2.out.few
      have hz14 : w.heap.size ≤ w14.heap.size := HS9.out.kp.size
      generalize hN : ((tw.length + _ + f9.size : Nat) : Int) = N9
      have HN9 := Lib.hid hN
      clear hs hr hN hnd hP ho' hk3
      go_wp2_with (at_builtin; refine wpList_append_lies _ rfl _ _ 37 rfl w.heap.size 3 i0 (.int .i64 0) 1 8 Tryz.underlying37 hi0 hz0 hz1 hz2 rfl (by decide) x acc.len _ rfl (HW3.out.alloc _) ⟨w14.heap.size, 0, none⟩ 1 1 [.int .i64 N9] rfl rfl (World.news_of_block (cs := #[.int .i64 N9]) (t := 3) (fr := (0, 0)) (heap_alloc_new w14 _)) (by simp [Value.oneCell']) (by decide) (by unfold maxLen; omega) (by omega) (by simp; omega) (w14.heap.size + 1) (by simp) ?_; intro gg cap w15 hown hgrow hat hltg)
      have HL3 := Lib.hid (HL2.out.next HS9.out hpw HW3.out _ hgrow hown hat hltg HN9.out (by intro y hy; simp at hy; subst hy; exact ⟨_, _, _, rfl, by decide⟩))
      clear hown hgrow hat hltg HL2 HS9 HW3 HP1
      go_wp2_with fail
      go_roundg i
      case measure => omega
      case rel => exact ⟨_, _, _, by omega, HL3.out, HO9.out⟩
    · have hp := HPO.out
      rw [P] at hp
      simp only [hx, if_true, tail_drop'] at hp
      have HP1 := Lib.hid hp
      have HX := Lib.hid hx
      clear hp hx HPO
      go_wp2_with fail
      refine (seesMark_is (C.ex _) _ _ _ _ _ [[125]] _ _ _ true HLP.out.st.ps rfl rfl rfl (by decide) HX.out).mono ?_
      rintro e w13 ⟨rfl, hb⟩
      have HL2 := Lib.hid (HLP.out.keep hpw (HLP.out.st.below hb) (.of hb))
      clear hb HLP
      go_wp2_with fail
      refine (takeMark_new_yes (C.ex _) _ _ _ _ _ [[125]] _ _ _ HL2.out.st.ps rfl rfl rfl (by decide) HX.out).mono ?_
      rintro e w14 ⟨rfl, hs, hk⟩
      have HL3 := Lib.hid (HL2.out.keep hpw (HL2.out.st.took hs hk) hk)
      clear hs hk HL2
      unfold tokV
      go_wp2_with fail
      refine (leave_ok (C.ex _) _ _ _ _ _ HL3.out.st.ps).mono ?_
      rintro e w15 ⟨rfl, hs, hk⟩
      have HL4 := Lib.hid (HL3.out.keep hpw (HL3.out.st.left hs hk) hk)
      clear hs hk HL3
      have HI := Lib.hid (HL4.out.kids HXW.out)
      have HS5 := Lib.hid HL4.out.st.exDrop
      obtain ⟨z0, z1, z2, z3, z4, z5⟩ := tok5 (HS5.out.loc _ (.head _)).is
      go_wp2_with fail
      refine (add_ok C _ _ _ _ _ (hd (C.T.drop k)) 12 [] 0 _ _ HS5.out.ps HI.out HS5.out.room).mono ?_
      rintro e w16 ⟨rfl, v', hs, hk⟩
      generalize hN : (((tw ++ _ : List Tw).length : Nat) : Int) = N
      have HR := Lib.hid (HS5.out.fin HP1.out hs hk hN.symm)
      clear hs hk hN HS5 HI
      go_wp2_with fail
      go_ret
      exact HR.out


set_option maxRecDepth 100000 in
set_option maxHeartbeats 2000000 in
theorem block_no (n : Nat) (C : Cx) (w : World) (k m : Nat) (v : Value) (tw : List Tw) (h : PS w C k m v tw) (h1 : seesM (C.T.drop k) [[123]] = false) (hnd : P (n + 1) .block (C.T.drop k) m ≠ .dry) :
    Calls Tryz.prog 94 #[C.ptr] w (Ret C w k m v tw (P (n + 1) .block (C.T.drop k) m)) := by
  have HS0 := Lib.hid (St.start h)
  clear h
  generalize ho : P (n + 1) .block (C.T.drop k) m = o at hnd ⊢
  have HND := Lib.hid hnd
  clear hnd
  rw [P] at ho
  simp only [h1, Bool.false_eq_true, if_false] at ho
  have H1 := Lib.hid h1
  clear h1
  have HO0 := Lib.hid ho
  clear ho
  go_enter Tryz.func94, Tryz.ntmps94
  go_wp2_with fail
  refine (seesMark_is C _ _ _ _ _ [[123]] _ _ _ false HS0.out.ps (by simp) rfl rfl (by decide) H1.out).mono ?_
  rintro e w1 ⟨rfl, hb⟩
  have HS1 := Lib.hid (HS0.out.below hb)
  clear hb HS0
  go_wp2_with fail
  refine (refuse_ok C _ _ _ _ _ 4 HS1.out.ps).mono ?_
  rintro e w' ⟨rfl, hb⟩
  have HB := Lib.hid (HS1.out.bad (m0 := m) HO0.out (KpB.of hb))
  clear hb
  go_wp2_with fail
  exact ⟨rfl, HB.out⟩

theorem block_ok (n : Nat) (HST : Hid (∀ i, i ≤ n → Ct 112 i .stmt)) : Ct 94 (n + 1) .block := fun C w k m v tw h hnd => by
  cases h1 : seesM (C.T.drop k) [[123]]
  · exact block_no n C w k m v tw h h1 hnd
  · exact block_yes n HST C w k m v tw h h1 hnd
end Go.Proofs.YtehdljcmeimbcaaGreat
