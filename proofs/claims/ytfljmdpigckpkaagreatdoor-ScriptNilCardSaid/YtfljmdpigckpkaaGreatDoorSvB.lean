/- Rows of members of more than one cell, as sources and as rows of our own; slices.Clone at the seat, of all that a program has. Written by genVB.py. -/
import Derived.Test.YtfljmdpigckpkaaGreatDoorSvA
namespace Go.Proofs.YtfljmdpigckpkaaGreatDoor
open Go.RowKit Go.Shelf
attribute [local go_sem] Oper.semAt_some
theorem flat_get {α : Type} {f : α → List Value} {s : Nat} (hfs : ∀ x, (f x).length = s) (hs : 0 < s) : ∀ (T : List α) (j : Nat) (u : Value), (T.flatMap f)[j]? = some u → ∃ x, T[j / s]? = some x ∧ (f x)[j % s]? = some u
  | [], j, u, h => by simp at h
  | x :: T, j, u, h => by
    rw [List.flatMap_cons] at h
    rcases Nat.lt_or_ge j s with hj | hj
    · rw [List.getElem?_append_left (by rw [hfs]; exact hj)] at h
      rw [Nat.div_eq_of_lt hj, Nat.mod_eq_of_lt hj]
      exact ⟨x, rfl, h⟩
    · rw [List.getElem?_append_right (by rw [hfs]; exact hj), hfs] at h
      obtain ⟨y, h1, h2⟩ := flat_get hfs hs T (j - s) u h
      have e1 : j / s = (j - s) / s + 1 := by rw [Nat.div_eq_sub_div hs hj]
      have e2 : j % s = (j - s) % s := Nat.mod_eq_sub_mod hj
      rw [e1, e2]
      exact ⟨y, by simpa using h1, h2⟩
theorem flat_at {α : Type} {f : α → List Value} {s : Nat} (hfs : ∀ x, (f x).length = s) : ∀ (T : List α) (i r : Nat) (x : α) (u : Value), T[i]? = some x → (f x)[r]? = some u → (T.flatMap f)[i * s + r]? = some u
  | [], i, r, x, u, h, _ => by simp at h
  | y :: T, 0, r, x, u, h, h2 => by
    obtain rfl : y = x := by simpa using h
    have hr : r < (f y).length := (List.getElem?_eq_some_iff.1 h2).1
    rw [List.flatMap_cons, Nat.zero_mul, Nat.zero_add, List.getElem?_append_left hr]
    exact h2
  | y :: T, i + 1, r, x, u, h, h2 => by
    have ih := flat_at hfs T i r x u (by simpa using h) h2
    rw [List.flatMap_cons, List.getElem?_append_right (by rw [hfs, Nat.succ_mul]; omega), hfs]
    rw [show (i + 1) * s + r - s = i * s + r by rw [Nat.succ_mul]; omega]
    exact ih
theorem flat_len {α : Type} {f : α → List Value} {s : Nat} (hfs : ∀ x, (f x).length = s) (T : List α) : (T.flatMap f).length = T.length * s := by
  induction T with
  | nil => simp
  | cons x T ih => rw [List.flatMap_cons, List.length_append, ih, hfs, List.length_cons, Nat.succ_mul]; omega
theorem RowN.src {α : Type} {f : α → List Value} {s : Nat} {P : α → Prop} {w : World} {A : Option Addr} {m c : Nat} {T : List α} (hfs : ∀ x, (f x).length = s) (hs : 0 < s) (h : RowN f s P w A m c T) : Src w (.slice A m c) m (T.flatMap f) := by
  obtain ⟨h1, h2, h3⟩ := h
  cases A with
  | none =>
    obtain ⟨e1, e2⟩ := h2 rfl
    subst e1 e2
    refine .inl ⟨rfl, rfl, ?_⟩
    cases T with
    | nil => rfl
    | cons => cases h1
  | some ad =>
    refine .inr ⟨ad, c, rfl, fun j u hj => ?_⟩
    obtain ⟨x, k1, k2⟩ := flat_get hfs hs T j u hj
    obtain ⟨g, off, e1, _, _, e4⟩ := h3 _ x k1
    cases e1
    have := e4 _ u k2
    rw [add_none]
    have e : off + j / s * s + j % s = off + j := by have := Nat.div_add_mod j s; rw [Nat.mul_comm] at this; omega
    rw [e] at this
    exact this
/-- A row of our own, as one that came in. -/
theorem own_rowN {α : Type} {f : α → List Value} {s : Nat} {P : α → Prop} {W : World} {B : Nat} {t : TypeId} {A : Option Addr} {c : Nat} {T : List α} (hfs : ∀ x, (f x).length = s) (h : W.ownsRow B t s (.slice A T.length c) T.length (T.flatMap f)) (hP : ∀ x ∈ T, P x) : RowN f s P W A T.length c T := by
  refine ⟨rfl, ?_, fun i x hi => ?_⟩
  · intro hA
    rcases h.2 with ⟨e, h0⟩ | ⟨g, cap, cur, e, _⟩
    · injection e with _ e2 e3
      exact ⟨e3, by omega⟩
    · injection e with e
      rw [hA] at e
      cases e
  · have hlt := (List.getElem?_eq_some_iff.1 hi).1
    rcases h.2 with ⟨e, h0⟩ | ⟨g, cap, cur, e, h2⟩
    · omega
    · have hA : A = some ⟨g, 0, none⟩ := by injection e
      refine ⟨g, 0, hA, (Array.getElem?_eq_some_iff.1 h2.2.1).1, hP x (List.mem_of_getElem? hi), fun j u hj => ?_⟩
      have := h.cells (g := g) (by rw [hA]; rfl) _ u (flat_at hfs T i j x u hi hj)
      simpa [add_none] using this
theorem flat_one {α : Type} {f : α → Value} (l : List α) : (l.flatMap fun x => [f x]) = rowV f l := by
  induction l with
  | nil => rfl
  | cons x l ih => rw [List.flatMap_cons, ih]; rfl
/-- As 'Row1'. -/
theorem own_row1 {α : Type} {f : α → Value} {W : World} {B : Nat} {t : TypeId} {A : Option Addr} {c : Nat} {l : List α} (h : W.ownsRow B t 1 (.slice A l.length c) l.length (rowV f l)) : Row1 f W A l.length c l := by
  have h' : W.ownsRow B t 1 (.slice A l.length c) l.length (l.flatMap fun x => [f x]) := by
    rw [flat_one]; exact h
  obtain ⟨_, h2, h3⟩ := own_rowN (f := fun x => [f x]) (P := fun _ => True) (fun _ => rfl) h' fun _ _ => trivial
  exact ⟨rfl, h2, h3⟩
@[go_sem] theorem eqnilStrs_none (n c : Nat) (w : World) : (binOp .eql 27 (.slice none n c) (.slice none 0 0)).run Tryz.prog w = .ok (.bool true) w := by kernel_rfl
@[go_sem] theorem eqnilStrs_some (ad : Addr) (n c : Nat) (w : World) : (binOp .eql 27 (.slice (some ad) n c) (.slice none 0 0)).run Tryz.prog w = .ok (.bool false) w := by kernel_rfl
theorem infoStrs : (Tryz.prog.info? 9).map (fun i => (i.zero, i.size, i.bytes)) = some (some (.string ⟨#[]⟩), 1, 16) := by kernel_rfl
set_option maxHeartbeats 1000000 in
set_option maxRecDepth 100000 in
theorem cloneStrs_ok {W : World} (l : List ByteArray) (A : Option Addr) (c : Nat) (hs : Src W (.slice A l.length c) l.length (rowV sV l)) (hl : l.length ≤ 100000) :
    Calls Tryz.prog 202 #[.slice A l.length c] W fun e W' => ∃ A' c', e = .returned (.slice A' l.length c') ∧ Ext W W' ∧ W'.ownsRow W.heap.size 9 1 (.slice A' l.length c') l.length (rowV sV l) := by
  obtain ⟨i0, hi0, hz0, hz1, hz2⟩ := infoParts infoStrs
  cases A with
  | none =>
    have hnil : c = 0 ∧ l = [] := by
      rcases hs with ⟨e, h2, h3⟩ | ⟨ad, c', e, _⟩
      · injection e with _ _ e
        exact ⟨e, List.eq_nil_of_length_eq_zero h2⟩
      · injection e with e
        cases e
    obtain ⟨rfl, rfl⟩ := hnil
    go_enter Tryz.func202, Tryz.ntmps202
    go_wp2_with fail
    exact bodyPost_ret (v := .slice none 0 0) (by simp [results, Tryz.results202, go_sem]) rfl ⟨none, 0, rfl, Ext.refl _, World.ownsRow_nil _ _ _ _⟩
  | some ad =>
    have hn : (W.alloc (.cells #[] 9 (0, 0))).ownsRow W.heap.size 9 1 (.slice (some ⟨W.heap.size, 0, none⟩) 0 0) 0 [] := ⟨rfl, .inr ⟨W.heap.size, 0, #[], rfl, Nat.le_refl _, World.alloc_heap_new _ _, Nat.le_refl _, by unfold maxLen; omega, rfl, rfl⟩⟩
    have HN := Lib.hid hn
    have HS := Lib.hid (hs.ext (Ext.one W (.cells #[] 9 (0, 0))))
    have HONE := Lib.hid (rowV_one (f := sV) (l := l) fun _ => rfl)
    have HLEN := Lib.hid (rowV_len (f := sV) (l := l))
    clear hs hn
    go_enter Tryz.func202, Tryz.ntmps202
    go_wp2_with (at_builtin; refine wpList_append_any rfl _ _ 27 rfl W.heap.size 9 i0 (.string ⟨#[]⟩) 1 16 Tryz.underlying27 hi0 hz0 hz1 hz2 rfl (by decide) (.slice (some ⟨W.heap.size, 0, none⟩) 0 0) 0 [] rfl HN.out (.slice (some ad) l.length c) l.length (rowV sV l) rfl HLEN.out HS.out HONE.out (by unfold maxLen; omega) (by omega) (by simp) l.length (by omega) (rowV sV l) (by simp) ?_; intro A1 c1 w1 hown1 hgrow1 hat1; have HX1 := Lib.hid (grown_ext (Ext.one W (.cells #[] 9 (0, 0))) hgrow1 (by intro b hb; simp [Value.ownBlock] at hb; omega)); have HO1 := Lib.hid hown1; clear hown1 hgrow1 hat1)
    go_ret
    exact ⟨A1, c1, rfl, HX1.out, HO1.out⟩
@[go_sem] theorem eqnilTyps_none (n c : Nat) (w : World) : (binOp .eql 317 (.slice none n c) (.slice none 0 0)).run Tryz.prog w = .ok (.bool true) w := by kernel_rfl
@[go_sem] theorem eqnilTyps_some (ad : Addr) (n c : Nat) (w : World) : (binOp .eql 317 (.slice (some ad) n c) (.slice none 0 0)).run Tryz.prog w = .ok (.bool false) w := by kernel_rfl
theorem infoTyps : (Tryz.prog.info? 88).map (fun i => (i.zero, i.size, i.bytes)) = some (some (.int .i64 0), 1, 8) := by kernel_rfl
set_option maxHeartbeats 1000000 in
set_option maxRecDepth 100000 in
theorem cloneTyps_ok {W : World} (l : List Int) (A : Option Addr) (c : Nat) (hs : Src W (.slice A l.length c) l.length (rowV iV l)) (hl : l.length ≤ 100000) :
    Calls Tryz.prog 204 #[.slice A l.length c] W fun e W' => ∃ A' c', e = .returned (.slice A' l.length c') ∧ Ext W W' ∧ W'.ownsRow W.heap.size 88 1 (.slice A' l.length c') l.length (rowV iV l) := by
  obtain ⟨i0, hi0, hz0, hz1, hz2⟩ := infoParts infoTyps
  cases A with
  | none =>
    have hnil : c = 0 ∧ l = [] := by
      rcases hs with ⟨e, h2, h3⟩ | ⟨ad, c', e, _⟩
      · injection e with _ _ e
        exact ⟨e, List.eq_nil_of_length_eq_zero h2⟩
      · injection e with e
        cases e
    obtain ⟨rfl, rfl⟩ := hnil
    go_enter Tryz.func204, Tryz.ntmps204
    go_wp2_with fail
    exact bodyPost_ret (v := .slice none 0 0) (by simp [results, Tryz.results204, go_sem]) rfl ⟨none, 0, rfl, Ext.refl _, World.ownsRow_nil _ _ _ _⟩
  | some ad =>
    have hn : (W.alloc (.cells #[] 88 (0, 0))).ownsRow W.heap.size 88 1 (.slice (some ⟨W.heap.size, 0, none⟩) 0 0) 0 [] := ⟨rfl, .inr ⟨W.heap.size, 0, #[], rfl, Nat.le_refl _, World.alloc_heap_new _ _, Nat.le_refl _, by unfold maxLen; omega, rfl, rfl⟩⟩
    have HN := Lib.hid hn
    have HS := Lib.hid (hs.ext (Ext.one W (.cells #[] 88 (0, 0))))
    have HONE := Lib.hid (rowV_one (f := iV) (l := l) fun _ => rfl)
    have HLEN := Lib.hid (rowV_len (f := iV) (l := l))
    clear hs hn
    go_enter Tryz.func204, Tryz.ntmps204
    go_wp2_with (at_builtin; refine wpList_append_any rfl _ _ 317 rfl W.heap.size 88 i0 (.int .i64 0) 1 8 Tryz.underlying317 hi0 hz0 hz1 hz2 rfl (by decide) (.slice (some ⟨W.heap.size, 0, none⟩) 0 0) 0 [] rfl HN.out (.slice (some ad) l.length c) l.length (rowV iV l) rfl HLEN.out HS.out HONE.out (by unfold maxLen; omega) (by omega) (by simp) l.length (by omega) (rowV iV l) (by simp) ?_; intro A1 c1 w1 hown1 hgrow1 hat1; have HX1 := Lib.hid (grown_ext (Ext.one W (.cells #[] 88 (0, 0))) hgrow1 (by intro b hb; simp [Value.ownBlock] at hb; omega)); have HO1 := Lib.hid hown1; clear hown1 hgrow1 hat1)
    go_ret
    exact ⟨A1, c1, rfl, HX1.out, HO1.out⟩
@[go_sem] theorem eqnilInts_none (n c : Nat) (w : World) : (binOp .eql 23 (.slice none n c) (.slice none 0 0)).run Tryz.prog w = .ok (.bool true) w := by kernel_rfl
@[go_sem] theorem eqnilInts_some (ad : Addr) (n c : Nat) (w : World) : (binOp .eql 23 (.slice (some ad) n c) (.slice none 0 0)).run Tryz.prog w = .ok (.bool false) w := by kernel_rfl
theorem infoInts : (Tryz.prog.info? 3).map (fun i => (i.zero, i.size, i.bytes)) = some (some (.int .i64 0), 1, 8) := by kernel_rfl
set_option maxHeartbeats 1000000 in
set_option maxRecDepth 100000 in
theorem cloneInts_ok {W : World} (l : List Int) (A : Option Addr) (c : Nat) (hs : Src W (.slice A l.length c) l.length (rowV iV l)) (hl : l.length ≤ 100000) :
    Calls Tryz.prog 69 #[.slice A l.length c] W fun e W' => ∃ A' c', e = .returned (.slice A' l.length c') ∧ Ext W W' ∧ W'.ownsRow W.heap.size 3 1 (.slice A' l.length c') l.length (rowV iV l) := by
  obtain ⟨i0, hi0, hz0, hz1, hz2⟩ := infoParts infoInts
  cases A with
  | none =>
    have hnil : c = 0 ∧ l = [] := by
      rcases hs with ⟨e, h2, h3⟩ | ⟨ad, c', e, _⟩
      · injection e with _ _ e
        exact ⟨e, List.eq_nil_of_length_eq_zero h2⟩
      · injection e with e
        cases e
    obtain ⟨rfl, rfl⟩ := hnil
    go_enter Tryz.func69, Tryz.ntmps69
    go_wp2_with fail
    exact bodyPost_ret (v := .slice none 0 0) (by simp [results, Tryz.results69, go_sem]) rfl ⟨none, 0, rfl, Ext.refl _, World.ownsRow_nil _ _ _ _⟩
  | some ad =>
    have hn : (W.alloc (.cells #[] 3 (0, 0))).ownsRow W.heap.size 3 1 (.slice (some ⟨W.heap.size, 0, none⟩) 0 0) 0 [] := ⟨rfl, .inr ⟨W.heap.size, 0, #[], rfl, Nat.le_refl _, World.alloc_heap_new _ _, Nat.le_refl _, by unfold maxLen; omega, rfl, rfl⟩⟩
    have HN := Lib.hid hn
    have HS := Lib.hid (hs.ext (Ext.one W (.cells #[] 3 (0, 0))))
    have HONE := Lib.hid (rowV_one (f := iV) (l := l) fun _ => rfl)
    have HLEN := Lib.hid (rowV_len (f := iV) (l := l))
    clear hs hn
    go_enter Tryz.func69, Tryz.ntmps69
    go_wp2_with (at_builtin; refine wpList_append_any rfl _ _ 23 rfl W.heap.size 3 i0 (.int .i64 0) 1 8 Tryz.underlying23 hi0 hz0 hz1 hz2 rfl (by decide) (.slice (some ⟨W.heap.size, 0, none⟩) 0 0) 0 [] rfl HN.out (.slice (some ad) l.length c) l.length (rowV iV l) rfl HLEN.out HS.out HONE.out (by unfold maxLen; omega) (by omega) (by simp) l.length (by omega) (rowV iV l) (by simp) ?_; intro A1 c1 w1 hown1 hgrow1 hat1; have HX1 := Lib.hid (grown_ext (Ext.one W (.cells #[] 3 (0, 0))) hgrow1 (by intro b hb; simp [Value.ownBlock] at hb; omega)); have HO1 := Lib.hid hown1; clear hown1 hgrow1 hat1)
    go_ret
    exact ⟨A1, c1, rfl, HX1.out, HO1.out⟩
theorem oneClss (l : List Cls) : ∀ u ∈ l.flatMap Cls.cells, u.oneCell' = true := by
  intro u hu
  obtain ⟨x, _, hx⟩ := List.mem_flatMap.1 hu
  simp [Cls.cells, sV] at hx
  rcases hx with rfl | rfl | rfl <;> rfl
@[go_sem] theorem eqnilClss_none (n c : Nat) (w : World) : (binOp .eql 28 (.slice none n c) (.slice none 0 0)).run Tryz.prog w = .ok (.bool true) w := by kernel_rfl
@[go_sem] theorem eqnilClss_some (ad : Addr) (n c : Nat) (w : World) : (binOp .eql 28 (.slice (some ad) n c) (.slice none 0 0)).run Tryz.prog w = .ok (.bool false) w := by kernel_rfl
theorem infoClss : (Tryz.prog.info? 319).map (fun i => (i.zero, i.size, i.bytes)) = some (some (.agg #[.string ⟨#[]⟩, .slice none 0 0, .slice none 0 0]), 3, 64) := by kernel_rfl
set_option maxHeartbeats 1000000 in
set_option maxRecDepth 100000 in
theorem cloneClss_ok {W : World} (l : List Cls) (A : Option Addr) (c : Nat) (hs : Src W (.slice A l.length c) l.length (l.flatMap Cls.cells)) (hl : l.length ≤ 100000) :
    Calls Tryz.prog 203 #[.slice A l.length c] W fun e W' => ∃ A' c', e = .returned (.slice A' l.length c') ∧ Ext W W' ∧ W'.ownsRow W.heap.size 319 3 (.slice A' l.length c') l.length (l.flatMap Cls.cells) := by
  obtain ⟨i0, hi0, hz0, hz1, hz2⟩ := infoParts infoClss
  cases A with
  | none =>
    have hnil : c = 0 ∧ l = [] := by
      rcases hs with ⟨e, h2, h3⟩ | ⟨ad, c', e, _⟩
      · injection e with _ _ e
        exact ⟨e, List.eq_nil_of_length_eq_zero h2⟩
      · injection e with e
        cases e
    obtain ⟨rfl, rfl⟩ := hnil
    go_enter Tryz.func203, Tryz.ntmps203
    go_wp2_with fail
    exact bodyPost_ret (v := .slice none 0 0) (by simp [results, Tryz.results203, go_sem]) rfl ⟨none, 0, rfl, Ext.refl _, World.ownsRow_nil _ _ _ _⟩
  | some ad =>
    have hn : (W.alloc (.cells #[] 319 (0, 0))).ownsRow W.heap.size 319 3 (.slice (some ⟨W.heap.size, 0, none⟩) 0 0) 0 [] := ⟨rfl, .inr ⟨W.heap.size, 0, #[], rfl, Nat.le_refl _, World.alloc_heap_new _ _, Nat.le_refl _, by unfold maxLen; omega, rfl, rfl⟩⟩
    have HN := Lib.hid hn
    have HS := Lib.hid (hs.ext (Ext.one W (.cells #[] 319 (0, 0))))
    have HONE := Lib.hid (oneClss l)
    have HLEN := Lib.hid (flat_len (f := Cls.cells) (s := 3) (fun _ => rfl) l)
    clear hs hn
    go_enter Tryz.func203, Tryz.ntmps203
    go_wp2_with (at_builtin; refine wpList_append_any rfl _ _ 28 rfl W.heap.size 319 i0 (.agg #[.string ⟨#[]⟩, .slice none 0 0, .slice none 0 0]) 3 64 Tryz.underlying28 hi0 hz0 hz1 hz2 rfl (by decide) (.slice (some ⟨W.heap.size, 0, none⟩) 0 0) 0 [] rfl HN.out (.slice (some ad) l.length c) l.length (l.flatMap Cls.cells) rfl HLEN.out HS.out HONE.out (by unfold maxLen; omega) (by omega) (by simp) l.length (by omega) (l.flatMap Cls.cells) (by simp) ?_; intro A1 c1 w1 hown1 hgrow1 hat1; have HX1 := Lib.hid (grown_ext (Ext.one W (.cells #[] 319 (0, 0))) hgrow1 (by intro b hb; simp [Value.ownBlock] at hb; omega)); have HO1 := Lib.hid hown1; clear hown1 hgrow1 hat1)
    go_ret
    exact ⟨A1, c1, rfl, HX1.out, HO1.out⟩
theorem oneGlbs (l : List Glb) : ∀ u ∈ l.flatMap Glb.cells, u.oneCell' = true := by
  intro u hu
  obtain ⟨x, _, hx⟩ := List.mem_flatMap.1 hu
  simp [Glb.cells, sV, iV] at hx
  rcases hx with rfl | rfl <;> rfl
@[go_sem] theorem eqnilGlbs_none (n c : Nat) (w : World) : (binOp .eql 29 (.slice none n c) (.slice none 0 0)).run Tryz.prog w = .ok (.bool true) w := by kernel_rfl
@[go_sem] theorem eqnilGlbs_some (ad : Addr) (n c : Nat) (w : World) : (binOp .eql 29 (.slice (some ad) n c) (.slice none 0 0)).run Tryz.prog w = .ok (.bool false) w := by kernel_rfl
theorem infoGlbs : (Tryz.prog.info? 90).map (fun i => (i.zero, i.size, i.bytes)) = some (some (.agg #[.string ⟨#[]⟩, .int .i64 0]), 2, 24) := by kernel_rfl
set_option maxHeartbeats 1000000 in
set_option maxRecDepth 100000 in
theorem cloneGlbs_ok {W : World} (l : List Glb) (A : Option Addr) (c : Nat) (hs : Src W (.slice A l.length c) l.length (l.flatMap Glb.cells)) (hl : l.length ≤ 100000) :
    Calls Tryz.prog 205 #[.slice A l.length c] W fun e W' => ∃ A' c', e = .returned (.slice A' l.length c') ∧ Ext W W' ∧ W'.ownsRow W.heap.size 90 2 (.slice A' l.length c') l.length (l.flatMap Glb.cells) := by
  obtain ⟨i0, hi0, hz0, hz1, hz2⟩ := infoParts infoGlbs
  cases A with
  | none =>
    have hnil : c = 0 ∧ l = [] := by
      rcases hs with ⟨e, h2, h3⟩ | ⟨ad, c', e, _⟩
      · injection e with _ _ e
        exact ⟨e, List.eq_nil_of_length_eq_zero h2⟩
      · injection e with e
        cases e
    obtain ⟨rfl, rfl⟩ := hnil
    go_enter Tryz.func205, Tryz.ntmps205
    go_wp2_with fail
    exact bodyPost_ret (v := .slice none 0 0) (by simp [results, Tryz.results205, go_sem]) rfl ⟨none, 0, rfl, Ext.refl _, World.ownsRow_nil _ _ _ _⟩
  | some ad =>
    have hn : (W.alloc (.cells #[] 90 (0, 0))).ownsRow W.heap.size 90 2 (.slice (some ⟨W.heap.size, 0, none⟩) 0 0) 0 [] := ⟨rfl, .inr ⟨W.heap.size, 0, #[], rfl, Nat.le_refl _, World.alloc_heap_new _ _, Nat.le_refl _, by unfold maxLen; omega, rfl, rfl⟩⟩
    have HN := Lib.hid hn
    have HS := Lib.hid (hs.ext (Ext.one W (.cells #[] 90 (0, 0))))
    have HONE := Lib.hid (oneGlbs l)
    have HLEN := Lib.hid (flat_len (f := Glb.cells) (s := 2) (fun _ => rfl) l)
    clear hs hn
    go_enter Tryz.func205, Tryz.ntmps205
    go_wp2_with (at_builtin; refine wpList_append_any rfl _ _ 29 rfl W.heap.size 90 i0 (.agg #[.string ⟨#[]⟩, .int .i64 0]) 2 24 Tryz.underlying29 hi0 hz0 hz1 hz2 rfl (by decide) (.slice (some ⟨W.heap.size, 0, none⟩) 0 0) 0 [] rfl HN.out (.slice (some ad) l.length c) l.length (l.flatMap Glb.cells) rfl HLEN.out HS.out HONE.out (by unfold maxLen; omega) (by omega) (by simp) l.length (by omega) (l.flatMap Glb.cells) (by simp) ?_; intro A1 c1 w1 hown1 hgrow1 hat1; have HX1 := Lib.hid (grown_ext (Ext.one W (.cells #[] 90 (0, 0))) hgrow1 (by intro b hb; simp [Value.ownBlock] at hb; omega)); have HO1 := Lib.hid hown1; clear hown1 hgrow1 hat1)
    go_ret
    exact ⟨A1, c1, rfl, HX1.out, HO1.out⟩
theorem oneFns (l : List Fn) : ∀ u ∈ l.flatMap Fn.cells, u.oneCell' = true := by
  intro u hu
  obtain ⟨x, _, hx⟩ := List.mem_flatMap.1 hu
  simp [Fn.cells, sV, iV] at hx
  rcases hx with rfl | rfl | rfl | rfl <;> rfl
@[go_sem] theorem eqnilFns_none (n c : Nat) (w : World) : (binOp .eql 30 (.slice none n c) (.slice none 0 0)).run Tryz.prog w = .ok (.bool true) w := by kernel_rfl
@[go_sem] theorem eqnilFns_some (ad : Addr) (n c : Nat) (w : World) : (binOp .eql 30 (.slice (some ad) n c) (.slice none 0 0)).run Tryz.prog w = .ok (.bool false) w := by kernel_rfl
theorem infoFns : (Tryz.prog.info? 92).map (fun i => (i.zero, i.size, i.bytes)) = some (some (.agg #[.string ⟨#[]⟩, .int .i64 0, .int .i64 0, .slice none 0 0]), 4, 56) := by kernel_rfl
set_option maxHeartbeats 1000000 in
set_option maxRecDepth 100000 in
theorem cloneFns_ok {W : World} (l : List Fn) (A : Option Addr) (c : Nat) (hs : Src W (.slice A l.length c) l.length (l.flatMap Fn.cells)) (hl : l.length ≤ 100000) :
    Calls Tryz.prog 206 #[.slice A l.length c] W fun e W' => ∃ A' c', e = .returned (.slice A' l.length c') ∧ Ext W W' ∧ W'.ownsRow W.heap.size 92 4 (.slice A' l.length c') l.length (l.flatMap Fn.cells) := by
  obtain ⟨i0, hi0, hz0, hz1, hz2⟩ := infoParts infoFns
  cases A with
  | none =>
    have hnil : c = 0 ∧ l = [] := by
      rcases hs with ⟨e, h2, h3⟩ | ⟨ad, c', e, _⟩
      · injection e with _ _ e
        exact ⟨e, List.eq_nil_of_length_eq_zero h2⟩
      · injection e with e
        cases e
    obtain ⟨rfl, rfl⟩ := hnil
    go_enter Tryz.func206, Tryz.ntmps206
    go_wp2_with fail
    exact bodyPost_ret (v := .slice none 0 0) (by simp [results, Tryz.results206, go_sem]) rfl ⟨none, 0, rfl, Ext.refl _, World.ownsRow_nil _ _ _ _⟩
  | some ad =>
    have hn : (W.alloc (.cells #[] 92 (0, 0))).ownsRow W.heap.size 92 4 (.slice (some ⟨W.heap.size, 0, none⟩) 0 0) 0 [] := ⟨rfl, .inr ⟨W.heap.size, 0, #[], rfl, Nat.le_refl _, World.alloc_heap_new _ _, Nat.le_refl _, by unfold maxLen; omega, rfl, rfl⟩⟩
    have HN := Lib.hid hn
    have HS := Lib.hid (hs.ext (Ext.one W (.cells #[] 92 (0, 0))))
    have HONE := Lib.hid (oneFns l)
    have HLEN := Lib.hid (flat_len (f := Fn.cells) (s := 4) (fun _ => rfl) l)
    clear hs hn
    go_enter Tryz.func206, Tryz.ntmps206
    go_wp2_with (at_builtin; refine wpList_append_any rfl _ _ 30 rfl W.heap.size 92 i0 (.agg #[.string ⟨#[]⟩, .int .i64 0, .int .i64 0, .slice none 0 0]) 4 56 Tryz.underlying30 hi0 hz0 hz1 hz2 rfl (by decide) (.slice (some ⟨W.heap.size, 0, none⟩) 0 0) 0 [] rfl HN.out (.slice (some ad) l.length c) l.length (l.flatMap Fn.cells) rfl HLEN.out HS.out HONE.out (by unfold maxLen; omega) (by omega) (by simp) l.length (by omega) (l.flatMap Fn.cells) (by simp) ?_; intro A1 c1 w1 hown1 hgrow1 hat1; have HX1 := Lib.hid (grown_ext (Ext.one W (.cells #[] 92 (0, 0))) hgrow1 (by intro b hb; simp [Value.ownBlock] at hb; omega)); have HO1 := Lib.hid hown1; clear hown1 hgrow1 hat1)
    go_ret
    exact ⟨A1, c1, rfl, HX1.out, HO1.out⟩
theorem oneInss (l : List Ins) : ∀ u ∈ l.flatMap Ins.cells, u.oneCell' = true := by
  intro u hu
  obtain ⟨x, _, hx⟩ := List.mem_flatMap.1 hu
  simp [Ins.cells, iV] at hx
  rcases hx with rfl | rfl | rfl | rfl | rfl | rfl | rfl | rfl <;> rfl
@[go_sem] theorem eqnilInss_none (n c : Nat) (w : World) : (binOp .eql 26 (.slice none n c) (.slice none 0 0)).run Tryz.prog w = .ok (.bool true) w := by kernel_rfl
@[go_sem] theorem eqnilInss_some (ad : Addr) (n c : Nat) (w : World) : (binOp .eql 26 (.slice (some ad) n c) (.slice none 0 0)).run Tryz.prog w = .ok (.bool false) w := by kernel_rfl
theorem infoInss : (Tryz.prog.info? 25).map (fun i => (i.zero, i.size, i.bytes)) = some (some (.agg #[.int .i64 0, .int .i64 0, .int .i64 0, .int .i64 0, .int .i64 0, .slice none 0 0, .int .i64 0, .int .i64 0]), 8, 80) := by kernel_rfl
set_option maxHeartbeats 1000000 in
set_option maxRecDepth 100000 in
theorem cloneInss_ok {W : World} (l : List Ins) (A : Option Addr) (c : Nat) (hs : Src W (.slice A l.length c) l.length (l.flatMap Ins.cells)) (hl : l.length ≤ 100000) :
    Calls Tryz.prog 207 #[.slice A l.length c] W fun e W' => ∃ A' c', e = .returned (.slice A' l.length c') ∧ Ext W W' ∧ W'.ownsRow W.heap.size 25 8 (.slice A' l.length c') l.length (l.flatMap Ins.cells) := by
  obtain ⟨i0, hi0, hz0, hz1, hz2⟩ := infoParts infoInss
  cases A with
  | none =>
    have hnil : c = 0 ∧ l = [] := by
      rcases hs with ⟨e, h2, h3⟩ | ⟨ad, c', e, _⟩
      · injection e with _ _ e
        exact ⟨e, List.eq_nil_of_length_eq_zero h2⟩
      · injection e with e
        cases e
    obtain ⟨rfl, rfl⟩ := hnil
    go_enter Tryz.func207, Tryz.ntmps207
    go_wp2_with fail
    exact bodyPost_ret (v := .slice none 0 0) (by simp [results, Tryz.results207, go_sem]) rfl ⟨none, 0, rfl, Ext.refl _, World.ownsRow_nil _ _ _ _⟩
  | some ad =>
    have hn : (W.alloc (.cells #[] 25 (0, 0))).ownsRow W.heap.size 25 8 (.slice (some ⟨W.heap.size, 0, none⟩) 0 0) 0 [] := ⟨rfl, .inr ⟨W.heap.size, 0, #[], rfl, Nat.le_refl _, World.alloc_heap_new _ _, Nat.le_refl _, by unfold maxLen; omega, rfl, rfl⟩⟩
    have HN := Lib.hid hn
    have HS := Lib.hid (hs.ext (Ext.one W (.cells #[] 25 (0, 0))))
    have HONE := Lib.hid (oneInss l)
    have HLEN := Lib.hid (flat_len (f := Ins.cells) (s := 8) (fun _ => rfl) l)
    clear hs hn
    go_enter Tryz.func207, Tryz.ntmps207
    go_wp2_with (at_builtin; refine wpList_append_any rfl _ _ 26 rfl W.heap.size 25 i0 (.agg #[.int .i64 0, .int .i64 0, .int .i64 0, .int .i64 0, .int .i64 0, .slice none 0 0, .int .i64 0, .int .i64 0]) 8 80 Tryz.underlying26 hi0 hz0 hz1 hz2 rfl (by decide) (.slice (some ⟨W.heap.size, 0, none⟩) 0 0) 0 [] rfl HN.out (.slice (some ad) l.length c) l.length (l.flatMap Ins.cells) rfl HLEN.out HS.out HONE.out (by unfold maxLen; omega) (by omega) (by simp) l.length (by omega) (l.flatMap Ins.cells) (by simp) ?_; intro A1 c1 w1 hown1 hgrow1 hat1; have HX1 := Lib.hid (grown_ext (Ext.one W (.cells #[] 25 (0, 0))) hgrow1 (by intro b hb; simp [Value.ownBlock] at hb; omega)); have HO1 := Lib.hid hown1; clear hown1 hgrow1 hat1)
    go_ret
    exact ⟨A1, c1, rfl, HX1.out, HO1.out⟩
theorem oneCmps (l : List Cmp) : ∀ u ∈ l.flatMap Cmp.cells, u.oneCell' = true := by
  intro u hu
  obtain ⟨x, _, hx⟩ := List.mem_flatMap.1 hu
  simp [Cmp.cells, sV, iV] at hx
  rcases hx with rfl | rfl | rfl | rfl | rfl | rfl <;> rfl
@[go_sem] theorem eqnilCmps_none (n c : Nat) (w : World) : (binOp .eql 31 (.slice none n c) (.slice none 0 0)).run Tryz.prog w = .ok (.bool true) w := by kernel_rfl
@[go_sem] theorem eqnilCmps_some (ad : Addr) (n c : Nat) (w : World) : (binOp .eql 31 (.slice (some ad) n c) (.slice none 0 0)).run Tryz.prog w = .ok (.bool false) w := by kernel_rfl
theorem infoCmps : (Tryz.prog.info? 138).map (fun i => (i.zero, i.size, i.bytes)) = some (some (.agg #[.string ⟨#[]⟩, .int .i64 0, .int .i64 0, .int .i64 0, .int .i64 0, .int .i64 0]), 6, 56) := by kernel_rfl
set_option maxHeartbeats 1000000 in
set_option maxRecDepth 100000 in
theorem cloneCmps_ok {W : World} (l : List Cmp) (A : Option Addr) (c : Nat) (hs : Src W (.slice A l.length c) l.length (l.flatMap Cmp.cells)) (hl : l.length ≤ 100000) :
    Calls Tryz.prog 208 #[.slice A l.length c] W fun e W' => ∃ A' c', e = .returned (.slice A' l.length c') ∧ Ext W W' ∧ W'.ownsRow W.heap.size 138 6 (.slice A' l.length c') l.length (l.flatMap Cmp.cells) := by
  obtain ⟨i0, hi0, hz0, hz1, hz2⟩ := infoParts infoCmps
  cases A with
  | none =>
    have hnil : c = 0 ∧ l = [] := by
      rcases hs with ⟨e, h2, h3⟩ | ⟨ad, c', e, _⟩
      · injection e with _ _ e
        exact ⟨e, List.eq_nil_of_length_eq_zero h2⟩
      · injection e with e
        cases e
    obtain ⟨rfl, rfl⟩ := hnil
    go_enter Tryz.func208, Tryz.ntmps208
    go_wp2_with fail
    exact bodyPost_ret (v := .slice none 0 0) (by simp [results, Tryz.results208, go_sem]) rfl ⟨none, 0, rfl, Ext.refl _, World.ownsRow_nil _ _ _ _⟩
  | some ad =>
    have hn : (W.alloc (.cells #[] 138 (0, 0))).ownsRow W.heap.size 138 6 (.slice (some ⟨W.heap.size, 0, none⟩) 0 0) 0 [] := ⟨rfl, .inr ⟨W.heap.size, 0, #[], rfl, Nat.le_refl _, World.alloc_heap_new _ _, Nat.le_refl _, by unfold maxLen; omega, rfl, rfl⟩⟩
    have HN := Lib.hid hn
    have HS := Lib.hid (hs.ext (Ext.one W (.cells #[] 138 (0, 0))))
    have HONE := Lib.hid (oneCmps l)
    have HLEN := Lib.hid (flat_len (f := Cmp.cells) (s := 6) (fun _ => rfl) l)
    clear hs hn
    go_enter Tryz.func208, Tryz.ntmps208
    go_wp2_with (at_builtin; refine wpList_append_any rfl _ _ 31 rfl W.heap.size 138 i0 (.agg #[.string ⟨#[]⟩, .int .i64 0, .int .i64 0, .int .i64 0, .int .i64 0, .int .i64 0]) 6 56 Tryz.underlying31 hi0 hz0 hz1 hz2 rfl (by decide) (.slice (some ⟨W.heap.size, 0, none⟩) 0 0) 0 [] rfl HN.out (.slice (some ad) l.length c) l.length (l.flatMap Cmp.cells) rfl HLEN.out HS.out HONE.out (by unfold maxLen; omega) (by omega) (by simp) l.length (by omega) (l.flatMap Cmp.cells) (by simp) ?_; intro A1 c1 w1 hown1 hgrow1 hat1; have HX1 := Lib.hid (grown_ext (Ext.one W (.cells #[] 138 (0, 0))) hgrow1 (by intro b hb; simp [Value.ownBlock] at hb; omega)); have HO1 := Lib.hid hown1; clear hown1 hgrow1 hat1)
    go_ret
    exact ⟨A1, c1, rfl, HX1.out, HO1.out⟩
theorem oneEvts (l : List Evt) : ∀ u ∈ l.flatMap Evt.cells, u.oneCell' = true := by
  intro u hu
  obtain ⟨x, _, hx⟩ := List.mem_flatMap.1 hu
  simp [Evt.cells, sV, iV, bV] at hx
  rcases hx with rfl | rfl | rfl | rfl <;> rfl
@[go_sem] theorem eqnilEvts_none (n c : Nat) (w : World) : (binOp .eql 32 (.slice none n c) (.slice none 0 0)).run Tryz.prog w = .ok (.bool true) w := by kernel_rfl
@[go_sem] theorem eqnilEvts_some (ad : Addr) (n c : Nat) (w : World) : (binOp .eql 32 (.slice (some ad) n c) (.slice none 0 0)).run Tryz.prog w = .ok (.bool false) w := by kernel_rfl
theorem infoEvts : (Tryz.prog.info? 97).map (fun i => (i.zero, i.size, i.bytes)) = some (some (.agg #[.string ⟨#[]⟩, .int .i64 0, .bool false, .int .i64 0]), 4, 40) := by kernel_rfl
set_option maxHeartbeats 1000000 in
set_option maxRecDepth 100000 in
theorem cloneEvts_ok {W : World} (l : List Evt) (A : Option Addr) (c : Nat) (hs : Src W (.slice A l.length c) l.length (l.flatMap Evt.cells)) (hl : l.length ≤ 100000) :
    Calls Tryz.prog 209 #[.slice A l.length c] W fun e W' => ∃ A' c', e = .returned (.slice A' l.length c') ∧ Ext W W' ∧ W'.ownsRow W.heap.size 97 4 (.slice A' l.length c') l.length (l.flatMap Evt.cells) := by
  obtain ⟨i0, hi0, hz0, hz1, hz2⟩ := infoParts infoEvts
  cases A with
  | none =>
    have hnil : c = 0 ∧ l = [] := by
      rcases hs with ⟨e, h2, h3⟩ | ⟨ad, c', e, _⟩
      · injection e with _ _ e
        exact ⟨e, List.eq_nil_of_length_eq_zero h2⟩
      · injection e with e
        cases e
    obtain ⟨rfl, rfl⟩ := hnil
    go_enter Tryz.func209, Tryz.ntmps209
    go_wp2_with fail
    exact bodyPost_ret (v := .slice none 0 0) (by simp [results, Tryz.results209, go_sem]) rfl ⟨none, 0, rfl, Ext.refl _, World.ownsRow_nil _ _ _ _⟩
  | some ad =>
    have hn : (W.alloc (.cells #[] 97 (0, 0))).ownsRow W.heap.size 97 4 (.slice (some ⟨W.heap.size, 0, none⟩) 0 0) 0 [] := ⟨rfl, .inr ⟨W.heap.size, 0, #[], rfl, Nat.le_refl _, World.alloc_heap_new _ _, Nat.le_refl _, by unfold maxLen; omega, rfl, rfl⟩⟩
    have HN := Lib.hid hn
    have HS := Lib.hid (hs.ext (Ext.one W (.cells #[] 97 (0, 0))))
    have HONE := Lib.hid (oneEvts l)
    have HLEN := Lib.hid (flat_len (f := Evt.cells) (s := 4) (fun _ => rfl) l)
    clear hs hn
    go_enter Tryz.func209, Tryz.ntmps209
    go_wp2_with (at_builtin; refine wpList_append_any rfl _ _ 32 rfl W.heap.size 97 i0 (.agg #[.string ⟨#[]⟩, .int .i64 0, .bool false, .int .i64 0]) 4 40 Tryz.underlying32 hi0 hz0 hz1 hz2 rfl (by decide) (.slice (some ⟨W.heap.size, 0, none⟩) 0 0) 0 [] rfl HN.out (.slice (some ad) l.length c) l.length (l.flatMap Evt.cells) rfl HLEN.out HS.out HONE.out (by unfold maxLen; omega) (by omega) (by simp) l.length (by omega) (l.flatMap Evt.cells) (by simp) ?_; intro A1 c1 w1 hown1 hgrow1 hat1; have HX1 := Lib.hid (grown_ext (Ext.one W (.cells #[] 97 (0, 0))) hgrow1 (by intro b hb; simp [Value.ownBlock] at hb; omega)); have HO1 := Lib.hid hown1; clear hown1 hgrow1 hat1)
    go_ret
    exact ⟨A1, c1, rfl, HX1.out, HO1.out⟩
theorem oneSits (l : List Sit) : ∀ u ∈ l.flatMap Sit.cells, u.oneCell' = true := by
  intro u hu
  obtain ⟨x, _, hx⟩ := List.mem_flatMap.1 hu
  simp [Sit.cells, iV] at hx
  rcases hx with rfl | rfl <;> rfl
@[go_sem] theorem eqnilSits_none (n c : Nat) (w : World) : (binOp .eql 33 (.slice none n c) (.slice none 0 0)).run Tryz.prog w = .ok (.bool true) w := by kernel_rfl
@[go_sem] theorem eqnilSits_some (ad : Addr) (n c : Nat) (w : World) : (binOp .eql 33 (.slice (some ad) n c) (.slice none 0 0)).run Tryz.prog w = .ok (.bool false) w := by kernel_rfl
theorem infoSits : (Tryz.prog.info? 95).map (fun i => (i.zero, i.size, i.bytes)) = some (some (.agg #[.int .i64 0, .int .i64 0]), 2, 16) := by kernel_rfl
set_option maxHeartbeats 1000000 in
set_option maxRecDepth 100000 in
theorem cloneSits_ok {W : World} (l : List Sit) (A : Option Addr) (c : Nat) (hs : Src W (.slice A l.length c) l.length (l.flatMap Sit.cells)) (hl : l.length ≤ 100000) :
    Calls Tryz.prog 210 #[.slice A l.length c] W fun e W' => ∃ A' c', e = .returned (.slice A' l.length c') ∧ Ext W W' ∧ W'.ownsRow W.heap.size 95 2 (.slice A' l.length c') l.length (l.flatMap Sit.cells) := by
  obtain ⟨i0, hi0, hz0, hz1, hz2⟩ := infoParts infoSits
  cases A with
  | none =>
    have hnil : c = 0 ∧ l = [] := by
      rcases hs with ⟨e, h2, h3⟩ | ⟨ad, c', e, _⟩
      · injection e with _ _ e
        exact ⟨e, List.eq_nil_of_length_eq_zero h2⟩
      · injection e with e
        cases e
    obtain ⟨rfl, rfl⟩ := hnil
    go_enter Tryz.func210, Tryz.ntmps210
    go_wp2_with fail
    exact bodyPost_ret (v := .slice none 0 0) (by simp [results, Tryz.results210, go_sem]) rfl ⟨none, 0, rfl, Ext.refl _, World.ownsRow_nil _ _ _ _⟩
  | some ad =>
    have hn : (W.alloc (.cells #[] 95 (0, 0))).ownsRow W.heap.size 95 2 (.slice (some ⟨W.heap.size, 0, none⟩) 0 0) 0 [] := ⟨rfl, .inr ⟨W.heap.size, 0, #[], rfl, Nat.le_refl _, World.alloc_heap_new _ _, Nat.le_refl _, by unfold maxLen; omega, rfl, rfl⟩⟩
    have HN := Lib.hid hn
    have HS := Lib.hid (hs.ext (Ext.one W (.cells #[] 95 (0, 0))))
    have HONE := Lib.hid (oneSits l)
    have HLEN := Lib.hid (flat_len (f := Sit.cells) (s := 2) (fun _ => rfl) l)
    clear hs hn
    go_enter Tryz.func210, Tryz.ntmps210
    go_wp2_with (at_builtin; refine wpList_append_any rfl _ _ 33 rfl W.heap.size 95 i0 (.agg #[.int .i64 0, .int .i64 0]) 2 16 Tryz.underlying33 hi0 hz0 hz1 hz2 rfl (by decide) (.slice (some ⟨W.heap.size, 0, none⟩) 0 0) 0 [] rfl HN.out (.slice (some ad) l.length c) l.length (l.flatMap Sit.cells) rfl HLEN.out HS.out HONE.out (by unfold maxLen; omega) (by omega) (by simp) l.length (by omega) (l.flatMap Sit.cells) (by simp) ?_; intro A1 c1 w1 hown1 hgrow1 hat1; have HX1 := Lib.hid (grown_ext (Ext.one W (.cells #[] 95 (0, 0))) hgrow1 (by intro b hb; simp [Value.ownBlock] at hb; omega)); have HO1 := Lib.hid hown1; clear hown1 hgrow1 hat1)
    go_ret
    exact ⟨A1, c1, rfl, HX1.out, HO1.out⟩
end Go.Proofs.YtfljmdpigckpkaaGreatDoor
