/- Parse, the document's and the program's, in one form; Parse, the document's and the program's: the same row, the same wrong places; Trees that may be, plainly: a tree at a nest, a row of kids; The grammar's trees may be: terms; The grammar's trees may be: blocks, statements; The grammar's trees may be: a statement. -/
import Derived.Test.YtpeoefbibjbinaaGreatB28
import Derived.Test.YtpeoefbibjbinaaGreatB35
import Derived.Test.YtpeoefbibjbinaaGreatB26
import Derived.Test.YtpeoefbibjbinaaGreatB34
namespace Go.Proofs.YtpeoefbibjbinaaGreat
open Go.RowKit

/-- What Parse answers: a row of twigs, and what is wrong. -/
def RetV (w : World) (R : List Tw) (D : List Dg) (e : Ending) (w' : World) : Prop := ∃ va B d, e = .returned (.tuple #[.agg #[va], .slice B D.length d]) ∧ RdT w' va R ∧ Dgs w' B D ∧ Below w.heap.size w w'
theorem rd_nil (w : World) : RdT w (.slice none 0 0) [] := ⟨none, 0, rfl, fun i t hi => by simp at hi⟩
theorem dgs_nil (w : World) (B : Option Addr) : Dgs w B [] := fun i t hi => by simp at hi
theorem dgs_at {w : World} {g : Nat} {li co er : Int} (h : w.heap[g]? = some (.cells #[.int .i64 li, .int .i64 co, .int .i64 er] 48 (0, 0))) : Dgs w (some ⟨g, 0, none⟩) [⟨li, co, er⟩] := fun i t hi => by
  match i, hi with
  | 0, hi =>
    cases hi
    exact ⟨g, rfl, by simp [World.cell?, h], by simp [World.cell?, h], by simp [World.cell?, h]⟩
def rowX (x : List Tw × Sg) : List Tw := if x.2.er = 0 then x.1 else []
def dgX (T : List Tok) (x : List Tw × Sg) : List Dg := if x.2.er = 0 then [] else [⟨(hd (T.drop x.2.wh.toNat)).line, (hd (T.drop x.2.wh.toNat)).col, x.2.er⟩]

set_option maxRecDepth 100000 in
set_option maxHeartbeats 1000000 in
theorem refParse_faults (l : List UInt8) (v : Value) (w : World) (hv : Holds w v l) (hl : l.length ≤ 1000000) (hd : dgs l (nxt l 0) ≠ []) :
    Calls Tryz.prog 7 #[v] w (RetV w [] (dgs l (nxt l 0))) := by
  have HV := Lib.hid hv
  have hlen : 0 < (dgs l (nxt l 0)).length := List.length_pos_iff.2 hd
  clear hv hd
  go_enter Tryz.func7, Tryz.ntmps7
  go_wp2_with fail
  refine (refScan_ok l v _ (HV.out.below ((Below.refl _ _).alloc (Nat.le_refl _) _)) hl).mono ?_
  rintro e w1 ⟨v4, v5, rfl, hb1, ho4, ho5⟩
  obtain ⟨A4, c4, rfl, ht⟩ := own_toks ho4
  obtain ⟨A5, c5, rfl, hdg⟩ := own_dgs ho5
  have h0 : w1.heap[w.heap.size]? = some (.cells #[.slice none 0 0] 26 (0, 0)) := (hb1.block _ (by simp)).trans (heap_alloc_new w _)
  have c0 := cell_of_one h0
  have f0 := free_of_one h0
  have l0 := lt_of_block h0
  have hown := ownsRow_setCell_below ho5 (a := ⟨w.heap.size, 0, none⟩) (by simp) (.slice none 0 0)
  obtain ⟨A5', c5', e5, hdg'⟩ := own_dgs hown
  injection e5 with e5 _ e6
  subst e5 e6
  have HB := Lib.hid ((((Below.refl _ w).alloc (Nat.le_refl _) _).trans (hb1.mono (by simp))).setCell (p := ⟨w.heap.size, 0, none⟩) (Nat.le_refl _) (.slice none 0 0))
  have HDG := Lib.hid hdg'
  generalize dgs l (nxt l 0) = D at *
  have hlen' : 0 < (D.length : Int) := by omega
  clear hb1 ho4 ho5 ht h0 hdg hown hdg'
  go_wp2_with fail
  exact bodyPost_ret (v := .tuple #[.agg #[.slice none 0 0], .slice A5 D.length c5]) (by simp [results, Tryz.results7, go_sem, c0]) rfl ⟨_, _, _, rfl, rd_nil _, HDG.out, HB.out⟩

set_option maxRecDepth 100000 in
set_option maxHeartbeats 1000000 in
theorem refParse_tokens (n : Nat) (l : List UInt8) (v : Value) (w : World) (hv : Holds w v l) (hl : l.length ≤ 1000000) (hd : dgs l (nxt l 0) = []) (x : List Tw × Sg) (hQ : QD (toks l (nxt l 0)) n [] ⟨0, 0, 0⟩ = some x) (hwh : x.2.er ≠ 0 → 0 ≤ x.2.wh) :
    Calls Tryz.prog 7 #[v] w (RetV w (rowX x) (dgX (toks l (nxt l 0)) x)) := by
  have hT := len_toks l.length l (nxt l 0) (by omega)
  have HV := Lib.hid hv
  have HD := Lib.hid hd
  have HQ := Lib.hid hQ
  have HW := Lib.hid hwh
  clear hv hd hQ hwh
  go_enter Tryz.func7, Tryz.ntmps7
  go_wp2_with fail
  refine (refScan_ok l v _ (HV.out.below ((Below.refl _ _).alloc (Nat.le_refl _) _)) hl).mono ?_
  rintro e w1 ⟨v4, v5, rfl, hb1, ho4, ho5⟩
  rw [HD.out] at ho5
  obtain ⟨A4, c4, rfl, ht⟩ := own_toks ho4
  obtain ⟨A5, c5, rfl⟩ := own_form ho5
  have h0 : w1.heap[w.heap.size]? = some (.cells #[.slice none 0 0] 26 (0, 0)) := (hb1.block _ (by simp)).trans (heap_alloc_new w _)
  have HB1 := Lib.hid (((Below.refl _ w).alloc (Nat.le_refl _) _).trans (hb1.mono (by simp)))
  have HT := Lib.hid ht.tkb
  have H0 := Lib.hid h0
  have l0 := lt_of_block h0
  clear hb1 ho4 ho5 ht h0
  go_wp2_with fail
  refine (tokens3_ok n A4 _ c4 w1 HT.out (by omega) x HQ.out HW.out).mono ?_
  intro e w2 hr
  unfold RetT3 at hr
  by_cases he : x.2.er = 0
  · rw [if_pos he] at hr
    obtain ⟨g, c, rfl, hrow, hb2⟩ := hr
    have h02 := (hb2.block _ l0).trans H0.out
    have c0 := cell_of_one h02
    have f0 := free_of_one h02
    have l02 := lt_of_block h02
    have hr2 : R3 (w2.setCell ⟨w.heap.size, 0, none⟩ (.slice (some ⟨g, 0, none⟩) x.1.length c)) (.slice (some ⟨g, 0, none⟩) x.1.length c) x.1 := hrow.keep fun g' cs t m hi ht => set_other _ _ _ _ _ (by
      rintro rfl
      rw [h02] at hi
      injection hi with hi
      injection hi with _ e _
      rcases ht with rfl | rfl <;> exact absurd e (by decide))
    have HR := Lib.hid hr2.rd
    have HB := Lib.hid ((HB1.out.trans (hb2.mono (by omega))).setCell (p := ⟨w.heap.size, 0, none⟩) (Nat.le_refl _) (.slice (some ⟨g, 0, none⟩) x.1.length c))
    have e1 : rowX x = x.1 := if_pos he
    have e2 : dgX (toks l (nxt l 0)) x = [] := if_pos he
    have HE1 := Lib.hid e1
    have HE2 := Lib.hid e2
    clear hrow hb2 h02 hr2 e1 e2 he
    go_wp2_with fail
    exact bodyPost_ret (v := .tuple #[.agg #[.slice (some ⟨g, 0, none⟩) x.1.length c], .slice none 0 0]) (by simp [results, Tryz.results7, go_sem, c0]) rfl (by rw [HE1.out, HE2.out]; exact ⟨_, none, 0, rfl, HR.out, dgs_nil _ _, HB.out⟩)
  · rw [if_neg he] at hr
    obtain ⟨g, rfl, hdg, hge, hb2⟩ := hr
    have h02 := (hb2.block _ l0).trans H0.out
    have c0 := cell_of_one h02
    have f0 := free_of_one h02
    have l02 := lt_of_block h02
    have hd2 := (set_other w2 w.heap.size 0 (.slice none 0 0) g (by omega)).trans hdg
    have HR := Lib.hid (dgs_at hd2)
    have HB := Lib.hid ((HB1.out.trans (hb2.mono (by omega))).setCell (p := ⟨w.heap.size, 0, none⟩) (Nat.le_refl _) (.slice none 0 0))
    have e1 : rowX x = [] := if_neg he
    have e3 : dgX (toks l (nxt l 0)) x = [⟨(Go.Proofs.YtpeoefbibjbinaaGreat.hd ((toks l (nxt l 0)).drop x.2.wh.toNat)).line, (Go.Proofs.YtpeoefbibjbinaaGreat.hd ((toks l (nxt l 0)).drop x.2.wh.toNat)).col, x.2.er⟩] := by unfold dgX; rw [if_neg he]
    have HE1 := Lib.hid e1
    have HE2 := Lib.hid e3
    clear hdg hb2 h02 hd2 e1 e3 he
    go_wp2_with fail
    exact bodyPost_ret (v := .tuple #[.agg #[.slice none 0 0], .slice (some ⟨g, 0, none⟩) 1 1]) (by simp [results, Tryz.results7, go_sem, c0]) rfl (by rw [HE1.out, HE2.out]; exact ⟨_, _, _, rfl, rd_nil _, HR.out, HB.out⟩)

set_option maxRecDepth 100000 in
set_option maxHeartbeats 1000000 in
theorem parse_faults (l : List UInt8) (v : Value) (w : World) (hv : Holds w v l) (hl : l.length ≤ 1000000) (hd : dgs l (nxt l 0) ≠ []) :
    Calls Tryz.prog 6 #[v] w (RetV w [] (dgs l (nxt l 0))) := by
  have HV := Lib.hid hv
  have hlen : 0 < (dgs l (nxt l 0)).length := List.length_pos_iff.2 hd
  clear hv hd
  go_enter Tryz.func6, Tryz.ntmps6
  go_wp2_with fail
  refine (scan_ok l v _ (HV.out.below ((Below.refl _ _).alloc (Nat.le_refl _) _)) hl).mono ?_
  rintro e w1 ⟨v4, v5, rfl, hb1, ho4, ho5⟩
  obtain ⟨A4, c4, rfl, ht⟩ := own_toks ho4
  obtain ⟨A5, c5, rfl, hdg⟩ := own_dgs ho5
  have h0 : w1.heap[w.heap.size]? = some (.cells #[.slice none 0 0] 26 (0, 0)) := (hb1.block _ (by simp)).trans (heap_alloc_new w _)
  have c0 := cell_of_one h0
  have f0 := free_of_one h0
  have l0 := lt_of_block h0
  have hown := ownsRow_setCell_below ho5 (a := ⟨w.heap.size, 0, none⟩) (by simp) (.slice none 0 0)
  obtain ⟨A5', c5', e5, hdg'⟩ := own_dgs hown
  injection e5 with e5 _ e6
  subst e5 e6
  have HB := Lib.hid ((((Below.refl _ w).alloc (Nat.le_refl _) _).trans (hb1.mono (by simp))).setCell (p := ⟨w.heap.size, 0, none⟩) (Nat.le_refl _) (.slice none 0 0))
  have HDG := Lib.hid hdg'
  generalize dgs l (nxt l 0) = D at *
  have hlen' : 0 < (D.length : Int) := by omega
  clear hb1 ho4 ho5 ht h0 hdg hown hdg'
  go_wp2_with fail
  exact bodyPost_ret (v := .tuple #[.agg #[.slice none 0 0], .slice A5 D.length c5]) (by simp [results, Tryz.results6, go_sem, c0]) rfl ⟨_, _, _, rfl, rd_nil _, HDG.out, HB.out⟩
/-- What the program's parser answers, in the same form. -/
theorem RetT.ok {w : World} {d : Nd} {kf : Fo} {r : List Tok} {e : Ending} {w' : World} (h : RetT w (.ok d kf r) e w') : RetV w ((one d kf).flat 0) [] e w' := by
  obtain ⟨lv, ks, rfl, h1, h2⟩ := h
  exact ⟨_, none, 0, rfl, h1.rd, dgs_nil _ _, h2⟩
theorem RetT.bad {w : World} {er : Int} {r : List Tok} {e : Ending} {w' : World} (h : RetT w (.bad er r) e w') : RetV w [] [⟨(hd r).line, (hd r).col, er⟩] e w' := by
  obtain ⟨g, rfl, h1, _, h2⟩ := h
  exact ⟨_, _, _, rfl, rd_nil _, dgs_at h1, h2⟩
end Go.Proofs.YtpeoefbibjbinaaGreat

namespace Go.Proofs.YtpeoefbibjbinaaGreat
open Go.RowKit

/-- Both parsers on one text. -/
theorem parse_both (l : List UInt8) (hl : l.length ≤ 60000) : ∃ R D, (∀ v w, Holds w v l → Calls Tryz.prog 6 #[v] w (RetV w R D)) ∧ (∀ v w, Holds w v l → Calls Tryz.prog 7 #[v] w (RetV w R D)) ∧
    (D = [] → ∃ kf, dgs l (nxt l 0) = [] ∧ PT (toks l (nxt l 0)) = .ok ⟨1, [], 0, 1, 1⟩ kf [] ∧ R = (one ⟨1, [], 0, 1, 1⟩ kf).flat 0 ∧ kf.size ≤ 2 * l.length) ∧ (D ≠ [] → R = []) ∧ D.length ≤ l.length + 1 := by
  by_cases hd : dgs l (nxt l 0) = []
  rotate_left
  · exact ⟨[], dgs l (nxt l 0), fun v w hv => parse_faults l v w hv (by omega) hd, fun v w hv => refParse_faults l v w hv (by omega) hd, fun h => absurd h hd, fun _ => rfl, by have := len_dgs l.length l (nxt l 0) (by omega); omega⟩
  have hT := len_toks l.length l (nxt l 0) (by omega)
  obtain ⟨x, ⟨N, h1⟩, h2⟩ := ref_PT (toks l (nxt l 0)) (by omega)
  have hp := fun v w hv => parse_some (16 * (toks l (nxt l 0)).length + 2) l v w hv (by omega) hd (PT_nd _)
  cases ho : PT (toks l (nxt l 0)) with
  | dry => rw [ho] at h2; exact h2.elim
  | bad er r =>
    rw [ho] at h2
    obtain ⟨j, rfl, h3, h4, rfl⟩ := h2
    have hr := fun v w hv => refParse_tokens N l v w hv (by omega) hd _ h1 (fun _ => by unfold erS; dsimp only; omega)
    have e1 : rowX (([], erS j er) : List Tw × Sg) = [] := if_neg h4
    have e2 : dgX (toks l (nxt l 0)) (([], erS j er) : List Tw × Sg) = [⟨(Go.Proofs.YtpeoefbibjbinaaGreat.hd ((toks l (nxt l 0)).drop j)).line, (Go.Proofs.YtpeoefbibjbinaaGreat.hd ((toks l (nxt l 0)).drop j)).col, er⟩] := by
      unfold dgX
      rw [if_neg (show ¬(([], erS j er) : List Tw × Sg).2.er = 0 from h4)]
      rfl
    rw [e1, e2] at hr
    refine ⟨_, _, fun v w hv => (hp v w hv).mono fun e w' h => RetT.bad (er := er) (r := (toks l (nxt l 0)).drop j) ?_, hr, fun h => (by simp at h), fun _ => rfl, by simp⟩
    unfold PT at ho
    rw [ho] at h
    exact h
  | ok d kf r =>
    rw [ho] at h2
    obtain ⟨rfl, rfl, h3, rfl⟩ := h2
    have hr := fun v w hv => refParse_tokens N l v w hv (by omega) hd _ h1 (fun h => absurd rfl h)
    refine ⟨(one ⟨1, [], 0, 1, 1⟩ kf).flat 0, [], fun v w hv => (hp v w hv).mono fun e w' h => RetT.ok (d := ⟨1, [], 0, 1, 1⟩) (kf := kf) (r := []) ?_, hr, fun _ => ⟨kf, hd, rfl, rfl, by omega⟩, fun h => absurd rfl h, by simp⟩
    unfold PT at ho
    rw [ho] at h
    exact h
end Go.Proofs.YtpeoefbibjbinaaGreat

namespace Go.Proofs.YtpeoefbibjbinaaGreat

/-- Kids of p, from its i-th on, at p's nest m. -/
def Ks (nm : List UInt8 → Bool) (m : Int) (p : Nd) (i : Nat) (f : Fo) : Prop := f.fit nm = true ∧ ∀ x ∈ f.deps m p i, x ≤ 64
/-- A tree at its own nest m. -/
def Tr (nm : List UInt8 → Bool) (m : Int) (d : Nd) (k : Fo) : Prop := m ≤ 64 ∧ ndOk nm d (k.nds.map (·.kind)) = true ∧ Ks nm m d 0 k

theorem deps_mono : ∀ (f : Fo) (m m' : Int) (p : Nd) (i : Nat), m' ≤ m → (∀ x ∈ f.deps m p i, x ≤ 64) → ∀ x ∈ f.deps m' p i, x ≤ 64
  | .nil, _, _, _, _, _, _ => fun x h => by cases h
  | .cons d k r, m, m', p, i, hm, h => fun x hx => by
    simp only [Fo.deps, List.mem_cons, List.mem_append] at h hx
    rcases hx with rfl | hx | hx
    · have := h _ (.inl rfl)
      omega
    · exact deps_mono k _ _ d 0 (by omega) (fun y hy => h y (.inr (.inl hy))) x hx
    · exact deps_mono r _ _ p (i + 1) hm (fun y hy => h y (.inr (.inr hy))) x hx
theorem Ks.mono {nm : List UInt8 → Bool} {m m' : Int} {p : Nd} {i : Nat} {f : Fo} (h : Ks nm m p i f) (hm : m' ≤ m) : Ks nm m' p i f := ⟨h.1, deps_mono f m m' p i hm h.2⟩
theorem Tr.mono {nm : List UInt8 → Bool} {m m' : Int} {d : Nd} {k : Fo} (h : Tr nm m d k) (hm : m' ≤ m) : Tr nm m' d k := ⟨by have := h.1; omega, h.2.1, h.2.2.mono hm⟩
theorem ks_nil (nm : List UInt8 → Bool) (m : Int) (p : Nd) (i : Nat) : Ks nm m p i .nil := ⟨rfl, fun x h => by cases h⟩
theorem ks_one {nm : List UInt8 → Bool} {m : Int} {p : Nd} {i : Nat} {d : Nd} {k : Fo} (h : Tr nm (m + dpr p i d) d k) : Ks nm m p i (one d k) := by
  obtain ⟨h1, h2, h3, h4⟩ := h
  refine ⟨?_, fun x hx => ?_⟩
  · simp only [one, Fo.fit, h2, h3, Bool.and_self]
  · simp only [one, Fo.deps, List.mem_cons, List.mem_append, List.not_mem_nil, or_false] at hx
    rcases hx with rfl | hx
    · exact h1
    · exact h4 x hx
theorem fit_app (nm : List UInt8 → Bool) : ∀ f g : Fo, (f.app g).fit nm = (f.fit nm && g.fit nm)
  | .nil, g => by simp [Fo.app, Fo.fit]
  | .cons d k r, g => by simp [Fo.app, Fo.fit, fit_app nm r g, Bool.and_assoc]
theorem deps_app (m : Int) (p : Nd) : ∀ (f g : Fo) (i : Nat), (f.app g).deps m p i = f.deps m p i ++ g.deps m p (i + f.len)
  | .nil, g, i => by simp [Fo.app, Fo.deps, Fo.len, Fo.nds]
  | .cons d k r, g, i => by
    have e : i + (Fo.cons d k r).len = i + 1 + r.len := by simp [Fo.len, Fo.nds]; omega
    simp [Fo.app, Fo.deps, deps_app m p r g, e]
theorem ks_app {nm : List UInt8 → Bool} {m : Int} {p : Nd} {i : Nat} {f g : Fo} (hf : Ks nm m p i f) (hg : Ks nm m p (i + f.len) g) : Ks nm m p i (f.app g) :=
  ⟨by rw [fit_app, hf.1, hg.1]; rfl, fun x hx => by
    rw [deps_app, List.mem_append] at hx
    rcases hx with hx | hx
    · exact hf.2 x hx
    · exact hg.2 x hx⟩
theorem one_nds (d : Nd) (k : Fo) : (one d k).nds = [d] := rfl
theorem one_len (d : Nd) (k : Fo) : (one d k).len = 1 := rfl
theorem Tr.may {nm : List UInt8 → Bool} {d : Nd} {k : Fo} (h : Tr nm 0 d k) (hk : d.kind = 1) : MayT nm d k := ⟨hk, h.2.1, h.2.2.1, h.2.2.2⟩

/-- A term that binds as tightly as b, or that stood in parentheses. -/
def Te (nm : List UInt8 → Bool) (m b : Int) (d : Nd) (k : Fo) : Prop := isTm d.kind = true ∧ Tr nm m d k ∧ (b ≤ bnd d.kind d.text ∨ Tr nm (m + 1) d k)
theorem Te.weak {nm : List UInt8 → Bool} {m b b' : Int} {d : Nd} {k : Fo} (h : Te nm m b d k) (hb : b' ≤ b) : Te nm m b' d k := ⟨h.1, h.2.1, h.2.2.imp (fun h => by omega) id⟩
theorem tm_no12 {k : Int} (h : isTm k = true) : k ≠ 12 := by
  rintro rfl
  exact absurd h (by decide)
/-- A term as a kid. -/
theorem Te.kid {nm : List UInt8 → Bool} {m b : Int} {d : Nd} {k : Fo} (h : Te nm m b d k) {p : Nd} {i : Nat} (hm : must p i ≤ b) (hi : ins p i = false) : Ks nm m p i (one d k) := by
  refine ks_one ?_
  have h12 := tm_no12 h.1
  unfold dpr prn
  rw [if_neg h12, hi, if_neg (by decide : ¬ (false = true))]
  rcases h.2.2 with hb | ht
  · rw [if_neg (by simp; omega)]
    exact h.2.1.mono (by omega)
  · exact ht.mono (by split <;> omega)
/-- A term as a kid in brackets of its own: P is one nest deeper there. -/
theorem Te.kidIn {nm : List UInt8 → Bool} {m b : Int} {d : Nd} {k : Fo} (h : Te nm (m + 1) b d k) {p : Nd} {i : Nat} (hm : must p i ≤ b) : Ks nm m p i (one d k) := by
  refine ks_one ?_
  have h12 := tm_no12 h.1
  unfold dpr prn
  rw [if_neg h12]
  rcases h.2.2 with hb | ht
  · rw [if_neg (by simp; omega)]
    exact h.2.1.mono (by split <;> omega)
  · exact ht.mono (by split <;> split <;> omega)
/-- A block as a kid: P is one nest deeper in it. -/
theorem kid_block {nm : List UInt8 → Bool} {m : Int} {d : Nd} {k : Fo} (h : Tr nm (m + 1) d k) (hk : d.kind = 12) {p : Nd} {i : Nat} (hm : must p i ≤ 0) (hi : ins p i = false) : Ks nm m p i (one d k) := by
  refine ks_one ?_
  have hb : bnd d.kind d.text = 0 := by rw [hk]; rfl
  unfold dpr prn
  rw [if_pos hk, hi, hb, if_neg (by simp; omega), if_neg (by decide)]
  exact h.mono (by omega)
/-- Any other kid. -/
theorem kid_plain {nm : List UInt8 → Bool} {m : Int} {d : Nd} {k : Fo} (h : Tr nm m d k) (hk : isTm d.kind = false) (h12 : d.kind ≠ 12) {p : Nd} {i : Nat} (hm : must p i ≤ 0) (hi : ins p i = false) : Ks nm m p i (one d k) := by
  refine ks_one ?_
  have hb : bnd d.kind d.text = 0 := by unfold bnd; rw [if_pos hk]
  unfold dpr prn
  rw [if_neg h12, hi, hb, if_neg (by simp; omega), if_neg (by decide)]
  exact h.mono (by omega)
end Go.Proofs.YtpeoefbibjbinaaGreat

namespace Go.Proofs.YtpeoefbibjbinaaGreat

/-- Tokens as Scan makes them. -/
def OkT (nm : List UInt8 → Bool) (r : List Tok) : Prop := ∀ t ∈ r, (t.kind = 1 → nm t.text = true) ∧ (t.kind = 3 → 0 ≤ t.n ∧ t.n ≤ 2147483647)
theorem OkT.suf {nm : List UInt8 → Bool} {r r' : List Tok} (h : OkT nm r) (hs : r' <:+ r) : OkT nm r' := fun t ht => h t (hs.subset ht)
theorem OkT.tail {nm : List UInt8 → Bool} {r : List Tok} (h : OkT nm r) : OkT nm r.tail := h.suf (List.tail_suffix r)
theorem OkT.hd {nm : List UInt8 → Bool} {r : List Tok} (h : OkT nm r) (c : (hd r).kind ≠ 0) : ((hd r).kind = 1 → nm (hd r).text = true) ∧ ((hd r).kind = 3 → 0 ≤ (hd r).n ∧ (hd r).n ≤ 2147483647) := by
  cases r with
  | nil => exact absurd rfl c
  | cons t r => exact h t (List.mem_cons_self ..)
theorem andO_ok {o : Out} {f : Nd → Fo → List Tok → Out} {d : Nd} {k : Fo} {r : List Tok} (h : o.and f = .ok d k r) : ∃ d1 k1 r1, o = .ok d1 k1 r1 ∧ f d1 k1 r1 = .ok d k r := by
  cases o with
  | dry => cases h
  | bad e r => cases h
  | ok d1 k1 r1 => exact ⟨d1, k1, r1, rfl, h⟩
theorem tk_ok {c : Bool} {r : List Tok} {f : Tok → List Tok → Out} {d : Nd} {k : Fo} {r' : List Tok} (h : tk c r f = .ok d k r') : c = true ∧ f (hd r) r.tail = .ok d k r' := by
  unfold tk at h
  cases c
  · rw [if_neg (by decide)] at h; cases h
  · exact ⟨rfl, by rwa [if_pos rfl] at h⟩
theorem tkK_ok {c : Int} {r : List Tok} {f : Tok → List Tok → Out} {d : Nd} {k : Fo} {r' : List Tok} (h : tkK c r f = .ok d k r') : (hd r).kind = c ∧ f (hd r) r.tail = .ok d k r' := by
  have := tk_ok h
  exact ⟨by simpa using this.1, this.2⟩
theorem tkM_ok {l : List (List UInt8)} {r : List Tok} {f : Tok → List Tok → Out} {d : Nd} {k : Fo} {r' : List Tok} (h : tkM l r f = .ok d k r') : f (hd r) r.tail = .ok d k r' := (tk_ok h).2
theorem ent_ok {m : Nat} {r : List Tok} {f : Tok → List Tok → Out} {d : Nd} {k : Fo} {r' : List Tok} (h : ent m r f = .ok d k r') : m ≠ 64 ∧ f (hd r) r.tail = .ok d k r' := by
  by_cases hm : m = 64
  · rw [ent_no hm] at h; cases h
  · rw [ent_yes hm] at h; exact ⟨hm, h⟩
theorem P_suf {n : Nat} {g : Gr} {r : List Tok} {m : Nat} {d : Nd} {k : Fo} {r' : List Tok} (h : P n g r m = .ok d k r') : r' <:+ r := (loc_P _ _ _).okS _ _ _ _ h

/-- What a part needs of what it has already, and what its tree is. -/
def PreT (nm : List UInt8 → Bool) (m : Int) : Gr → Prop
  | .sumL d k => Te nm m 2 d k
  | .prodL d k => Te nm m 3 d k
  | .tightL d k => Te nm m 5 d k
  | .stmts t acc => Ks nm m (at_ t 12 [] 0) 0 acc ∧ (acc.nds.map (·.kind)).all isSt = true
  | .to d acc => (∃ e ek, acc = one e ek ∧ Te nm m 1 e ek) ∧ (d.kind = 19 ∨ d.kind = 20) ∧ textOk nm d.kind d.text = true ∧ numOk d.kind d.n = true
  | .members t x acc => nm x.text = true ∧ Ks nm m (at_ t 3 x.text 0) 0 acc ∧ (acc.nds.map (·.kind)).all (isK 4) = true
  | .lives t x acc => nm x.text = true ∧ Ks nm m (at_ t 8 x.text 0) 0 acc ∧ rowOk [isK 29] (isK 9) (acc.nds.map (·.kind)) = true
  | .decls acc => Ks nm m ⟨1, [], 0, 1, 1⟩ 0 acc ∧ (acc.nds.map (·.kind)).all isDc = true
  | _ => True
def PostT (nm : List UInt8 → Bool) (m : Int) (d : Nd) (k : Fo) : Gr → Prop
  | .block => d.kind = 12 ∧ Tr nm (m + 1) d k
  | .var => isVr d.kind = true ∧ Te nm m 5 d k
  | .term => Te nm m 1 d k
  | .sum | .sumL _ _ => Te nm m 2 d k
  | .product | .prodL _ _ => Te nm m 3 d k
  | .unary => Te nm m 4 d k
  | .tight | .tightL _ _ | .first => Te nm m 5 d k
  | .stmts _ _ => d.kind = 12 ∧ Tr nm m d k
  | .stmt | .to _ _ => isSt d.kind = true ∧ Tr nm m d k
  | .decls _ => d.kind = 1 ∧ Tr nm m d k
  | .decl | .members _ _ _ | .lives _ _ _ => isDc d.kind = true ∧ Tr nm m d k
def May (nm : List UInt8 → Bool) (n : Nat) (g : Gr) : Prop := ∀ (r : List Tok) (m : Nat) (d : Nd) (k : Fo) (r' : List Tok), OkT nm r → m ≤ 64 → PreT nm m g → P n g r m = .ok d k r' → PostT nm m d k g

/-- A twig that binds tightly. -/
theorem te_5 {nm : List UInt8 → Bool} {m : Int} {d : Nd} {k : Fo} (h : Tr nm m d k) (ht : isTm d.kind = true) (h5 : bnd d.kind d.text = 5) {b : Int} (hb : b ≤ 5) : Te nm m b d k := ⟨ht, h, .inl (by omega)⟩
theorem tr_leaf {nm : List UInt8 → Bool} {m : Int} {d : Nd} (hm : m ≤ 64) (h : ndOk nm d [] = true) : Tr nm m d .nil := ⟨hm, h, ks_nil _ _ _ _⟩

theorem may_product (nm : List UInt8 → Bool) (n : Nat) (HU : May nm n .unary) (HL : ∀ d k, May nm n (.prodL d k)) : May nm (n + 1) .product := by
  intro r m d k r' ho hm _ h
  rw [P] at h
  obtain ⟨d1, k1, r1, h1, h2⟩ := andO_ok h
  exact HL d1 k1 r1 m d k r' (ho.suf (P_suf h1)) hm ((HU _ _ _ _ _ ho hm trivial h1).weak (b' := 3) (by decide)) h2
theorem may_sum (nm : List UInt8 → Bool) (n : Nat) (HU : May nm n .product) (HL : ∀ d k, May nm n (.sumL d k)) : May nm (n + 1) .sum := by
  intro r m d k r' ho hm _ h
  rw [P] at h
  obtain ⟨d1, k1, r1, h1, h2⟩ := andO_ok h
  exact HL d1 k1 r1 m d k r' (ho.suf (P_suf h1)) hm ((HU _ _ _ _ _ ho hm trivial h1).weak (b' := 2) (by decide)) h2
theorem may_tight (nm : List UInt8 → Bool) (n : Nat) (HU : May nm n .first) (HL : ∀ d k, May nm n (.tightL d k)) : May nm (n + 1) .tight := by
  intro r m d k r' ho hm _ h
  rw [P] at h
  obtain ⟨d1, k1, r1, h1, h2⟩ := andO_ok h
  exact HL d1 k1 r1 m d k r' (ho.suf (P_suf h1)) hm (HU _ _ _ _ _ ho hm trivial h1) h2
theorem may_var (nm : List UInt8 → Bool) (n : Nat) (HT : May nm n .tight) : May nm (n + 1) .var := by
  intro r m d k r' ho hm _ h
  rw [P] at h
  obtain ⟨d1, k1, r1, h1, h2⟩ := andO_ok h
  by_cases hv : isVarK d1.kind = true
  · rw [if_pos hv] at h2
    injection h2 with e1 e2 e3
    subst e1 e2
    exact ⟨hv, HT _ _ _ _ _ ho hm trivial h1⟩
  · rw [if_neg hv] at h2; cases h2
/-- An operation of two terms. -/
theorem te_op {nm : List UInt8 → Bool} {m b b1 b2 : Int} {d1 d2 : Nd} {k1 k2 : Fo} (t : Tok) (hm : m ≤ 64) (hs : isSg t.text = true) (hb : bnd 32 t.text = b) (h1 : Te nm m b1 d1 k1) (h2 : Te nm m b2 d2 k2) (m1 : must (at_ t 32 t.text 0) 0 ≤ b1) (m2 : must (at_ t 32 t.text 0) 1 ≤ b2) : Te nm m b (at_ t 32 t.text 0) ((one d1 k1).app (one d2 k2)) := by
  refine ⟨rfl, ⟨hm, ?_, ks_app (h1.kid m1 rfl) (h2.kid m2 rfl)⟩, .inl (by rw [← hb]; exact Int.le_refl _)⟩
  rw [nds_app, one_nds, one_nds]
  have e : ([d1] ++ [d2]).map (·.kind) = [d1.kind, d2.kind] := rfl
  rw [e]
  simp [ndOk, at_, kindOk, textOk, numOk, kidsOk, hs, rowOk, h1.1, h2.1]
theorem may_prodL (nm : List UInt8 → Bool) (n : Nat) (HU : May nm n .unary) (HL : ∀ d k, May nm n (.prodL d k)) (d0 : Nd) (k0 : Fo) : May nm (n + 1) (.prodL d0 k0) := by
  intro r m d k r' ho hm hp h
  rw [P] at h
  cases c : seesM r [[42]]
  · rw [c, if_neg (by decide)] at h
    injection h with e1 e2 e3
    subst e1 e2
    exact hp
  rw [c, if_pos rfl] at h
  obtain ⟨d1, k1, r1, h1, h2⟩ := andO_ok h
  have ht : (hd r).text = [42] := by
    unfold seesM seesK at c
    simpa using (Bool.and_eq_true_iff.1 c).2
  refine HL (at_ (hd r) 32 (hd r).text 0) ((one d0 k0).app (one d1 k1)) r1 m d k r' (ho.tail.suf (P_suf h1)) hm (te_op (hd r) (by omega) (by rw [ht]; decide) (by rw [ht]; decide) hp (HU _ _ _ _ _ ho.tail hm trivial h1) ?_ ?_) h2
  · rw [ht]; show must ⟨32, _, _, _, _⟩ 0 ≤ 3; simp [must, bnd, isTm]
  · rw [ht]; show must ⟨32, _, _, _, _⟩ 1 ≤ 4; simp [must, bnd, isTm]
theorem may_sumL (nm : List UInt8 → Bool) (n : Nat) (HU : May nm n .product) (HL : ∀ d k, May nm n (.sumL d k)) (d0 : Nd) (k0 : Fo) : May nm (n + 1) (.sumL d0 k0) := by
  intro r m d k r' ho hm hp h
  rw [P] at h
  cases c : seesM r [[43], [45]]
  · rw [c, if_neg (by decide)] at h
    injection h with e1 e2 e3
    subst e1 e2
    exact hp
  rw [c, if_pos rfl] at h
  obtain ⟨d1, k1, r1, h1, h2⟩ := andO_ok h
  have ht : (hd r).text = [43] ∨ (hd r).text = [45] := by
    unfold seesM seesK at c
    simpa using (Bool.and_eq_true_iff.1 c).2
  have hs : isSg (hd r).text = true ∧ bnd 32 (hd r).text = 2 := by rcases ht with ht | ht <;> rw [ht] <;> decide
  refine HL (at_ (hd r) 32 (hd r).text 0) ((one d0 k0).app (one d1 k1)) r1 m d k r' (ho.tail.suf (P_suf h1)) hm (te_op (hd r) (by omega) hs.1 hs.2 hp (HU _ _ _ _ _ ho.tail hm trivial h1) ?_ ?_) h2
  · show must ⟨32, _, _, _, _⟩ 0 ≤ 2; simp [must, hs.2]
  · show must ⟨32, _, _, _, _⟩ 1 ≤ 3; simp [must, hs.2]
theorem may_term (nm : List UInt8 → Bool) (n : Nat) (HS : May nm n .sum) : May nm (n + 1) .term := by
  intro r m d k r' ho hm _ h
  rw [P] at h
  obtain ⟨d1, k1, r1, h1, h2⟩ := andO_ok h
  have t1 := HS _ _ _ _ _ ho hm trivial h1
  cases c : seesM r1 [[60], [61, 61]]
  · rw [c, if_neg (by decide)] at h2
    injection h2 with e1 e2 e3
    subst e1 e2
    exact Te.weak (b' := 1) t1 (by decide)
  rw [c, if_pos rfl] at h2
  obtain ⟨d2, k2, r2, h3, h4⟩ := andO_ok h2
  injection h4 with e1 e2 e3
  subst e1 e2
  have ht : (hd r1).text = [60] ∨ (hd r1).text = [61, 61] := by
    unfold seesM seesK at c
    simpa using (Bool.and_eq_true_iff.1 c).2
  have hs : isSg (hd r1).text = true ∧ bnd 32 (hd r1).text = 1 := by rcases ht with ht | ht <;> rw [ht] <;> decide
  refine te_op (hd r1) (by omega) hs.1 hs.2 t1 (HS _ _ _ _ _ (ho.suf (P_suf h1)).tail hm trivial h3) ?_ ?_
  · show must ⟨32, _, _, _, _⟩ 0 ≤ 2; simp [must, hs.2]
  · show must ⟨32, _, _, _, _⟩ 1 ≤ 2; simp [must, hs.2]
theorem may_unary (nm : List UInt8 → Bool) (n : Nat) (HU : May nm n .unary) (HT : May nm n .tight) : May nm (n + 1) .unary := by
  intro r m d k r' ho hm _ h
  rw [P] at h
  cases c : seesW r [[97, 114, 114], [108, 101, 110]]
  · rw [c, if_neg (by decide)] at h
    exact Te.weak (b' := 4) (HT _ _ _ _ _ ho hm trivial h) (by decide)
  rw [c, if_pos rfl] at h
  obtain ⟨hm', h⟩ := ent_ok h
  obtain ⟨d1, k1, r1, h1, h2⟩ := andO_ok h
  injection h2 with e1 e2 e3
  subst e1 e2
  have t1 : Te nm ((m : Int) + 1) 4 d1 k1 := by
    have := HU _ _ _ _ _ ho.tail (by omega) trivial h1
    exact this
  have hk : ∀ x : Int, x = 34 ∨ x = 35 → Te nm m 4 (at_ (hd r) x [] 0) (one d1 k1) := fun x hx => by
    refine ⟨by rcases hx with rfl | rfl <;> rfl, ⟨by omega, ?_, t1.kidIn (by rcases hx with rfl | rfl <;> simp [must, at_])⟩, .inl (by rcases hx with rfl | rfl <;> simp [bnd, at_, isTm])⟩
    rw [one_nds]
    rcases hx with rfl | rfl <;> simp [ndOk, at_, kindOk, textOk, numOk, kidsOk, named, rowOk, t1.1]
  exact hk _ (by split <;> simp)
theorem may_tightL (nm : List UInt8 → Bool) (n : Nat) (HT : May nm n .term) (HL : ∀ d k, May nm n (.tightL d k)) (d0 : Nd) (k0 : Fo) : May nm (n + 1) (.tightL d0 k0) := by
  intro r m d k r' ho hm hp h
  have hp' : Te nm m 5 d0 k0 := hp
  rw [P] at h
  cases c : seesM r [[46]]
  rotate_left
  · rw [c, if_pos rfl] at h
    obtain ⟨c1, h⟩ := tkK_ok h
    have hn := (ho.tail.hd (by rw [c1]; decide)).1 c1
    refine HL (at_ (hd r) 30 (hd r.tail).text 0) (one d0 k0) r.tail.tail m d k r' ho.tail.tail hm (te_5 ⟨by omega, ?_, hp'.kid (by simp [must, at_]) (by simp [ins, at_])⟩ rfl (by simp [bnd, at_, isTm]) (by decide)) h
    rw [one_nds]
    simp [ndOk, at_, kindOk, textOk, numOk, kidsOk, named, rowOk, hp'.1, hn]
  rw [c, if_neg (by decide)] at h
  cases c2 : seesM r [[91]]
  · rw [c2, if_neg (by decide)] at h
    injection h with e1 e2 e3
    subst e1 e2
    exact hp
  rw [c2, if_pos rfl] at h
  obtain ⟨hm', h⟩ := ent_ok h
  obtain ⟨d1, k1, r1, h1, h2⟩ := andO_ok h
  have h3 := tkM_ok h2
  have t1 : Te nm ((m : Int) + 1) 1 d1 k1 := HT _ (m + 1) _ _ _ ho.tail (by omega) trivial h1
  refine HL (at_ (hd r) 31 [] 0) ((one d0 k0).app (one d1 k1)) r1.tail m d k r' (ho.tail.suf (P_suf h1)).tail hm (te_5 ⟨by omega, ?_, ks_app (hp'.kid (by simp [must, at_]) (by simp [ins, at_])) (t1.kidIn (by simp [must, at_, one_len]))⟩ rfl (by simp [bnd, at_, isTm]) (by decide)) h3
  rw [nds_app, one_nds, one_nds]
  simp [ndOk, at_, kindOk, textOk, numOk, kidsOk, named, rowOk, hp'.1, t1.1]
theorem may_first (nm : List UInt8 → Bool) (n : Nat) (HB : May nm n .block) (HT : May nm n .term) : May nm (n + 1) .first := by
  intro r m d k r' ho hm _ h
  have hm64 : (m : Int) ≤ 64 := by omega
  show Te nm m 5 d k
  rw [P] at h
  split at h
  · rename_i c
    have c3 : (hd r).kind = 3 := by simpa using c
    have hn := (ho.hd (by rw [c3]; decide)).2 c3
    injection h with e1 e2 e3
    subst e1 e2
    exact te_5 (tr_leaf hm64 (by simp [ndOk, at_, kindOk, textOk, numOk, kidsOk, named, rowOk, hn.1, hn.2])) rfl (by simp [bnd, at_, isTm]) (by decide)
  split at h
  · injection h with e1 e2 e3
    subst e1 e2
    exact te_5 (tr_leaf hm64 (by simp [ndOk, at_, kindOk, textOk, numOk, kidsOk, named, rowOk])) rfl (by simp [bnd, at_, isTm]) (by decide)
  split at h
  · injection h with e1 e2 e3
    subst e1 e2
    exact te_5 (tr_leaf hm64 (by simp [ndOk, at_, kindOk, textOk, numOk, kidsOk, named, rowOk])) rfl (by simp [bnd, at_, isTm]) (by decide)
  split at h
  · obtain ⟨c1, h⟩ := tkK_ok h
    have hn := (ho.tail.hd (by rw [c1]; decide)).1 c1
    injection h with e1 e2 e3
    subst e1 e2
    exact te_5 (tr_leaf hm64 (by simp [ndOk, at_, kindOk, textOk, numOk, kidsOk, named, rowOk, hn])) rfl (by simp [bnd, at_, isTm]) (by decide)
  split at h
  · obtain ⟨d1, k1, r1, h1, h2⟩ := andO_ok h
    injection h2 with e1 e2 e3
    subst e1 e2
    obtain ⟨b1, b2⟩ : d1.kind = 12 ∧ Tr nm ((m : Int) + 1) d1 k1 := HB _ _ _ _ _ ho.tail hm trivial h1
    refine te_5 ⟨hm64, ?_, kid_block b2 b1 (by simp [must, at_]) (by simp [ins, at_])⟩ rfl (by simp [bnd, at_, isTm]) (by decide)
    rw [one_nds]
    simp [ndOk, at_, kindOk, textOk, numOk, kidsOk, named, rowOk, b1, isK]
  split at h
  · obtain ⟨hm', h⟩ := ent_ok h
    obtain ⟨d1, k1, r1, h1, h2⟩ := andO_ok h
    have h3 := tkM_ok h2
    injection h3 with e1 e2 e3
    subst e1 e2
    have t1 : Te nm ((m : Int) + 1) 1 d1 k1 := HT _ (m + 1) _ _ _ ho.tail (by omega) trivial h1
    exact ⟨t1.1, t1.2.1.mono (by omega), .inr t1.2.1⟩
  · obtain ⟨c1, h⟩ := tkK_ok h
    have hn := (ho.hd (by rw [c1]; decide)).1 c1
    injection h with e1 e2 e3
    subst e1 e2
    exact te_5 (tr_leaf hm64 (by simp [ndOk, at_, kindOk, textOk, numOk, kidsOk, named, rowOk, hn])) rfl (by simp [bnd, at_, isTm]) (by decide)
end Go.Proofs.YtpeoefbibjbinaaGreat

namespace Go.Proofs.YtpeoefbibjbinaaGreat

theorem may_block (nm : List UInt8 → Bool) (n : Nat) (HS : ∀ t acc, May nm n (.stmts t acc)) : May nm (n + 1) .block := by
  intro r m d k r' ho hm _ h
  rw [P] at h
  split at h
  · obtain ⟨hm', h⟩ := ent_ok h
    have := HS (hd r) .nil _ (m + 1) _ _ _ ho.tail (by omega) ⟨ks_nil _ _ _ _, rfl⟩ h
    exact this
  · cases h
theorem st_tm {k : Int} (h : isSt k = true) : isTm k = false ∧ k ≠ 12 := by
  simp only [isSt, isTm, Bool.and_eq_true, decide_eq_true_eq, Bool.and_eq_false_iff, decide_eq_false_iff_not] at *
  omega
theorem may_stmts (nm : List UInt8 → Bool) (n : Nat) (HS : May nm n .stmt) (HL : ∀ t acc, May nm n (.stmts t acc)) (t : Tok) (acc : Fo) : May nm (n + 1) (.stmts t acc) := by
  intro r m d k r' ho hm hp h
  obtain ⟨p1, p2⟩ : Ks nm m (at_ t 12 [] 0) 0 acc ∧ (acc.nds.map (·.kind)).all isSt = true := hp
  rw [P] at h
  split at h
  · injection h with e1 e2 e3
    subst e1 e2
    refine ⟨rfl, by omega, ?_, p1⟩
    show (kindOk 12 && textOk nm 12 [] && numOk 12 0 && kidsOk 12 _) = true
    have : kidsOk 12 (acc.nds.map (·.kind)) = true := by
      show rowOk [] isSt _ = true
      cases hl : acc.nds.map (·.kind) <;> (rw [hl] at p2; exact p2)
    rw [this]
    rfl
  · obtain ⟨d1, k1, r1, h1, h2⟩ := andO_ok h
    obtain ⟨s1, s2⟩ : isSt d1.kind = true ∧ Tr nm m d1 k1 := HS _ _ _ _ _ ho hm trivial h1
    refine HL t (acc.app (one d1 k1)) r1 m d k r' (ho.suf (P_suf h1)) hm ⟨ks_app p1 (kid_plain s2 (st_tm s1).1 (st_tm s1).2 (by simp [must, at_]) (by simp [ins, at_])), ?_⟩ h2
    rw [nds_app, one_nds, List.map_append, List.all_append, p2]
    simp [s1]
theorem may_to (nm : List UInt8 → Bool) (n : Nat) (HV : May nm n .var) (d0 : Nd) (acc : Fo) : May nm (n + 1) (.to d0 acc) := by
  intro r m d k r' ho hm hp h
  obtain ⟨⟨e, ek, rfl, t1⟩, hk, ht, hn⟩ : (∃ e ek, acc = one e ek ∧ Te nm m 1 e ek) ∧ (d0.kind = 19 ∨ d0.kind = 20) ∧ textOk nm d0.kind d0.text = true ∧ numOk d0.kind d0.n = true := hp
  have hs : isSt d0.kind = true ∧ kindOk d0.kind = true ∧ (∀ l, kidsOk d0.kind l = (rowOk [isTm] noK l || rowOk [isTm, isVr] noK l)) ∧ (∀ i, must d0 i = 0) ∧ ∀ i, ins d0 i = false := by
    rcases hk with hk | hk <;> (refine ⟨by rw [hk]; rfl, by rw [hk]; rfl, fun l => by rw [hk]; rfl, fun i => by simp [must, hk], fun i => by simp [ins, hk]⟩)
  obtain ⟨s1, s2, s3, s4, s5⟩ := hs
  rw [P] at h
  split at h
  · obtain ⟨d1, k1, r1, h1, h2⟩ := andO_ok h
    have h3 := tkM_ok h2
    injection h3 with e1 e2 e3
    subst e1 e2
    obtain ⟨v1, v2⟩ : isVr d1.kind = true ∧ Te nm m 5 d1 k1 := HV _ _ _ _ _ ho.tail hm trivial h1
    refine ⟨s1, by omega, ?_, ks_app (t1.kid (by rw [s4]; decide) (s5 _)) (v2.kid (by rw [s4]; decide) (s5 _))⟩
    rw [nds_app, one_nds, one_nds]
    simp [ndOk, s2, ht, hn, s3, rowOk, t1.1, v1]
  · have h3 := tkM_ok h
    injection h3 with e1 e2 e3
    subst e1 e2
    refine ⟨s1, by omega, ?_, t1.kid (by rw [s4]; decide) (s5 _)⟩
    rw [one_nds]
    simp [ndOk, s2, ht, hn, s3, rowOk, t1.1]
end Go.Proofs.YtpeoefbibjbinaaGreat

namespace Go.Proofs.YtpeoefbibjbinaaGreat

theorem tyO_ok {nm : List UInt8 → Bool} {r : List Tok} {d : Nd} {k : Fo} {r' : List Tok} (ho : OkT nm r) (h : tyO r = .ok d k r') : d.kind = 5 ∧ k = .nil ∧ r' = r.tail ∧ ndOk nm d [] = true := by
  obtain ⟨c, h⟩ := tk_ok h
  injection h with e1 e2 e3
  subst e1 e2 e3
  refine ⟨rfl, rfl, rfl, ?_⟩
  have ht : isTy nm (hd r).text = true := by
    unfold isTyT at c
    rw [Bool.or_eq_true] at c
    rcases c with c | c
    · have c1 : (hd r).kind = 1 := by simpa using c
      have hn := (ho.hd (by rw [c1]; decide)).1 c1
      simp [isTy, hn]
    · unfold seesW seesK at c
      have c2 := (Bool.and_eq_true_iff.1 c).2
      simp only [tyWords, List.contains_eq_mem, List.mem_cons, List.not_mem_nil, or_false, decide_eq_true_eq] at c2
      simp only [isTy, Bool.or_eq_true, beq_iff_eq]
      rcases c2 with c2 | c2 | c2 | c2 | c2 <;> simp [c2]
  show (kindOk 5 && isTy nm (hd r).text && numOk 5 0 && kidsOk 5 []) = true
  rw [ht]
  rfl
theorem may_stmt (nm : List UInt8 → Bool) (n : Nat) (HT : May nm n .term) (HV : May nm n .var) (HB : May nm n .block) (HO : ∀ d acc, May nm n (.to d acc)) : May nm (n + 1) .stmt := by
  intro r m d k r' ho hm _ h
  have hm64 : (m : Int) ≤ 64 := by omega
  rw [P] at h
  split at h
  · obtain ⟨c1, h⟩ := tkK_ok h
    have hn := (ho.tail.hd (by rw [c1]; decide)).1 c1
    obtain ⟨d1, k1, r1, h1, h2⟩ := andO_ok h
    obtain ⟨y1, rfl, rfl, y2⟩ := tyO_ok ho.tail.tail h1
    obtain ⟨d2, k2, r2, h3, h4⟩ := andO_ok (tkM_ok h2)
    have h5 := tkM_ok h4
    injection h5 with e1 e2 e3
    subst e1 e2
    have t1 : Te nm m 1 d2 k2 := HT _ _ _ _ _ ho.tail.tail.tail.tail hm trivial h3
    refine ⟨rfl, hm64, ?_, ks_app (kid_plain (tr_leaf hm64 y2) (by rw [y1]; rfl) (by rw [y1]; decide) (by simp [must, at_]) (by simp [ins, at_])) (t1.kid (by simp [must, at_]) (by simp [ins, at_]))⟩
    rw [nds_app, one_nds, one_nds]
    simp [ndOk, at_, kindOk, textOk, numOk, kidsOk, named, rowOk, hn, y1, t1.1, isK]
  split at h
  · obtain ⟨d1, k1, r1, h1, h2⟩ := andO_ok h
    have h3 := tkM_ok h2
    injection h3 with e1 e2 e3
    subst e1 e2
    have t1 : Te nm m 1 d1 k1 := HT _ _ _ _ _ ho.tail hm trivial h1
    have hk : ∀ x : Int, x = 15 ∨ x = 16 ∨ x = 17 ∨ x = 18 → isSt x = true ∧ Tr nm m (at_ (hd r) x [] 0) (one d1 k1) := fun x hx => by
      rcases hx with rfl | rfl | rfl | rfl <;> (refine ⟨rfl, hm64, ?_, t1.kid (by simp [must, at_]) (by simp [ins, at_])⟩; rw [one_nds]; simp [ndOk, at_, kindOk, textOk, numOk, kidsOk, named, rowOk, t1.1])
    exact hk (actKind (hd r).text) (by unfold actKind; (repeat' split) <;> simp)
  split at h
  · obtain ⟨c1, h⟩ := tkK_ok h
    have hn := (ho.tail.hd (by rw [c1]; decide)).1 c1
    obtain ⟨d1, k1, r1, h1, h2⟩ := andO_ok h
    have o1 := ho.tail.tail.suf (P_suf h1)
    have t1 : Te nm m 1 d1 k1 := HT _ _ _ _ _ ho.tail.tail hm trivial h1
    have go : ∀ (x : Int) (r2 : List Tok), OkT nm r2 → -1 ≤ x ∧ x ≤ 2147483647 → P n (.to (at_ (hd r) 19 (hd r.tail).text x) (one d1 k1)) r2 m = .ok d k r' → isSt d.kind = true ∧ Tr nm m d k := fun x r2 o2 hx h => by
      exact HO _ _ _ _ _ _ _ o2 hm ⟨⟨_, _, rfl, t1⟩, .inl rfl, by simpa [at_, textOk, named] using hn, by simp [at_, numOk, hx.1, hx.2]⟩ h
    split at h2
    · obtain ⟨c3, h2⟩ := tkK_ok h2
      have hn3 := (o1.tail.hd (by rw [c3]; decide)).2 c3
      exact go _ _ o1.tail.tail (by omega) h2
    split at h2
    · exact go _ _ o1.tail (by omega) h2
    · exact go _ _ o1 (by omega) h2
  split at h
  · obtain ⟨d1, k1, r1, h1, h2⟩ := andO_ok h
    have t1 : Te nm m 1 d1 k1 := HT _ _ _ _ _ ho.tail hm trivial h1
    exact HO _ _ _ _ _ _ _ (ho.tail.suf (P_suf h1)) hm ⟨⟨_, _, rfl, t1⟩, .inr rfl, by simp [at_, textOk, named], by simp [at_, numOk]⟩ h2
  split at h
  · obtain ⟨c1, h⟩ := tkK_ok h
    have hn := (ho.tail.hd (by rw [c1]; decide)).1 c1
    have h3 := tkM_ok h
    injection h3 with e1 e2 e3
    subst e1 e2
    have hk : ∀ x : Int, x = 22 ∨ x = 21 → isSt x = true ∧ Tr nm m (at_ (hd r) x (hd r.tail).text 0) .nil := fun x hx => by
      rcases hx with rfl | rfl <;> exact ⟨rfl, tr_leaf hm64 (by simp [ndOk, at_, kindOk, textOk, numOk, kidsOk, named, rowOk, hn])⟩
    exact hk (if (hd r).text = [100, 105, 115, 97, 98, 108, 101] then 22 else 21) (by split <;> simp)
  split at h
  · obtain ⟨d1, k1, r1, h1, h2⟩ := andO_ok h
    obtain ⟨d2, k2, r2, h3, h4⟩ := andO_ok h2
    have o1 := ho.tail.suf (P_suf h1)
    have o2 := o1.suf (P_suf h3)
    have t1 : Te nm m 1 d1 k1 := HT _ _ _ _ _ ho.tail hm trivial h1
    obtain ⟨b1, b2⟩ : d2.kind = 12 ∧ Tr nm ((m : Int) + 1) d2 k2 := HB _ _ _ _ _ o1 hm trivial h3
    have hif : ∀ (d3 : Nd) (k3 : Fo), d3.kind = 12 → Tr nm ((m : Int) + 1) d3 k3 → isSt 23 = true ∧ Tr nm m (at_ (hd r) 23 [] 0) ((one d1 k1).app ((one d2 k2).app (one d3 k3))) := fun d3 k3 a1 a2 => by
      refine ⟨rfl, hm64, ?_, ks_app (t1.kid (by simp [must, at_]) (by simp [ins, at_])) (ks_app (kid_block b2 b1 (by simp [must, at_]) (by simp [ins, at_])) (kid_block a2 a1 (by simp [must, at_]) (by simp [ins, at_])))⟩
      rw [nds_app, nds_app, one_nds, one_nds, one_nds]
      simp [ndOk, at_, kindOk, textOk, numOk, kidsOk, named, rowOk, t1.1, b1, a1, isK]
    split at h4
    · obtain ⟨d3, k3, r3, h5, h6⟩ := andO_ok h4
      injection h6 with e1 e2 e3
      subst e1 e2
      obtain ⟨a1, a2⟩ : d3.kind = 12 ∧ Tr nm ((m : Int) + 1) d3 k3 := HB _ _ _ _ _ o2.tail hm trivial h5
      exact hif _ _ a1 a2
    · injection h4 with e1 e2 e3
      subst e1 e2
      exact hif _ _ rfl (tr_leaf b2.1 (by simp [ndOk, at_, kindOk, textOk, numOk, kidsOk, named, rowOk]))
  split at h
  · obtain ⟨d1, k1, r1, h1, h2⟩ := andO_ok h
    obtain ⟨d2, k2, r2, h3, h4⟩ := andO_ok h2
    have o1 := ho.tail.suf (P_suf h1)
    have t1 : Te nm m 1 d1 k1 := HT _ _ _ _ _ ho.tail hm trivial h1
    obtain ⟨b1, b2⟩ : d2.kind = 12 ∧ Tr nm ((m : Int) + 1) d2 k2 := HB _ _ _ _ _ o1 hm trivial h3
    injection h4 with e1 e2 e3
    subst e1 e2
    refine ⟨rfl, hm64, ?_, ks_app (t1.kid (by simp [must, at_]) (by simp [ins, at_])) (kid_block b2 b1 (by simp [must, at_]) (by simp [ins, at_]))⟩
    rw [nds_app, one_nds, one_nds]
    simp [ndOk, at_, kindOk, textOk, numOk, kidsOk, named, rowOk, t1.1, b1, isK]
  split at h
  · have h3 := tkM_ok h
    injection h3 with e1 e2 e3
    subst e1 e2
    exact ⟨rfl, tr_leaf hm64 (by simp [ndOk, at_, kindOk, textOk, numOk, kidsOk, named, rowOk])⟩
  · obtain ⟨d1, k1, r1, h1, h2⟩ := andO_ok h
    have o1 := ho.suf (P_suf h1)
    obtain ⟨v1, v2⟩ : isVr d1.kind = true ∧ Te nm m 5 d1 k1 := HV _ _ _ _ _ ho hm trivial h1
    obtain ⟨d2, k2, r2, h3, h4⟩ := andO_ok (tkM_ok h2)
    have h5 := tkM_ok h4
    injection h5 with e1 e2 e3
    subst e1 e2
    have t1 : Te nm m 1 d2 k2 := HT _ _ _ _ _ o1.tail hm trivial h3
    refine ⟨rfl, hm64, ?_, ks_app (v2.kid (by simp [must, at_]) (by simp [ins, at_])) (t1.kid (by simp [must, at_]) (by simp [ins, at_]))⟩
    rw [nds_app, one_nds, one_nds]
    simp [ndOk, at_, kindOk, textOk, numOk, kidsOk, named, rowOk, v1, t1.1]
end Go.Proofs.YtpeoefbibjbinaaGreat
