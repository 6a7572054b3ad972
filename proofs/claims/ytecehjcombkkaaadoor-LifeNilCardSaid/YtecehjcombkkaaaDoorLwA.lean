/- What the walks of the law ask of the program's lives; both at once; the law's do. -/
import Derived.Test.YtecehjcombkkaaaDoorLrE
namespace Go.Proofs.YtecehjcombkkaaaDoor
open Go.RowKit Go.Shelf
attribute [local go_sem] Oper.semAt_some
/-- What the walks ask of the program's lives. -/
structure Prog9 where
  T : World → Prop
  gt : Nat
  tk : ∀ {W W' : World} {p : Nat → Option TypeId → Bool}, T W → Kept p W W' → (∀ t, p gt t = true) → T W'
  tlt : ∀ {W : World}, T W → gt < W.heap.size
  PL : (Nat → Bool) → Nat → List Int → List Bool → World → Prop
  frame : ∀ {own : Nat → Bool} {b : Nat} {C : List Int} {E : List Bool} {W W' : World} {p : Nat → Option TypeId → Bool}, PL own b C E W → Kept p W W' → (∀ b t, own b = true → p b t = true) → (∀ t, p gt t = true) → PL own b C E W'
  pt : ∀ {own : Nat → Bool} {b : Nat} {C : List Int} {E : List Bool} {W : World}, PL own b C E W → T W ∧ own gt = false
  lt : ∀ {own : Nat → Bool} {b : Nat} {C : List Int} {E : List Bool} {W : World}, PL own b C E W → ∀ g, own g = true → g < W.heap.size
  new : ∀ (n : Int) (E : List Bool) (A : Option Addr) (c : Nat) (W : World), Src W (.slice A E.length c) E.length (rowV bV E) → T W → n ≤ 100 → E.length ≤ 100 →
    Calls Tryd.prog 8 #[.int .i64 n, .slice A E.length c] W fun e W' => ∃ bh own, e = .returned (.pointer (some ⟨bh, 0, none⟩)) ∧ PL own bh (List.replicate n.toNat (-1)) E W' ∧ Ext W W' ∧ ∀ b, own b = true → W.heap.size ≤ b
  may : ∀ {own : Nat → Bool} {b : Nat} {C : List Int} {E : List Bool} {W : World}, PL own b C E W → ∀ c w : Int, Calls Tryd.prog 16 #[.pointer (some ⟨b, 0, none⟩), .int .i64 c, .int .i64 w] W fun e W' => e = .returned (.bool (mayO C c w)) ∧ Ext W W'
  go : ∀ {own : Nat → Bool} {b : Nat} {C : List Int} {E : List Bool} {W : World}, PL own b C E W → ∀ c w : Int, Calls Tryd.prog 17 #[.pointer (some ⟨b, 0, none⟩), .int .i64 c, .int .i64 w] W fun e W' => e = .returned (.int .i64 (goE C c w)) ∧ ∃ own', PL own' b (goL C c w) E W' ∧ Kept (pQ own) W W' ∧ ∀ g, own' g = true → own g = true ∨ W.heap.size ≤ g
  state : ∀ {own : Nat → Bool} {b : Nat} {C : List Int} {E : List Bool} {W : World}, PL own b C E W → ∀ c : Int, Calls Tryd.prog 18 #[.pointer (some ⟨b, 0, none⟩), .int .i64 c] W fun e W' => e = .returned (.int .i64 (stO C c)) ∧ Ext W W'
  on : ∀ {own : Nat → Bool} {b : Nat} {C : List Int} {E : List Bool} {W : World}, PL own b C E W → ∀ c : Int, Calls Tryd.prog 19 #[.pointer (some ⟨b, 0, none⟩), .int .i64 c] W fun e W' => e = .returned (.bool (onO E c)) ∧ Ext W W'
  set : ∀ {own : Nat → Bool} {b : Nat} {C : List Int} {E : List Bool} {W : World}, PL own b C E W → ∀ (c : Int) (on : Bool), Calls Tryd.prog 20 #[.pointer (some ⟨b, 0, none⟩), .int .i64 c, .bool on] W fun e W' => e = .returned (.bool (setR E c on)) ∧ ∃ own', PL own' b C (setL E c on) W' ∧ Kept (pQ own) W W' ∧ ∀ g, own' g = true → own g = true ∨ W.heap.size ≤ g
  comps : ∀ {own : Nat → Bool} {b : Nat} {C : List Int} {E : List Bool} {W : World}, PL own b C E W → Calls Tryd.prog 21 #[.pointer (some ⟨b, 0, none⟩)] W fun e W' => e = .returned (.int .i64 C.length) ∧ W' = W
  events : ∀ {own : Nat → Bool} {b : Nat} {C : List Int} {E : List Bool} {W : World}, PL own b C E W → Calls Tryd.prog 22 #[.pointer (some ⟨b, 0, none⟩)] W fun e W' => e = .returned (.int .i64 E.length) ∧ W' = W
  copy : ∀ {own : Nat → Bool} {b : Nat} {C : List Int} {E : List Bool} {W : World}, PL own b C E W → Calls Tryd.prog 12 #[.pointer (some ⟨b, 0, none⟩)] W fun e W' => ∃ bo own', e = .returned (.pointer (some ⟨bo, 0, none⟩)) ∧ PL own' bo C E W' ∧ Ext W W' ∧ ∀ g, own' g = true → W.heap.size ≤ g
  same : ∀ {own own' : Nat → Bool} {b b' : Nat} {C C' : List Int} {E E' : List Bool} {W : World}, PL own b C E W → PL own' b' C' E' W → Calls Tryd.prog 14 #[.pointer (some ⟨b, 0, none⟩), .pointer (some ⟨b', 0, none⟩)] W fun e W' => e = .returned (.bool (sameP C E C' E')) ∧ Ext W W'
/-- The program's and the document's lives, alike and apart. -/
structure Both (P : Prog9) (oP oR : Nat → Bool) (bh bw : Nat) (C : List Int) (E : List Bool) (W : World) : Prop where
  p : P.PL oP bh C E W
  r : RL oR bw C E W
  dis : ∀ b, oP b = true → oR b = false
  nr : oR P.gt = false
def pB (oP oR : Nat → Bool) : Nat → Option TypeId → Bool := fun b _ => !oP b && !oR b
/-- What an act leaves. -/
def Next2 (P : Prog9) (oP oR : Nat → Bool) (bh bw : Nat) (W W' : World) : Prop := ∃ oP' oR' C' E', Both P oP' oR' bh bw C' E' W' ∧ Kept (pB oP oR) W W' ∧ (∀ b, oP' b = true → oP b = true ∨ W.heap.size ≤ b) ∧ ∀ b, oR' b = true → oR b = true ∨ W.heap.size ≤ b
section
variable {P : Prog9} {oP oR : Nat → Bool} {bh bw : Nat} {C C' : List Int} {E E' : List Bool} {W W1 W2 : World}
theorem Prog9.ext {own : Nat → Bool} {b : Nat} (h : P.PL own b C E W) (x : Ext W W1) : P.PL own b C E W1 := P.frame h (x.kept (fun _ _ => true)) (fun _ _ _ => rfl) fun _ => rfl
theorem Prog9.text (h : P.T W) (x : Ext W W1) : P.T W1 := P.tk h (x.kept (fun _ _ => true)) fun _ => rfl
theorem Prog9.fresh {own : Nat → Bool} {b g : Nat} (h : P.PL own b C E W) (hg : W.heap.size ≤ g) : own g = false := by
  cases hc : own g with
  | false => rfl
  | true => have := P.lt h g hc; omega
theorem Both.ext (h : Both P oP oR bh bw C E W) (x : Ext W W1) : Both P oP oR bh bw C E W1 := ⟨Prog9.ext h.p x, h.r.ext x, h.dis, h.nr⟩
theorem Both.frame (h : Both P oP oR bh bw C E W) {q : Nat → Option TypeId → Bool} (k : Kept q W W1) (hP : ∀ b t, oP b = true → q b t = true) (hR : ∀ b t, oR b = true → q b t = true) (hG : ∀ t, q P.gt t = true) : Both P oP oR bh bw C E W1 :=
  ⟨P.frame h.p k (fun b t hb => hP b t hb) hG, h.r.frame k fun b t hb => hR b t hb, h.dis, h.nr⟩
theorem Both.same (h : Both P oP oR bh bw C E W) (x : Ext W W1) : Next2 P oP oR bh bw W W1 := ⟨oP, oR, C, E, h.ext x, x.kept _, fun _ hb => .inl hb, fun _ hb => .inl hb⟩
theorem Next2.pre (x : Ext W W1) (h : Next2 P oP oR bh bw W1 W2) : Next2 P oP oR bh bw W W2 := by
  obtain ⟨oP', oR', C', E', h1, h2, h3, h4⟩ := h
  have hs := x.size
  exact ⟨oP', oR', C', E', h1, (x.kept _).trans h2, fun b hb => (h3 b hb).imp id fun q => by omega, fun b hb => (h4 b hb).imp id fun q => by omega⟩
theorem Both.ref (h : Both P oP oR bh bw C E W) (k : Kept (pQ oP) W W1) : RL oR bw C E W1 := h.r.frame k fun b _ hb => by
  unfold pQ
  cases hc : oP b with
  | false => rfl
  | true => rw [h.dis b hc] at hb; cases hb
/-- The program's act, then the document's. -/
theorem both_step (h : Both P oP oR bh bw C E W) {oP' : Nat → Bool} (p1 : P.PL oP' bh C' E' W1) (k1 : Kept (pQ oP) W W1) (n1 : ∀ b, oP' b = true → oP b = true ∨ W.heap.size ≤ b) (r2 : RL oR bw C' E' W2) (k2 : Kept (pQ oR) W1 W2) : Next2 P oP oR bh bw W W2 := by
  have hs := k1.size
  have hd : ∀ b, oP' b = true → oR b = false := fun b hb => by
    rcases n1 b hb with q | q
    · exact h.dis b q
    · exact h.r.fresh q
  refine ⟨oP', oR, C', E', ⟨P.frame p1 k2 (fun b _ hb => by simp [pQ, hd b hb]) (fun _ => by simp [pQ, h.nr]), r2, hd, h.nr⟩, ?_, n1, fun _ hb => .inl hb⟩
  exact (k1.mono fun b t _ hp => by simp [pB] at hp; simp [pQ, hp.1]).trans (k2.mono fun b t _ hp => by simp [pB] at hp; simp [pQ, hp.2])
/-- What two lives that were made since W leave of it. -/
theorem Next2.since {w w' : World} (hx : Ext W w) (hP : ∀ b, oP b = true → W.heap.size ≤ b) (hR : ∀ b, oR b = true → W.heap.size ≤ b) (h : Next2 P oP oR bh bw w w') :
    ∃ oP' oR' C' E', Both P oP' oR' bh bw C' E' w' ∧ (∀ b, oP' b = true → W.heap.size ≤ b) ∧ (∀ b, oR' b = true → W.heap.size ≤ b) ∧ Ext W w' := by
  obtain ⟨oP', oR', C', E', h1, h2, h3, h4⟩ := h
  refine ⟨oP', oR', C', E', h1, ownSince hx hP h3, ownSince hx hR h4, Kept.trans hx (h2.mono fun b t _ hp => ?_)⟩
  simp [pOld] at hp
  simp only [pB, Bool.and_eq_true, Bool.not_eq_true']
  constructor
  · cases hc : oP b with
    | false => rfl
    | true => have := hP b hc; omega
  · cases hc : oR b with
    | false => rfl
    | true => have := hR b hc; omega
/-- An act. -/
structure ActD where
  k : Int
  at' : Int
  wh : Int
  is' : Bool
def ActD.cells (a : ActD) : List Value := [.int .i64 a.k, .int .i64 a.at', .int .i64 a.wh, .bool a.is']
def acto (a : ActD) : Obj := .cells #[.int .i64 a.k, .int .i64 a.at', .int .i64 a.wh, .bool a.is'] 32 (0, 0)
theorem acto_cells {b : Nat} {a : ActD} (h : W.heap[b]? = some (acto a)) : W.cell? ⟨b, 0, none⟩ = some (.int .i64 a.k) ∧ W.cell? ⟨b, 1, none⟩ = some (.int .i64 a.at') ∧ W.cell? ⟨b, 2, none⟩ = some (.int .i64 a.wh) ∧ W.cell? ⟨b, 3, none⟩ = some (.bool a.is') ∧ b < W.heap.size := by
  refine ⟨?_, ?_, ?_, ?_, (Array.getElem?_eq_some_iff.1 h).1⟩
  all_goals simp [World.cell?, h, acto]
def argsD (bh bw : Nat) (a : ActD) : Array Value := #[.pointer (some ⟨bh, 0, none⟩), .pointer (some ⟨bw, 0, none⟩), .agg #[.int .i64 a.k, .int .i64 a.at', .int .i64 a.wh, .bool a.is']]
set_option maxHeartbeats 4000000 in
set_option maxRecDepth 100000 in
theorem do_go (h : Both P oP oR bh bw C E W) (c w : Int) (is' : Bool) :
    Calls Tryd.prog 11 (argsD bh bw ⟨1, c, w, is'⟩) W fun e W' => e = .returned (.bool true) ∧ Next2 P oP oR bh bw W W' := by
  unfold argsD
  obtain ⟨W1, hW1⟩ : ∃ W1, W1 = W.alloc (acto ⟨1, c, w, is'⟩) := ⟨_, rfl⟩
  have hE1 : Ext W W1 := by rw [hW1]; exact Ext.one _ _
  have hr1 : W1.heap[W.heap.size]? = some (acto ⟨1, c, w, is'⟩) := by rw [hW1]; exact World.alloc_heap_new _ _
  have h1 := h.ext (hE1.trans (Ext.drew W1))
  obtain ⟨x0, x1, x2, x3, xl⟩ := acto_cells hr1
  have hno : oP W.heap.size = false := Prog9.fresh h.p (Nat.le_refl _)
  have hnr : oR W.heap.size = false := h.r.fresh (Nat.le_refl _)
  have HMK := Lib.hid (P.go h1.p c w)
  have HRF := Lib.hid (fun (u : World) (hu : RL oR bw C E u) => refGo_ok hu c w)
  obtain ⟨r, hr⟩ : ∃ r, r = goE C c w := ⟨_, rfl⟩
  rw [← hr] at HMK HRF
  have HE1 := Lib.hid hE1
  have HR1 := Lib.hid hr1
  have HW := Lib.hid hW1
  have HH1 := Lib.hid h1
  have HNO := Lib.hid hno
  have HNR := Lib.hid hnr
  clear h h1 hE1 hr1 hW1 hno hnr hr
  dsimp only at x0 x1 x2 x3
  go_enter Tryd.func11, Tryd.ntmps11
  go_upto_region 1 with (fail)
  change Code.wp _ _ _ _ (W.alloc (acto ⟨1, c, w, is'⟩))
  rw [← HW.out]
  go_upto_region 3 with (fail)
  go_region_held3 (fun w' => w'.cell? ⟨W.heap.size, 1, none⟩ = some (.int .i64 c) ∧ w'.cell? ⟨W.heap.size, 2, none⟩ = some (.int .i64 w)) (first | go_keep | exact ⟨x1, x2⟩ | exact ⟨y1, y2⟩ | exact ⟨z1, z2⟩) (first
    | (go_at_call 17; refine HMK.out.mono ?_; rintro e w3 ⟨rfl, oP', hp3, hk3, hn3⟩; have hb3 := (Kept.trans (Ext.kept (Ext.drew W1) _) hk3).same _ _ HR1.out (by simp [pQ, HNO.out]); obtain ⟨y0, y1, y2, y3, yl⟩ := acto_cells hb3; dsimp only at y1 y2; have HB3 := Lib.hid hb3; have HRC := Lib.hid (HRF.out w3 (HH1.out.ref hk3)); have HP3 := Lib.hid hp3; have HK3 := Lib.hid hk3; have HN3 := Lib.hid hn3; clear hp3 hk3 hn3 hb3)
    | (go_at_call 26; refine HRC.out.mono ?_; rintro e w4 ⟨rfl, hr4, hk4⟩; have hb4 := hk4.same _ _ HB3.out (by simp [pQ, HNR.out]); obtain ⟨z0, z1, z2, z3, zl⟩ := acto_cells hb4; dsimp only at z1 z2; have HR4 := Lib.hid hr4; have HK4 := Lib.hid hk4; clear hr4 hk4 hb4))
  all_goals
    go_wp2_with fail
    go_ret
    exact ⟨rfl, (both_step HH1.out HP3.out HK3.out HN3.out HR4.out HK4.out).pre (HE1.out.trans (Ext.drew W1))⟩
end
end Go.Proofs.YtecehjcombkkaaaDoor
