/- The program's heap: Copy. -/
import Derived.Test.YtjgggfickbbieaaHqC
import Derived.Test.YtjgggfickbbieaaRgA
import Derived.Deep.CutRange
import Derived.Deep.CutBlock
namespace Go.Proofs.Ytjgggfickbbieaa
open Go.RowKit Go.Shelf
attribute [local go_sem] Oper.semAt_some
theorem rowP_new (w : World) {mc : Array Value} {n : Nat} (h : mc.size = n) (hn : n ≤ 1024) : (w.alloc (.cells mc 75 (0, 0))).ownsRow w.heap.size 75 1 (.slice (some ⟨w.heap.size, 0, none⟩) 0 n) 0 (rowP []) :=
  ⟨rfl, .inr ⟨w.heap.size, n, mc, rfl, Nat.le_refl _, World.alloc_heap_new _ _, Nat.zero_le _, by unfold maxLen; omega, by simpa using h, rfl⟩⟩
theorem ext_cells {W w : World} (h : Ext W w) : (∀ b o, b < W.heap.size → w.cell? ⟨b, o, none⟩ = W.cell? ⟨b, o, none⟩) ∧ (∀ b o, b < W.heap.size → w.frozen? ⟨b, o, none⟩ = W.frozen? ⟨b, o, none⟩) ∧ W.heap.size ≤ w.heap.size := by
  have hb := h.below (B := W.heap.size) (fun b t hb => by simp [pOld, hb]) (Nat.le_refl _)
  exact ⟨fun b o hlt => hb.cell (p := ⟨b, o, none⟩) hlt, fun b o hlt => hb.frozen (p := ⟨b, o, none⟩) hlt, h.size⟩
theorem cl_old {w : World} {b k : Nat} {v : Value} {o : Obj} (h : w.cell? ⟨b, k, none⟩ = some v) : (w.alloc o).cell? ⟨b, k, none⟩ = some v :=
  ((Ext.one w o).kept (fun _ _ => true)).cell h fun _ _ => rfl
theorem cl_other {w : World} {a : Addr} {u : Value} {b k : Nat} {v : Value} (h : w.cell? ⟨b, k, none⟩ = some v) (hne : b ≠ a.block) : (w.setCell a u).cell? ⟨b, k, none⟩ = some v :=
  (Kept.setCell (p := fun b _ => b != a.block) (W := w) (a := a) u (fun _ _ => by simp)).cell h fun _ _ => by simpa using hne
def Lk (w : World) (b : Nat) (o : Obj) : Prop := w.heap[b]? = some o
theorem Lk.new {w : World} {b : Nat} {o : Obj} (h : b = w.heap.size) : Lk (w.alloc o) b o := by subst h; exact World.alloc_heap_new _ _
theorem Lk.old {w : World} {b : Nat} {o o' : Obj} (h : Lk w b o) : Lk (w.alloc o') b o := (Below.heap_alloc w o' b (Array.getElem?_eq_some_iff.1 h).1).trans h
theorem Lk.other {w : World} {a : Addr} {v : Value} {b : Nat} {o : Obj} (h : Lk w b o) (hne : b ≠ a.block) : Lk (w.setCell a v) b o := (Below.heap_setCell w a v b hne).trans h
theorem Lk.same {w : World} {b : Nat} {x v : Value} {t : TypeId} (h : Lk w b (.cells #[x] t (0, 0))) : Lk (w.setCell ⟨b, 0, none⟩ v) b (.cells #[v] t (0, 0)) := by
  unfold Lk at *; rw [heap_setCell_same w b 0 _ _ v h]; simp
theorem CS.start {B bv bc g n : Nat} {r : Option Nat} {L : List Ob} {W : World} {mc : Array Value} (h1 : Lk W bv (.cells #[.pointer (some ⟨bc, 0, none⟩)] 25 (0, 0))) (h2 : Lk W bc (.cells #[.slice (some ⟨g, 0, none⟩) 0 n, .map r] 62 (0, 0))) (h3 : Lk W g (.cells mc 75 (0, 0)))
    (hm : mc.size = n) (hn : n ≤ 1024) (hr : MapN B r L W) (hv : B ≤ bv) (hc : B ≤ bc) (hg : B ≤ g) : CS B bv bc 0 (.slice (some ⟨g, 0, none⟩) 0 n) (.slice (some ⟨g, 0, none⟩) 0 n) r [] [] L W :=
  ⟨h1, h2, ⟨rfl, .inr ⟨g, n, mc, rfl, hg, h3, Nat.zero_le _, by unfold maxLen; omega, by simpa using hm, rfl⟩⟩, hr, rfl, rfl, rfl, by simp, by simp, by simp, by simp, hc, hv, by simp⟩
theorem MapN.low {B B' : Nat} {r : Option Nat} {L : List Ob} {W : World} (hB : B' ≤ B) (h : MapN B r L W) : MapN B' r L W := by
  rcases h with h | ⟨bm, D, h1, h2, h3, h4⟩
  · exact .inl h
  · exact .inr ⟨bm, D, h1, by omega, h3, h4⟩
theorem MapN.fresh {B : Nat} {r : Option Nat} {L : List Ob} {W : World} (h : MapN B r L W) : ∀ b, r = some b → b < W.heap.size := by
  rintro b rfl
  rcases h with ⟨h, _⟩ | ⟨bm, D, h1, _, h3, _⟩
  · cases h
  · cases h1
    obtain ⟨es, clock, hb, _⟩ := h3
    exact (Array.getElem?_eq_some_iff.1 hb).1
def Fresh (r : Option Nat) (w : World) : Prop := ∀ b, r = some b → b < w.heap.size
def noPanic (Q : Exit → Act → World → Prop) : Exit → Act → World → Prop
  | .panic _, _, _ => False
  | .outgrown, _, _ => False
  | .normal, a, w => Q .normal a w
  | .ret, a, w => Q .ret a w
  | .exit i, a, w => Q (.exit i) a w
  | .goto i, a, w => Q (.goto i) a w
theorem noPanic_le {Q : Exit → Act → World → Prop} : ∀ e a w, noPanic Q e a w → Q e a w
  | .normal, _, _, h => h
  | .ret, _, _, h => h
  | .exit _, _, _, h => h
  | .goto _, _, _, h => h
section
variable {own : Nat → Bool} {bh : Nat} {ps : List Nat} {L : List Ob} {W : World}
/-- What the operations give that lay one pointer more. -/
def GC (B bv bc k : Nat) (v : Value) (r : Option Nat) (ps : List Nat) (M L : List Ob) (x : Ob) (bx : Nat) (W : World) (f : Bool) : Nat → Value → World → Prop
  | 0, u, _ => u = .pointer (some ⟨bc, 0, none⟩)
  | 1, u, _ => u = .pointer (some ⟨bc, 0, none⟩)
  | 2, u, _ => u = .pointer (some ⟨bc, 0, none⟩)
  | 3, u, _ => u = .pointer (some ⟨bc, 0, none⟩)
  | 4, u, _ => u = v
  | 5, u, w => f = false → ∃ g, u = .slice (some ⟨g, 0, none⟩) 1 1 ∧ w.heap[g]? = some (.cells #[.pointer (some ⟨bx, 0, none⟩)] 75 (0, 0))
  | 6, u, w => ∃ A c, u = .slice A (k + 1) c ∧ CS B bv bc (k + 1) v u r (ps ++ [bx]) (M ++ [x]) L w ∧ Kept (fun b t => t.isNone || decide (b < B)) W w
  | _, _, _ => False
theorem ext_low {B : Nat} {W w w' : World} (h : Kept (fun b t => t.isNone || decide (b < B)) W w) (x : Ext w w') : Kept (fun b t => t.isNone || decide (b < B)) W w' := h.trans (x.kept _)
theorem GC.mono {B bv bc k bx : Nat} {v : Value} {r : Option Nat} {ps : List Nat} {M L : List Ob} {x : Ob} {W : World} : ∀ (f : Bool) (j : Nat) (u : Value) (w w' : World), GC B bv bc k v r ps M L x bx W f j u w → Ext w w' → GC B bv bc k v r ps M L x bx W f j u w'
  | _, 0, _, _, _, h, _ => h
  | _, 1, _, _, _, h, _ => h
  | _, 2, _, _, _, h, _ => h
  | _, 3, _, _, _, h, _ => h
  | _, 4, _, _, _, h, _ => h
  | _, 5, _, _, _, h, y => fun hf => by
    obtain ⟨g, h1, h2⟩ := h hf
    exact ⟨g, h1, (y.kept (fun _ _ => true)).same _ _ h2 rfl⟩
  | _, 6, _, _, _, ⟨A, c, h1, h2, h3⟩, y => ⟨A, c, h1, h2.ext y, ext_low h3 y⟩
  | _, _ + 7, _, _, _, h, _ => h
def InvC (bv bc : Nat) (v : Value) (w7 : World) (f : Bool) (w : World) : Prop := bv < w.heap.size ∧ bc < w.heap.size ∧ w.cell? ⟨bv, 0, none⟩ = some (.pointer (some ⟨bc, 0, none⟩)) ∧ w.cell? ⟨bc, 0, none⟩ = some v ∧ (f = false → Ext w7 w)
theorem InvC.mono {bv bc : Nat} {v : Value} {w7 : World} : ∀ (f : Bool) (w w' : World), InvC bv bc v w7 f w → Ext w w' → InvC bv bc v w7 f w' := fun _ _ _ ⟨h1, h2, h3, h4, h5⟩ x =>
  ⟨Nat.lt_of_lt_of_le h1 x.size, Nat.lt_of_lt_of_le h2 x.size, (x.kept (fun _ _ => true)).cell h3 fun _ _ => rfl, (x.kept (fun _ _ => true)).cell h4 fun _ _ => rfl, fun hf => (h5 hf).trans x⟩
set_option maxHeartbeats 4000000 in
set_option maxRecDepth 100000 in
theorem Copy_ok (h : PH own bh ps L W) :
    Calls Try.prog 12 #[.pointer (some ⟨bh, 0, none⟩)] W fun e W' => ∃ bc ps' M, e = .returned (.pointer (some ⟨bc, 0, none⟩)) ∧ Ext W W' ∧ PH (rng W.heap.size W'.heap.size) bc ps' M W' ∧ M.map Ob.key = L.map Ob.key := by
  obtain ⟨A, c, mv, h1, c0, c1⟩ := h.list
  have hmv : ∃ r0, mv = .map r0 := by
    obtain ⟨v9, mv9, q1, _, _, q4⟩ := h.ex
    rw [h1] at q1
    simp only [Option.some.injEq, Obj.cells.injEq, and_true] at q1
    have := congrArg Array.toList q1; simp at this
    obtain ⟨_, rfl⟩ := this
    rcases q4 with ⟨rfl, _⟩ | ⟨bm, D, rfl, _⟩ <;> exact ⟨_, rfl⟩
  obtain ⟨r0, rfl⟩ := hmv
  have hmp : ∀ w, Ext W w → MapV own (.map r0) L w := fun w hw => by
    obtain ⟨v9, mv9, q1, _, _, q4⟩ := h.ex
    rw [h1] at q1
    simp only [Option.some.injEq, Obj.cells.injEq, and_true] at q1
    have := congrArg Array.toList q1; simp at this
    obtain ⟨_, rfl⟩ := this
    exact q4.frame (hw.kept (fun _ _ => true)) fun _ _ _ => rfl
  have hbh := h.bl
  have hl := h.len
  have HH := Lib.hid h
  have HMP := Lib.hid hmp
  have H1 := Lib.hid h1
  obtain ⟨mc, hmcs, hmk⟩ : ∃ mc : Array Value, mc.size = L.length ∧ ∀ w, (Instr.makeSlice 59 (.int .i64 0) (.int .i64 (L.length : Int))).run Try.prog w = .ok (.slice (some ⟨w.heap.size, 0, none⟩) 0 L.length) (w.alloc (.cells mc 75)) := by
    obtain ⟨i0, hi0, hz0, hz1, hz2⟩ := infoParts infoP
    refine ⟨madeCells (Value.pointer none).cells (L.length * i0.size), by rw [hz1]; simp [madeCells], fun w => ?_⟩
    have hr := run_make (P := Try.prog) (w := w) 59 75 i0 (.pointer none) Try.underlying59 hi0 hz0 .i64 .i64 0 (L.length : Int) (by omega) (by omega) (by rw [hz2]; omega) (by omega)
    simpa using hr
  have HMC := Lib.hid hmcs
  clear hmcs
  have HE := Lib.hid (each_ok (some ⟨bh, 0, none⟩))
  clear h hmp h1
  refine (callsIn_wide (n := 3)).1 (callsIn_of_wp_marks (F := Fence.wide) Try.func12 rfl trivial ?_ rfl)
  simp only [Try.ntmps12, List.size_toArray, List.length_cons, List.length_nil, Nat.reduceAdd, Nat.reduceSub, Array.replicate_succ, Array.replicate_zero, List.push_toArray, List.append_toArray, List.nil_append, List.cons_append]
  refine wpIn_wide.2 ?_
  refine wp_mono (Q := noPanic (bodyPostM Fence.wide 3 Try.prog _ _)) ?_ noPanic_le
  generalize hQ : bodyPostM Fence.wide 3 Try.prog _ _ = Q
  have HQ := Lib.hid hQ
  clear hQ
  go_upto_region 3 with (fail)
  go_cut [3] from 7 to 37 (fun v3 wx => ∃ bv bc v r, v3 = .pointer (some ⟨bv, 0, none⟩) ∧ CS W.heap.size bv bc 0 v v r [] [] L wx ∧ Ext W wx ∧ Fresh r wx)
  case first =>
    have one := World.alloc_heap_new W
    have two := fun o o' => World.alloc_heap_new (W.alloc o) o'
    have old := fun o o' => (Below.heap_alloc (W.alloc o) o' W.heap.size (by simp)).trans (World.alloc_heap_new W o)
    simp only [World.size_alloc] at two
    have ONE := Lib.hid one
    have TWO := Lib.hid two
    have OLD := Lib.hid old
    clear one two old
    have n0 : ¬ bh = W.heap.size := by omega
    have n1 : ¬ bh = W.heap.size + 1 := by omega
    go_region_held3 (fun w' => w'.cell? ⟨bh, 0, none⟩ = some (.slice A L.length c) ∧ w'.cell? ⟨bh, 1, none⟩ = some (.map r0)) (first | go_keep | exact ⟨d0, d1⟩ | exact And.intro (by repeat (first | exact d0 | refine cl_old ?_ | refine cl_other ?_ (by first | (simp; done) | (simp; omega)))) (by repeat (first | exact d1 | refine cl_old ?_ | refine cl_other ?_ (by first | (simp; done) | (simp; omega))))) (first
      | (go_at_call 33; refine (mclone_any _ (HMP.out _ (by repeat (first | exact Ext.refl _ | refine Ext.trans ?_ (Ext.drew _) | refine Ext.trans ?_ (Ext.one _ _))))).mono ?_; rintro e w4 ⟨r', rfl, hx4, hm4⟩; have hxx : Ext W w4 := Ext.trans (by repeat (first | exact Ext.refl _ | refine Ext.trans ?_ (Ext.drew _) | refine Ext.trans ?_ (Ext.one _ _))) hx4; have d0 := (hxx.kept (fun _ _ => true)).cell c0 (fun _ _ => rfl); have d1 := (hxx.kept (fun _ _ => true)).cell c1 (fun _ _ => rfl); have lb4 : bh < w4.heap.size := (by have := hxx.size; omega); have HXX := Lib.hid hxx; have HX4 := Lib.hid hx4; have HM4 := Lib.hid (MapN.low (show Ext W _ from (by repeat (first | exact Ext.refl _ | refine Ext.trans ?_ (Ext.drew _) | refine Ext.trans ?_ (Ext.one _ _)))).size hm4);
          (try (have q0 : w4.heap[W.heap.size]? = some (.cells #[.pointer none] 25 (0, 0)) := (hx4.kept (fun _ _ => true)).same _ _ (by first | exact ONE.out _ | exact OLD.out _ _) rfl; have p0 : w4.cell? ⟨W.heap.size, 0, none⟩ = some (.pointer none) := (by simp [World.cell?, q0]); have f0 := frozen_of_row w4 W.heap.size 0 _ _ q0; have l0 := (Array.getElem?_eq_some_iff.1 q0).1; have Q0 := Lib.hid q0; clear q0));
          (try (have q1 : w4.heap[W.heap.size + 1]? = some (.cells #[.pointer none] 25 (0, 0)) := (hx4.kept (fun _ _ => true)).same _ _ (by exact TWO.out _ _) rfl; have p1 : w4.cell? ⟨W.heap.size + 1, 0, none⟩ = some (.pointer none) := (by simp [World.cell?, q1]); have f1 := frozen_of_row w4 (W.heap.size + 1) 0 _ _ q1; have l1 := (Array.getElem?_eq_some_iff.1 q1).1; have Q1 := Lib.hid q1; clear q1));
          (try (have q2 : w4.heap[W.heap.size]? = some (.cells mc 75 (0, 0)) := (hx4.kept (fun _ _ => true)).same _ _ (by first | exact ONE.out _ | exact OLD.out _ _) rfl; have l2 := (Array.getElem?_eq_some_iff.1 q2).1; have Q2 := Lib.hid q2; clear q2));
          (try (have q3 : w4.heap[W.heap.size + 1]? = some (.cells mc 75 (0, 0)) := (hx4.kept (fun _ _ => true)).same _ _ (by exact TWO.out _ _) rfl; have l3 := (Array.getElem?_eq_some_iff.1 q3).1; have Q3 := Lib.hid q3; clear q3));
          clear hx4 hm4 hxx))
    all_goals
      have z4 := HXX.out.size
      have z5 := HX4.out.size
      try simp at z5
      go_wp2_with fail
      go_meet
      case rel =>
        refine ⟨_, _, _, _, rfl, CS.start (by repeat (first | exact Lk.new (by simp) | exact Q0.out | exact Q1.out | exact Lk.same Q0.out | exact Lk.same Q1.out | refine Lk.old ?_ | refine Lk.other ?_ (by first | (simp; done) | (simp; omega)))) (by repeat (first | exact Lk.new (by simp) | refine Lk.old ?_ | refine Lk.other ?_ (by first | (simp; done) | (simp; omega)))) (by repeat (first | exact Lk.new (by simp) | exact Q2.out | exact Q3.out | refine Lk.old ?_ | refine Lk.other ?_ (by first | (simp; done) | (simp; omega)))) HMC.out hl ?_ ?_ ?_ ?_, ?_, ?_⟩
        · refine HM4.out.kept (p := fun _ t => t.isNone) ?_ fun _ _ => rfl
          repeat (first | exact Kept.refl _ _ | refine Kept.trans ?_ (Kept.alloc _ _ _) | refine Kept.trans ?_ (Kept.setCell _ fun o ho => by first | (have e := ho.symm.trans Q0.out; cases e; rfl) | (have e := ho.symm.trans Q1.out; cases e; rfl)))
        · omega
        · omega
        · omega
        · refine Kept.trans HXX.out ?_
          repeat (first | exact Kept.refl _ _ | refine Kept.trans ?_ (Kept.alloc _ _ _) | refine Kept.trans ?_ (Kept.setCell _ fun o ho => by simp [pOld]))
        · exact fun b hb => Nat.lt_of_lt_of_le (HM4.out.fresh b hb) (by simp <;> omega)
  case rest =>
    obtain ⟨bv, bc, v, r, rfl, hcs, hx, hfr⟩ := hcut
    have HCS := Lib.hid hcs
    have HX := Lib.hid hx
    have HFR := Lib.hid hfr
    clear hcs hx hfr c0 c1 hmk HMC
    go_wp2_with (go_at_call 34; refine (HE.out _).mono ?_; rintro e w5 ⟨rfl, rfl⟩)
    have hx5 : Ext W (wc.alloc (.cells #[.pointer (some ⟨bh, 0, none⟩)] 25)) := HX.out.trans (Ext.one _ _)
    have hcs5 := HCS.out.ext (Ext.one wc (.cells #[.pointer (some ⟨bh, 0, none⟩)] 25))
    have hbl5 : (wc.alloc (.cells #[.pointer (some ⟨bh, 0, none⟩)] 25)).heap[wc.heap.size]? = some (.cells #[.pointer (some ⟨bh, 0, none⟩)] 25 (0, 0)) := World.alloc_heap_new _ _
    have hfr5 : ∀ b, r = some b → b < (wc.alloc (.cells #[.pointer (some ⟨bh, 0, none⟩)] 25)).heap.size := fun b hb => by have := HFR.out b hb; simp; omega
    generalize wc.alloc (.cells #[.pointer (some ⟨bh, 0, none⟩)] 25) = w5 at *
    have hlow : ∀ g, (Value.slice A L.length c).ownBlock = some g → g < W.heap.size := fun g hg => by
      obtain ⟨v9, mv9, q1, q2, q3, _⟩ := HH.out.ex
      rw [H1.out] at q1
      simp only [Option.some.injEq, Obj.cells.injEq, and_true] at q1
      have := congrArg Array.toList q1; simp at this
      obtain ⟨rfl, _⟩ := this
      exact HH.out.lt g (q3 g hg)
    have hseq := each_seq (K := fun _ b _ => decide (b < W.heap.size)) (HH.out.ext hx5) ((hx5.kept (fun _ _ => true)).same _ _ H1.out rfl) hbl5 (fun _ g hg => by simpa using hlow g hg)
    have hsz5 := hx5.size
    have HX5 := Lib.hid hx5
    have HCS5 := Lib.hid hcs5
    have HFR5 := Lib.hid hfr5
    clear hx5 hcs5 hbl5 hfr5 hlow HCS HX HFR HE HMP
    rename_i K9 hK9
    refine wpIn_wide.1 (range_q (n := 3) (gf := 46) (lb := #[.pointer (some ⟨wc.heap.size, 0, none⟩)]) rfl egEach hseq (fun k x W' hx => by rw [hx]; rfl)
      (fun k W' => ∃ v ps' M, CS W.heap.size bv bc k v v r ps' M L W' ∧ Ext W W')
      (fun _ _ _ => False)
      (fun s X Y h k => by
        obtain ⟨v, ps', M, h1, h2⟩ := h
        exact ⟨v, ps', M, h1.of k (fun b t _ _ => by simp [pR]) (fun b hb _ => by have := HFR5.out b hb; simp [pR, this]), Kept.trans h2 (k.mono fun b t _ hp => by simp [pOld] at hp; simp [pR]; left; omega)⟩)
      (fun c s X Y h k => h)
      ⟨v, [], [], HCS5.out, HX5.out⟩
      (fun k x a' W' => a' = ⟨#[.pointer (some ⟨bh, 0, none⟩), undef, .pointer none, .pointer (some ⟨bv, 0, none⟩), undef, .pointer (some ⟨pt ps k, 0, none⟩), undef, u7, u8, u9, u10, u11, u12, u13, u14, u15, u16, u17, u18, u19, u20, u21, .pointer (some ⟨bh, 0, none⟩), .func (.func 46) #[] #[.pointer (some ⟨wc.heap.size, 0, none⟩)], .int .i64 ((k : Int) + 1), .pointer (some ⟨pt ps k, 0, none⟩), u26, u27, u28, u29, u30, u31, u32, u33, u34, u35, u36, u37], []⟩)
      (fun k x a' X Y h _ => h)
      ?assign ?body ?done ?stop)
    case assign =>
      rintro lq k x W' C hk rfl hI hC
      have HC := Lib.hid hC
      have HI := Lib.hid hI
      clear hC hI
      gi_wp2
      exact HC.out _ _ (Kept.refl _ _) HI.out rfl
    case body =>
      rintro lq k x a' W' hlq hk ⟨v, ps', M, h1, h2⟩ rfl
      have hph := HH.out.ext h2
      have HAP := Lib.hid (apart_ok (nt L k) (nt L k).nth _ (hph.bo k hk) (hph.vs k hk) (hph.wid k hk))
      have HCK := Lib.hid h1
      have HXK := Lib.hid h2
      clear h1 h2 hph hseq
      gi_wp2
      refine ⟨trivial, calls_any (HAP.out.mono ?_)⟩
      rintro e w6 ⟨A2, c2, rfl, hx6, ho6⟩
      have HX6 := Lib.hid hx6
      have HO6 := Lib.hid ho6
      clear hx6 ho6
      gi_wp2
      obtain ⟨w7, hw7⟩ : ∃ w7, w7 = w6.alloc (.cells #[.int .i64 (nt L k).kind, .int .i64 (nt L k).of, .slice A2 (nt L k).vals.length c2, .int .i64 (nt L k).site, .int .i64 (nt L k).by', .int .i64 (nt L k).nth] 45) := ⟨_, rfl⟩
      rw [← hw7]
      have hx7 : Ext W' w7 := by rw [hw7]; exact HX6.out.trans (Ext.one _ _)
      have hb7 : w7.heap[w6.heap.size]? = some (obo { nt L k with v := .slice A2 (nt L k).vals.length c2 } (nt L k).nth) := by rw [hw7]; exact World.alloc_heap_new _ _
      have ho7 := ((show Ext w6 w7 by rw [hw7]; exact Ext.one _ _).kept (fun _ _ => true)).row HO6.out fun _ _ => rfl
      have h7 := HCK.out.ext hx7
      obtain ⟨A5, c5, rfl⟩ := own_slice3 h7.row
      obtain ⟨x, hx⟩ : ∃ x : Ob, x = { nt L k with v := .slice A2 (nt L k).vals.length c2 } := ⟨_, rfl⟩
      have hb7' : w7.heap[w6.heap.size]? = some (obo x x.nth) := by rw [hx]; exact hb7
      have ho7' : w7.ownsRow W'.heap.size 2 1 x.v x.vals.length (rowI x.vals) := by rw [hx]; exact ho7
      have hkx : x.key = (nt L k).key := by rw [hx]; rfl
      have hwx : x.vals.length ≤ 256 := by rw [hx]; exact HH.out.wid k hk
      have b0 : w7.cell? ⟨bv, 0, none⟩ = some (.pointer (some ⟨bc, 0, none⟩)) := by simp [World.cell?, h7.vb]
      have b1 : w7.cell? ⟨bc, 0, none⟩ = some (.slice A5 k c5) := by simp [World.cell?, h7.hb]
      have lv := (Array.getElem?_eq_some_iff.1 h7.vb).1
      have lc := (Array.getElem?_eq_some_iff.1 h7.hb).1
      have hle7 := h7.le
      obtain ⟨i0, hi0, hz0, hz1, hz2⟩ := infoParts infoP
      have HX7 := Lib.hid hx7
      have HB7 := Lib.hid hb7'
      have HO7 := Lib.hid ho7'
      have HKX := Lib.hid hkx
      have HWX := Lib.hid hwx
      clear hx7 hb7 hb7' ho7 ho7' hkx hwx hx hw7
      refine region_grow_in (n := 7) (s := 6) (by kernel_rfl) (GC W.heap.size bv bc k (.slice A5 k c5) r ps' M L x w6.heap.size W') (InvC bv bc (.slice A5 k c5) w7) rfl ⟨lv, lc, b0, b1, fun _ => Ext.drew _⟩ (by kernel_rfl) (RgOps.of (z := 38) (by kernel_rfl) rfl GC.mono InvC.mono ?op ?sp) ?fin
      case op =>
        intro i o hi hs ho f a' w' hF hX hD K hK
        have e3 : a'.tmps.getD 3 undef = .pointer (some ⟨bv, 0, none⟩) := hF.2.2 3 (by kernel_rfl)
        have e6 : a'.tmps.getD 6 undef = .pointer (some ⟨w6.heap.size, 0, none⟩) := hF.2.2 6 (by kernel_rfl)
        have e6' : a'.tmps[6]?.getD undef = .pointer (some ⟨w6.heap.size, 0, none⟩) := by simpa using e6
        obtain ⟨i1, i2, i3, i4, _⟩ := hX
        match i, hi with
        | n + 6, h => exact absurd (show n + 6 = 6 by omega) hs
        | 0, _ =>
          obtain rfl := Option.some.inj (show some _ = some o from ho)
          clear ho hD
          go_simp
          exact hK _ _ rfl (Ext.refl _)
        | 1, _ =>
          obtain rfl := Option.some.inj (show some _ = some o from ho)
          clear ho hD
          go_simp
          exact hK _ _ rfl (Ext.refl _)
        | 2, _ =>
          obtain rfl := Option.some.inj (show some _ = some o from ho)
          obtain ⟨d, hd, hG⟩ := hD _ (Array.mem_of_getElem? (i := 0) rfl) rfl
          cases hd
          replace hG : a'.tmps.getD 29 undef = _ := hG
          clear ho hD
          go_simp
          exact hK _ _ rfl (Ext.refl _)
        | 3, _ =>
          obtain rfl := Option.some.inj (show some _ = some o from ho)
          obtain ⟨d, hd, hG⟩ := hD _ (Array.mem_of_getElem? (i := 0) rfl) rfl
          cases hd
          replace hG : a'.tmps.getD 30 undef = _ := hG
          clear ho hD
          go_simp
          exact hK _ _ rfl (Ext.refl _)
        | 4, _ =>
          obtain rfl := Option.some.inj (show some _ = some o from ho)
          obtain ⟨d, hd, hG⟩ := hD _ (Array.mem_of_getElem? (i := 0) rfl) rfl
          cases hd
          replace hG : a'.tmps.getD 31 undef = _ := hG
          clear ho hD
          go_simp
          exact hK _ _ rfl (Ext.refl _)
        | 5, _ =>
          obtain rfl := Option.some.inj (show some _ = some o from ho)
          clear ho hD
          go_simp
          exact hK _ _ (fun _ => ⟨_, rfl, World.alloc_heap_new _ _⟩) (Ext.one _ _)
      case sp =>
        intro o hs ho a' w' hF hX hD K hK
        obtain rfl := Option.some.inj (show some _ = some o from ho)
        obtain ⟨d, hd, hG4⟩ := hD _ (Array.mem_of_getElem? (i := 0) rfl) rfl
        cases hd
        replace hG4 : a'.tmps.getD 32 undef = .slice A5 k c5 := hG4
        obtain ⟨d, hd, hG5⟩ := hD _ (Array.mem_of_getElem? (i := 1) rfl) rfl
        cases hd
        obtain ⟨g, e33, hg⟩ := hG5 rfl
        replace e33 : a'.tmps.getD 33 undef = .slice (some ⟨g, 0, none⟩) 1 1 := e33
        obtain ⟨i1, i2, i3, i4, i5⟩ := hX
        have hx9 := i5 rfl
        have h9 := HCK.out.ext (HX7.out.trans hx9)
        have hs9 : W.heap.size ≤ w'.heap.size := (HXK.out.trans (HX7.out.trans hx9)).size
        refine wp_append_any _ _ 59 rfl W.heap.size 75 i0 (.pointer none) 1 8 Try.underlying59 hi0 hz0 hz1 hz2 rfl (by omega) (.slice A5 k c5) k (rowP ps') hG4 h9.row (.slice (some ⟨g, 0, none⟩) 1 1) 1 [.pointer (some ⟨w6.heap.size, 0, none⟩)] e33 rfl (.inr ⟨_, _, rfl, World.news_of_block hg⟩) (by simp [Value.oneCell']) (by unfold maxLen; omega) (by omega) hs9 (k + 1) rfl (rowP (ps' ++ [w6.heap.size])) (by simp [rowP]) ?_
        intro A8 c8 w8 hown8 hgrow8 _
        obtain ⟨q1, q2⟩ := HCK.out.app hk hl x w6.heap.size HKX.out (HX7.out.trans hx9) ((hx9.kept (fun _ _ => true)).same _ _ HB7.out rfl) HX6.out.size ((hx9.kept (fun _ _ => true)).row HO7.out fun _ _ => rfl) HWX.out HXK.out.size hgrow8 hown8
        refine hK _ _ ⟨A8, c8, rfl, q1, q2⟩ ⟨Nat.lt_of_lt_of_le i1 hgrow8.size, Nat.lt_of_lt_of_le i2 hgrow8.size, by simp [World.cell?, q1.vb], by simp [World.cell?, q1.hb], fun h => by cases h⟩ fun j u hj h => ?_
        match j with
        | 0 => exact h
        | 1 => exact h
        | 2 => exact h
        | 3 => exact h
        | 4 => exact h
        | 5 => exact fun h => by cases h
        | 6 => exact absurd rfl hj
        | n + 7 => exact h
      case fin =>
        intro a' w' hF hX hG
        obtain ⟨d, hd, hG0⟩ := hG 0 (by omega)
        cases hd
        replace hG0 : a'.tmps.getD 28 undef = .pointer (some ⟨bc, 0, none⟩) := hG0
        obtain ⟨d, hd, hG6⟩ := hG 6 (by omega)
        cases hd
        obtain ⟨A8, c8, e34, q1, q2⟩ := hG6
        replace e34 : a'.tmps.getD 34 undef = .slice A8 (k + 1) c8 := e34
        have e34c : a'.tmps.getD 34 undef = .slice A8 (k + 1) c8 := e34
        rw [e34c] at q1
        have e34' : a'.tmps[34]?.getD undef = .slice A8 (k + 1) c8 := by simpa using e34
        have hsz : a'.tmps.size = 38 := hF.2.1
        have hb34 : 34 < a'.tmps.size := by omega
        have e34'' : a'.tmps[34] = .slice A8 (k + 1) c8 := by simpa [hb34] using e34
        have d0 : w'.cell? ⟨bc, 0, none⟩ = some (.slice A5 k c5) := by simp [World.cell?, q1.hb]
        have f8 := frozen_of_row w' bc 0 _ _ q1.hb
        have l8 := (Array.getElem?_eq_some_iff.1 q1.hb).1
        simp only [List.drop_succ_cons, List.drop_zero]
        gi_wp2
        have q3 : Kept (fun b t => t.isNone || decide (b < W.heap.size)) W' (w'.setCell ⟨bc, 0, none⟩ (.slice A8 (k + 1) c8)) := q2.trans (Kept.setCell _ fun o ho => by rw [q1.hb] at ho; cases ho; simpa [tag] using q1.bcB)
        refine ⟨q3.mono fun b t _ hp => ?_, ⟨_, _, _, q1.store⟩, Kept.trans HXK.out (q3.mono fun b t _ hp => by simp [pOld] at hp; simp [hp])⟩
        cases t with
        | none => simp
        | some t => simpa [pK] using hp
    case done =>
      rintro W' ⟨v, ps', M, h1, h2⟩ hD
      simp only [Exit.inBlock, Exit.then]
      refine hK9 _ _ ?_
      have c3 : W'.cell? ⟨bv, 0, none⟩ = some (.pointer (some ⟨bc, 0, none⟩)) := by simp [World.cell?, h1.vb]
      have HDD := Lib.hid hD
      have HC1 := Lib.hid h1
      have HX1 := Lib.hid h2
      clear h1 h2 hD hseq
      go_wp2_with fail
      show Q _ _ _
      rw [← HQ.out]
      refine leave1 HDD.out ⟨.pointer (some ⟨bc, 0, none⟩), by simp [results, Try.results12, go_sem], bc, ps', M, rfl, Kept.trans HX1.out (Kept.putObj fun o ho => by simp [pOld]; omega), ?_⟩
      have hd := HC1.out.of (W' := W'.putObj w5.heap.size (.deferred none)) (p := fun b t => t.isSome || decide (b < w5.heap.size)) (Kept.putObj fun o ho => by rw [dtag HDD.out o ho]; simp) (fun b t _ _ => by simp) (fun b hb _ => by have := HFR5.out b hb; simp [this])
      exact hd.done
    case stop =>
      rintro c k W' hk hf hD
      exact hf.elim
end
end Go.Proofs.Ytjgggfickbbieaa
