/- What lay is about to lay; its stack while kids are put on it. -/
import Derived.Test.YthgpepkcjjimlaaLayD
import Derived.RangeFuncFrom
import Derived.Maps.AppendAt
namespace Go.Proofs.Ythgpepkcjjimlaa
open Go.RowKit Go.Shelf

def RetL (n₀ : Nat) (w₀ : World) (L : List Tw) (e : Ending) (w' : World) : Prop := ∃ lv ks, e = .returned (.agg #[lv]) ∧ Laid n₀ w' lv L ks ∧ Below n₀ w₀ w'
theorem infoPd : (Try.prog.info? 59).map (fun i => (i.zero, i.size, i.bytes)) = some (some (.agg #[.int .i64 0, .int .i64 0]), 2, 16) := by kernel_rfl

/-- What is still to be laid, and what comes of it. -/
structure LP (tw Fin : List Tw) (n : Nat) (L : List Tw) (S : List Pd) : Prop where
  ins : ∀ p ∈ S, InP tw p
  ups : ∀ p ∈ S, 0 ≤ p.up → p.up.toNat < L.length
  fin : layS n L S = Fin
  cnt : todo S = n
  len : L.length + n = tw.length
  kb : ∀ t ∈ L, t.kids.length ≤ L.length
theorem addK_kids (L : List Tw) (u : Int) (x : Int) : ∀ t ∈ addK L u [x], ∃ t0 ∈ L, t.kids.length ≤ t0.kids.length + 1 := by
  intro t ht
  unfold addK at ht
  split at ht
  · obtain ⟨j, hj, rfl⟩ := List.getElem_of_mem ht
    have hl : j < L.length := by simpa using hj
    refine ⟨L[j], List.getElem_mem _, ?_⟩
    rw [List.getElem_modify]
    split
    · simp
    · omega
  · exact ⟨t, ht, by omega⟩
/-- A twig among those that are given. -/
theorem tw_at {w : World} {X : List Nat} : ∀ {tw : List Tw} {xs : List Value} {i : Nat} {t : Tw}, Tws w X tw xs → tw[i]? = some t → ∃ kv, IntRow w X kv t.kids ∧ ∀ o u, (twCells t kv)[o]? = some u → xs[i * 6 + o]? = some u
  | [], _, _, _, _, h => by simp at h
  | t :: tw, xs, 0, t', ⟨kv, ys, e, h1, _⟩, h => by
    simp at h; subst h e
    exact ⟨kv, h1, fun o u ho => by rw [List.getElem?_append_left (by have := (List.getElem?_eq_some_iff.1 ho).1; simpa using this)]; simpa using ho⟩
  | t :: tw, xs, i + 1, t', ⟨kv, ys, e, _, h2⟩, h => by
    obtain ⟨kv', h3, h4⟩ := tw_at h2 (i := i) (by simpa using h)
    subst e
    refine ⟨kv', h3, fun o u ho => ?_⟩
    have e2 : (i + 1) * 6 + o = 6 + (i * 6 + o) := by omega
    rw [e2, List.getElem?_append_right (by simp [twCells])]
    simpa [twCells] using h4 o u ho
theorem tw_src {w : World} {X : List Nat} {base vn vc : Nat} {vA : Option Addr} {tw : List Tw} {xs : List Value} {i : Nat} {t : Tw} (ho : w.ownsRow base 63 6 (.slice vA vn vc) tw.length xs) (ht : Tws w X tw xs) (hi : tw[i]? = some t) :
    vn = tw.length ∧ i < vn ∧ ∃ g kv, vA = some ⟨g, 0, none⟩ ∧ g < w.heap.size ∧ IntRow w X kv t.kids ∧ ∀ o u, (twCells t kv)[o]? = some u → w.cell? ⟨g, i * 6 + o, none⟩ = some u := by
  have hlt : i < tw.length := (List.getElem?_eq_some_iff.1 hi).1
  obtain ⟨kv, h1, h2⟩ := tw_at ht hi
  rcases id ho.2 with ⟨h0, hn⟩ | ⟨g, cap, cur, hv, _, hh, _⟩
  · omega
  · injection hv with e1 e2 e3
    refine ⟨e2, by omega, g, kv, e1, lt_of_block hh, h1, fun o u hu => ?_⟩
    have hc := ho.cells (g := g) (by rw [e1]; rfl) (i * 6 + o) u (h2 o u hu)
    have ha : ∀ j, (⟨g, 0, none⟩ : Addr).add j = ⟨g, j, none⟩ := fun j => by unfold Addr.add; split <;> simp_all
    rw [ha] at hc
    exact hc
/-- Where the ways meet: the laid twig's parent has its kid. -/
def CutR (w : World) (lA : Option Addr) (lc : Nat) (L : List Tw) (sb : Nat) (sv : Value) (p : Pd) (S : List Pd) (Ds : List Nat) (b5 : Nat) (wx : World) : Prop :=
  ∃ ks, LS w.heap.size (.slice lA L.length lc) (addK L p.up [(L.length : Int)]) ks sb sv S Ds wx ∧ Lo (Mine w.heap.size (.slice lA L.length lc) ks sb sv Ds) wx b5 (.cells #[.int .i64 (p.i : Int), .int .i64 p.up] 59) ∧
    Lo (Mine w.heap.size (.slice lA L.length lc) ks sb sv Ds) wx (b5 + 1) (.cells #[.int .i64 (L.length : Int)] 3) ∧ Below w.heap.size w wx
def mark (D : Nat) : Deferred := { target := .collected D, args := #[] }
theorem LP.first (d : Nd) (k : Fo) (tw : List Tw) (h : tw = (one d k).post 0) : LP tw ((one d k).flat 0) (k.size + 1) [] [⟨d, k, k.size, -1⟩] := by
  subst h
  refine ⟨fun p hp => ?_, fun p hp => ?_, layS_all d k, rfl, ?_, by simp⟩
  · exact inP_pds _ (-1) (one d k) 0 (fun j t h => by simpa using h) p (by simpa [one, Fo.pds] using hp)
  · simp at hp; subst hp; intro h; simp at h
  · rw [Fo.post_len, one_size]; simp
theorem LP.step {tw Fin : List Tw} {n : Nat} {L : List Tw} {p : Pd} {S : List Pd} (h : LP tw Fin n L (p :: S)) : ∃ n', n' < n ∧ LP tw Fin n' (addK L p.up [(L.length : Int)] ++ [p.d.tw []]) (p.k.pds L.length (p.i - p.k.size) ++ S) := by
  obtain ⟨n', rfl⟩ : ∃ n', n = n' + 1 := ⟨n - 1, by have := h.cnt; simp [todo] at this; omega⟩
  have hl : (addK L p.up [(L.length : Int)] ++ [p.d.tw []]).length = L.length + 1 := by simp [addK_len]
  have hp := h.ins p (.head _)
  refine ⟨n', by omega, fun q hq => ?_, fun q hq => ?_, h.fin, ?_, by rw [hl]; have := h.len; omega, fun t ht => ?_⟩
  · rcases List.mem_append.1 hq with hq | hq
    · exact inP_pds tw _ _ _ hp.2.2 q hq
    · exact h.ins q (.tail _ hq)
  · rw [hl]
    rcases List.mem_append.1 hq with hq | hq
    · rw [ups_pds _ _ _ q hq]; intro _; omega
    · intro h0; have := h.ups q (.tail _ hq) h0; omega
  · have := h.cnt
    rw [todo_app, todo_pds]
    simp [todo] at this; omega
  · rw [hl]
    rcases List.mem_append.1 ht with ht | ht
    · obtain ⟨t0, h0, h1⟩ := addK_kids _ _ _ t ht
      have := h.kb t0 h0
      omega
    · simp at ht; subst ht; simp [Nd.tw]

theorem LS.begin (w w1 : World) (vn : Nat) (d : Nd) (k : Fo) (hn : vn = k.size + 1) (hown1 : w1.ownsRow w.heap.size 63 6 (.slice (some ⟨(w.alloc (.cells #[.slice none 0 0] 30)).heap.size, 0, none⟩) 0 vn) 0 []) (hgrow1 : (w.alloc (.cells #[.slice none 0 0] 30)).grownBy w1 none) :
    LS w.heap.size (.slice (some ⟨w.heap.size + 1, 0, none⟩) 0 vn) [] [] (w1.heap.size + 1) (.slice (some ⟨w1.heap.size, 0, none⟩) 1 1) [⟨d, k, k.size, -1⟩] [] ((w1.alloc (.cells #[.int .i64 ((vn : Int) - 1), .int .i64 (-1)] 59)).alloc (.cells #[.slice (some ⟨w1.heap.size, 0, none⟩) 1 1] 60)) ∧
    Below w.heap.size w ((w1.alloc (.cells #[.int .i64 ((vn : Int) - 1), .int .i64 (-1)] 59)).alloc (.cells #[.slice (some ⟨w1.heap.size, 0, none⟩) 1 1] 60)) := by
  have hs : (w.alloc (.cells #[.slice none 0 0] 30)).heap.size = w.heap.size + 1 := by simp
  have hs1 := hgrow1.size
  have hb1 : Below w.heap.size w w1 := ((Below.refl _ w).alloc (Nat.le_refl _) _).trans ⟨hgrow1.os, hgrow1.tape, hgrow1.output, hgrow1.size, fun b hb => hgrow1.block b (by omega) (by simp)⟩
  have hres : w1.heap[w.heap.size]? = some (.cells #[.slice none 0 0] 30 (0, 0)) := (hgrow1.block _ (by omega) (by simp)).trans (heap_alloc_new w _)
  rw [hs] at hown1
  have e1 : ((vn : Int) - 1) = (k.size : Int) := by omega
  rw [e1]
  have hst : (w1.alloc (.cells #[.int .i64 (k.size : Int), .int .i64 (-1)] 59)).ownsRow w.heap.size 59 2 (.slice (some ⟨w1.heap.size, 0, none⟩) 1 1) 1 (pdCells [⟨d, k, k.size, -1⟩]) :=
    ⟨rfl, .inr ⟨_, 1, _, rfl, by omega, heap_alloc_new w1 _, Nat.le_refl _, by unfold maxLen; omega, rfl, rfl⟩⟩
  have hz : ∀ o o', (w1.alloc o).alloc o' = (w1.alloc o).alloc o' := fun _ _ => rfl
  refine ⟨⟨⟨(hown1.alloc _).alloc _, rfl, by simp, by simp⟩, ?_, by omega, hst.alloc _, ?_, List.nodup_nil, by simp⟩, (hb1.alloc (by omega) _).alloc (by simp; omega) _⟩
  · have := heap_alloc_new (w1.alloc (.cells #[.int .i64 (k.size : Int), .int .i64 (-1)] 59)) (.cells #[.slice (some ⟨w1.heap.size, 0, none⟩) 1 1] 60)
    simpa using this
  · rw [heap_alloc_old _ _ _ (by simp; omega), heap_alloc_old _ _ _ (by omega)]
    exact hres


theorem cut_base {n₀ : Nat} {lv : Value} {L : List Tw} {ks : List Value} {sb : Nat} {S : List Pd} {Ds : List Nat} {w wr : World} {p : Pd} {g cap : Nat} (h : LS n₀ lv L ks sb (.slice (some ⟨g, 0, none⟩) (S.length + 1) cap) (p :: S) Ds wr) (hb : Below n₀ w wr) (hn : n₀ ≤ wr.heap.size) (x : Int) {W : World}
    (hW : W = ((wr.setCell ⟨sb, 0, none⟩ (.slice (some ⟨g, 0, none⟩) S.length cap)).alloc (.cells #[.int .i64 (p.i : Int), .int .i64 p.up] 59)).alloc (.cells #[.int .i64 x] 3)) :
    LS n₀ lv L ks sb (.slice (some ⟨g, 0, none⟩) S.length cap) S Ds W ∧ Lo (Mine n₀ lv ks sb (.slice (some ⟨g, 0, none⟩) S.length cap) Ds) W wr.heap.size (.cells #[.int .i64 (p.i : Int), .int .i64 p.up] 59) ∧ Lo (Mine n₀ lv ks sb (.slice (some ⟨g, 0, none⟩) S.length cap) Ds) W (wr.heap.size + 1) (.cells #[.int .i64 x] 3) ∧ Below n₀ w W := by
  subst hW
  obtain ⟨h1, s1⟩ := h.pop
  have hs : (wr.setCell ⟨sb, 0, none⟩ (.slice (some ⟨g, 0, none⟩) S.length cap)).heap.size = wr.heap.size := by simp [World.setCell]
  have hb1 := s1.low hb (fun b hb => (h.bnd hb).1) hn
  generalize wr.setCell ⟨sb, 0, none⟩ (.slice (some ⟨g, 0, none⟩) S.length cap) = w1 at h1 hs hb1 ⊢
  have h2 := h1.after ((Below.refl _ w1).alloc (Nat.le_refl _) (.cells #[.int .i64 (p.i : Int), .int .i64 p.up] 59))
  have l5 := h1.lo (.cells #[.int .i64 (p.i : Int), .int .i64 p.up] 59) wr.heap.size hs.symm
  have hb2 := hb1.alloc (Nat.le_trans hn (by omega)) (.cells #[.int .i64 (p.i : Int), .int .i64 p.up] 59)
  have hs2 : (w1.alloc (.cells #[.int .i64 (p.i : Int), .int .i64 p.up] 59)).heap.size = wr.heap.size + 1 := by simp [hs]
  generalize w1.alloc (.cells #[.int .i64 (p.i : Int), .int .i64 p.up] 59) = w2 at h2 l5 hb2 hs2 ⊢
  have hbe := (Below.refl _ w2).alloc (Nat.le_refl _) (.cells #[.int .i64 x] 3)
  exact ⟨h2.after hbe, l5.step (n₀ := n₀) (.of hbe), h2.lo _ _ hs2.symm, hb2.alloc (by omega) _⟩
theorem addK_neg (L : List Tw) (u : Int) (xs : List Int) (h : u < 0) : addK L u xs = L := by unfold addK; rw [if_neg (by omega)]
/-- The cells of a laid twig's kids. -/
theorem Laid.kcell {n₀ : Nat} {w : World} {lA : Option Addr} {ln lc : Nat} {L : List Tw} {ks : List Value} (h : Laid n₀ w (.slice lA ln lc) L ks) {i : Nat} {t : Tw} (ht : L[i]? = some t) :
    ∃ gl kA kc, lA = some ⟨gl, 0, none⟩ ∧ gl < w.heap.size ∧ ks[i]? = some (.slice kA t.kids.length kc) ∧ w.cell? ⟨gl, i * 6 + 5, none⟩ = some (.slice kA t.kids.length kc) ∧ (∀ j, w.frozen? ⟨gl, j, none⟩ = false) ∧ w.ownsRow n₀ 3 1 (.slice kA t.kids.length kc) t.kids.length (t.kids.map (Value.int .i64)) := by
  have hi : i < L.length := (List.getElem?_eq_some_iff.1 ht).1
  have hik : i < ks.length := by rw [h.len]; exact hi
  have hk := h.kid i _ _ ht (List.getElem?_eq_getElem hik)
  obtain ⟨kA, kc, hkv⟩ := own_form hk
  rcases id h.row.2 with ⟨_, h0⟩ | ⟨g, cap, cur, hv, _, hh, _⟩
  · omega
  · injection hv with e1 e2 e3
    have hc := h.row.cells (g := g) (by rw [e1]; rfl) (i * 6 + 5) _ ((lcells_get L ks i _ _ ht (List.getElem?_eq_getElem hik) 5 (by omega)).trans rfl)
    have ha : ∀ j, (⟨g, 0, none⟩ : Addr).add j = ⟨g, j, none⟩ := fun j => by unfold Addr.add; split <;> simp_all
    rw [ha] at hc
    rw [hkv] at hc hk
    exact ⟨g, kA, kc, e1, lt_of_block hh, by rw [List.getElem?_eq_getElem hik, hkv], hc, fun j => by simp [World.frozen?, hh], hk⟩
/-- The kids that are on the stack so far. -/
def PushI (n₀ : Nat) (sb : Nat) (sv : Value) (xs : List Value) (k0 : Nat) (at0 : Int) (W0 : World) (pre : List (Int × Int)) (W : World) : Prop :=
  ∃ sv', W.heap[sb]? = some (.cells #[sv'] 60 (0, 0)) ∧ W.ownsRow n₀ 59 2 sv' (k0 + pre.length) (xs ++ pre.flatMap fun x => [.int .i64 x.2, .int .i64 at0]) ∧ Kp sb sv W0 sv' W
theorem pushI_own {n₀ sb : Nat} {sv : Value} {xs : List Value} {k0 : Nat} {at0 : Int} {W0 : World} : OwnFrom W0.heap.size (PushI n₀ sb sv xs k0 at0 W0) := by
  rintro s A B row ⟨sv', h1, h2, h3⟩ hg hr
  have hkeep : ∀ (b : Nat) (cs : Array Value) (t : TypeId) (m : Nat × Nat), A.heap[b]? = some (Obj.cells cs t m) → B.heap[b]? = A.heap[b]? := fun b cs t m hb => hg.block b (lt_of_block hb) fun e => by
    obtain ⟨_, o, ho, hc⟩ := hr b e.symm
    rw [hb] at ho; cases ho; cases hc
  refine ⟨sv', (hkeep _ _ _ _ h1).trans h1, ownsRow_keep h2 fun g hgo => ?_, ⟨hg.os.trans h3.os, hg.tape.trans h3.tape, hg.output.trans h3.output, Nat.le_trans h3.size hg.size, fun b hb h4 h5 => (hg.block b (Nat.lt_of_lt_of_le hb h3.size) fun e => ?_).trans (h3.block b hb h4 h5), h3.own⟩⟩
  · obtain ⟨cur, hc⟩ := own_type h2 g hgo
    exact hkeep _ _ _ _ hc
  · have := (hr b e.symm).1; omega
theorem pushI_nil {n₀ : Nat} {lv : Value} {L : List Tw} {ks : List Value} {sb : Nat} {sv : Value} {S : List Pd} {Ds : List Nat} {W0 : World} (h : LS n₀ lv L ks sb sv S Ds W0) (at0 : Int) : PushI n₀ sb sv (pdCells S.reverse) S.length at0 W0 [] W0 :=
  ⟨sv, h.box, by simpa using h.st, .refl _ _ _⟩
/-- One kid more on the stack. -/
theorem PushI.step {n₀ sb k0 : Nat} {sv sv' sv'' : Value} {xs : List Value} {at0 : Int} {W0 W W1 w1 : World} {pre : List (Int × Int)} {x : Int × Int} (hsb : sb < W0.heap.size) (h1 : W.heap[sb]? = some (.cells #[sv'] 60 (0, 0))) (h3 : Kp sb sv W0 sv' W) (h2 : W.ownsRow n₀ 59 2 sv' (k0 + pre.length) (xs ++ pre.flatMap fun x => [.int .i64 x.2, .int .i64 at0]))
    (hB : Below W.heap.size W W1) (hK : KeepsOthers W W1) (hg : W1.grownBy w1 sv'.ownBlock) (ho : w1.ownsRow n₀ 59 2 sv'' (k0 + pre.length + 1) ((xs ++ pre.flatMap fun x => [.int .i64 x.2, .int .i64 at0]) ++ [.int .i64 x.2, .int .i64 at0])) (hat : ∀ g, sv''.ownBlock = some g → sv'.ownBlock = some g ∨ W.heap.size ≤ g) :
    PushI n₀ sb sv xs k0 at0 W0 (pre ++ [x]) (w1.setCell ⟨sb, 0, none⟩ sv'') ∧ KeepsOthers W (w1.setCell ⟨sb, 0, none⟩ sv'') ∧ ∀ (b : Nat) (cs : Array Value) (t : TypeId) (m : Nat × Nat), W.heap[b]? = some (Obj.cells cs t m) → t ≠ 60 → t ≠ 59 → (w1.setCell ⟨sb, 0, none⟩ sv'').heap[b]? = W.heap[b]? := by
  have hk1 : ∀ b, b < W.heap.size → sv'.ownBlock ≠ some b → w1.heap[b]? = W.heap[b]? := fun b hb hv => (hg.block b (Nat.lt_of_lt_of_le hb hB.size) (fun e => hv e.symm)).trans (hB.block b hb)
  have hbs : sv'.ownBlock ≠ some sb := kinds h1 h2 fun cur e => by injection e with _ e _; exact absurd e (by decide)
  have hb1 : w1.heap[sb]? = some (.cells #[sv'] 60 (0, 0)) := (hk1 sb (lt_of_block h1) hbs).trans h1
  have hsz : (w1.setCell ⟨sb, 0, none⟩ sv'').heap.size = w1.heap.size := by simp [World.setCell]
  have hbs2 : sv''.ownBlock ≠ some sb := kinds hb1 ho fun cur e => by injection e with _ e _; exact absurd e (by decide)
  refine ⟨⟨sv'', one_setCell hb1, ?_, ⟨hg.os.trans (hB.os.trans h3.os), hg.tape.trans (hB.tape.trans h3.tape), hg.output.trans (hB.output.trans h3.output), by rw [hsz]; exact Nat.le_trans h3.size (Nat.le_trans hB.size hg.size), fun b hb h4 h5 => ?_, fun b hb => ?_⟩⟩, ?_, fun b cs t m hb h4 h5 => ?_⟩
  · have e1 : k0 + (pre ++ [x]).length = k0 + pre.length + 1 := by simp; omega
    rw [e1, List.flatMap_append, ← List.append_assoc]
    exact ownsRow_setCell_other (by simpa using ho) hbs2 _
  · refine (set_other _ _ _ _ _ h4).trans ((hk1 b (Nat.lt_of_lt_of_le hb h3.size) fun e => ?_).trans (h3.block b hb h4 h5))
    rcases h3.own b e with e | e
    · exact h5 e
    · omega
  · rcases hat b hb with e | e
    · exact h3.own b e
    · exact .inr (Nat.le_trans h3.size e)
  · refine hK.trans ((KeepsOthers.of_grownBy hg fun j o hj hjo => ?_).trans (.setCell _ _ _))
    have hj' := (h2.lt j hj).2
    obtain ⟨cur, hc⟩ := own_type h2 j hj
    rw [hB.block j hj', hc] at hjo
    cases hjo; rfl
  · refine (set_other _ _ _ _ _ fun e => ?_).trans (hk1 b (lt_of_block hb) fun e => ?_)
    · subst e; rw [h1] at hb; injection hb with hb; injection hb with _ hb _; exact h4 hb.symm
    · obtain ⟨cur, hc⟩ := own_type h2 b e
      rw [hc] at hb; injection hb with hb; injection hb with _ hb _; exact h5 hb.symm
/-- What came, one after another, is what goes on the stack. -/
theorem push_all (k : Fo) (b : Nat) (S : List Pd) (u : Nat) : pdCells S.reverse ++ (bwd (k.ids b) 0).flatMap (fun x => [Value.int .i64 x.2, .int .i64 (u : Int)]) = pdCells ((k.pds u b ++ S).reverse) ∧ S.length + (bwd (k.ids b) 0).length = (k.pds u b ++ S).length := by
  have h1 : ∀ l : List (Int × Int), l.flatMap (fun x => [Value.int .i64 x.2, .int .i64 (u : Int)]) = (l.map (·.2)).flatMap fun i => [Value.int .i64 i, .int .i64 (u : Int)] := fun l => by
    induction l with
    | nil => rfl
    | cons a l ih => simp [ih]
  have h2 : ∀ l : List Pd, (∀ p ∈ l, p.up = (u : Int)) → pdCells l = (l.map fun p => (p.i : Int)).flatMap fun i => [Value.int .i64 i, .int .i64 (u : Int)] := fun l hl => by
    induction l with
    | nil => rfl
    | cons a l ih =>
      have h3 := ih fun p hp => hl p (.tail _ hp)
      simp only [pdCells, List.flatMap_cons, List.map_cons] at h3 ⊢
      rw [h3]
      simp [pdc, hl a (.head _)]
  refine ⟨?_, ?_⟩
  · rw [List.reverse_append, pdCells_app, h1, bwd_all, h2 (k.pds u b).reverse (fun p hp => ups_pds k u b p (by simpa using hp)), ids_pds k u b, List.map_reverse]
  · rw [bwd_len, ids_pds k u b]; simp; omega
/-- What is left when lay returns. -/
theorem leaves_marks {F : Fence} {n : Nat} {P : Program} {fn : Func} {tmps : Array Value} {R : Ending → World → Prop} : ∀ (Ds : List Nat) (w : World), Ds.Nodup → (∀ D ∈ Ds, w.heap[D]? = some (.deferred (some []))) →
    (∀ w' : World, w'.os = w.os → w'.tape = w.tape → w'.output = w.output → w'.heap.size = w.heap.size → (∀ b, b ∉ Ds → w'.heap[b]? = w.heap[b]?) → LeavesInM F n P fn tmps R [] .returning w') → LeavesInM F n P fn tmps R (Ds.map mark) .returning w
  | [], w, _, _, h => h w rfl rfl rfl rfl fun _ _ => rfl
  | D :: Ds, w, hn, hd, h => by
    have hn' := List.nodup_cons.1 hn
    refine ⟨by simp, .inl ⟨D, _, rfl, run_takeDeferred (hd D (.head _)), leaves_marks Ds _ hn'.2 (fun E hE => (World.putObj_heap_other fun e => hn'.1 (by rw [← e]; exact hE)).trans (hd E (.tail _ hE))) fun w' h1 h2 h3 h4 h5 => h w' h1 h2 h3 (by rw [h4]; simp) fun b hb => ?_⟩⟩
    exact (h5 b fun hm => hb (.tail _ hm)).trans (World.putObj_heap_other fun e => hb (by rw [e]; exact .head _))
theorem layS_nil (n : Nat) (L : List Tw) : layS n L [] = L := by cases n <;> rfl
theorem lay_end {w₀ w W : World} {n₀ : Nat} {lv : Value} {L : List Tw} {ks : List Value} {sb : Nat} {sv : Value} {S : List Pd} {Ds : List Nat} (h : LS n₀ lv L ks sb sv S Ds w) (hb : Below n₀ w₀ w) (hn : n₀ = w₀.heap.size) (u : Value) (h1 : W.os = w.os) (h2 : W.tape = w.tape) (h3 : W.output = w.output) (h4 : W.heap.size = w.heap.size) (h5 : ∀ b, b ∉ Ds → W.heap[b]? = (w.setCell ⟨n₀, 0, none⟩ u).heap[b]?) :
    Laid n₀ W lv L ks ∧ Below n₀ w₀ W ∧ W.heap[n₀]? = some (.cells #[u] 30 (0, 0)) := by
  have hne : ∀ (b : Nat) (cur : Array Value) (e : TypeId), w.heap[b]? = some (Obj.cells cur e (0, 0)) → e ≠ 30 → W.heap[b]? = w.heap[b]? := fun b cur e hbk he => by
    rw [h5 b fun hm => by have := (h.marks b hm).2; rw [this] at hbk; cases hbk]
    exact set_other _ _ _ _ _ fun e' => by rw [e', h.res] at hbk; injection hbk with hbk; injection hbk with _ hbk _; exact he hbk.symm
  have keep : ∀ {e : TypeId} {size n : Nat} {v : Value} {xs : List Value}, w.ownsRow n₀ e size v n xs → e ≠ 30 → W.ownsRow n₀ e size v n xs := fun hr he => ownsRow_keep hr fun g hg => by
    obtain ⟨cur, hc⟩ := own_type hr g hg
    exact hne g cur _ hc he
  refine ⟨⟨keep h.laid.row (by decide), h.laid.len, fun i t kv hi hk => keep (h.laid.kid i t kv hi hk) (by decide), h.laid.apart⟩, ⟨h1.trans hb.os, h2.trans hb.tape, h3.trans hb.output, by rw [h4]; exact hb.size, fun b hlt => ?_⟩, ?_⟩
  · rw [h5 b fun hm => by have := (h.marks b hm).1; omega]
    exact (set_other _ _ _ _ _ (by omega)).trans (hb.block b hlt)
  · rw [h5 n₀ fun hm => by have := (h.marks n₀ hm).2; rw [h.res] at this; cases this]
    exact one_setCell h.res
end Go.Proofs.Ythgpepkcjjimlaa
