/- Rows of twigs, as the document's parser makes them: plainly, and in memory; twig of the document's parser. -/
import Derived.Test.YtpeoefbibjbinaaGreatB06
import Derived.Test.YtpeoefbibjbinaaGreatB08
namespace Go.Proofs.YtpeoefbibjbinaaGreat
open Go.RowKit

def shT (b : Nat) (t : Tw) : Tw := { t with kids := t.kids.map fun z => z + (b : Int) }
/-- The kids' places, and what is below the first twig. -/
def twF : List Int → List Tw → List (List Tw) → List Int × List Tw
  | ks, R, [] => (ks, R)
  | ks, R, X :: l => twF (ks ++ [((R.length + 1 : Nat) : Int)]) (R ++ X.map (shT (R.length + 1))) l
def twL (d : Nd) (l : List (List Tw)) : List Tw := d.tw (twF [] [] l).1 :: (twF [] [] l).2
/-- A row with which one can reckon. -/
structure Gd (R : List Tw) : Prop where
  ne : 0 < R.length
  few : R.length ≤ 100000000
  kids : ∀ t ∈ R, t.kids.length ≤ 100000000 ∧ ∀ z ∈ t.kids, 0 ≤ z ∧ z ≤ (R.length : Int)

theorem twF_len : ∀ (l : List (List Tw)) (ks : List Int) (R : List Tw), R.length ≤ (twF ks R l).2.length ∧ (twF ks R l).1.length = ks.length + l.length
  | [], _, _ => by simp [twF]
  | X :: l, ks, R => by
    have := twF_len l (ks ++ [((R.length + 1 : Nat) : Int)]) (R ++ X.map (shT (R.length + 1)))
    simp only [twF, List.length_append, List.length_map, List.length_cons, List.length_nil] at this ⊢
    omega
theorem twF_snoc : ∀ (l : List (List Tw)) (X : List Tw) (ks : List Int) (R : List Tw), twF ks R (l ++ [X]) = ((twF ks R l).1 ++ [(((twF ks R l).2.length + 1 : Nat) : Int)], (twF ks R l).2 ++ X.map (shT ((twF ks R l).2.length + 1)))
  | [], _, _, _ => rfl
  | Y :: l, X, ks, R => by simp only [List.cons_append, twF]; exact twF_snoc l X _ _
theorem twF_mono : ∀ (l m : List (List Tw)) (ks : List Int) (R : List Tw), (twF ks R l).2.length ≤ (twF ks R (l ++ m)).2.length
  | [], m, ks, R => (twF_len m ks R).1
  | X :: l, m, ks, R => by simp only [List.cons_append, twF]; exact twF_mono l m _ _
theorem twF_kids : ∀ (l : List (List Tw)) (ks : List Int) (R : List Tw) (B : Nat), (twF ks R l).2.length + 1 ≤ B → (∀ z ∈ ks, 0 ≤ z ∧ z ≤ (B : Int)) → ∀ z ∈ (twF ks R l).1, 0 ≤ z ∧ z ≤ (B : Int)
  | [], _, _, _, _, h => h
  | X :: l, ks, R, B, hB, h => by
    simp only [twF] at hB ⊢
    refine twF_kids l _ _ B hB fun z hz => ?_
    rcases List.mem_append.1 hz with hz | hz
    · exact h z hz
    · simp at hz
      have h1 := (twF_len l (ks ++ [((R.length + 1 : Nat) : Int)]) (R ++ X.map (shT (R.length + 1)))).1
      simp only [List.length_append, List.length_map] at h1
      omega

theorem twF_good : ∀ (l : List (List Tw)) (ks : List Int) (R : List Tw) (B : Nat), (∀ X ∈ l, Gd X) → (twF ks R l).2.length + 1 ≤ B → (∀ t ∈ R, t.kids.length ≤ 100000000 ∧ ∀ z ∈ t.kids, 0 ≤ z ∧ z ≤ (B : Int)) → ∀ t ∈ (twF ks R l).2, t.kids.length ≤ 100000000 ∧ ∀ z ∈ t.kids, 0 ≤ z ∧ z ≤ (B : Int)
  | [], _, _, _, _, _, h => h
  | X :: l, ks, R, B, hX, hB, h => by
    simp only [twF] at hB ⊢
    refine twF_good l _ _ B (fun Y hY => hX Y (List.mem_cons_of_mem _ hY)) hB fun t ht => ?_
    rcases List.mem_append.1 ht with ht | ht
    · exact h t ht
    · rw [List.mem_map] at ht
      obtain ⟨x, hx, rfl⟩ := ht
      have hg := hX X (List.mem_cons_self ..)
      have h2 := hg.kids x hx
      have h1 := (twF_len l (ks ++ [((R.length + 1 : Nat) : Int)]) (R ++ X.map (shT (R.length + 1)))).1
      simp only [List.length_append, List.length_map] at h1
      refine ⟨by simpa [shT] using h2.1, fun z hz => ?_⟩
      simp only [shT, List.mem_map] at hz
      obtain ⟨y, hy, rfl⟩ := hz
      have := h2.2 y hy
      omega
theorem gd_twL {d : Nd} {l : List (List Tw)} (h : ∀ X ∈ l, Gd X) (hs : (twL d l).length ≤ 100000000) : Gd (twL d l) := by
  have hl : l.length ≤ (twF [] [] l).2.length := by
    have : ∀ (l : List (List Tw)) (ks : List Int) (R : List Tw), (∀ X ∈ l, Gd X) → R.length + l.length ≤ (twF ks R l).2.length := by
      intro l
      induction l with
      | nil => intro ks R _; simp [twF]
      | cons X l ih =>
        intro ks R h
        have h1 := ih (ks ++ [((R.length + 1 : Nat) : Int)]) (R ++ X.map (shT (R.length + 1))) fun Y hY => h Y (List.mem_cons_of_mem _ hY)
        have h2 := (h X (List.mem_cons_self ..)).ne
        simp only [twF, List.length_append, List.length_map, List.length_cons] at h1 ⊢
        omega
    have := this l [] [] h
    simpa using this
  have hlen : (twL d l).length = (twF [] [] l).2.length + 1 := by simp [twL]
  refine ⟨by omega, hs, fun t ht => ?_⟩
  rw [twL, List.mem_cons] at ht
  rcases ht with rfl | ht
  · refine ⟨?_, ?_⟩
    · have := (twF_len l [] []).2
      simp only [Nd.tw]
      simp at this
      omega
    · simp only [Nd.tw]
      exact twF_kids l [] [] _ (by omega) (by simp)
  · exact twF_good l [] [] _ h (by omega) (by simp) t ht

/-- Twigs in memory, none of whose kids lie in some blocks. -/
def R3 (w : World) (v : Value) (R : List Tw) : Prop :=
  Gd R ∧ ∃ (g cap : Nat) (cs : Array Value) (mm : Nat × Nat) (xs : List Value), v = .slice (some ⟨g, 0, none⟩) R.length cap ∧ w.heap[g]? = some (.cells cs 39 mm) ∧ Tws w [] R xs ∧ ∀ (i : Nat) (u : Value), xs[i]? = some u → cs[i]? = some u
theorem R3.keep {w w' : World} {v : Value} {R : List Tw} (h : R3 w v R) (hk : ∀ (g : Nat) (cs : Array Value) (t : TypeId) (m : Nat × Nat), w.heap[g]? = some (Obj.cells cs t m) → t = 3 ∨ t = 39 → w'.heap[g]? = w.heap[g]?) : R3 w' v R := by
  obtain ⟨hg, g, cap, cs, mm, xs, h1, h2, h3, h4⟩ := h
  exact ⟨hg, g, cap, cs, mm, xs, h1, (hk g cs _ mm h2 (.inr rfl)).trans h2, h3.keep fun g cs m hi => hk g cs _ m hi (.inl rfl), h4⟩
theorem R3.after {w w' : World} {v : Value} {R : List Tw} (h : R3 w v R) (hb : Below w.heap.size w w') : R3 w' v R := h.keep fun g _ _ _ hi _ => hb.block g (lt_of_block hi)
theorem R3.kr {w w' : World} {C : Rx} {m : Nat} {σ : Sg} {v : Value} {R : List Tw} (h : R3 w v R) (hs : RS w C m σ) (hk : KR C.p w w') : R3 w' v R := by
  refine h.keep fun g cs t m' hi ht => hk.block g (lt_of_block hi) ?_
  rintro rfl
  have := hs.par
  rw [hi] at this
  injection this with this
  injection this with _ e _
  rcases ht with rfl | rfl <;> exact absurd e (by decide)
theorem R3.form {w : World} {v : Value} {R : List Tw} (h : R3 w v R) : ∃ g cap, v = .slice (some ⟨g, 0, none⟩) R.length cap ∧ g < w.heap.size ∧ ∀ i t, R[i]? = some t → ∃ kv, IntRow w [] kv t.kids ∧ ∀ o u, (twCells t kv)[o]? = some u → w.cell? ⟨g, i * 6 + o, none⟩ = some u := by
  obtain ⟨hg, g, cap, cs, mm, xs, rfl, h2, h3, h4⟩ := h
  refine ⟨g, cap, rfl, lt_of_block h2, fun i t hi => ?_⟩
  obtain ⟨kv, k1, k2⟩ := tw_at h3 hi
  refine ⟨kv, k1, fun o u hu => ?_⟩
  simp [World.cell?, h2, h4 _ _ (k2 o u hu)]

theorem Tws.other {w : World} {X X' : List Nat} (hX : ∀ b ∈ X', w.heap.size ≤ b) : ∀ {tw : List Tw} {xs : List Value}, Tws w X tw xs → Tws w X' tw xs
  | [], _, h => h
  | _ :: _, _, ⟨kv, ys, e, ⟨A, cap, e1, h1⟩, h2⟩ => ⟨kv, ys, e, ⟨A, cap, e1, fun h0 => let ⟨g, cs, m, k1, k2, _, k4⟩ := h1 h0; ⟨g, cs, m, k1, k2, fun hx => absurd (lt_of_block k2) (by have := hX g hx; omega), k4⟩⟩, Tws.other hX h2⟩
theorem Tws.keepX {w w' : World} {X : List Nat} (hk : ∀ (g : Nat) (cs : Array Value) (m : Nat × Nat), w.heap[g]? = some (Obj.cells cs 3 m) → g ∉ X → w'.heap[g]? = w.heap[g]?) : ∀ {tw : List Tw} {xs : List Value}, Tws w X tw xs → Tws w' X tw xs
  | [], _, h => h
  | _ :: _, _, ⟨kv, ys, e, ⟨A, cap, e1, h1⟩, h2⟩ => ⟨kv, ys, e, ⟨A, cap, e1, fun h0 => let ⟨g, cs, m, k1, k2, k3, k4⟩ := h1 h0; ⟨g, cs, m, k1, (hk g cs m k2 k3).trans k2, k3, k4⟩⟩, Tws.keepX hk h2⟩
theorem Tws.less {w : World} {X X' : List Nat} (hX : ∀ b ∈ X', b ∈ X) : ∀ {tw : List Tw} {xs : List Value}, Tws w X tw xs → Tws w X' tw xs
  | [], _, h => h
  | _ :: _, _, ⟨kv, ys, e, ⟨A, cap, e1, h1⟩, h2⟩ => ⟨kv, ys, e, ⟨A, cap, e1, fun h0 => let ⟨g, cs, m, k1, k2, k3, k4⟩ := h1 h0; ⟨g, cs, m, k1, k2, fun hx => k3 (hX g hx), k4⟩⟩, Tws.less hX h2⟩
/-- A row of numbers that one owns. -/
theorem own_ints {w : World} {base : Nat} {v : Value} {l : List Int} (X : List Nat) (h : w.ownsRow base 3 1 v l.length (l.map (Value.int .i64))) (hX : ∀ g, v.ownBlock = some g → g ∉ X) : IntRow w X v l := by
  rcases h.2 with ⟨rfl, hn⟩ | ⟨g, cap, cur, rfl, hb, hh, hle, hm, hs, htk⟩
  · rw [List.eq_nil_of_length_eq_zero hn]
    exact ints_nil _
  · refine ⟨_, cap, rfl, fun _ => ⟨g, cur, (0, 0), rfl, hh, hX g rfl, fun i x hx => ?_⟩⟩
    have h1 : (cur.toList.take (l.length * 1))[i]? = some (Value.int .i64 x) := by rw [htk]; simp [hx]
    rw [List.getElem?_take] at h1
    split at h1
    · simpa using h1
    · cases h1

/-- The twigs that twig has so far: the first one, its kids, and what is below. -/
structure Tg (n₀ : Nat) (w : World) (lv : Value) (d : Nd) (ks : List Int) (kv : Value) (R : List Tw) (xs : List Value) : Prop where
  row : w.ownsRow n₀ 39 6 lv (R.length + 1) (twCells (d.tw ks) kv ++ xs)
  root : w.ownsRow n₀ 3 1 kv ks.length (ks.map (Value.int .i64))
  rest : Tws w kv.ownBlock.toList R xs
variable {n₀ : Nat} {w : World} {lv : Value} {d : Nd} {ks : List Int} {kv : Value} {R : List Tw} {xs : List Value}
theorem Tg.form (h : Tg n₀ w lv d ks kv R xs) : ∃ g cap, lv = .slice (some ⟨g, 0, none⟩) (R.length + 1) cap ∧ n₀ ≤ g ∧ g < w.heap.size := by
  rcases h.row.2 with ⟨_, h0⟩ | ⟨g, cap, cur, h1, h2, h3, _⟩
  · simp at h0
  · exact ⟨g, cap, h1, h2, lt_of_block h3⟩
theorem Tg.after (h : Tg n₀ w lv d ks kv R xs) {w' : World} (hb : Below w.heap.size w w') : Tg n₀ w' lv d ks kv R xs :=
  ⟨ownsRow_keep h.row fun g hg => hb.block g (h.row.lt g hg).2, ownsRow_keep h.root fun g hg => hb.block g (h.root.lt g hg).2, h.rest.keep fun _ _ _ hi => hb.block _ (lt_of_block hi)⟩
/-- The first twig's cells. -/
theorem Tg.cell {g cap : Nat} (h : Tg n₀ w (.slice (some ⟨g, 0, none⟩) (R.length + 1) cap) d ks kv R xs) : w.cell? ⟨g, 5, none⟩ = some kv := by
  have hc := h.row.cells (g := g) rfl 5 kv (by simp [twCells])
  have ha : (⟨g, 0, none⟩ : Addr).add 5 = ⟨g, 5, none⟩ := by unfold Addr.add; split <;> simp_all
  rwa [ha] at hc
/-- A store into the one's own row's block, elsewhere than where rows lie. -/
theorem Tg.kid {kv' : Value} {x : Int} {gl cl : Nat} {W w1 : World} (h : Tg n₀ w (.slice (some ⟨gl, 0, none⟩) (R.length + 1) cl) d ks kv R xs) (hB : Below w.heap.size w W) (hg : W.grownBy w1 kv.ownBlock)
    (ho : w1.ownsRow n₀ 3 1 kv' (ks.length + 1) (ks.map (Value.int .i64) ++ [Value.int .i64 x])) (hat : ∀ g, kv'.ownBlock = some g → kv.ownBlock = some g ∨ w.heap.size ≤ g) :
    Tg n₀ (w1.setCell ⟨gl, 5, none⟩ kv') (.slice (some ⟨gl, 0, none⟩) (R.length + 1) cl) d (ks ++ [x]) kv' R xs ∧ Below n₀ w (w1.setCell ⟨gl, 5, none⟩ kv') := by
  have h1 : ∀ b, b < w.heap.size → kv.ownBlock ≠ some b → w1.heap[b]? = w.heap[b]? := fun b hb hv => (hg.block b (Nat.lt_of_lt_of_le hb hB.size) (fun e => hv e.symm)).trans (hB.block b hb)
  have hgl0 := h.row.lt gl rfl
  have hgl : w1.heap[gl]? = w.heap[gl]? := h1 gl hgl0.2 (kindsO h.row h.root (by decide) gl rfl)
  obtain ⟨cgl, hcgl⟩ := own_type h.row gl rfl
  have h2 : ∀ b, b < w.heap.size → kv.ownBlock ≠ some b → b ≠ gl → (w1.setCell ⟨gl, 5, none⟩ kv').heap[b]? = w.heap[b]? := fun b hb hv hn => (set_other _ _ _ _ _ hn).trans (h1 b hb hv)
  have hl1 : w1.ownsRow n₀ 39 6 (.slice (some ⟨gl, 0, none⟩) (R.length + 1) cl) (R.length + 1) (twCells (d.tw ks) kv ++ xs) := ownsRow_keep h.row fun g hg' => by
    have e : gl = g := by simpa [Value.ownBlock] using hg'
    subst e; exact hgl
  have hkv'l : kv'.ownBlock ≠ some gl := kinds (hgl.trans hcgl) ho fun cur e => by injection e with _ e _; exact absurd e (by decide)
  refine ⟨⟨?_, ?_, ?_⟩, ⟨hg.os.trans hB.os, hg.tape.trans hB.tape, hg.output.trans hB.output, by simpa [World.setCell] using Nat.le_trans hB.size hg.size, fun b hb => h2 b (by omega) (fun e => by have := (h.root.lt b e).1; omega) (by omega)⟩⟩
  · have := ownsRow_set hl1 rfl 5 kv'
    simpa [twCells, Nd.tw] using this
  · rw [List.length_append, List.map_append]
    exact ownsRow_setCell_other ho (by simpa using hkv'l) _
  · have hr : Tws w kv'.ownBlock.toList R xs := by
      cases hv : kv'.ownBlock with
      | none => exact h.rest.less (by simp)
      | some b =>
        rcases hat b hv with e | e
        · have := h.rest
          rwa [e] at this
        · exact h.rest.other (by simpa using e)
    have hr0 := h.rest
    -- blocks of kids stay: they are neither the first twig's kids' nor the row's
    have hboth : ∀ (g : Nat) (cs : Array Value) (m : Nat × Nat), w.heap[g]? = some (Obj.cells cs 3 m) → g ∉ kv.ownBlock.toList → (w1.setCell ⟨gl, 5, none⟩ kv').heap[g]? = w.heap[g]? := fun g cs m hi hx => h2 g (lt_of_block hi) (fun e => hx (by simp [e])) fun e => by
      rw [e, hcgl] at hi
      injection hi with hi
      injection hi with _ hi _
      exact absurd hi (by decide)
    have key : ∀ {tw : List Tw} {xs : List Value}, Tws w kv.ownBlock.toList tw xs → Tws w kv'.ownBlock.toList tw xs → Tws (w1.setCell ⟨gl, 5, none⟩ kv') kv'.ownBlock.toList tw xs := by
      intro tw
      induction tw with
      | nil => intro xs a _; exact a
      | cons t tw ih =>
        rintro xs ⟨u, ys, e, ⟨A, cap, e1, k1⟩, k2⟩ ⟨u', ys', e', ⟨A', cap', e1', k1'⟩, k2'⟩
        have he : u = u' ∧ ys = ys' := by
          rw [e] at e'
          simp [twCells] at e'
          exact e'
        obtain ⟨rfl, rfl⟩ := he
        refine ⟨u, ys, e, ⟨A, cap, e1, fun h0 => ?_⟩, ih k2 k2'⟩
        obtain ⟨g, cs, m, a1, a2, a3, a4⟩ := k1 h0
        obtain ⟨g', cs', m', b1, b2, b3, b4⟩ := k1' h0
        rw [e1] at e1'
        injection e1' with e1' _ _
        rw [a1, b1] at e1'
        injection e1' with e1'
        injection e1' with e1' _ _
        subst e1'
        exact ⟨g, cs, m, a1, (hboth g cs m a2 a3).trans a2, b3, a4⟩
    exact key hr0 hr
/-- One twig more. -/
theorem Tg.push {lv' v5 : Value} {t : Tw} {W w1 : World} (h : Tg n₀ w lv d ks kv R xs) (hB : Below w.heap.size w W) (hg : W.grownBy w1 lv.ownBlock)
    (ho : w1.ownsRow n₀ 39 6 lv' (R.length + 1 + 1) (twCells (d.tw ks) kv ++ xs ++ twCells t v5)) (hi : IntRow w kv.ownBlock.toList v5 t.kids) :
    Tg n₀ w1 lv' d ks kv (R ++ [t]) (xs ++ twCells t v5) ∧ Below n₀ w w1 := by
  have h1 : ∀ b, b < w.heap.size → lv.ownBlock ≠ some b → w1.heap[b]? = w.heap[b]? := fun b hb hv => (hg.block b (Nat.lt_of_lt_of_le hb hB.size) (fun e => hv e.symm)).trans (hB.block b hb)
  have hint : ∀ (g : Nat) (cs : Array Value) (m : Nat × Nat), w.heap[g]? = some (Obj.cells cs 3 m) → w1.heap[g]? = w.heap[g]? := fun g cs m hgi => h1 g (lt_of_block hgi) fun e => by
    obtain ⟨cur, hc⟩ := own_type h.row g e
    rw [hc] at hgi
    injection hgi with hgi
    injection hgi with _ hgi _
    exact absurd hgi (by decide)
  refine ⟨⟨?_, ownsRow_keep h.root fun g hg' => h1 g (h.root.lt g hg').2 (kindsO h.root h.row (by decide) g hg'), (h.rest.keep hint).snoc (hi.keep hint)⟩, ⟨hg.os.trans hB.os, hg.tape.trans hB.tape, hg.output.trans hB.output, Nat.le_trans hB.size hg.size, fun b hb => ?_⟩⟩
  · rw [List.length_append, ← List.append_assoc]
    exact ho
  · by_cases hlt : b < w.heap.size
    · exact h1 b hlt fun e => by have := (h.row.lt b e).1; omega
    · obtain ⟨g, cap, rfl, hg1, hg2⟩ := h.form
      omega
/-- What is made reads as twigs. -/
theorem Tg.done (h : Tg n₀ w lv d ks kv R xs) (hg : Gd (d.tw ks :: R)) : R3 w lv (d.tw ks :: R) := by
  obtain ⟨g, cap, rfl, _, _⟩ := h.form
  refine ⟨hg, ?_⟩
  rcases h.row.2 with ⟨_, h0⟩ | ⟨g', cap', cur, e, hb, hh, hle, hm, hs, htk⟩
  · simp at h0
  · injection e with e1 e2 e3
    injection e1 with e1
    injection e1 with e1 _ _
    subst e1
    refine ⟨g, cap, cur, (0, 0), _, by simp, hh, ⟨kv, xs, rfl, own_ints [] h.root (by simp), h.rest.less (by simp)⟩, fun i u hu => ?_⟩
    have h1 : (cur.toList.take ((R.length + 1) * 6))[i]? = some u := by rw [htk]; exact hu
    rw [List.getElem?_take] at h1
    split at h1
    · simpa using h1
    · cases h1
end Go.Proofs.YtpeoefbibjbinaaGreat

namespace Go.Proofs.YtpeoefbibjbinaaGreat
open Go.RowKit

theorem twF_count : ∀ (l : List (List Tw)) (ks : List Int) (R : List Tw), (∀ X ∈ l, 0 < X.length) → R.length + l.length ≤ (twF ks R l).2.length
  | [], _, _, _ => by simp [twF]
  | X :: l, ks, R, h => by
    have h1 := twF_count l (ks ++ [((R.length + 1 : Nat) : Int)]) (R ++ X.map (shT (R.length + 1))) fun Y hY => h Y (List.mem_cons_of_mem _ hY)
    have h2 := h X (List.mem_cons_self ..)
    simp only [twF, List.length_append, List.length_map, List.length_cons] at h1 ⊢
    omega
theorem twF_take (l : List (List Tw)) (i : Nat) (X : List Tw) (h : l[i]? = some X) : twF [] [] (l.take (i + 1)) = ((twF [] [] (l.take i)).1 ++ [(((twF [] [] (l.take i)).2.length + 1 : Nat) : Int)], (twF [] [] (l.take i)).2 ++ X.map (shT ((twF [] [] (l.take i)).2.length + 1))) := by
  obtain ⟨hi, rfl⟩ := List.getElem?_eq_some_iff.1 h
  rw [List.take_succ_eq_append_getElem hi, twF_snoc]
theorem twF_take_le (l : List (List Tw)) (i : Nat) : (twF [] [] (l.take i)).2.length ≤ (twF [] [] l).2.length := by
  have := twF_mono (l.take i) (l.drop i) [] []
  rwa [List.take_append_drop] at this

variable {n₀ : Nat} {w : World} {lv : Value} {d : Nd} {ks : List Int} {kv : Value} {R : List Tw} {xs : List Value}
theorem Tg.setB (h : Tg n₀ w lv d ks kv R xs) {b : Nat} {cs : Array Value} (hb : lv.ownBlock ≠ some b) (hc : w.heap[b]? = some (.cells cs 39 (0, 0))) (i : Nat) (u : Value) : Tg n₀ (w.setCell ⟨b, i, none⟩ u) lv d ks kv R xs :=
  ⟨ownsRow_setCell_other h.row hb u, ownsRow_setCell_other h.root (kinds hc h.root fun cur e => by injection e with _ e _; exact absurd e (by decide)) u, h.rest.keep fun _ _ _ hi => set_other _ _ _ _ _ fun e => by
    rw [e, hc] at hi
    injection hi with hi
    injection hi with _ hi _
    exact absurd hi (by decide)⟩

theorem infoInt3 : (Tryz.prog.info? 3).map (fun i => (i.zero, i.size, i.bytes)) = some (some (.int .i64 0), 1, 8) := by kernel_rfl

set_option maxRecDepth 100000 in
set_option maxHeartbeats 4000000 in
theorem twig_ok (kd : Int) (s : List UInt8) (n : Int) (t : Tok) (A : Option Addr) (cap : Nat) (vs : List Value) (Rs : List (List Tw)) (w : World) (hA : ∀ (i : Nat) (v : Value), vs[i]? = some v → ∃ g off, A = some ⟨g, off, none⟩ ∧ w.cell? ⟨g, off + i, none⟩ = some v) (hl : vs.length = Rs.length) (hr : ∀ (i : Nat) (v : Value) (R : List Tw), vs[i]? = some v → Rs[i]? = some R → R3 w v R) (hsz : (twL (at_ t kd s n) Rs).length ≤ 100000000) :
    Calls Tryz.prog 35 #[.int .i64 kd, .string ⟨s.toArray⟩, .int .i64 n, tokV t, .slice A vs.length cap] w fun e w' => ∃ v, e = .returned v ∧ R3 w' v (twL (at_ t kd s n) Rs) ∧ Below w.heap.size w w' := by
  obtain ⟨i0, hi0, hz0, hz1, hz2⟩ := info_parts infoInt3
  obtain ⟨i1, hi1, hy0, hy1, hy2⟩ := info_parts infoTwig
  have hlen : vs.length ≤ 100000000 := by
    have h1 := twF_count Rs [] [] fun X hX => by
      obtain ⟨i, hi, rfl⟩ := List.getElem_of_mem hX
      have hi' : i < vs.length := by omega
      exact (hr i vs[i] Rs[i] (List.getElem?_eq_getElem hi') (List.getElem?_eq_getElem hi)).1.ne
    simp only [twL, List.length_cons] at hsz
    simp at h1
    omega
  have HA := Lib.hid hA
  have HR := Lib.hid hr
  have HL := Lib.hid hl
  have HSZ := Lib.hid hsz
  clear hA hr hl hsz
  unfold tokV
  go_enter Tryz.func35, Tryz.ntmps35
  go_wp2_with fail
  go_loopg [11, 12] Rs.length (fun gn v11 v12 wr => ∃ (i : Nat) (kv : Value) (xs : List Value), i + gn = Rs.length ∧ v12 = .int .i64 i ∧ Tg w.heap.size wr v11 (at_ t kd s n) (twF [] [] (Rs.take i)).1 kv (twF [] [] (Rs.take i)).2 xs ∧ Below w.heap.size w wr)
  case atStart =>
    refine ⟨0, .slice none 0 0, [], by omega, rfl, ⟨?_, World.ownsRow_nil _ _ _ _, rfl⟩, ((Below.refl _ _).alloc (Nat.le_refl _) _).alloc (by simp) _⟩
    have := World.ownsRow_lit (base := w.heap.size) (e := 39) (size := 6) (w.alloc (.cells #[.int .i64 t.kind, .string ⟨t.text.toArray⟩, .int .i64 t.n, .int .i64 t.line, .int .i64 t.col] 61)) #[.int .i64 kd, .string ⟨s.toArray⟩, .int .i64 n, .int .i64 t.line, .int .i64 t.col, .slice none 0 0] 1 (by simp) (by decide) rfl
    simpa [twF, twCells, at_, Nd.tw] using this
  case round =>
    obtain ⟨i, kv, xs, hin, rfl, hT, hB⟩ := hrel
    obtain ⟨g, cl, hlv, hg1, hg2⟩ := hT.form
    subst hlv
    have hle := twF_take_le Rs i
    have hsz := HSZ.out
    rw [twL, List.length_cons] at hsz
    by_cases hlt : i < Rs.length
    · have hXi : Rs[i]? = some Rs[i] := List.getElem?_eq_getElem hlt
      generalize Rs[i] = X at hXi
      have hiv : i < vs.length := by have := HL.out; omega
      have hvi : vs[i]? = some vs[i] := List.getElem?_eq_getElem hiv
      generalize vs[i] = vX at hvi
      obtain ⟨gA, oA, rfl, hcA⟩ := HA.out i vX hvi
      have hgA : gA < w.heap.size := World.block_lt_of_cell? w _ hcA
      have hR3 := HR.out i vX X hvi hXi
      obtain ⟨gX, cX, rfl, hgX, hrow⟩ := hR3.form
      have hXg := hR3.1
      have hXf := hXg.few
      have hcA1 := (hB.cell (p := ⟨gA, oA + i, none⟩) hgA).trans hcA
      have htk := twF_take Rs i X hXi
      have hksl : (twF [] [] (Rs.take i)).1.length ≤ 100000000 := by
        rw [(twF_len (Rs.take i) [] []).2]
        simp
        have := HL.out
        omega
      have hle1 := twF_take_le Rs (i + 1)
      rw [htk] at hle1
      have HTK := Lib.hid htk
      clear htk
      generalize (twF [] [] (Rs.take i)).1 = ks at hT HTK hle1 hksl
      generalize (twF [] [] (Rs.take i)).2 = R at hT HTK hle1 hle
      simp only [List.length_append, List.length_map] at hle1
      obtain ⟨kA, kc, rfl⟩ := own_form hT.root
      have h5 := hT.cell
      have h5f := hT.row.frozenAt 5
      have hne : (Value.slice kA ks.length kc).ownBlock ≠ some g := kindsO hT.row hT.root (by decide) g rfl
      have HT := Lib.hid hT
      have HB := Lib.hid hB
      have HROW := Lib.hid hrow
      have HXG := Lib.hid hXg
      have HNE := Lib.hid hne
      have hrs := hB.size
      clear hT hB hrow hXg hne hR3 hXi hvi
      go_wp2_with (at_builtin; refine wpList_append_lies _ rfl _ _ 37 rfl w.heap.size 3 i0 (.int .i64 0) 1 8 Tryz.underlying37 hi0 hz0 hz1 hz2 rfl (by decide) (.slice kA ks.length kc) ks.length _ rfl (HT.out.root.alloc _) ⟨wr.heap.size, 0, none⟩ 1 1 [.int .i64 ((R.length : Int) + 1)] rfl rfl (World.news_of_block (cs := #[.int .i64 ((R.length : Int) + 1)]) (t := 3) (fr := (0, 0)) (heap_alloc_new wr _)) (by simp [Value.oneCell']) (by decide) (by unfold maxLen; omega) (by omega) (by simp; omega) (wr.heap.size + 1) (by simp) ?_; intro gg cap w1 hown hgrow hat hltg; have q5 := (hgrow.cell_far ⟨g, 5, none⟩ (by simp; omega) (Ne.symm HNE.out)).trans ((World.cell?_alloc_past _ _ _ hg2).trans h5); have q5f := (hgrow.frozen_far ⟨g, 5, none⟩ (by simp; omega) (Ne.symm HNE.out)).trans ((World.frozen?_alloc_past _ _ _ hg2).trans h5f))
      obtain ⟨hT1, hB1⟩ := HT.out.kid (kv' := .slice (some ⟨gg, 0, none⟩) (ks.length + 1) cap) ((Below.refl _ _).alloc (Nat.le_refl _) _) hgrow hown (fun g' hg' => by
        have e : gg = g' := by simpa [Value.ownBlock] using hg'
        subst e
        exact hat.imp id fun e => by omega)
      have HT1 := Lib.hid hT1
      have HB1 := Lib.hid (HB.out.trans (hB1.mono (Nat.le_refl _)))
      have hrs1 := HB1.out.size
      clear hown hgrow hat hT1 hB1 q5 q5f h5 h5f HT HB HNE hg2
      generalize hkv : Value.slice (some ⟨gg, 0, none⟩) (ks.length + 1) cap = kv at HT1 HB1 hrs1 ⊢
      clear hkv
      generalize w1.setCell ⟨g, 5, none⟩ kv = W1 at HT1 HB1 hrs1 ⊢
      go_wp2_with fail
      go_loopg [11, 14] X.length (fun gn v11 v14 wq => ∃ (q : Nat) (xs : List Value), q + gn = X.length ∧ v14 = .int .i64 q ∧ Tg w.heap.size wq v11 (at_ t kd s n) (ks ++ [(R.length : Int) + 1]) kv (R ++ (X.take q).map (shT (R.length + 1))) xs ∧ Below w.heap.size w wq)
      case atStart => exact ⟨0, _, by omega, rfl, by simpa using HT1.out, HB1.out⟩
      case round =>
        obtain ⟨q, xs2, hqn, rfl, hT2, hB2⟩ := hrel
        obtain ⟨wq, rfl⟩ : ∃ y, y = wr := ⟨wr, rfl⟩
        clear HT1 HB1
        obtain ⟨g2, cl2, hlv2, hg3, hg4⟩ := hT2.form
        subst hlv2
        have hsz2 := hB2.size
        by_cases hq : q < X.length
        · have hxq : X[q]? = some X[q] := List.getElem?_eq_getElem hq
          generalize X[q] = x at hxq
          obtain ⟨kvx, hix, hcs⟩ := HROW.out q x hxq
          have hkx := HXG.out.kids x (List.mem_of_getElem? hxq)
          obtain ⟨kxA, kxc, rfl, hkc⟩ := hix
          have hcA2 := (hB2.cell (p := ⟨gA, oA + i, none⟩) hgA).trans hcA
          have hcx := fun o u (h : (twCells x (.slice kxA x.kids.length kxc))[o]? = some u) => (hB2.cell (p := ⟨gX, q * 6 + o, none⟩) hgX).trans (hcs o u h)
          have e0 := hcx 0 _ rfl
          have e1 := hcx 1 _ rfl
          have e2 := hcx 2 _ rfl
          have e3 := hcx 3 _ rfl
          have e4 := hcx 4 _ rfl
          have e5 := hcx 5 _ rfl
          rw [Nat.add_zero] at e0
          have hR2 : R ++ (X.take (q + 1)).map (shT (R.length + 1)) = R ++ (X.take q).map (shT (R.length + 1)) ++ [shT (R.length + 1) x] := by
            obtain ⟨hq', hq2⟩ := List.getElem?_eq_some_iff.1 hxq
            rw [List.take_succ_eq_append_getElem hq', List.map_append, ← hq2]
            simp
          have hl2 : (R ++ (X.take q).map (shT (R.length + 1))).length = R.length + q := by simp; omega
          have HR2 := Lib.hid hR2
          clear hR2
          generalize R ++ (X.take q).map (shT (R.length + 1)) = R2 at hT2 HR2 hl2 ⊢
          have hR2l : R2.length ≤ 99999999 := by omega
          have HL2 := Lib.hid hl2
          clear hl2
          have HT2 := Lib.hid hT2
          have HB2 := Lib.hid hB2
          have HKX := Lib.hid hkx
          have HKC := Lib.hid hkc
          have hkl := hkx.1
          have HXQ := Lib.hid hxq
          clear hT2 hB2 hcs hcx hkx hkc hxq
          go_wp2_with fail
          clear hcA2 e0 e1 e2 e3 e4 e5
          go_loopg [16, 17] x.kids.length (fun gn v16 v17 wz => ∃ (z : Nat), z + gn = x.kids.length ∧ v17 = .int .i64 z ∧ wz.ownsRow (wq.heap.size + 1) 3 1 v16 z (((x.kids.take z).map fun y => y + ((R.length : Int) + 1)).map (Value.int .i64)) ∧ Below wq.heap.size wq wz ∧ wz.heap[wq.heap.size]? = some (.cells #[.int .i64 x.kind, .string ⟨x.text.toArray⟩, .int .i64 x.n, .int .i64 x.line, .int .i64 x.col, .slice kxA x.kids.length kxc] 39 (0, 0)))
          case atStart => exact ⟨0, by omega, rfl, by simpa using World.ownsRow_nil _ _ _ _, (Below.refl _ _).alloc (Nat.le_refl _) _, heap_alloc_new _ _⟩
          case round =>
            obtain ⟨z, hzn, rfl, hown, hBz, hbx⟩ := hrel
            have hzs := hBz.size
            obtain ⟨lA, lc, hlf⟩ := own_form hown
            subst hlf
            have hxc : wr.cell? ⟨wq.heap.size, 5, none⟩ = some (.slice kxA x.kids.length kxc) := by simp [World.cell?, hbx]
            have hxl := lt_of_block hbx
            by_cases hz : z < x.kids.length
            · have hyz : x.kids[z]? = some x.kids[z] := List.getElem?_eq_getElem hz
              have htkz : x.kids.take (z + 1) = x.kids.take z ++ [x.kids[z]] := List.take_succ_eq_append_getElem hz
              generalize x.kids[z] = y at hyz htkz
              obtain ⟨gk', ck, mk, rfl, hgk, _, hck⟩ := HKC.out (by omega)
              have hyw : w.cell? ⟨gk', z, none⟩ = some (.int .i64 y) := by simp [World.cell?, hgk, hck z y hyz]
              have hgkw : gk' < w.heap.size := lt_of_block hgk
              have hyr := ((HB2.out.trans (hBz.mono HB2.out.size)).cell (p := ⟨gk', z, none⟩) hgkw).trans hyw
              obtain ⟨hy1, hy2⟩ := HKX.out.2 y (List.mem_of_getElem? hyz)
              have hgkr : gk' < wr.heap.size := by omega
              have HOWN := Lib.hid hown
              have HBZ := Lib.hid hBz
              have HBX := Lib.hid hbx
              have HTZ := Lib.hid htkz
              clear hown hBz hbx htkz hck hgk hyw hyz
              go_wp2_with (at_builtin; refine wpList_append_lies _ rfl _ _ 37 rfl (wq.heap.size + 1) 3 i0 (.int .i64 0) 1 8 Tryz.underlying37 hi0 hz0 hz1 hz2 rfl (by decide) (.slice lA z lc) z _ rfl (HOWN.out.alloc _) ⟨wr.heap.size, 0, none⟩ 1 1 [.int .i64 (y + ((R.length : Int) + 1))] rfl rfl (World.news_of_block (cs := #[.int .i64 (y + ((R.length : Int) + 1))]) (t := 3) (fr := (0, 0)) (heap_alloc_new wr _)) (by simp [Value.oneCell']) (by decide) (by unfold maxLen; omega) (by omega) (by simp; omega) (wr.heap.size + 1) (by simp) ?_; intro gg2 cap2 w2 hown2 hgrow2 hat2 hltg2)
              have hfar : ∀ b, b ≤ wq.heap.size → w2.heap[b]? = wr.heap[b]? := fun b hb => by
                refine (hgrow2.block b (by simp; omega) fun e => ?_).trans (Below.heap_alloc _ _ _ (by omega))
                have := (HOWN.out.lt b e.symm).1
                omega
              have HB3 : Hid (Below wq.heap.size wq w2) := Lib.hid (HBZ.out.trans ⟨hgrow2.os, hgrow2.tape, hgrow2.output, by have := hgrow2.size; simp at this; omega, fun b hb => hfar b (by omega)⟩)
              have HX3 := Lib.hid ((hfar _ (Nat.le_refl _)).trans HBX.out)
              have HO3 := Lib.hid hown2
              clear hown2 hgrow2 hat2 hfar HOWN HBZ HBX hxc hyr
              go_wp2_with fail
              go_roundg (gk - 1)
              case measure => omega
              case rel =>
                refine ⟨z + 1, by omega, by go_num, ?_, HB3.out, HX3.out⟩
                rw [HTZ.out, List.map_append, List.map_append]
                exact HO3.out
            · have hxz : x.kids.take z = x.kids := List.take_of_length_le (by omega)
              rw [hxz] at hown
              have hBw : Below wq.heap.size wq (wr.setCell ⟨wq.heap.size, 5, none⟩ (.slice lA z lc)) := hBz.setCell (p := ⟨wq.heap.size, 5, none⟩) (Nat.le_refl _) _
              have hTp := HT2.out.after hBw
              have howp := ownsRow_setCell_below hown (a := ⟨wq.heap.size, 5, none⟩) (by simp) (.slice lA z lc)
              have hkvl := HT2.out.root.lt
              have hzl : z = x.kids.length := by omega
              have hint : IntRow (wr.setCell ⟨wq.heap.size, 5, none⟩ (.slice lA z lc)) kv.ownBlock.toList (.slice lA z lc) (shT (R.length + 1) x).kids := by
                refine own_ints (base := wq.heap.size + 1) _ ?_ fun g' hg' hm => ?_
                · have e : (shT (R.length + 1) x).kids = x.kids.map fun y => y + ((R.length : Int) + 1) := by simp [shT]
                  rw [e, List.length_map, ← hzl]
                  exact howp
                · have h1 := (howp.lt g' hg').1
                  have h2 := (hkvl g' (by simpa using hm)).2
                  omega
              have hb2 := rowset hbx 5 (.slice lA z lc)
              have hp0 : wr.cell? ⟨wq.heap.size, 0, none⟩ = some (.int .i64 x.kind) := by simp [World.cell?, hbx]
              have hp1 : wr.cell? ⟨wq.heap.size, 1, none⟩ = some (.string ⟨x.text.toArray⟩) := by simp [World.cell?, hbx]
              have hp2 : wr.cell? ⟨wq.heap.size, 2, none⟩ = some (.int .i64 x.n) := by simp [World.cell?, hbx]
              have hp3 : wr.cell? ⟨wq.heap.size, 3, none⟩ = some (.int .i64 x.line) := by simp [World.cell?, hbx]
              have hp4 : wr.cell? ⟨wq.heap.size, 4, none⟩ = some (.int .i64 x.col) := by simp [World.cell?, hbx]
              have hpf : wr.frozen? ⟨wq.heap.size, 5, none⟩ = false := by simp [World.frozen?, hbx]
              have HTP := Lib.hid hTp
              have HINT := Lib.hid hint
              have HBW := Lib.hid (HB2.out.trans (hBw.mono HB2.out.size))
              clear hown hBz hbx hTp hint hBw howp hkvl hb2 hxz hzl
              have hnew : ((wr.setCell ⟨wq.heap.size, 5, none⟩ (.slice lA z lc)).alloc (.cells #[.int .i64 x.kind, .string ⟨x.text.toArray⟩, .int .i64 x.n, .int .i64 x.line, .int .i64 x.col, .slice lA z lc] 39)).heap[wr.heap.size]? = some (.cells #[.int .i64 x.kind, .string ⟨x.text.toArray⟩, .int .i64 x.n, .int .i64 x.line, .int .i64 x.col, .slice lA z lc] 39 (0, 0)) := by
                have := heap_alloc_new (wr.setCell ⟨wq.heap.size, 5, none⟩ (.slice lA z lc)) (.cells #[.int .i64 x.kind, .string ⟨x.text.toArray⟩, .int .i64 x.n, .int .i64 x.line, .int .i64 x.col, .slice lA z lc] 39)
                simpa [World.setCell] using this
              have HNEW := Lib.hid hnew
              clear hnew
              go_wp2_with (at_builtin; refine wpList_append_lies _ rfl _ _ 76 rfl w.heap.size 39 i1 _ 6 72 Tryz.underlying76 hi1 hy0 hy1 hy2 rfl (by decide) (.slice (some ⟨g2, 0, none⟩) (R2.length + 1) cl2) (R2.length + 1) _ rfl (HTP.out.row.alloc _) ⟨wr.heap.size, 0, none⟩ 1 1 [.int .i64 x.kind, .string ⟨x.text.toArray⟩, .int .i64 x.n, .int .i64 x.line, .int .i64 x.col, .slice lA z lc] rfl rfl (World.news_of_block HNEW.out) (by simp [Value.oneCell']) (by decide) (by unfold maxLen; omega) (by omega) (by simp [World.setCell]; omega) (wr.heap.size + 1) (by simp [World.setCell]) ?_; intro gg3 cap3 w3 hown3 hgrow3 hat3 hltg3)
              have hpush := HTP.out.push (t := shT (R.length + 1) x) (v5 := .slice lA z lc) ((Below.refl _ _).alloc (Nat.le_refl _) _) hgrow3 hown3 HINT.out
              have HP1 := Lib.hid hpush.1
              have HP2 := Lib.hid (HBW.out.trans (hpush.2.mono (Nat.le_refl _)))
              clear hown3 hgrow3 hat3 hltg3 hpush hp0 hp1 hp2 hp3 hp4 hpf hxc
              go_roundg (X.length - (q + 1))
              case measure => omega
              case rel => exact ⟨q + 1, _, by omega, by go_num, by rw [HR2.out]; exact HP1.out, HP2.out⟩
        · have hqx : X.take q = X := List.take_of_length_le (by omega)
          rw [hqx] at hT2 ⊢
          have hcA2 := (hB2.cell (p := ⟨gA, oA + i, none⟩) hgA).trans hcA
          have HT2 := Lib.hid hT2
          have HB2 := Lib.hid hB2
          clear hT2 hB2 hqx
          go_wp2_with fail
          go_roundg (Rs.length - (i + 1))
          case measure => omega
          case rel => exact ⟨i + 1, kv, xs2, by omega, by go_num, by rw [HTK.out]; simpa using HT2.out, HB2.out⟩
    · have htk : Rs.take i = Rs := List.take_of_length_le (by omega)
      have hiv : ¬ i < vs.length := by have := HL.out; omega
      rw [htk] at hT
      have hgood : R3 wr (.slice (some ⟨g, 0, none⟩) ((twF [] [] Rs).2.length + 1) cl) (twL (at_ t kd s n) Rs) := by
        have := hT.done (gd_twL (d := at_ t kd s n) (l := Rs) (fun X hX => by
          obtain ⟨j, hj, rfl⟩ := List.getElem_of_mem hX
          have hj' : j < vs.length := by have := HL.out; omega
          exact (HR.out j vs[j] Rs[j] (List.getElem?_eq_getElem hj') (List.getElem?_eq_getElem hj)).1) HSZ.out)
        exact this
      rw [htk]
      have HG := Lib.hid hgood
      have HB := Lib.hid hB
      clear hT hB hgood htk
      go_wp2_with fail
      go_ret
      exact ⟨_, rfl, HG.out, HB.out⟩
end Go.Proofs.YtpeoefbibjbinaaGreat
