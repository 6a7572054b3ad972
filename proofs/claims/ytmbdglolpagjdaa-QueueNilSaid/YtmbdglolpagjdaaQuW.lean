/- What stays of memory from one world to another; a loop over an iterator that makes and turns memory of its own. -/
import Derived.Test.YtmbdglolpagjdaaQuF
import Derived.RangeFuncBox
import Derived.RangeFuncNested
import Derived.RangeFuncLeaves
import Derived.OwnWalkIn
import Derived.TacticsInMore
import Derived.LoopNIn
import Derived.LoopIn
import Derived.Maps.OwnIn
import Derived.Maps.OwnSet
import Derived.Maps.AppendAt
namespace Go.Proofs.Ytmbdglolpagjdaa
open Go.RowKit Go.Shelf

/-- Of what type a block's cells are. -/
def tag : Obj → Option TypeId
  | .cells _ t _ => some t
  | _ => none
theorem tag_loop (r : Loop) : tag (.loop r) = none := rfl
theorem tag_def (r : Option (List Deferred)) : tag (.deferred r) = none := rfl
/-- The blocks that p names are as they were; none has gone. -/
structure Kept (p : Nat → Option TypeId → Bool) (W W' : World) : Prop where
  os : W'.os = W.os
  tape : W'.tape = W.tape
  output : W'.output = W.output
  size : W.heap.size ≤ W'.heap.size
  same : ∀ b o, W.heap[b]? = some o → p b (tag o) = true → W'.heap[b]? = some o
section
variable {p q : Nat → Option TypeId → Bool} {W W' W'' : World}
theorem Kept.refl (p : Nat → Option TypeId → Bool) (W : World) : Kept p W W := ⟨rfl, rfl, rfl, Nat.le_refl _, fun _ _ h _ => h⟩
theorem Kept.trans (h : Kept p W W') (k : Kept p W' W'') : Kept p W W'' := ⟨k.os.trans h.os, k.tape.trans h.tape, k.output.trans h.output, Nat.le_trans h.size k.size, fun b o hb hp => k.same b o (h.same b o hb hp) hp⟩
theorem Kept.mono (h : Kept p W W') (hq : ∀ b t, b < W.heap.size → q b t = true → p b t = true) : Kept q W W' := ⟨h.os, h.tape, h.output, h.size, fun b o hb hp => h.same b o hb (hq b _ (Array.getElem?_eq_some_iff.1 hb).1 hp)⟩
theorem Kept.drew (p : Nat → Option TypeId → Bool) (W : World) : Kept p W W.drew := ⟨rfl, rfl, rfl, Nat.le_refl _, fun _ _ h _ => h⟩
theorem Kept.alloc (p : Nat → Option TypeId → Bool) (W : World) (o : Obj) : Kept p W (W.alloc o) := ⟨rfl, rfl, rfl, by simp, fun b o' hb _ => (Below.heap_alloc W o b (Array.getElem?_eq_some_iff.1 hb).1).trans hb⟩
theorem Kept.setCell {a : Addr} (v : Value) (ho : ∀ o, W.heap[a.block]? = some o → p a.block (tag o) = false) : Kept p W (W.setCell a v) :=
  ⟨rfl, rfl, rfl, (KeepsWalks.setCell W a v).size, fun b o hb hp => by
    have hne : b ≠ a.block := fun e => by subst e; rw [ho o hb] at hp; cases hp
    exact (Below.heap_setCell _ _ _ b hne).trans hb⟩
theorem Kept.putObj {l : Nat} {o' : Obj} (ho : ∀ o, W.heap[l]? = some o → p l (tag o) = false) : Kept p W (W.putObj l o') :=
  ⟨rfl, rfl, rfl, by simp, fun b o hb hp => by
    have hne : b ≠ l := fun e => by subst e; rw [ho o hb] at hp; cases hp
    exact (World.putObj_heap_other hne).trans hb⟩
theorem Kept.grown {row : Option Nat} (hg : W.grownBy W' row) (ho : ∀ j o, row = some j → W.heap[j]? = some o → p j (tag o) = false) : Kept p W W' :=
  ⟨hg.os, hg.tape, hg.output, hg.size, fun b o hb hp => by
    refine (hg.block b (Array.getElem?_eq_some_iff.1 hb).1 fun e => ?_).trans hb
    rw [ho b o e.symm hb] at hp; cases hp⟩
theorem Kept.below {B : Nat} (h : Kept p W W') (hp : ∀ b t, b < B → p b t = true) (hB : B ≤ W.heap.size) : Below B W W' :=
  ⟨h.os, h.tape, h.output, h.size, fun b hb => by
    have hb' : b < W.heap.size := by omega
    rw [Array.getElem?_eq_getElem hb', h.same b _ (Array.getElem?_eq_getElem hb') (hp b _ hb)]⟩
theorem Kept.of_below {B : Nat} (h : Below B W W') (hp : ∀ b t, b < W.heap.size → p b t = true → b < B) : Kept p W W' :=
  ⟨h.os, h.tape, h.output, h.size, fun b _ hb hb' => (h.block b (hp b _ (Array.getElem?_eq_some_iff.1 hb).1 hb')).trans hb⟩
theorem Kept.cell (h : Kept p W W') {a : Addr} {v : Value} (hc : W.cell? a = some v) (hp : ∀ o, W.heap[a.block]? = some o → p a.block (tag o) = true) : W'.cell? a = some v := by
  have hlt := World.block_lt_of_cell? W a hc
  exact (World.cell?_of_block (by rw [h.same a.block _ (Array.getElem?_eq_getElem hlt) (hp _ (Array.getElem?_eq_getElem hlt)), Array.getElem?_eq_getElem hlt])).trans hc
theorem Kept.row (h : Kept p W W') {base : Nat} {e : TypeId} {size n : Nat} {v : Value} {xs : List Value} (hr : W.ownsRow base e size v n xs) (hp : ∀ g, v.ownBlock = some g → p g (some e) = true) : W'.ownsRow base e size v n xs := by
  refine ⟨hr.1, ?_⟩
  rcases hr.2 with h1 | ⟨g, cap, cur, rfl, h1, h2, h3⟩
  · exact .inl h1
  · exact .inr ⟨g, cap, cur, rfl, h1, h.same g _ h2 (hp g (by simp [Value.ownBlock])), h3⟩
theorem Kept.map {H : Type} {P : Program} {k : TypeId} {R : Value → Option (DataW H × List MemPlace)} {b n : Nat} {D : DataW H} (h : Kept p W W') (hm : W.ownsMap P k R b n D) (hp : p b none = true) : W'.ownsMap P k R b n D := by
  obtain ⟨es, clock, h1, h2⟩ := hm
  exact ⟨es, clock, h.same b _ h1 hp, h2⟩
end
/-- All old blocks. -/
def pOld (B : Nat) : Nat → Option TypeId → Bool := fun b _ => decide (b < B)
/-- What an iterator's own steps leave as it is: what was there ahead of it, and cells but for numbers and a box of their list. -/
def pR (B : Nat) : Nat → Option TypeId → Bool := fun b t => decide (b < B) || (match t with | none => false | some t => !(t == 3 || t == 42))
/-- What a loop's body leaves as it is: cells but for items and a box of their list; what is no cells, from B on. -/
def pK (B : Nat) : Nat → Option TypeId → Bool := fun b t => match t with | none => decide (B ≤ b) | some t => !(t == 32 || t == 27)
def pN (B : Nat) : Nat → Option TypeId → Bool := fun b t => match t with | none => decide (B ≤ b) | some _ => false
theorem pR_le {B B' : Nat} (h : B ≤ B') (b : Nat) (t : Option TypeId) (hp : pR B b t = true) : pR B' b t = true := by
  unfold pR at *; simp only [Bool.or_eq_true, decide_eq_true_eq] at *
  rcases hp with h1 | h1
  · left; omega
  · right; exact h1
theorem pK_le {B B' : Nat} (h : B ≤ B') (b : Nat) (t : Option TypeId) (hp : pK B' b t = true) : pK B b t = true := by
  unfold pK at *; cases t with
  | none => simp only [decide_eq_true_eq] at *; omega
  | some t => exact hp
theorem pN_le {B B' : Nat} (h : B ≤ B') (b : Nat) (t : Option TypeId) (hp : pN B' b t = true) : pN B b t = true := by
  unfold pN at *; cases t with
  | none => simp only [decide_eq_true_eq] at *; omega
  | some t => exact hp
theorem pN_pK {B : Nat} (b : Nat) (t : Option TypeId) (hp : pN B b t = true) : pK B b t = true := by
  unfold pN pK at *; cases t with
  | none => exact hp
  | some t => cases hp
/-- What abides an iterator's own steps. -/
def Stab (B : Nat) (φ : World → Prop) : Prop := ∀ W W', φ W → Kept (pR B) W W' → φ W'
theorem Stab.le {B B' : Nat} {φ : World → Prop} (h : Stab B φ) (hB : B ≤ B') : Stab B' φ := fun W W' hw hk => h W W' hw (hk.mono fun b t _ => pR_le hB b t)
theorem Stab.putObj {B l : Nat} {φ : World → Prop} {W : World} (h : Stab B φ) (o : Obj) (hw : φ W) (hl : B ≤ l) (hn : ∀ o, W.heap[l]? = some o → tag o = none) : φ (W.putObj l o) :=
  h _ _ hw (Kept.putObj fun o ho => by rw [hn o ho]; simp [pR]; omega)
/-- g, called with a loop's yield, gives it the items xs, one by one. -/
def Seq {α : Type} (g : Nat) (lb : Array Value) (encs : α → Array Value) (xs : List α) (w : World) : Prop :=
  ∀ (n l : Nat) (J Jx : List α → World → Prop) (W : World), Kept (pOld w.heap.size) w W → (∀ s, Stab W.heap.size (J s)) → (∀ s, Stab W.heap.size (Jx s)) →
    (∀ pre x W1, pre ++ [x] <+: xs → J pre W1 → YieldAt Fence.wide (n - 1) Try.prog l (encs x) W1 fun e W2 =>
      (e = .returned (.bool true) ∧ J (pre ++ [x]) W2 ∧ Kept (pK W.heap.size) W1 W2) ∨ (e = .returned (.bool false) ∧ Jx (pre ++ [x]) W2 ∧ Kept (pN W.heap.size) W1 W2)) →
    J [] W → CallsIn Fence.wide n Try.prog g (#[.func (.yield l) #[] #[]] ++ lb) W fun e W' => (∃ v, e = .returned v) ∧ (J xs W' ∨ ∃ pre x, pre ++ [x] <+: xs ∧ Jx (pre ++ [x]) W')
theorem Seq.kept {α : Type} {g : Nat} {lb : Array Value} {encs : α → Array Value} {xs : List α} {w w' : World} (h : Seq g lb encs xs w) (hk : Kept (pOld w.heap.size) w w') : Seq g lb encs xs w' :=
  fun n l J Jx W hW => h n l J Jx W (hk.trans (hW.mono fun b t _ hb => by simp only [pOld, decide_eq_true_eq] at *; have := hk.size; omega))
/-- How the body of a round may be left. -/
def qPost {α : Type} (B : Nat) (I : List α → World → Prop) (Ix : Code → List α → World → Prop) (xs : List α) (W : World) : Exit → Act → World → Prop
  | .normal, _, W' => Kept (pK B) W W' ∧ I xs W'
  | .ret, _, W' => Kept (pN B) W W' ∧ Ix .ret xs W'
  | .exit id, _, W' => Kept (pN B) W W' ∧ Ix (.exit id) xs W'
  | .goto t, _, W' => Kept (pN B) W W' ∧ Ix (.goto t) xs W'
  | .panic _, _, _ => False
  | .outgrown, _, _ => False
def markAt (D : Nat) : Deferred := { target := .collected D, args := #[] }

theorem range_q {α : Type} {n : Nat} {g : Operand} {ps : Array Tmp} {assign body : Code} {Q : Exit → Act → World → Prop} {a : Act} {w : World} {gf : Nat} {lb : Array Value}
    (hg : a.eval g = .func (.func gf) #[] lb) (eg : ∀ args w, (callFunc gf args).run Try.prog w = .ok (.enter gf args) w)
    {encs : α → Array Value} {xs : List α} (hseq : Seq gf lb encs xs w) (hps : ∀ x, (encs x).size = ps.size)
    (I : List α → World → Prop) (Ix : Code → List α → World → Prop) (hI : ∀ s, Stab w.heap.size (I s)) (hIx : ∀ c s, Stab w.heap.size (Ix c s)) (h0 : I [] w)
    (Ax : α → Act → World → Prop) (hAx : ∀ x a', Stab w.heap.size (Ax x a'))
    (hassign : ∀ (l : Nat) (pre : List α) (x : α) (W : World) (K : Act → World → Prop), I pre W → pre ++ [x] <+: xs → (∀ a' W', Kept (pK w.heap.size) W W' → I pre W' → Ax x a' W' → K a' W') →
      assign.wpIn (Fence.wide.inRound l) (n - 1 - 1) Try.prog (Exit.then K (fun _ _ _ => False)) { tmps := (ps.zip (encs x)).foldl (fun t (p, v) => t.setIfInBounds p v) a.tmps, defers := [] } W)
    (hbody : ∀ (l : Nat) (pre : List α) (x : α) (a' : Act) (W : World), w.heap.size ≤ l → pre ++ [x] <+: xs → I pre W → Ax x a' W → body.wpIn (Fence.wide.inRound l) (n - 1 - 1) Try.prog (qPost w.heap.size I Ix (pre ++ [x]) W) a' W)
    (hdone : ∀ W, I xs W → W.heap[w.heap.size]? = some (.deferred (some [])) → Q .normal { a with defers := markAt w.heap.size :: a.defers } W)
    (hstop : ∀ c pre x W, pre ++ [x] <+: xs → Ix c (pre ++ [x]) W → W.heap[w.heap.size]? = some (.deferred (some [])) → c.wpIn Fence.wide n Try.prog Q { a with defers := markAt w.heap.size :: a.defers } W) :
    (Code.rangeFunc g ps assign body).wpIn Fence.wide n Try.prog Q a w := by
  refine wpIn_rangeFunc fun fn hfn => ?_
  obtain ⟨rec, hrec⟩ : ∃ rec : LoopState → Option Code → Loop, rec = fun st pe => { state := st, pending := pe, fn, tmps := a.tmps, params := ps, assign, body, defers := w.heap.size } := ⟨_, rfl⟩
  generalize hWs : (w.alloc (.deferred (some []))).alloc (.loop (rec .ready none)) = Ws
  have hs : Ws.heap.size = w.heap.size + 2 := by rw [← hWs]; simp
  have hr : Ws.heap[w.heap.size + 1]? = some (.loop (rec .ready none)) := by
    rw [← hWs]; have := World.alloc_heap_new (w.alloc (.deferred (some []))) (.loop (rec .ready none)); rwa [World.size_alloc] at this
  have hm : Ws.heap[w.heap.size]? = some (.deferred (some [])) := by
    rw [← hWs]; exact (Below.heap_alloc _ _ _ (by simp)).trans (World.alloc_heap_new w _)
  have hk : ∀ p, Kept p w Ws := fun p => by rw [← hWs]; exact (Kept.alloc p w _).trans (Kept.alloc p _ _)
  refine ⟨w.heap.size + 1, [markAt w.heap.size], Ws, { target := .fn (.func gf) lb, args := #[.func (.yield (w.heap.size + 1)) #[] #[]] }, Ws, gf, #[.func (.yield (w.heap.size + 1)) #[] #[]] ++ lb, Ws, ?_, ?_, fun _ _ => trivial, ?_, fun h => by simp [Fence.wide] at h, ?_⟩
  · rw [← hWs, hrec]; exact run_enterLoop_outer _ _ _ _ _
  · simp only [resolve, hg]; simp [go_sem]
  · simp [invoke, go_sem, eg]
  have kR : ∀ {W W' : World} {st pe} {b : Nat}, Kept (pR Ws.heap.size) W W' → b < w.heap.size + 2 → W.heap[b]? = some st → tag st = pe → W'.heap[b]? = some st := fun h hb h1 _ => h.same _ _ h1 (by simp [pR]; left; omega)
  refine (hseq (n - 1) (w.heap.size + 1)
    (fun pre W => I pre W ∧ W.heap[w.heap.size + 1]? = some (.loop (rec .ready none)) ∧ W.heap[w.heap.size]? = some (.deferred (some [])))
    (fun pre W => ∃ c, Ix c pre W ∧ W.heap[w.heap.size + 1]? = some (.loop (rec .done (some c))) ∧ W.heap[w.heap.size]? = some (.deferred (some [])))
    Ws (hk _)
    (fun s W W' h hkk => ⟨(hI s).le (by omega) W W' h.1 hkk, kR hkk (by omega) h.2.1 rfl, kR hkk (by omega) h.2.2 rfl⟩)
    (fun s W W' h hkk => by obtain ⟨c, h1, h2, h3⟩ := h; exact ⟨c, (hIx c s).le (by omega) W W' h1 hkk, kR hkk (by omega) h2 rfl, kR hkk (by omega) h3 rfl⟩)
    ?round ⟨hI _ _ _ h0 (hk _), hr, hm⟩).mono ?behind
  case round =>
    rintro pre x W hpre ⟨hi, hl, hd⟩
    have hy := run_yield (P := Try.prog) (args := encs x) hl (by rw [hrec]; exact hps x)
    rw [hrec] at hy
    refine ⟨fn, _, assign, body, hy, roundIn_of_wpIn hfn (hassign _ pre x W _ hi hpre ?_)⟩
    clear hy
    intro a' Wa hka hia hax
    have hN : ∀ {W W' : World} {o : Obj} {b : Nat}, Kept (pK w.heap.size) W W' → w.heap.size ≤ b → W.heap[b]? = some o → tag o = none → W'.heap[b]? = some o := fun h hb h1 h2 => h.same _ _ h1 (by rw [h2]; simp [pK, hb])
    have hl1 := hN hka (by omega) hl rfl
    have hd1 := hN hka (by omega) hd rfl
    have hlt : w.heap.size + 1 < Wa.heap.size := (Array.getElem?_eq_some_iff.1 hl1).1
    refine ⟨_, run_beginRound hl1 (by rw [hrec]), ?_⟩
    have hn1 : ∀ o, Wa.heap[w.heap.size + 1]? = some o → tag o = none := fun o ho => by rw [hl1] at ho; cases ho; rfl
    have hl2 : (Wa.putObj (w.heap.size + 1) (.loop { rec .ready none with state := .busy })).heap[w.heap.size + 1]? = some (.loop { rec .ready none with state := .busy }) := World.putObj_heap_same hlt
    have hd2 : (Wa.putObj (w.heap.size + 1) (.loop { rec .ready none with state := .busy })).heap[w.heap.size]? = some (.deferred (some [])) := (World.putObj_heap_other (by omega)).trans hd1
    have hk2 : Kept (pK Ws.heap.size) Wa (Wa.putObj (w.heap.size + 1) (.loop { rec .ready none with state := .busy })) := Kept.putObj fun o ho => by rw [hn1 o ho]; simp [pK]; omega
    refine wpIn_mono (hbody _ pre x a' _ (by omega) hpre ((hI pre).putObj _ hia (by omega) hn1) ((hAx x a').putObj _ hax (by omega) hn1)) ?_
    have fin : ∀ (jump : Option Code) (W3 : World), Kept (pN w.heap.size) (Wa.putObj (w.heap.size + 1) (.loop { rec .ready none with state := .busy })) W3 →
        (Instr.endRound (w.heap.size + 1) jump).run Try.prog W3 = .ok (.bool jump.isNone) (W3.putObj (w.heap.size + 1) (.loop (rec (if jump.isNone then .ready else .done) jump))) ∧
        (∀ o, W3.heap[w.heap.size + 1]? = some o → tag o = none) ∧
        (W3.putObj (w.heap.size + 1) (.loop (rec (if jump.isNone then .ready else .done) jump))).heap[w.heap.size + 1]? = some (.loop (rec (if jump.isNone then .ready else .done) jump)) ∧
        (W3.putObj (w.heap.size + 1) (.loop (rec (if jump.isNone then .ready else .done) jump))).heap[w.heap.size]? = some (.deferred (some [])) := fun jump W3 h3 => by
      have hl3 := h3.same _ _ hl2 (by rw [tag_loop]; simp [pN])
      have hd3 := h3.same _ _ hd2 (by rw [tag_def]; simp [pN])
      have := run_endRound (P := Try.prog) jump hl3
      rw [hrec] at this hl3 ⊢
      exact ⟨this, fun o ho => by rw [hl3] at ho; cases ho; rfl, World.putObj_heap_same (Array.getElem?_eq_some_iff.1 hl3).1, (World.putObj_heap_other (by omega)).trans hd3⟩
    have low : ∀ {W3 : World} {o' : Obj}, Kept (pN w.heap.size) (Wa.putObj (w.heap.size + 1) (.loop { rec .ready none with state := .busy })) W3 → (∀ o, W3.heap[w.heap.size + 1]? = some o → tag o = none) → Kept (pN Ws.heap.size) W (W3.putObj (w.heap.size + 1) o') := fun h3 h2 =>
      ((hka.mono fun b t _ hp => pN_pK b t (pN_le (by omega) b t hp)).trans (hk2.mono fun b t _ => pN_pK b t)).trans ((h3.mono fun b t _ => pN_le (by omega) b t).trans (Kept.putObj fun o ho => by rw [h2 o ho]; simp [pN]; omega))
    rintro e a3 W3 hp
    cases e with
    | normal =>
      obtain ⟨hk3, hi3⟩ := hp
      obtain ⟨h1, h2, h3, h4⟩ := fin none W3 (hk3.mono fun b t _ => pN_pK b t)
      refine ⟨_, _, h1, .inl ⟨rfl, ⟨(hI _).putObj _ hi3 (by omega) h2, h3, h4⟩, ?_⟩⟩
      refine ((hka.mono fun b t _ => pK_le (by omega) b t).trans hk2).trans ((hk3.mono fun b t _ => pK_le (by omega) b t).trans (Kept.putObj fun o ho => ?_))
      rw [h2 o ho]; simp [pK]; omega
    | ret =>
      obtain ⟨hk3, hi3⟩ := hp
      obtain ⟨h1, h2, h3, h4⟩ := fin (some .ret) W3 hk3
      exact ⟨_, _, h1, .inr ⟨rfl, ⟨.ret, (hIx _ _).putObj _ hi3 (by omega) h2, h3, h4⟩, low hk3 h2⟩⟩
    | exit id =>
      obtain ⟨hk3, hi3⟩ := hp
      obtain ⟨h1, h2, h3, h4⟩ := fin (some (.exit id)) W3 hk3
      exact ⟨_, _, h1, .inr ⟨rfl, ⟨.exit id, (hIx _ _).putObj _ hi3 (by omega) h2, h3, h4⟩, low hk3 h2⟩⟩
    | goto t =>
      obtain ⟨hk3, hi3⟩ := hp
      obtain ⟨h1, h2, h3, h4⟩ := fin (some (.goto t)) W3 hk3
      exact ⟨_, _, h1, .inr ⟨rfl, ⟨.goto t, (hIx _ _).putObj _ hi3 (by omega) h2, h3, h4⟩, low hk3 h2⟩⟩
    | panic ch => exact hp.elim
    | outgrown => exact hp.elim
  case behind =>
    rintro e W2 ⟨⟨v, rfl⟩, ⟨hi, hl, hd⟩ | ⟨pre, x, hpre, c, hi, hl, hd⟩⟩
    · have h1 := run_endLoop (P := Try.prog) hl (by rw [hrec]; simp)
      rw [hrec] at h1
      exact ⟨none, _, h1, hdone _ ((hI _).putObj _ hi (by omega) fun o ho => by rw [hl] at ho; cases ho; rfl) ((World.putObj_heap_other (by omega)).trans hd)⟩
    · have h1 := run_endLoop (P := Try.prog) hl (by rw [hrec]; simp)
      rw [hrec] at h1
      exact ⟨some c, _, h1, hstop c pre x _ hpre ((hIx _ _).putObj _ hi (by omega) fun o ho => by rw [hl] at ho; cases ho; rfl) ((World.putObj_heap_other (by omega)).trans hd)⟩
end Go.Proofs.Ytmbdglolpagjdaa
