/- A loop over an iterator that makes memory: of no law of its own (out of the queue's texts; what is given is counted, and told by a relation). -/
import Derived.Test.YtkljdpjdlccidaaDoorHrA
namespace Go.Proofs.YtkljdpjdlccidaaDoor
open Go.RowKit Go.Shelf

/-- What an iterator's own steps leave as it is: what was there ahead of it, and all that is no mark. -/
def pR (B : Nat) : Nat → Option TypeId → Bool := fun b t => decide (b < B) || t.isSome
/-- What a loop's body leaves as it is: cells that K names; marks from B on. -/
def pK (K : Nat → TypeId → Bool) (B : Nat) : Nat → Option TypeId → Bool := fun b t => match t with | none => decide (B ≤ b) | some t => K b t
def pN (B : Nat) : Nat → Option TypeId → Bool := fun b t => match t with | none => decide (B ≤ b) | some _ => false
theorem pR_le {B B' : Nat} (h : B ≤ B') (b : Nat) (t : Option TypeId) (hp : pR B b t = true) : pR B' b t = true := by
  unfold pR at *; simp only [Bool.or_eq_true, decide_eq_true_eq] at *
  rcases hp with h1 | h1
  · left; omega
  · right; exact h1
theorem pK_le {K : Nat → TypeId → Bool} {B B' : Nat} (h : B ≤ B') (b : Nat) (t : Option TypeId) (hp : pK K B' b t = true) : pK K B b t = true := by
  unfold pK at *; cases t with
  | none => simp only [decide_eq_true_eq] at *; omega
  | some t => exact hp
theorem pN_le {B B' : Nat} (h : B ≤ B') (b : Nat) (t : Option TypeId) (hp : pN B' b t = true) : pN B b t = true := by
  unfold pN at *; cases t with
  | none => simp only [decide_eq_true_eq] at *; omega
  | some t => exact hp
theorem pN_pK {K : Nat → TypeId → Bool} {B : Nat} (b : Nat) (t : Option TypeId) (hp : pN B b t = true) : pK K B b t = true := by
  unfold pN pK at *; cases t with
  | none => exact hp
  | some t => cases hp
/-- What abides an iterator's own steps. -/
def Stab (B : Nat) (φ : World → Prop) : Prop := ∀ W W', φ W → Kept (pR B) W W' → φ W'
theorem Stab.le {B B' : Nat} {φ : World → Prop} (h : Stab B φ) (hB : B ≤ B') : Stab B' φ := fun W W' hw hk => h W W' hw (hk.mono fun b t _ hb => pR_le hB b t hb)
theorem Stab.putObj {B l : Nat} {φ : World → Prop} {W : World} (h : Stab B φ) (o : Obj) (hw : φ W) (hl : B ≤ l) (hn : ∀ o, W.heap[l]? = some o → tag o = none) : φ (W.putObj l o) :=
  h _ _ hw (Kept.putObj fun o ho => by rw [hn o ho]; simp [pR]; omega)
/-- g, called with a loop's yield, gives it n times what enc tells of. -/
def Seq (g : Nat) (lb : Array Value) (enc : Nat → Array Value → World → Prop) (K : Array Value → Nat → TypeId → Bool) (N : Nat) (w : World) : Prop :=
  ∀ (n l : Nat) (J Jx : Nat → World → Prop) (W : World), Kept (pOld w.heap.size) w W → (∀ s, Stab W.heap.size (J s)) → (∀ s, Stab W.heap.size (Jx s)) →
    (∀ k x W1, k < N → enc k x W1 → J k W1 → YieldAt Fence.wide (n - 1) Tryd.prog l x W1 fun e W2 =>
      (e = .returned (.bool true) ∧ J (k + 1) W2 ∧ Kept (pK (K x) W.heap.size) W1 W2) ∨ (e = .returned (.bool false) ∧ Jx (k + 1) W2 ∧ Kept (pN W.heap.size) W1 W2)) →
    J 0 W → CallsIn Fence.wide n Tryd.prog g (#[.func (.yield l) #[] #[]] ++ lb) W fun e W' => (∃ v, e = .returned v) ∧ (J N W' ∨ ∃ k, k < N ∧ Jx (k + 1) W')
theorem Seq.kept {g : Nat} {lb : Array Value} {enc : Nat → Array Value → World → Prop} {K : Array Value → Nat → TypeId → Bool} {N : Nat} {w w' : World} (h : Seq g lb enc K N w) (hk : Kept (pOld w.heap.size) w w') : Seq g lb enc K N w' :=
  fun n l J Jx W hW => h n l J Jx W (hk.trans (hW.mono fun b t _ hb => by simp only [pOld, decide_eq_true_eq] at *; have := hk.size; omega))
/-- How the body of a round may be left. -/
def qPost (K : Nat → TypeId → Bool) (B : Nat) (I : Nat → World → Prop) (Ix : Code → Nat → World → Prop) (k : Nat) (W : World) : Exit → Act → World → Prop
  | .normal, _, W' => Kept (pK K B) W W' ∧ I k W'
  | .ret, _, W' => Kept (pN B) W W' ∧ Ix .ret k W'
  | .exit id, _, W' => Kept (pN B) W W' ∧ Ix (.exit id) k W'
  | .goto t, _, W' => Kept (pN B) W W' ∧ Ix (.goto t) k W'
  | .panic _, _, _ => False
  | .outgrown, _, _ => False
def markAt (D : Nat) : Deferred := { target := .collected D, args := #[] }
theorem range_q {n : Nat} {g : Operand} {ps : Array Tmp} {assign body : Code} {Q : Exit → Act → World → Prop} {a : Act} {w : World} {gf : Nat} {lb : Array Value}
    (hg : a.eval g = .func (.func gf) #[] lb) (eg : ∀ args w, (callFunc gf args).run Tryd.prog w = .ok (.enter gf args) w)
    {enc : Nat → Array Value → World → Prop} {K : Array Value → Nat → TypeId → Bool} {N : Nat} (hseq : Seq gf lb enc K N w) (hps : ∀ k x W, enc k x W → x.size = ps.size)
    (I : Nat → World → Prop) (Ix : Code → Nat → World → Prop) (hI : ∀ s, Stab w.heap.size (I s)) (hIx : ∀ c s, Stab w.heap.size (Ix c s)) (h0 : I 0 w)
    (Ax : Nat → Array Value → Act → World → Prop) (hAx : ∀ k x a', Stab w.heap.size (Ax k x a'))
    (hassign : ∀ (l k : Nat) (x : Array Value) (W : World) (C : Act → World → Prop), k < N → enc k x W → I k W → (∀ a' W', Kept (pK (K x) w.heap.size) W W' → I k W' → Ax k x a' W' → C a' W') →
      assign.wpIn (Fence.wide.inRound l) (n - 1 - 1) Tryd.prog (Exit.then C (fun _ _ _ => False)) { tmps := (ps.zip x).foldl (fun t (p, v) => t.setIfInBounds p v) a.tmps, defers := [] } W)
    (hbody : ∀ (l k : Nat) (x : Array Value) (a' : Act) (W : World), w.heap.size ≤ l → k < N → I k W → Ax k x a' W → body.wpIn (Fence.wide.inRound l) (n - 1 - 1) Tryd.prog (qPost (K x) w.heap.size I Ix (k + 1) W) a' W)
    (hdone : ∀ W, I N W → W.heap[w.heap.size]? = some (.deferred (some [])) → Q .normal { a with defers := markAt w.heap.size :: a.defers } W)
    (hstop : ∀ c k W, k < N → Ix c (k + 1) W → W.heap[w.heap.size]? = some (.deferred (some [])) → c.wpIn Fence.wide n Tryd.prog Q { a with defers := markAt w.heap.size :: a.defers } W) :
    (Code.rangeFunc g ps assign body).wpIn Fence.wide n Tryd.prog Q a w := by
  refine wpIn_rangeFunc fun fn hfn => ?_
  obtain ⟨rec, hrec⟩ : ∃ rec : LoopState → Option Code → Loop, rec = fun st pe => { state := st, pending := pe, fn, tmps := a.tmps, params := ps, assign, body, defers := w.heap.size } := ⟨_, rfl⟩
  generalize hWs : (w.alloc (.deferred (some []))).alloc (.loop (rec .ready none)) = Ws
  have hs : Ws.heap.size = w.heap.size + 2 := by rw [← hWs]; simp
  have hr : Ws.heap[w.heap.size + 1]? = some (.loop (rec .ready none)) := by
    rw [← hWs]; have := World.alloc_heap_new (w.alloc (.deferred (some []))) (.loop (rec .ready none)); rwa [World.size_alloc] at this
  have hm : Ws.heap[w.heap.size]? = some (.deferred (some [])) := by
    rw [← hWs]; exact (Below.heap_alloc _ _ _ (by simp)).trans (World.alloc_heap_new w _)
  have hk : ∀ p, Kept p w Ws := fun p => by rw [← hWs]; exact (Kept.alloc p w _).trans (Kept.alloc p _ _)
  refine ⟨w.heap.size + 1, [markAt w.heap.size], Ws, { target := .fn (.func gf) lb, args := #[.func (.yield (w.heap.size + 1)) #[] #[]] }, Ws, gf, #[.func (.yield (w.heap.size + 1)) #[] #[]] ++ lb, Ws, ?_, ?_, fun _ _ => trivial, ?_, fun h => by simp [Fence.wide] at h, ?_⟩
  · rw [← hWs, hrec]; exact run_enterLoop_outer _ _ _ _ _
  · simp only [resolve, hg]; simp [go_sem]
  · simp [invoke, go_sem, eg]
  have kR : ∀ {W W' : World} {st pe} {b : Nat}, Kept (pR Ws.heap.size) W W' → b < w.heap.size + 2 → W.heap[b]? = some st → tag st = pe → W'.heap[b]? = some st := fun h hb h1 _ => h.same _ _ h1 (by simp [pR]; left; omega)
  refine (hseq (n - 1) (w.heap.size + 1)
    (fun k W => I k W ∧ W.heap[w.heap.size + 1]? = some (.loop (rec .ready none)) ∧ W.heap[w.heap.size]? = some (.deferred (some [])))
    (fun k W => ∃ c, Ix c k W ∧ W.heap[w.heap.size + 1]? = some (.loop (rec .done (some c))) ∧ W.heap[w.heap.size]? = some (.deferred (some [])))
    Ws (hk _)
    (fun s W W' h hkk => ⟨(hI s).le (by omega) W W' h.1 hkk, kR hkk (by omega) h.2.1 rfl, kR hkk (by omega) h.2.2 rfl⟩)
    (fun s W W' h hkk => by obtain ⟨c, h1, h2, h3⟩ := h; exact ⟨c, (hIx c s).le (by omega) W W' h1 hkk, kR hkk (by omega) h2 rfl, kR hkk (by omega) h3 rfl⟩)
    ?round ⟨hI _ _ _ h0 (hk _), hr, hm⟩).mono ?behind
  case round =>
    rintro k x W hpre henc ⟨hi, hl, hd⟩
    have hy := run_yield (P := Tryd.prog) (args := x) hl (by rw [hrec]; exact hps k x W henc)
    rw [hrec] at hy
    refine ⟨fn, _, assign, body, hy, roundIn_of_wpIn hfn (hassign _ k x W _ hpre henc hi ?_)⟩
    clear hy
    intro a' Wa hka hia hax
    have hN : ∀ {W W' : World} {o : Obj} {b : Nat}, Kept (pK (K x) w.heap.size) W W' → w.heap.size ≤ b → W.heap[b]? = some o → tag o = none → W'.heap[b]? = some o := fun h hb h1 h2 => h.same _ _ h1 (by rw [h2]; simp [pK, hb])
    have hl1 := hN hka (by omega) hl rfl
    have hd1 := hN hka (by omega) hd rfl
    have hlt : w.heap.size + 1 < Wa.heap.size := (Array.getElem?_eq_some_iff.1 hl1).1
    refine ⟨_, run_beginRound hl1 (by rw [hrec]), ?_⟩
    have hn1 : ∀ o, Wa.heap[w.heap.size + 1]? = some o → tag o = none := fun o ho => by rw [hl1] at ho; cases ho; rfl
    have hl2 : (Wa.putObj (w.heap.size + 1) (.loop { rec .ready none with state := .busy })).heap[w.heap.size + 1]? = some (.loop { rec .ready none with state := .busy }) := World.putObj_heap_same hlt
    have hd2 : (Wa.putObj (w.heap.size + 1) (.loop { rec .ready none with state := .busy })).heap[w.heap.size]? = some (.deferred (some [])) := (World.putObj_heap_other (by omega)).trans hd1
    have hk2 : Kept (pK (K x) Ws.heap.size) Wa (Wa.putObj (w.heap.size + 1) (.loop { rec .ready none with state := .busy })) := Kept.putObj fun o ho => by rw [hn1 o ho]; simp [pK]; omega
    refine wpIn_mono (hbody _ k x a' _ (by omega) hpre ((hI k).putObj _ hia (by omega) hn1) ((hAx k x a').putObj _ hax (by omega) hn1)) ?_
    have fin : ∀ (jump : Option Code) (W3 : World), Kept (pN w.heap.size) (Wa.putObj (w.heap.size + 1) (.loop { rec .ready none with state := .busy })) W3 →
        (Instr.endRound (w.heap.size + 1) jump).run Tryd.prog W3 = .ok (.bool jump.isNone) (W3.putObj (w.heap.size + 1) (.loop (rec (if jump.isNone then .ready else .done) jump))) ∧
        (∀ o, W3.heap[w.heap.size + 1]? = some o → tag o = none) ∧
        (W3.putObj (w.heap.size + 1) (.loop (rec (if jump.isNone then .ready else .done) jump))).heap[w.heap.size + 1]? = some (.loop (rec (if jump.isNone then .ready else .done) jump)) ∧
        (W3.putObj (w.heap.size + 1) (.loop (rec (if jump.isNone then .ready else .done) jump))).heap[w.heap.size]? = some (.deferred (some [])) := fun jump W3 h3 => by
      have hl3 := h3.same _ _ hl2 (by rw [tag_loop]; simp [pN])
      have hd3 := h3.same _ _ hd2 (by rw [tag_def]; simp [pN])
      have := run_endRound (P := Tryd.prog) jump hl3
      rw [hrec] at this hl3 ⊢
      exact ⟨this, fun o ho => by rw [hl3] at ho; cases ho; rfl, World.putObj_heap_same (Array.getElem?_eq_some_iff.1 hl3).1, (World.putObj_heap_other (by omega)).trans hd3⟩
    have low : ∀ {W3 : World} {o' : Obj}, Kept (pN w.heap.size) (Wa.putObj (w.heap.size + 1) (.loop { rec .ready none with state := .busy })) W3 → (∀ o, W3.heap[w.heap.size + 1]? = some o → tag o = none) → Kept (pN Ws.heap.size) W (W3.putObj (w.heap.size + 1) o') := fun h3 h2 =>
      ((hka.mono fun b t _ hp => pN_pK b t (pN_le (by omega) b t hp)).trans (hk2.mono fun b t _ => pN_pK b t)).trans ((h3.mono fun b t _ => pN_le (by omega) b t).trans (Kept.putObj fun o ho => by rw [h2 o ho]; simp [pN]; omega))
    rintro e a3 W3 hp
    cases e with
    | normal =>
      obtain ⟨hk3, hi3⟩ := hp
      obtain ⟨h1, h2, h3, h4⟩ := fin none W3 (hk3.mono fun b t _ => pN_pK b t)
      refine ⟨_, _, h1, .inl ⟨rfl, ⟨(hI _).putObj _ hi3 (by omega) h2, h3, h4⟩, ?_⟩⟩
      refine ((hka.mono fun b t _ => pK_le (by omega) b t).trans hk2).trans ((hk3.mono fun b t _ => pK_le (by omega) b t).trans (Kept.putObj fun o ho => ?_))
      rw [h2 o ho]; simp [pK]; omega
    | ret =>
      obtain ⟨hk3, hi3⟩ := hp
      obtain ⟨h1, h2, h3, h4⟩ := fin (some .ret) W3 hk3
      exact ⟨_, _, h1, .inr ⟨rfl, ⟨.ret, (hIx _ _).putObj _ hi3 (by omega) h2, h3, h4⟩, low hk3 h2⟩⟩
    | exit id =>
      obtain ⟨hk3, hi3⟩ := hp
      obtain ⟨h1, h2, h3, h4⟩ := fin (some (.exit id)) W3 hk3
      exact ⟨_, _, h1, .inr ⟨rfl, ⟨.exit id, (hIx _ _).putObj _ hi3 (by omega) h2, h3, h4⟩, low hk3 h2⟩⟩
    | goto t =>
      obtain ⟨hk3, hi3⟩ := hp
      obtain ⟨h1, h2, h3, h4⟩ := fin (some (.goto t)) W3 hk3
      exact ⟨_, _, h1, .inr ⟨rfl, ⟨.goto t, (hIx _ _).putObj _ hi3 (by omega) h2, h3, h4⟩, low hk3 h2⟩⟩
    | panic ch => exact hp.elim
    | outgrown => exact hp.elim
  case behind =>
    rintro e W2 ⟨⟨v, rfl⟩, ⟨hi, hl, hd⟩ | ⟨k, hpre, c, hi, hl, hd⟩⟩
    · have h1 := run_endLoop (P := Tryd.prog) hl (by rw [hrec]; simp)
      rw [hrec] at h1
      exact ⟨none, _, h1, hdone _ ((hI _).putObj _ hi (by omega) fun o ho => by rw [hl] at ho; cases ho; rfl) ((World.putObj_heap_other (by omega)).trans hd)⟩
    · have h1 := run_endLoop (P := Tryd.prog) hl (by rw [hrec]; simp)
      rw [hrec] at h1
      exact ⟨some c, _, h1, hstop c k _ hpre ((hIx _ _).putObj _ hi (by omega) fun o ho => by rw [hl] at ho; cases ho; rfl) ((World.putObj_heap_other (by omega)).trans hd)⟩
/-- A function's way out over the mark of its one loop. -/
theorem leave1 {F : Fence} {n : Nat} {P : Program} {fn : Func} {tmps : Array Value} {R : Ending → World → Prop} {D : Nat} {w : World} (hd : w.heap[D]? = some (.deferred (some [])))
    (h : ∃ v, (results fn tmps).run P (w.putObj D (.deferred none)) = .ok v (w.putObj D (.deferred none)) ∧ R (.returned v) (w.putObj D (.deferred none))) : LeavesInM F n P fn tmps R [markAt D] .returning w :=
  ⟨by simp, .inl ⟨D, _, rfl, run_takeDeferred hd, h⟩⟩
theorem dtag {w : World} {D : Nat} (hd : w.heap[D]? = some (.deferred (some []))) : ∀ o, w.heap[D]? = some o → tag o = none := fun o ho => by rw [hd] at ho; cases ho; rfl
theorem round_any {n m l l' : Nat} {P : Program} {f : FuncId} {tmps : Array Value} {assign body : Code} {w : World} {R : Ending → World → Prop} (h : RoundIn Fence.wide n P l f tmps assign body w R) : RoundIn (Fence.wide.inRound l') m P l f tmps assign body w R :=
  ⟨trivial, fun c cs _ => h.2 c cs (room_wide _)⟩
theorem calls_any {m l' : Nat} {P : Program} {f : FuncId} {args : Array Value} {w : World} {R : Ending → World → Prop} (h : Calls P f args w R) : CallsIn (Fence.wide.inRound l') m P f args w R := (callsIn_wide.2 h : CallsIn Fence.wide m P f args w R).inRound l'
end Go.Proofs.YtkljdpjdlccidaaDoor
