/- Code with a communication in it, walked in a frame of an ordinary call; a select of one case with a default: of no law of its own. -/
import Derived.Test.YtfljmdpigckpkaaGreatDoorHrA
import Derived.Conc.LoneSelect
namespace Go.Proofs.YtfljmdpigckpkaaGreatDoor
open Go.RowKit Go.Shelf Go.Conc
/-- What a code comes to in a frame of an ordinary call: communications may be in it. -/
def wpN (P : Program) (c : Code) (Q : Exit → Act → World → Prop) (a : Act) (w : World) : Prop :=
  ∀ (b : Frame) (k : List Item) (cs : List Frame), b.kind ≠ .early → ∃ e a' w', Q e a' w' ∧ Arrives P (lone (b.at a (.code c :: k)) cs w) b k cs e a' w'
section
variable {P : Program} {Q : Exit → Act → World → Prop} {a : Act} {w : World}
theorem wpN_of {c : Code} (h : c.wp P Q a w) : wpN P c Q a w := fun b k cs _ => h b k cs
theorem wpN_mono {c : Code} {Q' : Exit → Act → World → Prop} (h : wpN P c Q a w) (hq : ∀ e a w, Q e a w → Q' e a w) : wpN P c Q' a w :=
  fun b k cs hb => let ⟨e, a', w', q, r⟩ := h b k cs hb; ⟨e, a', w', hq _ _ _ q, r⟩
/-- Left otherwise than by going on, a thing that stands behind is passed. -/
theorem leaves {m : Machine} {b : Frame} {x : Item} {k : List Item} {cs : List Frame} {e : Exit} {a' : Act} {w' : World} (hx : x.plain = true) (hn : e ≠ .normal) (h : Arrives P m b (x :: k) cs e a' w') : Arrives P m b k cs e a' w' :=
  .pass hx (fun _ _ => .inl hn) h
theorem wpN_seq {x y : Code} (h : wpN P x (Exit.then (wpN P y Q) Q) a w) : wpN P (.seq x y) Q a w := by
  intro b k cs hb
  obtain ⟨e, a1, w1, hq, hr⟩ := h b (.code y :: k) cs hb
  by_cases hn : e = .normal
  · subst hn
    obtain ⟨e2, a2, w2, hq2, hr2⟩ := hq b k cs hb
    exact ⟨e2, a2, w2, hq2, .of_steps (.head step_seq hr) hr2⟩
  · refine ⟨e, a1, w1, ?_, .of_steps (.one step_seq) (leaves rfl hn hr)⟩
    cases e with
    | normal => exact absurd rfl hn
    | exit id => exact hq
    | goto l => exact hq
    | ret => exact hq
    | panic c => exact hq
    | outgrown => exact hq
theorem wpN_first {x y : Code} (h : x.wp P (Exit.then (wpN P y Q) Q) a w) : wpN P (.seq x y) Q a w := wpN_seq (wpN_of h)
theorem wpN_first_k {x y : Code} (h : ∀ K : Act → World → Prop, (∀ a w, wpN P y Q a w → K a w) → x.wp P (Exit.then K Q) a w) : wpN P (.seq x y) Q a w := wpN_first (h _ fun _ _ h => h)
theorem wpN_cond {c : Operand} {x y : Code} {t : Bool} (hc : a.eval c = .bool t) (h : wpN P (if t then x else y) Q a w) : wpN P (.cond c x y) Q a w :=
  fun b k cs hb => let ⟨e, a', w', q, r⟩ := h b k cs hb; ⟨e, a', w', q, .of_steps (.one (step_cond hc)) r⟩
theorem wpN_block {id : Nat} {c : Code} (h : wpN P c (Exit.inBlock id Q) a w) : wpN P (.block id c) Q a w := by
  intro b k cs hb
  obtain ⟨e, a1, w1, hq, hr⟩ := h b (.inBlock id :: k) cs hb
  cases e with
  | normal => exact ⟨.normal, a1, w1, hq, .head step_block (Steps.trans hr (.one step_inBlock))⟩
  | exit i =>
    by_cases hi : i = id
    · simp only [Exit.inBlock, hi, if_true] at hq
      exact ⟨.normal, a1, w1, hq, .head step_block (hr k (by simp [exitTo, hi]))⟩
    · simp only [Exit.inBlock, hi, if_false] at hq
      refine ⟨.exit i, a1, w1, hq, fun k' hk => .head step_block (hr k' ?_)⟩
      have : (id == i) = false := by simpa using fun h : id = i => hi h.symm
      simp [exitTo, this, hk]
  | goto l => exact ⟨_, a1, w1, hq, fun k' hk => .head step_block (hr k' (by simp [gotoIn, hk]))⟩
  | ret => exact ⟨_, a1, w1, hq, .of_steps (.one step_block) hr⟩
  | panic ch => exact ⟨_, a1, w1, hq, .of_steps (.one step_block) hr⟩
  | outgrown => exact ⟨_, a1, w1, hq, .of_steps (b := b) (k := k) (cs := cs) (e := .outgrown) (.one step_block) hr⟩
/-- A loop, round by round: what is asked behind a round is asked of the loop's rest. -/
def roundsN (P : Program) (c : Code) (Q : Exit → Act → World → Prop) : Nat → Act → World → Prop
  | 0 => fun _ _ => False
  | n + 1 => wpN P c (Exit.then (roundsN P c Q n) Q)
theorem wpN_loop {c : Code} (n : Nat) (h : roundsN P c Q n a w) : wpN P (.loop c) Q a w := by
  intro b k cs hb
  have key : ∀ n a w, roundsN P c Q n a w → ∃ e a' w', Q e a' w' ∧ Arrives P (lone (b.at a (.code c :: .inLoop c :: k)) cs w) b k cs e a' w' := by
    intro n
    induction n with
    | zero => exact fun _ _ h => h.elim
    | succ n ih =>
      intro a w h
      obtain ⟨e, a1, w1, hq, hr⟩ := h b (.inLoop c :: k) cs hb
      by_cases hn : e = .normal
      · subst hn
        obtain ⟨e2, a2, w2, hq2, hr2⟩ := ih a1 w1 hq
        exact ⟨e2, a2, w2, hq2, .of_steps (Steps.trans hr (.one step_inLoop)) hr2⟩
      · refine ⟨e, a1, w1, ?_, leaves rfl hn hr⟩
        cases e with
        | normal => exact absurd rfl hn
        | exit id => exact hq
        | goto l => exact hq
        | ret => exact hq
        | panic c => exact hq
        | outgrown => exact hq
  obtain ⟨e, a', w', hq, hr⟩ := key n a w h
  exact ⟨e, a', w', hq, .of_steps (.one step_loop) hr⟩
/-- A region's operations, from some on. -/
def opsN (P : Program) (ops : Array Oper) (Q : Exit → Act → World → Prop) (l : List Nat) (a : Act) (w : World) : Prop :=
  ∀ (b : Frame) (k : List Item) (cs : List Frame), b.kind ≠ .early → ∃ e a' w', Q e a' w' ∧ Arrives P (lone (b.at a (.inRegion ops l :: k)) cs w) b k cs e a' w'
theorem opsN_of {ops : Array Oper} {l : List Nat} (h : wpOps P ops Q l a w) : opsN P ops Q l a w := fun b k cs _ => wp_ops l a w h b k cs
theorem wpN_region {id : Nat} {ops : Array Oper} (h : opsN P ops Q (List.range ops.size) a w) : wpN P (.region id ops false) Q a w :=
  fun b k cs hb => let ⟨e, a', w', q, r⟩ := h b k cs hb; ⟨e, a', w', q, .of_steps (.one step_region) r⟩
theorem wpN_region_seq {id : Nat} {ops : Array Oper} {y : Code} (h : opsN P ops (Exit.then (wpN P y Q) Q) (List.range ops.size) a w) : wpN P (.seq (.region id ops false) y) Q a w := wpN_seq (wpN_region h)
/-- An operation that gives a value. -/
theorem opsN_value {ops : Array Oper} {i : Nat} {rest : List Nat} {o : Oper} {v : Value} {w' : World} (ho : ops[i]? = some o) (hw : Region.wanted o (yielded ops a.tmps) = true) (hr : (execOp a.eval o).run P w = .ok (.value v) w') (h : opsN P ops Q rest (a.put o.dst v) w') : opsN P ops Q (i :: rest) a w := by
  intro b k cs hb
  obtain ⟨e, a', w2, hq, hr2⟩ := h b k cs hb
  refine ⟨e, a', w2, hq, .of_steps (.one (step_lone_go ?_)) hr2⟩
  rw [stepG_op ho hw]
  have hf := Frame.finish_at b a ops i rest k v
  rw [ho] at hf
  simp [stepG.apply, hr, hf]
/-- A communication. -/
theorem opsN_comm {ops : Array Oper} {i : Nat} {rest : List Nat} {o : Oper} {v : Value} {w' : World} (ho : ops[i]? = some o)
    (hs : ∀ (b : Frame) (k : List Item) (cs : List Frame), b.kind ≠ .early → step P (solo (G (b.at a (.inRegion ops (i :: rest) :: k)) cs) w) = .next (solo (G ((b.at a (.inRegion ops (i :: rest) :: k)).finish v) cs) w')) (h : opsN P ops Q rest (a.put o.dst v) w') : opsN P ops Q (i :: rest) a w := by
  intro b k cs hb
  obtain ⟨e, a', w2, hq, hr2⟩ := h b k cs hb
  refine ⟨e, a', w2, hq, .of_steps (.one ?_) hr2⟩
  have := hs b k cs hb
  rw [Frame.finish_at, ho] at this
  exact this
section
variable {ops : Array Oper} {i : Nat} {rest : List Nat} {o : Oper} {c cap s r : Nat} {buf : Array Value} {z v : Value} {tm closed : Bool} {w1 : World}
/-- A select of one receive, with a default: something lies in the buffer. -/
theorem opsN_recv (ho : ops[i]? = some o) (hw : Region.wanted o (yielded ops a.tmps) = true) (hr : (execOp a.eval o).run P w = .ok (.comm #[rcase c z] false .select) w1) (hc : w1.heap[c]? = some (.chan cap buf closed s r tm)) (hsome : 0 < buf.size)
    (h : opsN P ops Q rest (a.put o.dst (.tuple #[goInt 0, .bool true, buf.getD 0 undef])) (w1.setChan c cap (buf.extract 1 buf.size) closed s (r + 1) tm)) : opsN P ops Q (i :: rest) a w :=
  opsN_comm ho (fun _ _ _ hb => step_lone_select_recv_buf (stepG_comm ho hw hb hr) hc hsome) h
/-- The buffer is empty. -/
theorem opsN_recv_none (ho : ops[i]? = some o) (hw : Region.wanted o (yielded ops a.tmps) = true) (hr : (execOp a.eval o).run P w = .ok (.comm #[rcase c z] false .select) w1) (hc : w1.heap[c]? = some (.chan cap #[] false s r tm))
    (h : opsN P ops Q rest (a.put o.dst (.tuple #[goInt (-1), .bool false, z])) w1) : opsN P ops Q (i :: rest) a w :=
  opsN_comm ho (fun _ _ _ hb => step_lone_select_default (stepG_comm ho hw hb hr) hc) h
/-- A select of one send, with a default: there is room. -/
theorem opsN_send (ho : ops[i]? = some o) (hw : Region.wanted o (yielded ops a.tmps) = true) (hr : (execOp a.eval o).run P w = .ok (.comm #[scase c v z] false .select) w1) (hc : w1.heap[c]? = some (.chan cap buf false s r tm)) (hroom : buf.size < cap)
    (h : opsN P ops Q rest (a.put o.dst (.tuple #[goInt 0, .bool false])) (w1.setChan c cap (buf.push v) false (s + 1) r tm)) : opsN P ops Q (i :: rest) a w :=
  opsN_comm ho (fun _ _ _ hb => step_lone_select_send_room (stepG_comm ho hw hb hr) hc hroom) h
end
theorem opsN_rest {ops : Array Oper} {l : List Oper} {k : Nat} (hl : ∀ j, l[j]? = ops[k + j]?) (h : wpList P ops Q l a w) : opsN P ops Q (List.range' k l.length) a w := opsN_of (by rw [wpOps_eq_wpList l k hl]; exact h)
section
variable {id : Nat} {o0 o1 o2 : Oper} {y : Code} {c s r : Nat} {z v : Value} {w1 : World}
theorem rest3 (j : Nat) : [o1, o2][j]? = #[o0, o1, o2][1 + j]? := by
  rcases j with _ | _ | j
  · rfl
  · rfl
  · simp; omega
theorem wpN_sel_none (hw : Region.wanted o0 (yielded #[o0, o1, o2] a.tmps) = true) (hr : (execOp a.eval o0).run P w = .ok (.comm #[rcase c z] false .select) w1) (hc : w1.heap[c]? = some (.chan 1 #[] false s r false))
    (h : ∀ K : Act → World → Prop, (∀ a w, wpN P y Q a w → K a w) → wpList P #[o0, o1, o2] (Exit.then K Q) [o1, o2] (a.put o0.dst (.tuple #[goInt (-1), .bool false, z])) w1) : wpN P (.seq (.region id #[o0, o1, o2] false) y) Q a w :=
  wpN_region_seq (opsN_recv_none (rest := List.range' 1 2) rfl hw hr hc (opsN_rest rest3 (h _ fun _ _ h => h)))
theorem wpN_sel_recv (hw : Region.wanted o0 (yielded #[o0, o1, o2] a.tmps) = true) (hr : (execOp a.eval o0).run P w = .ok (.comm #[rcase c z] false .select) w1) (hc : w1.heap[c]? = some (.chan 1 #[v] false s r false))
    (h : ∀ K : Act → World → Prop, (∀ a w, wpN P y Q a w → K a w) → wpList P #[o0, o1, o2] (Exit.then K Q) [o1, o2] (a.put o0.dst (.tuple #[goInt 0, .bool true, v])) (w1.setChan c 1 #[] false s (r + 1) false)) : wpN P (.seq (.region id #[o0, o1, o2] false) y) Q a w :=
  wpN_region_seq (opsN_recv (rest := List.range' 1 2) rfl hw hr hc (by simp) (opsN_rest rest3 (h _ fun _ _ h => h)))
theorem wpN_sel_send (hw : Region.wanted o0 (yielded #[o0, o1, o2] a.tmps) = true) (hr : (execOp a.eval o0).run P w = .ok (.comm #[scase c v z] false .select) w1) (hc : w1.heap[c]? = some (.chan 1 #[] false s r false))
    (h : ∀ K : Act → World → Prop, (∀ a w, wpN P y Q a w → K a w) → wpList P #[o0, o1, o2] (Exit.then K Q) [o1, o2] (a.put o0.dst (.tuple #[goInt 0, .bool false])) (w1.setChan c 1 #[v] false (s + 1) r false)) : wpN P (.seq (.region id #[o0, o1, o2] false) y) Q a w :=
  wpN_region_seq (opsN_send (rest := List.range' 1 2) rfl hw hr hc (by simp) (opsN_rest rest3 (h _ fun _ _ h => h)))
end
theorem calls_of_wpN {f : FuncId} {fn : Func} {c : Code} {args : Array Value} {R : Ending → World → Prop} (hf : P.funcs[f]? = some fn) (hb : fn.body = some c)
    (h : wpN P c (bodyPost P fn R) { tmps := args ++ Array.replicate (fn.ntmps - args.size) undef, defers := [] } w) : Calls P f args w R := by
  intro cs
  let b : Frame := { (default : Frame) with fn := f, kind := .normal }
  have he : Frame.enter P f args .normal = b.at { tmps := args ++ Array.replicate (fn.ntmps - args.size) undef, defers := [] } [.code c] := by
    simp [Frame.enter, Frame.at, hf, hb, b]
  obtain ⟨e, a', w', hq, hr⟩ := h b [] cs (by simp [b])
  rw [← he] at hr
  cases e with
  | normal => exact let ⟨hd, v, hv, hR⟩ := hq; ⟨.returned v, w', _, hR, Steps.trans hr (.one step_end), rfl, rfl, hd, rfl, fn, hf, hv⟩
  | ret => exact let ⟨hd, v, hv, hR⟩ := hq; let ⟨_, hs⟩ := hr; ⟨.returned v, w', _, hR, hs, rfl, rfl, hd, rfl, fn, hf, hv⟩
  | panic ch => exact let ⟨hd, hR⟩ := hq; let ⟨_, hs⟩ := hr; ⟨.panicked ch, w', _, hR, hs, rfl, rfl, hd, fn, hf⟩
  | exit id => exact hq.elim
  | goto l => exact hq.elim
  | outgrown => exact ⟨.outgrown, w', b, hq, hr.resolve_left (by simp [b]), rfl, trivial⟩
end
end Go.Proofs.YtfljmdpigckpkaaGreatDoor
