/- What a function of the parser has done so far; contracts as they are met; parser.use, typeName, looper, global, member, onLooper. -/
import Derived.Test.YtehdljcmeimbcaaGreatB05
namespace Go.Proofs.YtehdljcmeimbcaaGreat
open Go.RowKit

/-- A variable of the call's own. -/
structure Loc (C : Cx) (v : Value) (w : World) (b : Nat) (o : Obj) : Prop where
  is : w.heap[b]? = some o
  ne : C.p < b
  own : v.ownBlock ≠ some b
theorem Loc.keep {C : Cx} {v v' : Value} {w w' : World} {b : Nat} {o : Obj} (h : Loc C v w b o) (hk : Kp C.p v w v' w') : Loc C v' w' b o :=
  have hlt := lt_of_block h.is
  ⟨(hk.block b hlt (by have := h.ne; omega) h.own).trans h.is, h.ne, fun e => (hk.own b e).elim h.own (by omega)⟩

structure St (C : Cx) (w0 : World) (k0 : Nat) (v0 : Value) (tw0 : List Tw) (w : World) (k m : Nat) (v : Value) (F : Fo) (q : Nat) (L : List (Nat × Obj)) : Prop where
  ps : PS w C k m v (tw0 ++ F.post tw0.length)
  kp : Kp C.p v0 w0 v w
  sz : F.size + 2 * k0 + q ≤ 2 * k
  few0 : tw0.length ≤ 2 * k0 + 1
  loc : ∀ x ∈ L, Loc C v w x.1 x.2

theorem PS.al {w : World} {C : Cx} {k m : Nat} {v : Value} {tw : List Tw} (h : PS w C k m v tw) (o : Obj) : PS (w.alloc o) C k m v tw := h.after ((Below.refl _ _).alloc (Nat.le_refl _) o)
theorem St.start {C : Cx} {w : World} {k m : Nat} {v : Value} {tw : List Tw} (h : PS w C k m v tw) : St C w k v tw w k m v .nil 0 [] :=
  ⟨by simpa [Fo.post] using h, .refl _ _ _, by simp [Fo.size], h.few, by simp⟩
variable {C : Cx} {w0 w : World} {k0 k m : Nat} {v0 v : Value} {tw0 : List Tw} {F : Fo} {q : Nat} {L : List (Nat × Obj)}
theorem St.al (h : St C w0 k0 v0 tw0 w k m v F q L) (o : Obj) : St C w0 k0 v0 tw0 (w.alloc o) k m v F q L :=
  ⟨h.ps.al o, h.kp.trans (.alloc _ o), h.sz, h.few0, fun x hx => (h.loc x hx).keep (.alloc _ o)⟩
theorem St.var (h : St C w0 k0 v0 tw0 w k m v F q L) (b : Nat) (hb : b = w.heap.size) (o : Obj) : St C w0 k0 v0 tw0 (w.alloc o) k m v F q ((b, o) :: L) := by
  subst hb
  have ha := h.al o
  refine ⟨ha.ps, ha.kp, ha.sz, ha.few0, fun x hx => ?_⟩
  rcases List.mem_cons.1 hx with rfl | hx
  · exact ⟨heap_alloc_new w o, h.ps.lt, fun e => by have := h.ps.own_lt _ e; simp at this⟩
  · exact ha.loc x hx
theorem St.drew (h : St C w0 k0 v0 tw0 w k m v F q L) : St C w0 k0 v0 tw0 w.drew k m v F q L :=
  have hb : Below w.heap.size w w.drew := (Below.refl _ _).drew
  ⟨h.ps.after hb, h.kp.trans (.of hb), h.sz, h.few0, fun x hx => (h.loc x hx).keep (.of hb)⟩
theorem St.lowB (h : St C w0 k0 v0 tw0 w k m v F q L) {w' : World} (hk : KpB C.p v w w') : KpB C.p v0 w0 w' := h.kp.transB hk
theorem St.below (h : St C w0 k0 v0 tw0 w k m v F q L) {w' : World} (hb : Below w.heap.size w w') : St C w0 k0 v0 tw0 w' k m v F q L :=
  have hk : Kp C.p v w v w' := .of hb
  ⟨h.ps.after hb, h.kp.trans hk, h.sz, h.few0, fun x hx => (h.loc x hx).keep hk⟩
theorem St.took (h : St C w0 k0 v0 tw0 w k m v F q L) {w' : World} {m' : Nat} (hs : PS w' C (k + 1) m' v (tw0 ++ F.post tw0.length)) (hk : Kp C.p v w v w') : St C w0 k0 v0 tw0 w' (k + 1) m' v F (q + 2) L :=
  ⟨hs, h.kp.trans hk, by have := h.sz; omega, h.few0, fun x hx => (h.loc x hx).keep hk⟩
theorem St.left (h : St C w0 k0 v0 tw0 w k m v F q L) {w' : World} {m' : Nat} (hs : PS w' C k m' v (tw0 ++ F.post tw0.length)) (hk : Kp C.p v w v w') : St C w0 k0 v0 tw0 w' k m' v F q L :=
  ⟨hs, h.kp.trans hk, h.sz, h.few0, fun x hx => (h.loc x hx).keep hk⟩
theorem len_post (tw : List Tw) (F : Fo) : (tw ++ F.post tw.length).length = tw.length + F.size := by rw [List.length_append, Fo.post_len]
theorem St.added (h : St C w0 k0 v0 tw0 w k m v F (q + 1) L) {w' : World} {v' : Value} (d : Nd) (hs : PS w' C k m v' (tw0 ++ F.post tw0.length ++ [d.tw []])) (hk : Kp C.p v w v' w') : St C w0 k0 v0 tw0 w' k m v' (F.app (one d .nil)) q L :=
  ⟨by rw [Fo.post_app, ← List.append_assoc]; exact hs, h.kp.trans hk, by have := h.sz; rw [Fo.size_app, one_size]; simp [Fo.size]; omega, h.few0, fun x hx => (h.loc x hx).keep hk⟩

/-- What a part of the grammar answers. -/
def Ret (C : Cx) (w : World) (k m : Nat) (v : Value) (tw : List Tw) (o : Out) (e : Ending) (w' : World) : Prop :=
  match o with
  | .dry => False
  | .bad er r => e = .panicked [{ v := diagV (hd r) er, recovered := false }] ∧ KpB C.p v w w'
  | .ok d kf r => ∃ (j : Nat) (v' : Value), r = C.T.drop j ∧ e = .returned (.int .i64 ((tw.length + kf.size : Nat) : Int)) ∧ PS w' C j m v' (tw ++ (one d kf).post tw.length) ∧ Kp C.p v w v' w' ∧ kf.size + 1 + 2 * k ≤ 2 * j
theorem ret_bad {o : Out} {j : Nat} {er : Int} {w' : World} (ho : Out.bad er (C.T.drop j) = o) (hb : KpB C.p v w w') : Ret C w k m v tw0 o (.panicked [{ v := diagV (hd (C.T.drop j)) er, recovered := false }]) w' := by
  subst ho; exact ⟨rfl, hb⟩
theorem St.bad (h : St C w0 k0 v0 tw0 w k m v F q L) {o : Out} {j : Nat} {er : Int} {w' : World} {m0 : Nat} (ho : Out.bad er (C.T.drop j) = o) (hb : KpB C.p v w w') : Ret C w0 k0 m0 v0 tw0 o (.panicked [{ v := diagV (hd (C.T.drop j)) er, recovered := false }]) w' := ret_bad ho (h.lowB hb)
theorem St.bad' (h : St C w0 k0 v0 tw0 w k m v F q L) {o : Out} {er : Int} {r : List Tok} {e : Ending} {w' : World} {m0 : Nat} (ho : Out.bad er r = o) (hr : Ret C w k m v (tw0 ++ F.post tw0.length) (.bad er r) e w') : Ret C w0 k0 m0 v0 tw0 o e w' := by
  subst ho; exact ⟨hr.1, h.lowB hr.2⟩
theorem St.sub (h : St C w0 k0 v0 tw0 w k m v F q L) {d : Nd} {kf : Fo} {r : List Tok} {e : Ending} {w' : World} (hr : Ret C w k m v (tw0 ++ F.post tw0.length) (.ok d kf r) e w') :
    ∃ (j : Nat) (v' : Value), r = C.T.drop j ∧ e = .returned (.int .i64 ((tw0.length + F.size + kf.size : Nat) : Int)) ∧ St C w0 k0 v0 tw0 w' j m v' (F.app (one d kf)) q L := by
  obtain ⟨j, v', h1, h2, h3, h4, h5⟩ := hr
  rw [len_post] at h2 h3
  refine ⟨j, v', h1, h2, ⟨?_, h.kp.trans h4, ?_, h.few0, fun x hx => (h.loc x hx).keep h4⟩⟩
  · rw [Fo.post_app, ← List.append_assoc]; exact h3
  · have := h.sz; rw [Fo.size_app, one_size]; omega
/-- A sub-part's own tree is the answer. -/
theorem St.same {d : Nd} {kf : Fo} (h : St C w0 k0 v0 tw0 w k m v (one d kf) q L) {o : Out} (ho : Out.ok d kf (C.T.drop k) = o) {x : Int} (hx : x = ((tw0.length + kf.size : Nat) : Int)) : Ret C w0 k0 m v0 tw0 o (.returned (.int .i64 x)) w := by
  subst ho hx
  exact ⟨k, v, rfl, rfl, h.ps, h.kp, by have := h.sz; rw [one_size] at this; omega⟩
/-- The last twig is added. -/
theorem St.fin (h : St C w0 k0 v0 tw0 w k m v F (q + 1) L) {d : Nd} {o : Out} (ho : Out.ok d F (C.T.drop k) = o) {w' : World} {v' : Value} (hs : PS w' C k m v' (tw0 ++ F.post tw0.length ++ [d.tw (F.ids tw0.length)])) (hk : Kp C.p v w v' w') {x : Int} (hx : x = ((tw0 ++ F.post tw0.length).length : Int)) : Ret C w0 k0 m v0 tw0 o (.returned (.int .i64 x)) w' := by
  subst ho hx
  refine ⟨k, v', rfl, by rw [len_post], ?_, h.kp.trans hk, by have := h.sz; omega⟩
  rw [one_post, ← List.append_assoc]; exact hs
theorem St.room (h : St C w0 k0 v0 tw0 w k m v F (q + 1) L) : (tw0 ++ F.post tw0.length).length + 1 ≤ 2 * k + 1 := by
  rw [len_post]
  have h1 := h.sz
  have h2 := h.few0
  omega

/-- A store into a variable of the call's own. -/
theorem St.setv {b : Nat} {cs : Array Value} {t : TypeId} (h : St C w0 k0 v0 tw0 w k m v F q ((b, .cells cs t (0, 0)) :: L)) (i : Nat) (u : Value) (ht : t ≠ 3) (hge : w0.heap.size ≤ b) (hL : ∀ x ∈ L, x.1 ≠ b) : St C w0 k0 v0 tw0 (w.setCell ⟨b, i, none⟩ u) k m v F q ((b, .cells (cs.setIfInBounds i u) t (0, 0)) :: L) := by
  have hl := h.loc _ (.head _)
  have hbe : Below b w (w.setCell ⟨b, i, none⟩ u) := (Below.refl b w).setCell (p := ⟨b, i, none⟩) (Nat.le_refl _) u
  refine ⟨h.ps.move b hl.ne hl.own hl.is ht hbe fun x hx _ => set_other _ _ _ _ _ hx, ⟨hbe.os.trans h.kp.os, hbe.tape.trans h.kp.tape, hbe.output.trans h.kp.output, Nat.le_trans h.kp.size hbe.size, fun x h1 h2 h3 => (set_other _ _ _ _ _ (by omega)).trans (h.kp.block x h1 h2 h3), h.kp.own⟩, h.sz, h.few0, fun x hx => ?_⟩
  rcases List.mem_cons.1 hx with rfl | hx
  · exact ⟨rowset hl.is i u, hl.ne, hl.own⟩
  · have h2 := h.loc x (List.mem_cons_of_mem _ hx)
    exact ⟨(set_other _ _ _ _ _ (hL x hx)).trans h2.is, h2.ne, h2.own⟩
theorem St.ps0 (h : St C w0 k0 v0 tw0 w k m v .nil q L) : PS w C k m v tw0 := by simpa [Fo.post] using h.ps
/-- What is answered from a later world on is answered from the first. -/
theorem St.from (h : St C w0 k0 v0 tw0 w k0 m v .nil q L) {o : Out} {e : Ending} {w' : World} (hr : Ret C w k0 m v tw0 o e w') : Ret C w0 k0 m v0 tw0 o e w' := by
  cases o with
  | dry => exact hr
  | bad er r => exact ⟨hr.1, h.lowB hr.2⟩
  | ok d kf r =>
    obtain ⟨j, v', h1, h2, h3, h4, h5⟩ := hr
    exact ⟨j, v', h1, h2, h3, h.kp.trans h4, h5⟩
theorem strs_new (W : World) (l : List (List UInt8)) (cs : Array Value) (hcs : cs = (l.map fun s => Value.string ⟨s.toArray⟩).toArray) (g : Nat) (hg : g = W.heap.size) : Strs (W.alloc (.cells cs 9)) g l := by
  subst hcs hg
  intro i s hi
  rw [World.cell?_alloc_mark]
  simp [hi]
theorem seesWord_new (C : Cx) (W : World) (k m : Nat) (v : Value) (tw : List Tw) (l : List (List UInt8)) (g n : Nat) (cs : Array Value) (h : PS W C k m v tw) (hg : g = W.heap.size) (hn : n = l.length) (hcs : cs = (l.map fun s => Value.string ⟨s.toArray⟩).toArray) (hl : l.length ≤ 1000) :
    Calls Tryz.prog 86 #[C.ptr, .slice (some ⟨g, 0, none⟩) n n] (W.alloc (.cells cs 9)) fun e w' => e = .returned (.bool (seesW (C.T.drop k) l)) ∧ Below W.heap.size W w' := by
  subst hn
  refine (seesWord_ok C _ k m v tw l g _ (h.al _) (strs_new W l cs hcs g hg) (by simp; omega) hl).mono fun e w' h => ⟨h.1, ((Below.refl _ _).alloc (Nat.le_refl _) _).trans (h.2.mono (by simp))⟩
theorem seesMark_new (C : Cx) (W : World) (k m : Nat) (v : Value) (tw : List Tw) (l : List (List UInt8)) (g n : Nat) (cs : Array Value) (h : PS W C k m v tw) (hg : g = W.heap.size) (hn : n = l.length) (hcs : cs = (l.map fun s => Value.string ⟨s.toArray⟩).toArray) (hl : l.length ≤ 1000) :
    Calls Tryz.prog 104 #[C.ptr, .slice (some ⟨g, 0, none⟩) n n] (W.alloc (.cells cs 9)) fun e w' => e = .returned (.bool (seesM (C.T.drop k) l)) ∧ Below W.heap.size W w' := by
  subst hn
  refine (seesMark_ok C _ k m v tw l g _ (h.al _) (strs_new W l cs hcs g hg) (by simp; omega) hl).mono fun e w' h => ⟨h.1, ((Below.refl _ _).alloc (Nat.le_refl _) _).trans (h.2.mono (by simp))⟩
theorem seesWord_is (C : Cx) (W : World) (k m : Nat) (v : Value) (tw : List Tw) (l : List (List UInt8)) (g n : Nat) (cs : Array Value) (b : Bool) (h : PS W C k m v tw) (hg : g = W.heap.size) (hn : n = l.length) (hcs : cs = (l.map fun s => Value.string ⟨s.toArray⟩).toArray) (hl : l.length ≤ 1000) (hb : seesW (C.T.drop k) l = b) :
    Calls Tryz.prog 86 #[C.ptr, .slice (some ⟨g, 0, none⟩) n n] (W.alloc (.cells cs 9)) fun e w' => e = .returned (.bool b) ∧ Below W.heap.size W w' := by
  subst hb; exact seesWord_new C W k m v tw l g n cs h hg hn hcs hl
theorem seesMark_is (C : Cx) (W : World) (k m : Nat) (v : Value) (tw : List Tw) (l : List (List UInt8)) (g n : Nat) (cs : Array Value) (b : Bool) (h : PS W C k m v tw) (hg : g = W.heap.size) (hn : n = l.length) (hcs : cs = (l.map fun s => Value.string ⟨s.toArray⟩).toArray) (hl : l.length ≤ 1000) (hb : seesM (C.T.drop k) l = b) :
    Calls Tryz.prog 104 #[C.ptr, .slice (some ⟨g, 0, none⟩) n n] (W.alloc (.cells cs 9)) fun e w' => e = .returned (.bool b) ∧ Below W.heap.size W w' := by
  subst hb; exact seesMark_new C W k m v tw l g n cs h hg hn hcs hl
theorem takeMark_new_yes (C : Cx) (W : World) (k m : Nat) (v : Value) (tw : List Tw) (l : List (List UInt8)) (g n : Nat) (cs : Array Value) (h : PS W C k m v tw) (hg : g = W.heap.size) (hn : n = l.length) (hcs : cs = (l.map fun s => Value.string ⟨s.toArray⟩).toArray) (hl : l.length ≤ 1000) (hx : seesM (C.T.drop k) l = true) :
    Calls Tryz.prog 103 #[C.ptr, .slice (some ⟨g, 0, none⟩) n n] (W.alloc (.cells cs 9)) (Took C W k m v tw) := by
  subst hn
  exact (takeMark_yes C _ k m v tw l g _ (h.al _) (strs_new W l cs hcs g hg) (by simp; omega) hl hx).mono fun e w' h => ⟨h.1, h.2.1, (Kp.alloc _ _).trans h.2.2⟩
theorem takeMark_new_no (C : Cx) (W : World) (k m : Nat) (v : Value) (tw : List Tw) (l : List (List UInt8)) (g n : Nat) (cs : Array Value) (h : PS W C k m v tw) (hg : g = W.heap.size) (hn : n = l.length) (hcs : cs = (l.map fun s => Value.string ⟨s.toArray⟩).toArray) (hl : l.length ≤ 1000) (hx : seesM (C.T.drop k) l = false) :
    Calls Tryz.prog 103 #[C.ptr, .slice (some ⟨g, 0, none⟩) n n] (W.alloc (.cells cs 9)) (Bad C W v k 4) := by
  subst hn
  exact (takeMark_no C _ k m v tw l g _ (h.al _) (strs_new W l cs hcs g hg) (by simp; omega) hl hx).mono fun e w' h' => ⟨h'.1, (Kp.alloc _ _).transB h'.2⟩
theorem takeWord_new_yes (C : Cx) (W : World) (k m : Nat) (v : Value) (tw : List Tw) (l : List (List UInt8)) (g n : Nat) (cs : Array Value) (h : PS W C k m v tw) (hg : g = W.heap.size) (hn : n = l.length) (hcs : cs = (l.map fun s => Value.string ⟨s.toArray⟩).toArray) (hl : l.length ≤ 1000) (hx : seesW (C.T.drop k) l = true) :
    Calls Tryz.prog 93 #[C.ptr, .slice (some ⟨g, 0, none⟩) n n] (W.alloc (.cells cs 9)) (Took C W k m v tw) := by
  subst hn
  exact (takeWord_yes C _ k m v tw l g _ (h.al _) (strs_new W l cs hcs g hg) (by simp; omega) hl hx).mono fun e w' h => ⟨h.1, h.2.1, (Kp.alloc _ _).trans h.2.2⟩
theorem takeWord_new_no (C : Cx) (W : World) (k m : Nat) (v : Value) (tw : List Tw) (l : List (List UInt8)) (g n : Nat) (cs : Array Value) (h : PS W C k m v tw) (hg : g = W.heap.size) (hn : n = l.length) (hcs : cs = (l.map fun s => Value.string ⟨s.toArray⟩).toArray) (hl : l.length ≤ 1000) (hx : seesW (C.T.drop k) l = false) :
    Calls Tryz.prog 93 #[C.ptr, .slice (some ⟨g, 0, none⟩) n n] (W.alloc (.cells cs 9)) (Bad C W v k 4) := by
  subst hn
  exact (takeWord_no C _ k m v tw l g _ (h.al _) (strs_new W l cs hcs g hg) (by simp; omega) hl hx).mono fun e w' h' => ⟨h'.1, (Kp.alloc _ _).transB h'.2⟩

/-- A row of numbers that the call has just made. -/
theorem ints_new {X : List Nat} (W : World) (hX : ∀ b ∈ X, b < W.heap.size) (l : List Int) (cs : Array Value) (hcs : cs = (l.map (Value.int .i64)).toArray) (g n : Nat) (hg : g = W.heap.size) (hn : n = l.length) : IntRow (W.alloc (.cells cs 3)) X (.slice (some ⟨g, 0, none⟩) n n) l := by
  subst hcs hg hn
  exact ⟨_, _, rfl, fun _ => ⟨_, _, _, rfl, heap_alloc_new W _, fun hm => absurd (hX _ hm) (Nat.lt_irrefl _), fun i x hi => by simp [hi]⟩⟩
theorem ints_nil {X : List Nat} (W : World) : IntRow W X (.slice none 0 0) [] := ⟨_, _, rfl, fun h => absurd h (by simp)⟩
theorem ids_snoc (F : Fo) (d : Nd) (f : Fo) (b : Nat) : (F.app (one d f)).ids b = F.ids b ++ [((b + F.size + f.size : Nat) : Int)] := by rw [Fo.ids_app, one_ids]
theorem tkM_no {r : List Tok} {l : List (List UInt8)} {f : Tok → List Tok → Out} (h : seesM r l = false) : tkM l r f = .bad 4 r := by simp [tkM, tk, h]
theorem tkM_yes {r : List Tok} {l : List (List UInt8)} {f : Tok → List Tok → Out} (h : seesM r l = true) : tkM l r f = f (hd r) r.tail := by simp [tkM, tk, h]
theorem tkW_no {r : List Tok} {l : List (List UInt8)} {f : Tok → List Tok → Out} (h : seesW r l = false) : tkW l r f = .bad 4 r := by simp [tkW, tk, h]
theorem tkW_yes {r : List Tok} {l : List (List UInt8)} {f : Tok → List Tok → Out} (h : seesW r l = true) : tkW l r f = f (hd r) r.tail := by simp [tkW, tk, h]
theorem tkK_no {r : List Tok} {k : Int} {f : Tok → List Tok → Out} (h : ((hd r).kind == k) = false) : tkK k r f = .bad 4 r := by simp [tkK, tk, h]
theorem tkK_yes {r : List Tok} {k : Int} {f : Tok → List Tok → Out} (h : ((hd r).kind == k) = true) : tkK k r f = f (hd r) r.tail := by simp [tkK, tk, h]
theorem ent_no {m : Nat} {r : List Tok} {f : Tok → List Tok → Out} (h : m = 64) : ent m r f = .bad 5 r := by simp [ent, h]
theorem ent_yes {m : Nat} {r : List Tok} {f : Tok → List Tok → Out} (h : ¬ m = 64) : ent m r f = f (hd r) r.tail := by simp [ent, h]
theorem tail_drop' (T : List Tok) (k : Nat) : (T.drop k).tail = T.drop (k + 1) := by simp

def Ct (f n : Nat) (g : Gr) : Prop := ∀ (C : Cx) (w : World) (k m : Nat) (v : Value) (tw : List Tw), PS w C k m v tw → P n g (C.T.drop k) m ≠ .dry → Calls Tryz.prog f #[C.ptr] w (Ret C w k m v tw (P n g (C.T.drop k) m))
end Go.Proofs.YtehdljcmeimbcaaGreat

namespace Go.Proofs.YtehdljcmeimbcaaGreat
open Go.RowKit

theorem twig6 {w : World} {g : Nat} {a0 a1 a2 a3 a4 a5 : Value} {t : TypeId} (h : w.heap[g]? = some (.cells #[a0, a1, a2, a3, a4, a5] t (0, 0))) :
    w.cell? ⟨g, 0, none⟩ = some a0 ∧ w.cell? ⟨g, 1, none⟩ = some a1 ∧ w.cell? ⟨g, 2, none⟩ = some a2 ∧ w.cell? ⟨g, 3, none⟩ = some a3 ∧ w.cell? ⟨g, 4, none⟩ = some a4 ∧ w.cell? ⟨g, 5, none⟩ = some a5 ∧ ∀ i, w.frozen? ⟨g, i, none⟩ = false := by
  refine ⟨?_, ?_, ?_, ?_, ?_, ?_, fun i => ?_⟩ <;> simp [World.cell?, World.frozen?, h]
/-- The contract of a part that is told by an expression of its own. -/
def CtE (f : Nat) (E : List Tok → Out) : Prop := ∀ (C : Cx) (w : World) (k m : Nat) (v : Value) (tw : List Tw), PS w C k m v tw → E (C.T.drop k) ≠ .dry → Calls Tryz.prog f #[C.ptr] w (Ret C w k m v tw (E (C.T.drop k)))

set_option maxRecDepth 100000 in
set_option maxHeartbeats 2000000 in
theorem use_ok (C : Cx) (w : World) (k m : Nat) (v : Value) (tw : List Tw) (h : PS w C k m v tw) (hnd : useO (C.T.drop k) ≠ .dry) :
    Calls Tryz.prog 118 #[C.ptr] w (Ret C w k m v tw (useO (C.T.drop k))) := by
  have HS0 := Lib.hid (St.start h)
  clear h
  generalize ho : useO (C.T.drop k) = o at hnd ⊢
  have HND := Lib.hid hnd
  clear hnd
  simp only [useO] at ho
  have HO0 := Lib.hid ho
  clear ho
  go_enter Tryz.func118, Tryz.ntmps118
  go_wp2_with fail
  cases hx : ((hd (C.T.drop k)).kind == 1)
  · have ho' := HO0.out
    rw [tkK_no hx] at ho'
    refine (takeName_no C _ _ _ _ _ HS0.out.ps hx).mono ?_
    rintro e w' ⟨rfl, hb⟩
    have HB := Lib.hid (HS0.out.bad (m0 := m) ho' hb)
    clear hb ho' hx
    go_wp2_with fail
    exact ⟨rfl, HB.out⟩
  have ho' := HO0.out
  rw [tkK_yes hx, tail_drop'] at ho'
  have HO1 := Lib.hid ho'
  refine (takeName_yes C _ _ _ _ _ HS0.out.ps hx).mono ?_
  rintro e w1 ⟨rfl, hs, hk⟩
  have HS1 := Lib.hid (HS0.out.took hs hk)
  clear hs hk HS0 ho' hx
  unfold tokV
  go_wp2_with fail
  refine (add_ok C _ _ _ _ _ (hd (C.T.drop k)) 29 (hd (C.T.drop k)).text 0 _ [] (HS1.out.var (w1.heap.size) (by simp) (.cells #[.int .i64 (hd (C.T.drop k)).kind, .string ⟨(hd (C.T.drop k)).text.toArray⟩, .int .i64 (hd (C.T.drop k)).n, .int .i64 (hd (C.T.drop k)).line, .int .i64 (hd (C.T.drop k)).col] 61)).ps (ints_nil _) HS1.out.room).mono ?_
  rintro e w2 ⟨rfl, v', hs, hk⟩
  generalize hN : (((tw ++ _ : List Tw).length : Nat) : Int) = N
  have HR := Lib.hid ((HS1.out.var (w1.heap.size) (by simp) (.cells #[.int .i64 (hd (C.T.drop k)).kind, .string ⟨(hd (C.T.drop k)).text.toArray⟩, .int .i64 (hd (C.T.drop k)).n, .int .i64 (hd (C.T.drop k)).line, .int .i64 (hd (C.T.drop k)).col] 61)).fin HO1.out hs hk hN.symm)
  clear hs hk hN HS1
  go_wp2_with fail
  go_ret
  exact HR.out

theorem useC : Hid (CtE 118 useO) := Lib.hid use_ok

set_option maxRecDepth 100000 in
set_option maxHeartbeats 2000000 in
theorem typeName_name (C : Cx) (w : World) (k m : Nat) (v : Value) (tw : List Tw) (h : PS w C k m v tw) (h1 : ((hd (C.T.drop k)).kind == 1) = true) (hnd : tyO (C.T.drop k) ≠ .dry) :
    Calls Tryz.prog 106 #[C.ptr] w (Ret C w k m v tw (tyO (C.T.drop k))) := by
  have HS0 := Lib.hid (St.start h)
  clear h
  generalize ho : tyO (C.T.drop k) = o at hnd ⊢
  have HND := Lib.hid hnd
  clear hnd
  simp only [tyO, tk, isTyT, h1, Bool.true_or, if_true, tail_drop'] at ho
  have hlt : k < C.T.length := sees_lt (x := 1) (by decide) h1
  have HO0 := Lib.hid ho
  clear ho
  have hfd := field0
  go_enter Tryz.func106, Tryz.ntmps106
  go_wp2_with fail
  refine (next_ok C _ _ _ _ _ HS0.out.ps).mono ?_
  rintro e w1 ⟨rfl, hb⟩
  have HS1 := Lib.hid (HS0.out.below hb)
  clear hb HS0
  unfold tokV
  go_wp2_with fail
  refine (takeIf_yes C _ _ _ _ _ HS1.out.ps hlt).mono ?_
  rintro e w2 ⟨rfl, hs, hk⟩
  have HS2 := Lib.hid (HS1.out.took hs hk)
  clear hs hk HS1 
  unfold tokV
  go_wp2_with fail
  refine (add_ok C _ _ _ _ _ (hd (C.T.drop k)) 5 (hd (C.T.drop k)).text 0 _ [] (HS2.out.var (w2.heap.size) (by simp) (.cells #[.int .i64 (hd (C.T.drop k)).kind, .string ⟨(hd (C.T.drop k)).text.toArray⟩, .int .i64 (hd (C.T.drop k)).n, .int .i64 (hd (C.T.drop k)).line, .int .i64 (hd (C.T.drop k)).col] 61)).ps (ints_nil _) HS2.out.room).mono ?_
  rintro e w3 ⟨rfl, v', hs, hk⟩
  generalize hN : (((tw ++ _ : List Tw).length : Nat) : Int) = N
  have HR := Lib.hid ((HS2.out.var (w2.heap.size) (by simp) (.cells #[.int .i64 (hd (C.T.drop k)).kind, .string ⟨(hd (C.T.drop k)).text.toArray⟩, .int .i64 (hd (C.T.drop k)).n, .int .i64 (hd (C.T.drop k)).line, .int .i64 (hd (C.T.drop k)).col] 61)).fin HO0.out hs hk hN.symm)
  clear hs hk hN HS2
  go_wp2_with fail
  go_ret
  exact HR.out

set_option maxRecDepth 100000 in
set_option maxHeartbeats 2000000 in
theorem typeName_yes (C : Cx) (w : World) (k m : Nat) (v : Value) (tw : List Tw) (h : PS w C k m v tw) (h1 : ((hd (C.T.drop k)).kind == 1) = false) (h2 : seesW (C.T.drop k) tyWords = true) (hnd : tyO (C.T.drop k) ≠ .dry) :
    Calls Tryz.prog 106 #[C.ptr] w (Ret C w k m v tw (tyO (C.T.drop k))) := by
  have HS0 := Lib.hid (St.start h)
  clear h
  generalize ho : tyO (C.T.drop k) = o at hnd ⊢
  have HND := Lib.hid hnd
  clear hnd
  simp only [tyO, tk, isTyT, h1, h2, Bool.false_or, if_true, tail_drop'] at ho
  have hlt : k < C.T.length := sees_lt (x := 2) (by decide) (seesK_kind h2)
  have H2 := Lib.hid h2
  clear h2
  have HO0 := Lib.hid ho
  clear ho
  have hfd := field0
  go_enter Tryz.func106, Tryz.ntmps106
  go_wp2_with fail
  refine (next_ok C _ _ _ _ _ HS0.out.ps).mono ?_
  rintro e w1 ⟨rfl, hb⟩
  have HS1 := Lib.hid (HS0.out.below hb)
  clear hb HS0
  unfold tokV
  go_wp2_with fail
  have hsee := seesWord_new C w1 _ _ _ _ tyWords w1.heap.size 5 _ HS1.out.ps rfl rfl rfl (by decide)
  rw [H2.out] at hsee
  refine hsee.mono ?_
  rintro e w2 ⟨rfl, hb⟩
  have HS2 := Lib.hid (HS1.out.below hb)
  clear hb HS1 hsee
  go_wp2_with fail
  refine (takeIf_yes C _ _ _ _ _ HS2.out.ps hlt).mono ?_
  rintro e w3 ⟨rfl, hs, hk⟩
  have HS3 := Lib.hid (HS2.out.took hs hk)
  clear hs hk HS2 
  unfold tokV
  go_wp2_with fail
  refine (add_ok C _ _ _ _ _ (hd (C.T.drop k)) 5 (hd (C.T.drop k)).text 0 _ [] (HS3.out.var (w3.heap.size) (by simp) (.cells #[.int .i64 (hd (C.T.drop k)).kind, .string ⟨(hd (C.T.drop k)).text.toArray⟩, .int .i64 (hd (C.T.drop k)).n, .int .i64 (hd (C.T.drop k)).line, .int .i64 (hd (C.T.drop k)).col] 61)).ps (ints_nil _) HS3.out.room).mono ?_
  rintro e w4 ⟨rfl, v', hs, hk⟩
  generalize hN : (((tw ++ _ : List Tw).length : Nat) : Int) = N
  have HR := Lib.hid ((HS3.out.var (w3.heap.size) (by simp) (.cells #[.int .i64 (hd (C.T.drop k)).kind, .string ⟨(hd (C.T.drop k)).text.toArray⟩, .int .i64 (hd (C.T.drop k)).n, .int .i64 (hd (C.T.drop k)).line, .int .i64 (hd (C.T.drop k)).col] 61)).fin HO0.out hs hk hN.symm)
  clear hs hk hN HS3
  go_wp2_with fail
  go_ret
  exact HR.out

set_option maxRecDepth 100000 in
set_option maxHeartbeats 2000000 in
theorem typeName_no (C : Cx) (w : World) (k m : Nat) (v : Value) (tw : List Tw) (h : PS w C k m v tw) (h1 : ((hd (C.T.drop k)).kind == 1) = false) (h2 : seesW (C.T.drop k) tyWords = false) (hnd : tyO (C.T.drop k) ≠ .dry) :
    Calls Tryz.prog 106 #[C.ptr] w (Ret C w k m v tw (tyO (C.T.drop k))) := by
  have HS0 := Lib.hid (St.start h)
  clear h
  generalize ho : tyO (C.T.drop k) = o at hnd ⊢
  have HND := Lib.hid hnd
  clear hnd
  simp only [tyO, tk, isTyT, h1, h2, Bool.false_or, Bool.false_eq_true, if_false] at ho
  have H2 := Lib.hid h2
  clear h2
  have HO0 := Lib.hid ho
  clear ho
  have hfd := field0
  go_enter Tryz.func106, Tryz.ntmps106
  go_wp2_with fail
  refine (next_ok C _ _ _ _ _ HS0.out.ps).mono ?_
  rintro e w1 ⟨rfl, hb⟩
  have HS1 := Lib.hid (HS0.out.below hb)
  clear hb HS0
  unfold tokV
  go_wp2_with fail
  have hsee := seesWord_new C w1 _ _ _ _ tyWords w1.heap.size 5 _ HS1.out.ps rfl rfl rfl (by decide)
  rw [H2.out] at hsee
  refine hsee.mono ?_
  rintro e w2 ⟨rfl, hb⟩
  have HS2 := Lib.hid (HS1.out.below hb)
  clear hb HS1 hsee
  go_wp2_with fail
  refine (takeIf_no C _ _ _ _ _ HS2.out.ps).mono ?_
  rintro e w' ⟨rfl, hb⟩
  have HB := Lib.hid (HS2.out.bad (m0 := m) HO0.out hb)
  clear hb
  go_wp2_with fail
  exact ⟨rfl, HB.out⟩

theorem tyC : Hid (CtE 106 tyO) := Lib.hid fun C w k m v tw h hnd => by
  cases h1 : ((hd (C.T.drop k)).kind == 1)
  · cases h2 : seesW (C.T.drop k) tyWords
    · exact typeName_no C w k m v tw h h1 h2 hnd
    · exact typeName_yes C w k m v tw h h1 h2 hnd
  · exact typeName_name C w k m v tw h h1 hnd

set_option maxRecDepth 100000 in
set_option maxHeartbeats 2000000 in
theorem onLooper_ok (C : Cx) (w : World) (k m : Nat) (v : Value) (tw : List Tw) (h : PS w C k m v tw) (hnd : onO (C.T.drop k) ≠ .dry) :
    Calls Tryz.prog 107 #[C.ptr] w (Ret C w k m v tw (onO (C.T.drop k))) := by
  have HS0 := Lib.hid (St.start h)
  clear h
  generalize ho : onO (C.T.drop k) = o at hnd ⊢
  have HND := Lib.hid hnd
  clear hnd
  simp only [onO] at ho
  have HO0 := Lib.hid ho
  clear ho
  go_enter Tryz.func107, Tryz.ntmps107
  go_wp2_with fail
  cases hx : seesW (C.T.drop k) [[111, 110]]
  · have ho' := HO0.out
    rw [tkW_no hx] at ho'
    refine (takeWord_new_no C _ _ _ _ _ [[111, 110]] _ _ _ HS0.out.ps (by simp) rfl rfl (by decide) hx).mono ?_
    rintro e w' ⟨rfl, hb⟩
    have HB := Lib.hid (HS0.out.bad (m0 := m) ho' hb)
    clear hb ho' hx
    go_wp2_with fail
    exact ⟨rfl, HB.out⟩
  have ho' := HO0.out
  rw [tkW_yes hx, tail_drop'] at ho'
  have HO1 := Lib.hid ho'
  refine (takeWord_new_yes C _ _ _ _ _ [[111, 110]] _ _ _ HS0.out.ps (by simp) rfl rfl (by decide) hx).mono ?_
  rintro e w1 ⟨rfl, hs, hk⟩
  have HS1 := Lib.hid (HS0.out.took hs hk)
  clear hs hk HS0 ho' hx
  unfold tokV
  go_wp2_with fail
  have h0 := HO1.out
  refine (useC.out C _ _ _ _ _ HS1.out.ps (fun h => HND.out (by rw [← h0, h]))).mono ?_
  rintro e w2 hr
  rcases hP : useO (C.T.drop (k + 1)) with _ | ⟨er, r⟩ | ⟨d, f, r⟩
  · exact absurd (h0.symm.trans hP) HND.out
  · rw [hP] at hr; have HB := Lib.hid (HS1.out.bad' (m0 := m) (hP.symm.trans h0) hr); obtain ⟨rfl, _⟩ := hr; clear hP h0; go_wp2_with fail; exact ⟨rfl, HB.out⟩
  · rw [hP] at hr h0; obtain ⟨j, v', rfl, rfl, hs⟩ := HS1.out.sub hr; generalize hN : ((tw.length + _ + f.size : Nat) : Int) = N; have HR := Lib.hid (St.same hs h0 (hN.symm.trans (by simp [Fo.size]))); clear hs hr hN hP h0; go_wp2_with fail; go_ret; exact HR.out

theorem onC : Hid (CtE 107 onO) := Lib.hid onLooper_ok

set_option maxRecDepth 100000 in
set_option maxHeartbeats 2000000 in
theorem looper_ok (n : Nat) (C : Cx) (w : World) (k m : Nat) (v : Value) (tw : List Tw) (h : PS w C k m v tw) (h1 : seesW (C.T.drop k) [[108, 111, 111, 112, 101, 114]] = true) (hnd : P (n + 1) .decl (C.T.drop k) m ≠ .dry) :
    Calls Tryz.prog 87 #[C.ptr] w (Ret C w k m v tw (P (n + 1) .decl (C.T.drop k) m)) := by
  have HS0 := Lib.hid (St.start h)
  clear h
  generalize ho : P (n + 1) .decl (C.T.drop k) m = o at hnd ⊢
  have HND := Lib.hid hnd
  clear hnd
  rw [P] at ho
  simp only [h1, if_true, tail_drop'] at ho
  have hlt : k < C.T.length := sees_lt (x := 2) (by decide) (seesK_kind h1)
  clear h1
  have HO0 := Lib.hid ho
  clear ho
  go_enter Tryz.func87, Tryz.ntmps87
  go_wp2_with fail
  refine (take_ok C _ _ _ _ _ HS0.out.ps (hlt)).mono ?_
  rintro e w1 ⟨rfl, hs, hk⟩
  have HS1 := Lib.hid (HS0.out.took hs hk)
  clear hs hk HS0 
  unfold tokV
  go_wp2_with fail
  cases hx : ((hd (C.T.drop (k + 1))).kind == 1)
  · have ho' := HO0.out
    rw [tkK_no hx] at ho'
    refine (takeName_no C _ _ _ _ _ HS1.out.ps hx).mono ?_
    rintro e w' ⟨rfl, hb⟩
    have HB := Lib.hid (HS1.out.bad (m0 := m) ho' hb)
    clear hb ho' hx
    go_wp2_with fail
    exact ⟨rfl, HB.out⟩
  have ho' := HO0.out
  rw [tkK_yes hx, tail_drop'] at ho'
  have HO1 := Lib.hid ho'
  refine (takeName_yes C _ _ _ _ _ HS1.out.ps hx).mono ?_
  rintro e w2 ⟨rfl, hs, hk⟩
  have HS2 := Lib.hid (HS1.out.took hs hk)
  clear hs hk HS1 ho' hx
  unfold tokV
  go_wp2_with fail
  cases hx : seesM (C.T.drop ((k + 1) + 1)) [[59]]
  · have ho' := HO1.out
    rw [tkM_no hx] at ho'
    refine (takeMark_new_no C _ _ _ _ _ [[59]] _ _ _ ((HS2.out.var (w2.heap.size) (by simp) (.cells #[.int .i64 (hd (C.T.drop k)).kind, .string ⟨(hd (C.T.drop k)).text.toArray⟩, .int .i64 (hd (C.T.drop k)).n, .int .i64 (hd (C.T.drop k)).line, .int .i64 (hd (C.T.drop k)).col] 61)).var (w2.heap.size + 1) (by simp) (.cells #[.int .i64 (hd (C.T.drop (k + 1))).kind, .string ⟨(hd (C.T.drop (k + 1))).text.toArray⟩, .int .i64 (hd (C.T.drop (k + 1))).n, .int .i64 (hd (C.T.drop (k + 1))).line, .int .i64 (hd (C.T.drop (k + 1))).col] 61)).ps (by simp) rfl rfl (by decide) hx).mono ?_
    rintro e w' ⟨rfl, hb⟩
    have HB := Lib.hid (((HS2.out.var (w2.heap.size) (by simp) (.cells #[.int .i64 (hd (C.T.drop k)).kind, .string ⟨(hd (C.T.drop k)).text.toArray⟩, .int .i64 (hd (C.T.drop k)).n, .int .i64 (hd (C.T.drop k)).line, .int .i64 (hd (C.T.drop k)).col] 61)).var (w2.heap.size + 1) (by simp) (.cells #[.int .i64 (hd (C.T.drop (k + 1))).kind, .string ⟨(hd (C.T.drop (k + 1))).text.toArray⟩, .int .i64 (hd (C.T.drop (k + 1))).n, .int .i64 (hd (C.T.drop (k + 1))).line, .int .i64 (hd (C.T.drop (k + 1))).col] 61)).bad (m0 := m) ho' hb)
    clear hb ho' hx
    go_wp2_with fail
    exact ⟨rfl, HB.out⟩
  have ho' := HO1.out
  rw [tkM_yes hx, tail_drop'] at ho'
  have HO2 := Lib.hid ho'
  refine (takeMark_new_yes C _ _ _ _ _ [[59]] _ _ _ ((HS2.out.var (w2.heap.size) (by simp) (.cells #[.int .i64 (hd (C.T.drop k)).kind, .string ⟨(hd (C.T.drop k)).text.toArray⟩, .int .i64 (hd (C.T.drop k)).n, .int .i64 (hd (C.T.drop k)).line, .int .i64 (hd (C.T.drop k)).col] 61)).var (w2.heap.size + 1) (by simp) (.cells #[.int .i64 (hd (C.T.drop (k + 1))).kind, .string ⟨(hd (C.T.drop (k + 1))).text.toArray⟩, .int .i64 (hd (C.T.drop (k + 1))).n, .int .i64 (hd (C.T.drop (k + 1))).line, .int .i64 (hd (C.T.drop (k + 1))).col] 61)).ps (by simp) rfl rfl (by decide) hx).mono ?_
  rintro e w3 ⟨rfl, hs, hk⟩
  have HS3 := Lib.hid (((HS2.out.var (w2.heap.size) (by simp) (.cells #[.int .i64 (hd (C.T.drop k)).kind, .string ⟨(hd (C.T.drop k)).text.toArray⟩, .int .i64 (hd (C.T.drop k)).n, .int .i64 (hd (C.T.drop k)).line, .int .i64 (hd (C.T.drop k)).col] 61)).var (w2.heap.size + 1) (by simp) (.cells #[.int .i64 (hd (C.T.drop (k + 1))).kind, .string ⟨(hd (C.T.drop (k + 1))).text.toArray⟩, .int .i64 (hd (C.T.drop (k + 1))).n, .int .i64 (hd (C.T.drop (k + 1))).line, .int .i64 (hd (C.T.drop (k + 1))).col] 61)).took hs hk)
  clear hs hk HS2 ho' hx
  unfold tokV
  obtain ⟨a3_0, a3_1, a3_2, a3_3, a3_4, a3_5⟩ := tok5 (HS3.out.loc _ (.tail _ (.head _))).is
  have a3_lt := lt_of_block (HS3.out.loc _ (.tail _ (.head _))).is
  obtain ⟨b3_0, b3_1, b3_2, b3_3, b3_4, b3_5⟩ := tok5 (HS3.out.loc _ (.head _)).is
  have b3_lt := lt_of_block (HS3.out.loc _ (.head _)).is
  go_wp2_with fail
  refine (add_ok C _ _ _ _ _ (hd (C.T.drop k)) 2 (hd (C.T.drop (k + 1))).text 0 _ [] HS3.out.ps (ints_nil _) HS3.out.room).mono ?_
  rintro e w4 ⟨rfl, v', hs, hk⟩
  generalize hN : (((tw ++ _ : List Tw).length : Nat) : Int) = N
  have HR := Lib.hid (HS3.out.fin HO2.out hs hk hN.symm)
  clear hs hk hN HS3
  go_wp2_with fail
  go_ret
  exact HR.out

set_option maxRecDepth 100000 in
set_option maxHeartbeats 2000000 in
theorem member_ok (C : Cx) (w : World) (k m : Nat) (v : Value) (tw : List Tw) (h : PS w C k m v tw) (hnd : memO (C.T.drop k) ≠ .dry) :
    Calls Tryz.prog 105 #[C.ptr] w (Ret C w k m v tw (memO (C.T.drop k))) := by
  have HS0 := Lib.hid (St.start h)
  clear h
  generalize ho : memO (C.T.drop k) = o at hnd ⊢
  have HND := Lib.hid hnd
  clear hnd
  simp only [memO] at ho
  have HO0 := Lib.hid ho
  clear ho
  go_enter Tryz.func105, Tryz.ntmps105
  go_wp2_with fail
  cases hx : ((hd (C.T.drop k)).kind == 1)
  · have ho' := HO0.out
    rw [tkK_no hx] at ho'
    refine (takeName_no C _ _ _ _ _ HS0.out.ps hx).mono ?_
    rintro e w' ⟨rfl, hb⟩
    have HB := Lib.hid (HS0.out.bad (m0 := m) ho' hb)
    clear hb ho' hx
    go_wp2_with fail
    exact ⟨rfl, HB.out⟩
  have ho' := HO0.out
  rw [tkK_yes hx, tail_drop'] at ho'
  have HO1 := Lib.hid ho'
  refine (takeName_yes C _ _ _ _ _ HS0.out.ps hx).mono ?_
  rintro e w1 ⟨rfl, hs, hk⟩
  have HS1 := Lib.hid (HS0.out.took hs hk)
  clear hs hk HS0 ho' hx
  unfold tokV
  go_wp2_with fail
  have hnd : tyO (C.T.drop (k + 1)) ≠ .dry := fun hdry => by have h1 := HO1.out; rw [hdry] at h1; exact HND.out h1.symm
  refine (tyC.out C _ _ _ _ _ (HS1.out.var (w1.heap.size) (by simp) (.cells #[.int .i64 (hd (C.T.drop k)).kind, .string ⟨(hd (C.T.drop k)).text.toArray⟩, .int .i64 (hd (C.T.drop k)).n, .int .i64 (hd (C.T.drop k)).line, .int .i64 (hd (C.T.drop k)).col] 61)).ps hnd).mono ?_
  rintro e w2 hr
  rcases hP : tyO (C.T.drop (k + 1)) with _ | ⟨er, r⟩ | ⟨d1, f1, r⟩
  · exact absurd hP hnd
  · rw [hP] at hr
    have ho' := HO1.out
    rw [hP] at ho'
    have HB := Lib.hid ((HS1.out.var (w1.heap.size) (by simp) (.cells #[.int .i64 (hd (C.T.drop k)).kind, .string ⟨(hd (C.T.drop k)).text.toArray⟩, .int .i64 (hd (C.T.drop k)).n, .int .i64 (hd (C.T.drop k)).line, .int .i64 (hd (C.T.drop k)).col] 61)).bad' (m0 := m) ho' hr)
    obtain ⟨rfl, _⟩ := hr
    clear hnd hP ho'
    go_wp2_with fail
    exact ⟨rfl, HB.out⟩
  rw [hP] at hr
  obtain ⟨j1, v1, rfl, rfl, hs⟩ := (HS1.out.var (w1.heap.size) (by simp) (.cells #[.int .i64 (hd (C.T.drop k)).kind, .string ⟨(hd (C.T.drop k)).text.toArray⟩, .int .i64 (hd (C.T.drop k)).n, .int .i64 (hd (C.T.drop k)).line, .int .i64 (hd (C.T.drop k)).col] 61)).sub hr
  have ho' := HO1.out
  rw [hP] at ho'
  dsimp only [Out.and] at ho'
  have HO2 := Lib.hid ho'
  have HS2 := Lib.hid hs
  generalize hN : ((tw.length + _ + f1.size : Nat) : Int) = N1
  have HN1 := Lib.hid hN
  clear hs hr hN hnd hP ho' HS1 
  go_wp2_with fail
  cases hx : seesM (C.T.drop j1) [[59]]
  · have ho' := HO2.out
    rw [tkM_no hx] at ho'
    refine (takeMark_new_no C _ _ _ _ _ [[59]] _ _ _ HS2.out.ps (by simp) rfl rfl (by decide) hx).mono ?_
    rintro e w' ⟨rfl, hb⟩
    have HB := Lib.hid (HS2.out.bad (m0 := m) ho' hb)
    clear hb ho' hx
    go_wp2_with fail
    exact ⟨rfl, HB.out⟩
  have ho' := HO2.out
  rw [tkM_yes hx, tail_drop'] at ho'
  have HO3 := Lib.hid ho'
  refine (takeMark_new_yes C _ _ _ _ _ [[59]] _ _ _ HS2.out.ps (by simp) rfl rfl (by decide) hx).mono ?_
  rintro e w3 ⟨rfl, hs, hk⟩
  have HS3 := Lib.hid (HS2.out.took hs hk)
  clear hs hk HS2 ho' hx
  unfold tokV
  obtain ⟨a3_0, a3_1, a3_2, a3_3, a3_4, a3_5⟩ := tok5 (HS3.out.loc _ (.head _)).is
  have a3_lt := lt_of_block (HS3.out.loc _ (.head _)).is
  go_wp2_with fail
  refine (add_ok C _ _ _ _ _ (hd (C.T.drop k)) 4 (hd (C.T.drop k)).text 0 _ _ (HS3.out.al _).ps (ints_new _ (fun b hb => by have := HS3.out.ps.xlt b hb; simp; try omega) [N1] #[.int .i64 N1] rfl _ _ (by simp) rfl) HS3.out.room).mono ?_
  rintro e w4 ⟨rfl, v', hs, hk⟩
  have hids : [N1] = (Fo.nil.app (one d1 f1)).ids tw.length := (by rw [ids_snoc, ← HN1.out]; rfl)
  rw [hids] at hs
  generalize hN : (((tw ++ _ : List Tw).length : Nat) : Int) = N
  have HR := Lib.hid ((HS3.out.al _).fin HO3.out hs hk hN.symm)
  clear hs hk hN HS3
  go_wp2_with fail
  go_ret
  exact HR.out

theorem memC : Hid (CtE 105 memO) := Lib.hid member_ok

set_option maxRecDepth 100000 in
set_option maxHeartbeats 2000000 in
theorem global_ok (n : Nat) (C : Cx) (w : World) (k m : Nat) (v : Value) (tw : List Tw) (h : PS w C k m v tw) (h2 : seesW (C.T.drop k) [[108, 111, 111, 112, 101, 114]] = false) (h3 : seesW (C.T.drop k) [[99, 108, 97, 115, 115]] = false) (h1 : seesW (C.T.drop k) [[118, 97, 114]] = true) (hnd : P (n + 1) .decl (C.T.drop k) m ≠ .dry) :
    Calls Tryz.prog 89 #[C.ptr] w (Ret C w k m v tw (P (n + 1) .decl (C.T.drop k) m)) := by
  have HS0 := Lib.hid (St.start h)
  clear h
  generalize ho : P (n + 1) .decl (C.T.drop k) m = o at hnd ⊢
  have HND := Lib.hid hnd
  clear hnd
  rw [P] at ho
  simp only [h1, h2, h3, Bool.false_eq_true, if_false, if_true, tail_drop'] at ho
  have hlt : k < C.T.length := sees_lt (x := 2) (by decide) (seesK_kind h1)
  clear h1
  have HO0 := Lib.hid ho
  clear ho
  go_enter Tryz.func89, Tryz.ntmps89
  go_wp2_with fail
  refine (take_ok C _ _ _ _ _ HS0.out.ps (hlt)).mono ?_
  rintro e w1 ⟨rfl, hs, hk⟩
  have HS1 := Lib.hid (HS0.out.took hs hk)
  clear hs hk HS0 
  unfold tokV
  go_wp2_with fail
  cases hx : ((hd (C.T.drop (k + 1))).kind == 1)
  · have ho' := HO0.out
    rw [tkK_no hx] at ho'
    refine (takeName_no C _ _ _ _ _ HS1.out.ps hx).mono ?_
    rintro e w' ⟨rfl, hb⟩
    have HB := Lib.hid (HS1.out.bad (m0 := m) ho' hb)
    clear hb ho' hx
    go_wp2_with fail
    exact ⟨rfl, HB.out⟩
  have ho' := HO0.out
  rw [tkK_yes hx, tail_drop'] at ho'
  have HO1 := Lib.hid ho'
  refine (takeName_yes C _ _ _ _ _ HS1.out.ps hx).mono ?_
  rintro e w2 ⟨rfl, hs, hk⟩
  have HS2 := Lib.hid (HS1.out.took hs hk)
  clear hs hk HS1 ho' hx
  unfold tokV
  go_wp2_with fail
  have hnd : tyO (C.T.drop ((k + 1) + 1)) ≠ .dry := fun hdry => by have h1 := HO1.out; rw [hdry] at h1; exact HND.out h1.symm
  refine (tyC.out C _ _ _ _ _ ((HS2.out.var (w2.heap.size) (by simp) (.cells #[.int .i64 (hd (C.T.drop k)).kind, .string ⟨(hd (C.T.drop k)).text.toArray⟩, .int .i64 (hd (C.T.drop k)).n, .int .i64 (hd (C.T.drop k)).line, .int .i64 (hd (C.T.drop k)).col] 61)).var (w2.heap.size + 1) (by simp) (.cells #[.int .i64 (hd (C.T.drop (k + 1))).kind, .string ⟨(hd (C.T.drop (k + 1))).text.toArray⟩, .int .i64 (hd (C.T.drop (k + 1))).n, .int .i64 (hd (C.T.drop (k + 1))).line, .int .i64 (hd (C.T.drop (k + 1))).col] 61)).ps hnd).mono ?_
  rintro e w3 hr
  rcases hP : tyO (C.T.drop ((k + 1) + 1)) with _ | ⟨er, r⟩ | ⟨d1, f1, r⟩
  · exact absurd hP hnd
  · rw [hP] at hr
    have ho' := HO1.out
    rw [hP] at ho'
    have HB := Lib.hid (((HS2.out.var (w2.heap.size) (by simp) (.cells #[.int .i64 (hd (C.T.drop k)).kind, .string ⟨(hd (C.T.drop k)).text.toArray⟩, .int .i64 (hd (C.T.drop k)).n, .int .i64 (hd (C.T.drop k)).line, .int .i64 (hd (C.T.drop k)).col] 61)).var (w2.heap.size + 1) (by simp) (.cells #[.int .i64 (hd (C.T.drop (k + 1))).kind, .string ⟨(hd (C.T.drop (k + 1))).text.toArray⟩, .int .i64 (hd (C.T.drop (k + 1))).n, .int .i64 (hd (C.T.drop (k + 1))).line, .int .i64 (hd (C.T.drop (k + 1))).col] 61)).bad' (m0 := m) ho' hr)
    obtain ⟨rfl, _⟩ := hr
    clear hnd hP ho'
    go_wp2_with fail
    exact ⟨rfl, HB.out⟩
  rw [hP] at hr
  obtain ⟨j1, v1, rfl, rfl, hs⟩ := ((HS2.out.var (w2.heap.size) (by simp) (.cells #[.int .i64 (hd (C.T.drop k)).kind, .string ⟨(hd (C.T.drop k)).text.toArray⟩, .int .i64 (hd (C.T.drop k)).n, .int .i64 (hd (C.T.drop k)).line, .int .i64 (hd (C.T.drop k)).col] 61)).var (w2.heap.size + 1) (by simp) (.cells #[.int .i64 (hd (C.T.drop (k + 1))).kind, .string ⟨(hd (C.T.drop (k + 1))).text.toArray⟩, .int .i64 (hd (C.T.drop (k + 1))).n, .int .i64 (hd (C.T.drop (k + 1))).line, .int .i64 (hd (C.T.drop (k + 1))).col] 61)).sub hr
  have ho' := HO1.out
  rw [hP] at ho'
  dsimp only [Out.and] at ho'
  have HO2 := Lib.hid ho'
  have HS3 := Lib.hid hs
  generalize hN : ((tw.length + _ + f1.size : Nat) : Int) = N1
  have HN1 := Lib.hid hN
  clear hs hr hN hnd hP ho' HS2 
  go_wp2_with fail
  cases hx : seesM (C.T.drop j1) [[59]]
  · have ho' := HO2.out
    rw [tkM_no hx] at ho'
    refine (takeMark_new_no C _ _ _ _ _ [[59]] _ _ _ HS3.out.ps (by simp) rfl rfl (by decide) hx).mono ?_
    rintro e w' ⟨rfl, hb⟩
    have HB := Lib.hid (HS3.out.bad (m0 := m) ho' hb)
    clear hb ho' hx
    go_wp2_with fail
    exact ⟨rfl, HB.out⟩
  have ho' := HO2.out
  rw [tkM_yes hx, tail_drop'] at ho'
  have HO3 := Lib.hid ho'
  refine (takeMark_new_yes C _ _ _ _ _ [[59]] _ _ _ HS3.out.ps (by simp) rfl rfl (by decide) hx).mono ?_
  rintro e w4 ⟨rfl, hs, hk⟩
  have HS4 := Lib.hid (HS3.out.took hs hk)
  clear hs hk HS3 ho' hx
  unfold tokV
  obtain ⟨a4_0, a4_1, a4_2, a4_3, a4_4, a4_5⟩ := tok5 (HS4.out.loc _ (.tail _ (.head _))).is
  have a4_lt := lt_of_block (HS4.out.loc _ (.tail _ (.head _))).is
  obtain ⟨b4_0, b4_1, b4_2, b4_3, b4_4, b4_5⟩ := tok5 (HS4.out.loc _ (.head _)).is
  have b4_lt := lt_of_block (HS4.out.loc _ (.head _)).is
  go_wp2_with fail
  refine (add_ok C _ _ _ _ _ (hd (C.T.drop k)) 6 (hd (C.T.drop (k + 1))).text 0 _ _ (HS4.out.al _).ps (ints_new _ (fun b hb => by have := HS4.out.ps.xlt b hb; simp; try omega) [N1] #[.int .i64 N1] rfl _ _ (by simp) rfl) HS4.out.room).mono ?_
  rintro e w5 ⟨rfl, v', hs, hk⟩
  have hids : [N1] = (Fo.nil.app (one d1 f1)).ids tw.length := (by rw [ids_snoc, ← HN1.out]; rfl)
  rw [hids] at hs
  generalize hN : (((tw ++ _ : List Tw).length : Nat) : Int) = N
  have HR := Lib.hid ((HS4.out.al _).fin HO3.out hs hk hN.symm)
  clear hs hk hN HS4
  go_wp2_with fail
  go_ret
  exact HR.out

end Go.Proofs.YtehdljcmeimbcaaGreat
