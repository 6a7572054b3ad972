/- What a function of the parser has done so far; contracts as they are met; The document's parser in memory: Wrong, ahead, Is, In, take, Sign, One, Kind, Open; Is, In, take, Sign, One, Kind, Open of the document's parser; Open of the document's parser. -/
import Derived.Test.YtpeoefbibjbinaaGreatB05
namespace Go.Proofs.YtpeoefbibjbinaaGreat
open Go.RowKit

/-- A variable of the call's own. -/
structure Loc (C : Cx) (v : Value) (w : World) (b : Nat) (o : Obj) : Prop where
  is : w.heap[b]? = some o
  ne : C.p < b
  own : v.ownBlock ≠ some b
theorem Loc.keep {C : Cx} {v v' : Value} {w w' : World} {b : Nat} {o : Obj} (h : Loc C v w b o) (hk : Kp C.p v w v' w') : Loc C v' w' b o :=
  have hlt := lt_of_block h.is
  ⟨(hk.block b hlt (by have := h.ne; omega) h.own).trans h.is, h.ne, fun e => (hk.own b e).elim h.own (by omega)⟩

structure St (C : Cx) (w0 : World) (k0 : Nat) (v0 : Value) (tw0 : List Tw) (w : World) (k m : Nat) (v : Value) (F : Fo) (q : Nat) (L : List (Nat × Obj)) : Prop where
  ps : PS w C k m v (tw0 ++ F.post tw0.length)
  kp : Kp C.p v0 w0 v w
  sz : F.size + 2 * k0 + q ≤ 2 * k
  few0 : tw0.length ≤ 2 * k0 + 1
  loc : ∀ x ∈ L, Loc C v w x.1 x.2

theorem PS.al {w : World} {C : Cx} {k m : Nat} {v : Value} {tw : List Tw} (h : PS w C k m v tw) (o : Obj) : PS (w.alloc o) C k m v tw := h.after ((Below.refl _ _).alloc (Nat.le_refl _) o)
theorem St.start {C : Cx} {w : World} {k m : Nat} {v : Value} {tw : List Tw} (h : PS w C k m v tw) : St C w k v tw w k m v .nil 0 [] :=
  ⟨by simpa [Fo.post] using h, .refl _ _ _, by simp [Fo.size], h.few, by simp⟩
variable {C : Cx} {w0 w : World} {k0 k m : Nat} {v0 v : Value} {tw0 : List Tw} {F : Fo} {q : Nat} {L : List (Nat × Obj)}
theorem St.al (h : St C w0 k0 v0 tw0 w k m v F q L) (o : Obj) : St C w0 k0 v0 tw0 (w.alloc o) k m v F q L :=
  ⟨h.ps.al o, h.kp.trans (.alloc _ o), h.sz, h.few0, fun x hx => (h.loc x hx).keep (.alloc _ o)⟩
theorem St.var (h : St C w0 k0 v0 tw0 w k m v F q L) (b : Nat) (hb : b = w.heap.size) (o : Obj) : St C w0 k0 v0 tw0 (w.alloc o) k m v F q ((b, o) :: L) := by
  subst hb
  have ha := h.al o
  refine ⟨ha.ps, ha.kp, ha.sz, ha.few0, fun x hx => ?_⟩
  rcases List.mem_cons.1 hx with rfl | hx
  · exact ⟨heap_alloc_new w o, h.ps.lt, fun e => by have := h.ps.own_lt _ e; simp at this⟩
  · exact ha.loc x hx
theorem St.drew (h : St C w0 k0 v0 tw0 w k m v F q L) : St C w0 k0 v0 tw0 w.drew k m v F q L :=
  have hb : Below w.heap.size w w.drew := (Below.refl _ _).drew
  ⟨h.ps.after hb, h.kp.trans (.of hb), h.sz, h.few0, fun x hx => (h.loc x hx).keep (.of hb)⟩
theorem St.lowB (h : St C w0 k0 v0 tw0 w k m v F q L) {w' : World} (hk : KpB C.p v w w') : KpB C.p v0 w0 w' := h.kp.transB hk
theorem St.below (h : St C w0 k0 v0 tw0 w k m v F q L) {w' : World} (hb : Below w.heap.size w w') : St C w0 k0 v0 tw0 w' k m v F q L :=
  have hk : Kp C.p v w v w' := .of hb
  ⟨h.ps.after hb, h.kp.trans hk, h.sz, h.few0, fun x hx => (h.loc x hx).keep hk⟩
theorem St.took (h : St C w0 k0 v0 tw0 w k m v F q L) {w' : World} {m' : Nat} (hs : PS w' C (k + 1) m' v (tw0 ++ F.post tw0.length)) (hk : Kp C.p v w v w') : St C w0 k0 v0 tw0 w' (k + 1) m' v F (q + 2) L :=
  ⟨hs, h.kp.trans hk, by have := h.sz; omega, h.few0, fun x hx => (h.loc x hx).keep hk⟩
theorem St.left (h : St C w0 k0 v0 tw0 w k m v F q L) {w' : World} {m' : Nat} (hs : PS w' C k m' v (tw0 ++ F.post tw0.length)) (hk : Kp C.p v w v w') : St C w0 k0 v0 tw0 w' k m' v F q L :=
  ⟨hs, h.kp.trans hk, h.sz, h.few0, fun x hx => (h.loc x hx).keep hk⟩
theorem len_post (tw : List Tw) (F : Fo) : (tw ++ F.post tw.length).length = tw.length + F.size := by rw [List.length_append, Fo.post_len]
theorem St.added (h : St C w0 k0 v0 tw0 w k m v F (q + 1) L) {w' : World} {v' : Value} (d : Nd) (hs : PS w' C k m v' (tw0 ++ F.post tw0.length ++ [d.tw []])) (hk : Kp C.p v w v' w') : St C w0 k0 v0 tw0 w' k m v' (F.app (one d .nil)) q L :=
  ⟨by rw [Fo.post_app, ← List.append_assoc]; exact hs, h.kp.trans hk, by have := h.sz; rw [Fo.size_app, one_size]; simp [Fo.size]; omega, h.few0, fun x hx => (h.loc x hx).keep hk⟩

/-- What a part of the grammar answers. -/
def Ret (C : Cx) (w : World) (k m : Nat) (v : Value) (tw : List Tw) (o : Out) (e : Ending) (w' : World) : Prop :=
  match o with
  | .dry => False
  | .bad er r => e = .panicked [{ v := diagV (hd r) er, recovered := false }] ∧ KpB C.p v w w'
  | .ok d kf r => ∃ (j : Nat) (v' : Value), r = C.T.drop j ∧ e = .returned (.int .i64 ((tw.length + kf.size : Nat) : Int)) ∧ PS w' C j m v' (tw ++ (one d kf).post tw.length) ∧ Kp C.p v w v' w' ∧ kf.size + 1 + 2 * k ≤ 2 * j
theorem ret_bad {o : Out} {j : Nat} {er : Int} {w' : World} (ho : Out.bad er (C.T.drop j) = o) (hb : KpB C.p v w w') : Ret C w k m v tw0 o (.panicked [{ v := diagV (hd (C.T.drop j)) er, recovered := false }]) w' := by
  subst ho; exact ⟨rfl, hb⟩
theorem St.bad (h : St C w0 k0 v0 tw0 w k m v F q L) {o : Out} {j : Nat} {er : Int} {w' : World} {m0 : Nat} (ho : Out.bad er (C.T.drop j) = o) (hb : KpB C.p v w w') : Ret C w0 k0 m0 v0 tw0 o (.panicked [{ v := diagV (hd (C.T.drop j)) er, recovered := false }]) w' := ret_bad ho (h.lowB hb)
theorem St.bad' (h : St C w0 k0 v0 tw0 w k m v F q L) {o : Out} {er : Int} {r : List Tok} {e : Ending} {w' : World} {m0 : Nat} (ho : Out.bad er r = o) (hr : Ret C w k m v (tw0 ++ F.post tw0.length) (.bad er r) e w') : Ret C w0 k0 m0 v0 tw0 o e w' := by
  subst ho; exact ⟨hr.1, h.lowB hr.2⟩
theorem St.sub (h : St C w0 k0 v0 tw0 w k m v F q L) {d : Nd} {kf : Fo} {r : List Tok} {e : Ending} {w' : World} (hr : Ret C w k m v (tw0 ++ F.post tw0.length) (.ok d kf r) e w') :
    ∃ (j : Nat) (v' : Value), r = C.T.drop j ∧ e = .returned (.int .i64 ((tw0.length + F.size + kf.size : Nat) : Int)) ∧ St C w0 k0 v0 tw0 w' j m v' (F.app (one d kf)) q L := by
  obtain ⟨j, v', h1, h2, h3, h4, h5⟩ := hr
  rw [len_post] at h2 h3
  refine ⟨j, v', h1, h2, ⟨?_, h.kp.trans h4, ?_, h.few0, fun x hx => (h.loc x hx).keep h4⟩⟩
  · rw [Fo.post_app, ← List.append_assoc]; exact h3
  · have := h.sz; rw [Fo.size_app, one_size]; omega
/-- A sub-part's own tree is the answer. -/
theorem St.same {d : Nd} {kf : Fo} (h : St C w0 k0 v0 tw0 w k m v (one d kf) q L) {o : Out} (ho : Out.ok d kf (C.T.drop k) = o) {x : Int} (hx : x = ((tw0.length + kf.size : Nat) : Int)) : Ret C w0 k0 m v0 tw0 o (.returned (.int .i64 x)) w := by
  subst ho hx
  exact ⟨k, v, rfl, rfl, h.ps, h.kp, by have := h.sz; rw [one_size] at this; omega⟩
/-- The last twig is added. -/
theorem St.fin (h : St C w0 k0 v0 tw0 w k m v F (q + 1) L) {d : Nd} {o : Out} (ho : Out.ok d F (C.T.drop k) = o) {w' : World} {v' : Value} (hs : PS w' C k m v' (tw0 ++ F.post tw0.length ++ [d.tw (F.ids tw0.length)])) (hk : Kp C.p v w v' w') {x : Int} (hx : x = ((tw0 ++ F.post tw0.length).length : Int)) : Ret C w0 k0 m v0 tw0 o (.returned (.int .i64 x)) w' := by
  subst ho hx
  refine ⟨k, v', rfl, by rw [len_post], ?_, h.kp.trans hk, by have := h.sz; omega⟩
  rw [one_post, ← List.append_assoc]; exact hs
theorem St.room (h : St C w0 k0 v0 tw0 w k m v F (q + 1) L) : (tw0 ++ F.post tw0.length).length + 1 ≤ 2 * k + 1 := by
  rw [len_post]
  have h1 := h.sz
  have h2 := h.few0
  omega

/-- A store into a variable of the call's own. -/
theorem St.setv {b : Nat} {cs : Array Value} {t : TypeId} (h : St C w0 k0 v0 tw0 w k m v F q ((b, .cells cs t (0, 0)) :: L)) (i : Nat) (u : Value) (ht : t ≠ 3) (hge : w0.heap.size ≤ b) (hL : ∀ x ∈ L, x.1 ≠ b) : St C w0 k0 v0 tw0 (w.setCell ⟨b, i, none⟩ u) k m v F q ((b, .cells (cs.setIfInBounds i u) t (0, 0)) :: L) := by
  have hl := h.loc _ (.head _)
  have hbe : Below b w (w.setCell ⟨b, i, none⟩ u) := (Below.refl b w).setCell (p := ⟨b, i, none⟩) (Nat.le_refl _) u
  refine ⟨h.ps.move b hl.ne hl.own hl.is ht hbe fun x hx _ => set_other _ _ _ _ _ hx, ⟨hbe.os.trans h.kp.os, hbe.tape.trans h.kp.tape, hbe.output.trans h.kp.output, Nat.le_trans h.kp.size hbe.size, fun x h1 h2 h3 => (set_other _ _ _ _ _ (by omega)).trans (h.kp.block x h1 h2 h3), h.kp.own⟩, h.sz, h.few0, fun x hx => ?_⟩
  rcases List.mem_cons.1 hx with rfl | hx
  · exact ⟨rowset hl.is i u, hl.ne, hl.own⟩
  · have h2 := h.loc x (List.mem_cons_of_mem _ hx)
    exact ⟨(set_other _ _ _ _ _ (hL x hx)).trans h2.is, h2.ne, h2.own⟩
theorem St.ps0 (h : St C w0 k0 v0 tw0 w k m v .nil q L) : PS w C k m v tw0 := by simpa [Fo.post] using h.ps
/-- What is answered from a later world on is answered from the first. -/
theorem St.from (h : St C w0 k0 v0 tw0 w k0 m v .nil q L) {o : Out} {e : Ending} {w' : World} (hr : Ret C w k0 m v tw0 o e w') : Ret C w0 k0 m v0 tw0 o e w' := by
  cases o with
  | dry => exact hr
  | bad er r => exact ⟨hr.1, h.lowB hr.2⟩
  | ok d kf r =>
    obtain ⟨j, v', h1, h2, h3, h4, h5⟩ := hr
    exact ⟨j, v', h1, h2, h3, h.kp.trans h4, h5⟩
theorem strs_new (W : World) (l : List (List UInt8)) (cs : Array Value) (hcs : cs = (l.map fun s => Value.string ⟨s.toArray⟩).toArray) (g : Nat) (hg : g = W.heap.size) : Strs (W.alloc (.cells cs 9)) g l := by
  subst hcs hg
  intro i s hi
  rw [World.cell?_alloc_mark]
  simp [hi]
theorem seesWord_new (C : Cx) (W : World) (k m : Nat) (v : Value) (tw : List Tw) (l : List (List UInt8)) (g n : Nat) (cs : Array Value) (h : PS W C k m v tw) (hg : g = W.heap.size) (hn : n = l.length) (hcs : cs = (l.map fun s => Value.string ⟨s.toArray⟩).toArray) (hl : l.length ≤ 1000) :
    Calls Tryz.prog 86 #[C.ptr, .slice (some ⟨g, 0, none⟩) n n] (W.alloc (.cells cs 9)) fun e w' => e = .returned (.bool (seesW (C.T.drop k) l)) ∧ Below W.heap.size W w' := by
  subst hn
  refine (seesWord_ok C _ k m v tw l g _ (h.al _) (strs_new W l cs hcs g hg) (by simp; omega) hl).mono fun e w' h => ⟨h.1, ((Below.refl _ _).alloc (Nat.le_refl _) _).trans (h.2.mono (by simp))⟩
theorem seesMark_new (C : Cx) (W : World) (k m : Nat) (v : Value) (tw : List Tw) (l : List (List UInt8)) (g n : Nat) (cs : Array Value) (h : PS W C k m v tw) (hg : g = W.heap.size) (hn : n = l.length) (hcs : cs = (l.map fun s => Value.string ⟨s.toArray⟩).toArray) (hl : l.length ≤ 1000) :
    Calls Tryz.prog 104 #[C.ptr, .slice (some ⟨g, 0, none⟩) n n] (W.alloc (.cells cs 9)) fun e w' => e = .returned (.bool (seesM (C.T.drop k) l)) ∧ Below W.heap.size W w' := by
  subst hn
  refine (seesMark_ok C _ k m v tw l g _ (h.al _) (strs_new W l cs hcs g hg) (by simp; omega) hl).mono fun e w' h => ⟨h.1, ((Below.refl _ _).alloc (Nat.le_refl _) _).trans (h.2.mono (by simp))⟩
theorem seesWord_is (C : Cx) (W : World) (k m : Nat) (v : Value) (tw : List Tw) (l : List (List UInt8)) (g n : Nat) (cs : Array Value) (b : Bool) (h : PS W C k m v tw) (hg : g = W.heap.size) (hn : n = l.length) (hcs : cs = (l.map fun s => Value.string ⟨s.toArray⟩).toArray) (hl : l.length ≤ 1000) (hb : seesW (C.T.drop k) l = b) :
    Calls Tryz.prog 86 #[C.ptr, .slice (some ⟨g, 0, none⟩) n n] (W.alloc (.cells cs 9)) fun e w' => e = .returned (.bool b) ∧ Below W.heap.size W w' := by
  subst hb; exact seesWord_new C W k m v tw l g n cs h hg hn hcs hl
theorem seesMark_is (C : Cx) (W : World) (k m : Nat) (v : Value) (tw : List Tw) (l : List (List UInt8)) (g n : Nat) (cs : Array Value) (b : Bool) (h : PS W C k m v tw) (hg : g = W.heap.size) (hn : n = l.length) (hcs : cs = (l.map fun s => Value.string ⟨s.toArray⟩).toArray) (hl : l.length ≤ 1000) (hb : seesM (C.T.drop k) l = b) :
    Calls Tryz.prog 104 #[C.ptr, .slice (some ⟨g, 0, none⟩) n n] (W.alloc (.cells cs 9)) fun e w' => e = .returned (.bool b) ∧ Below W.heap.size W w' := by
  subst hb; exact seesMark_new C W k m v tw l g n cs h hg hn hcs hl
theorem takeMark_new_yes (C : Cx) (W : World) (k m : Nat) (v : Value) (tw : List Tw) (l : List (List UInt8)) (g n : Nat) (cs : Array Value) (h : PS W C k m v tw) (hg : g = W.heap.size) (hn : n = l.length) (hcs : cs = (l.map fun s => Value.string ⟨s.toArray⟩).toArray) (hl : l.length ≤ 1000) (hx : seesM (C.T.drop k) l = true) :
    Calls Tryz.prog 103 #[C.ptr, .slice (some ⟨g, 0, none⟩) n n] (W.alloc (.cells cs 9)) (Took C W k m v tw) := by
  subst hn
  exact (takeMark_yes C _ k m v tw l g _ (h.al _) (strs_new W l cs hcs g hg) (by simp; omega) hl hx).mono fun e w' h => ⟨h.1, h.2.1, (Kp.alloc _ _).trans h.2.2⟩
theorem takeMark_new_no (C : Cx) (W : World) (k m : Nat) (v : Value) (tw : List Tw) (l : List (List UInt8)) (g n : Nat) (cs : Array Value) (h : PS W C k m v tw) (hg : g = W.heap.size) (hn : n = l.length) (hcs : cs = (l.map fun s => Value.string ⟨s.toArray⟩).toArray) (hl : l.length ≤ 1000) (hx : seesM (C.T.drop k) l = false) :
    Calls Tryz.prog 103 #[C.ptr, .slice (some ⟨g, 0, none⟩) n n] (W.alloc (.cells cs 9)) (Bad C W v k 4) := by
  subst hn
  exact (takeMark_no C _ k m v tw l g _ (h.al _) (strs_new W l cs hcs g hg) (by simp; omega) hl hx).mono fun e w' h' => ⟨h'.1, (Kp.alloc _ _).transB h'.2⟩
theorem takeWord_new_yes (C : Cx) (W : World) (k m : Nat) (v : Value) (tw : List Tw) (l : List (List UInt8)) (g n : Nat) (cs : Array Value) (h : PS W C k m v tw) (hg : g = W.heap.size) (hn : n = l.length) (hcs : cs = (l.map fun s => Value.string ⟨s.toArray⟩).toArray) (hl : l.length ≤ 1000) (hx : seesW (C.T.drop k) l = true) :
    Calls Tryz.prog 93 #[C.ptr, .slice (some ⟨g, 0, none⟩) n n] (W.alloc (.cells cs 9)) (Took C W k m v tw) := by
  subst hn
  exact (takeWord_yes C _ k m v tw l g _ (h.al _) (strs_new W l cs hcs g hg) (by simp; omega) hl hx).mono fun e w' h => ⟨h.1, h.2.1, (Kp.alloc _ _).trans h.2.2⟩
theorem takeWord_new_no (C : Cx) (W : World) (k m : Nat) (v : Value) (tw : List Tw) (l : List (List UInt8)) (g n : Nat) (cs : Array Value) (h : PS W C k m v tw) (hg : g = W.heap.size) (hn : n = l.length) (hcs : cs = (l.map fun s => Value.string ⟨s.toArray⟩).toArray) (hl : l.length ≤ 1000) (hx : seesW (C.T.drop k) l = false) :
    Calls Tryz.prog 93 #[C.ptr, .slice (some ⟨g, 0, none⟩) n n] (W.alloc (.cells cs 9)) (Bad C W v k 4) := by
  subst hn
  exact (takeWord_no C _ k m v tw l g _ (h.al _) (strs_new W l cs hcs g hg) (by simp; omega) hl hx).mono fun e w' h' => ⟨h'.1, (Kp.alloc _ _).transB h'.2⟩

/-- A row of numbers that the call has just made. -/
theorem ints_new {X : List Nat} (W : World) (hX : ∀ b ∈ X, b < W.heap.size) (l : List Int) (cs : Array Value) (hcs : cs = (l.map (Value.int .i64)).toArray) (g n : Nat) (hg : g = W.heap.size) (hn : n = l.length) : IntRow (W.alloc (.cells cs 3)) X (.slice (some ⟨g, 0, none⟩) n n) l := by
  subst hcs hg hn
  exact ⟨_, _, rfl, fun _ => ⟨_, _, _, rfl, heap_alloc_new W _, fun hm => absurd (hX _ hm) (Nat.lt_irrefl _), fun i x hi => by simp [hi]⟩⟩
theorem ints_nil {X : List Nat} (W : World) : IntRow W X (.slice none 0 0) [] := ⟨_, _, rfl, fun h => absurd h (by simp)⟩
theorem ids_snoc (F : Fo) (d : Nd) (f : Fo) (b : Nat) : (F.app (one d f)).ids b = F.ids b ++ [((b + F.size + f.size : Nat) : Int)] := by rw [Fo.ids_app, one_ids]
theorem tkM_no {r : List Tok} {l : List (List UInt8)} {f : Tok → List Tok → Out} (h : seesM r l = false) : tkM l r f = .bad 4 r := by simp [tkM, tk, h]
theorem tkM_yes {r : List Tok} {l : List (List UInt8)} {f : Tok → List Tok → Out} (h : seesM r l = true) : tkM l r f = f (hd r) r.tail := by simp [tkM, tk, h]
theorem tkW_no {r : List Tok} {l : List (List UInt8)} {f : Tok → List Tok → Out} (h : seesW r l = false) : tkW l r f = .bad 4 r := by simp [tkW, tk, h]
theorem tkW_yes {r : List Tok} {l : List (List UInt8)} {f : Tok → List Tok → Out} (h : seesW r l = true) : tkW l r f = f (hd r) r.tail := by simp [tkW, tk, h]
theorem tkK_no {r : List Tok} {k : Int} {f : Tok → List Tok → Out} (h : ((hd r).kind == k) = false) : tkK k r f = .bad 4 r := by simp [tkK, tk, h]
theorem tkK_yes {r : List Tok} {k : Int} {f : Tok → List Tok → Out} (h : ((hd r).kind == k) = true) : tkK k r f = f (hd r) r.tail := by simp [tkK, tk, h]
theorem ent_no {m : Nat} {r : List Tok} {f : Tok → List Tok → Out} (h : m = 64) : ent m r f = .bad 5 r := by simp [ent, h]
theorem ent_yes {m : Nat} {r : List Tok} {f : Tok → List Tok → Out} (h : ¬ m = 64) : ent m r f = f (hd r) r.tail := by simp [ent, h]
theorem tail_drop' (T : List Tok) (k : Nat) : (T.drop k).tail = T.drop (k + 1) := by simp

def Ct (f n : Nat) (g : Gr) : Prop := ∀ (C : Cx) (w : World) (k m : Nat) (v : Value) (tw : List Tw), PS w C k m v tw → P n g (C.T.drop k) m ≠ .dry → Calls Tryz.prog f #[C.ptr] w (Ret C w k m v tw (P n g (C.T.drop k) m))
end Go.Proofs.YtpeoefbibjbinaaGreat

namespace Go.Proofs.YtpeoefbibjbinaaGreat
open Go.RowKit

/-- Where the document's parser lies, and its tokens. -/
structure Rx where
  p : Nat
  A : Option Addr
  cap : Nat
  T : List Tok
def Rx.ptr (C : Rx) : Value := .pointer (some ⟨C.p, 0, none⟩)
/-- How far it is, what is wrong, and where. -/
structure Sg where
  k : Nat
  er : Int
  wh : Int
def rest (T : List Tok) (σ : Sg) : List Tok := if σ.er = 0 then T.drop σ.k else []
def wrong (e : Int) (σ : Sg) : Sg := if σ.er = 0 then ⟨σ.k, e, σ.k⟩ else σ
def tok0' : Tok := ⟨0, [], 0, 0, 0⟩
def takeS (T : List Tok) (b : Bool) (σ : Sg) : Tok × Sg := if b = true then (hd (rest T σ), ⟨σ.k + 1, σ.er, σ.wh⟩) else (tok0', wrong 4 σ)
def kindOf (s : List UInt8) : Int := if decide (97 ≤ chr s 0) && decide (chr s 0 ≤ 122) then 2 else 4
def isT (T : List Tok) (s : List UInt8) (σ : Sg) : Bool := (hd (rest T σ)).kind == kindOf s && (hd (rest T σ)).text == s
def isIn (T : List Tok) (l : List (List UInt8)) (σ : Sg) : Bool := l.any fun s => isT T s σ
def isKd (T : List Tok) (k : Int) (σ : Sg) : Bool := (hd (rest T σ)).kind == k

structure RS (w : World) (C : Rx) (m : Nat) (σ : Sg) : Prop where
  par : w.heap[C.p]? = some (.cells #[.slice C.A C.T.length C.cap, .int .i64 σ.k, .int .i64 m, .int .i64 σ.er, .int .i64 σ.wh] 74 (0, 0))
  toks : TkB w C.p C.A C.T
  kle : σ.k ≤ C.T.length
  big : C.T.length ≤ 1000000
  nest : m ≤ 2000

/-- All but the parser is as it was. -/
structure KR (p : Nat) (w w' : World) : Prop where
  os : w'.os = w.os
  tape : w'.tape = w.tape
  output : w'.output = w.output
  size : w.heap.size ≤ w'.heap.size
  block : ∀ k, k < w.heap.size → k ≠ p → w'.heap[k]? = w.heap[k]?
theorem KR.of {p : Nat} {w w' : World} (h : Below w.heap.size w w') : KR p w w' := ⟨h.os, h.tape, h.output, h.size, fun k hk _ => h.block k hk⟩
theorem KR.refl (p : Nat) (w : World) : KR p w w := .of (Below.refl _ _)
theorem KR.trans {p : Nat} {w w' w'' : World} (h : KR p w w') (g : KR p w' w'') : KR p w w'' :=
  ⟨g.os.trans h.os, g.tape.trans h.tape, g.output.trans h.output, Nat.le_trans h.size g.size, fun k hk hp => (g.block k (Nat.lt_of_lt_of_le hk h.size) hp).trans (h.block k hk hp)⟩
theorem KR.alloc (p : Nat) (w : World) (o : Obj) : KR p w (w.alloc o) := .of ((Below.refl _ _).alloc (Nat.le_refl _) o)
theorem KR.set (p : Nat) (w : World) (i : Nat) (u : Value) : KR p w (w.setCell ⟨p, i, none⟩ u) :=
  have hb := (Below.refl p w).setCell (p := ⟨p, i, none⟩) (Nat.le_refl _) u
  ⟨hb.os, hb.tape, hb.output, hb.size, fun _ _ hp => set_other _ _ _ _ _ hp⟩
theorem RS.lt {w : World} {C : Rx} {m : Nat} {σ : Sg} (h : RS w C m σ) : C.p < w.heap.size := lt_of_block h.par
theorem KR.below {C : Rx} {w w' : World} (h : KR C.p w w') (hp : C.p < w.heap.size) : Below C.p w w' := ⟨h.os, h.tape, h.output, h.size, fun b hb => h.block b (by omega) (by omega)⟩
theorem RS.after {w w' : World} {C : Rx} {m : Nat} {σ : Sg} (h : RS w C m σ) (hb : Below w.heap.size w w') : RS w' C m σ :=
  have hp := h.lt
  ⟨(hb.block _ hp).trans h.par, h.toks.below hb (by omega), h.kle, h.big, h.nest⟩
theorem RS.al {w : World} {C : Rx} {m : Nat} {σ : Sg} (h : RS w C m σ) (o : Obj) : RS (w.alloc o) C m σ := h.after ((Below.refl _ _).alloc (Nat.le_refl _) o)
theorem RS.cells {w : World} {C : Rx} {m : Nat} {σ : Sg} (h : RS w C m σ) :
    w.cell? ⟨C.p, 0, none⟩ = some (.slice C.A C.T.length C.cap) ∧ w.cell? ⟨C.p, 1, none⟩ = some (.int .i64 σ.k) ∧ w.cell? ⟨C.p, 2, none⟩ = some (.int .i64 m) ∧ w.cell? ⟨C.p, 3, none⟩ = some (.int .i64 σ.er) ∧ w.cell? ⟨C.p, 4, none⟩ = some (.int .i64 σ.wh) := by
  have := h.par
  refine ⟨?_, ?_, ?_, ?_, ?_⟩ <;> simp [World.cell?, this]
theorem RS.free {w : World} {C : Rx} {m : Nat} {σ : Sg} (h : RS w C m σ) (i : Nat) : w.frozen? ⟨C.p, i, none⟩ = false := by
  have := h.par
  simp [World.frozen?, this]
/-- A store into the parser's own block. -/
theorem RS.setP {w : World} {C : Rx} {m : Nat} {σ : Sg} (h : RS w C m σ) (i : Nat) (u : Value) (m' : Nat) (σ' : Sg) (hi : (#[.slice C.A C.T.length C.cap, .int .i64 σ.k, .int .i64 m, .int .i64 σ.er, .int .i64 σ.wh] : Array Value).setIfInBounds i u = #[.slice C.A C.T.length C.cap, .int .i64 σ'.k, .int .i64 m', .int .i64 σ'.er, .int .i64 σ'.wh]) (hk : σ'.k ≤ C.T.length) (hm : m' ≤ 2000) : RS (w.setCell ⟨C.p, i, none⟩ u) C m' σ' :=
  ⟨by rw [rowset h.par, hi], h.toks.below ((Below.refl C.p w).setCell (p := ⟨C.p, i, none⟩) (Nat.le_refl _) u) (Nat.le_refl _), hk, h.big, hm⟩

theorem rest_lt {T : List Tok} {σ : Sg} {k : Int} (hk : k ≠ 0) (h : (hd (rest T σ)).kind = k) : σ.er = 0 ∧ σ.k < T.length := by
  unfold rest at h
  by_cases he : σ.er = 0
  · rw [if_pos he] at h
    exact ⟨he, sees_lt hk (by simpa using h)⟩
  · rw [if_neg he] at h
    exact absurd h.symm hk

set_option maxRecDepth 100000 in
set_option maxHeartbeats 1000000 in
theorem ahead_ok (C : Rx) (w : World) (m : Nat) (σ : Sg) (h : RS w C m σ) :
    Calls Tryz.prog 82 #[C.ptr] w fun e w' => e = .returned (tokV (hd (rest C.T σ))) ∧ Below w.heap.size w w' := by
  obtain ⟨c0, c1, c2, c3, c4⟩ := h.cells
  have hp := h.lt
  have hk := h.kle
  have hbig := h.big
  have HS := Lib.hid h
  clear h c2 c4
  unfold Rx.ptr rest
  by_cases her : σ.er = 0
  · rw [if_pos her]
    rw [her] at c3
    clear her
    by_cases hlt : σ.k < C.T.length
    · obtain ⟨g, off, hA, hg, t0, t1, t2, t3, t4⟩ := HS.out.toks σ.k _ (hd_at C.T σ.k hlt)
      rw [hA] at c0
      generalize hd (C.T.drop σ.k) = t at *
      have HA := Lib.hid hA
      clear hA
      have hgw : g < w.heap.size := by omega
      go_enter Tryz.func82, Tryz.ntmps82
      go_wp2
      go_quiet (fail)
      go_wp2
      go_region
      go_wp2
      exact bodyPost_ret (v := tokV t) (by simp [results, Tryz.results82, go_sem, tokV]) rfl ⟨rfl, bset5 (bdrew ((Below.refl _ _).alloc (Nat.le_refl _) _) _) _ (Nat.le_refl _) _ _ _ _ _⟩
    · have he := hd_end C.T σ.k (by omega)
      rw [he]
      have hkk : σ.k = C.T.length := by omega
      rw [hkk] at c1
      clear he
      go_enter Tryz.func82, Tryz.ntmps82
      go_wp2
      go_quiet (fail)
      go_wp2
      exact bodyPost_ret (v := tokV ⟨0, [], 0, 0, 0⟩) (by simp [results, Tryz.results82, go_sem, tokV]) rfl ⟨rfl, bset5 (bdrew ((Below.refl _ _).alloc (Nat.le_refl _) _) _) _ (Nat.le_refl _) _ _ _ _ _⟩
  · rw [if_neg her]
    have hb : (σ.er != 0) = true := by simpa using her
    clear her
    go_enter Tryz.func82, Tryz.ntmps82
    go_wp2
    go_quiet (fail)
    go_wp2
    exact bodyPost_ret (v := tokV ⟨0, [], 0, 0, 0⟩) (by simp [results, Tryz.results82, go_sem, tokV]) rfl ⟨rfl, bset5 (bdrew ((Below.refl _ _).alloc (Nat.le_refl _) _) _) _ (Nat.le_refl _) _ _ _ _ _⟩

set_option maxRecDepth 100000 in
set_option maxHeartbeats 1000000 in
theorem wrong_ok (C : Rx) (w : World) (m : Nat) (σ : Sg) (e : Int) (h : RS w C m σ) :
    Calls Tryz.prog 95 #[C.ptr, .int .i64 e] w fun r w' => r = .returned (.tuple #[]) ∧ RS w' C m (wrong e σ) ∧ KR C.p w w' := by
  obtain ⟨c0, c1, c2, c3, c4⟩ := h.cells
  have f3 := h.free 3
  have f4 := h.free 4
  have hp := h.lt
  have HS := Lib.hid h
  unfold Rx.ptr wrong
  by_cases her : σ.er = 0
  · rw [if_pos her]
    rw [her] at c3
    have h1 : RS (w.setCell ⟨C.p, 3, none⟩ (.int .i64 e)) C m ⟨σ.k, e, σ.wh⟩ := h.setP 3 _ m _ (by simp) h.kle h.nest
    have h2 : RS ((w.setCell ⟨C.p, 3, none⟩ (.int .i64 e)).setCell ⟨C.p, 4, none⟩ (.int .i64 (σ.k : Int))) C m ⟨σ.k, e, σ.k⟩ := h1.setP 4 _ m _ (by simp) h.kle h.nest
    have H2 := Lib.hid h2
    clear h h1 h2 her c0 c2
    go_enter Tryz.func95, Tryz.ntmps95
    go_wp2_with fail
    go_end0
    exact ⟨rfl, H2.out, (KR.set _ _ _ _).trans (KR.set _ _ _ _)⟩
  · rw [if_neg her]
    have hb : (σ.er == 0) = false := by simpa using her
    clear h her c0 c1 c2 c4
    go_enter Tryz.func95, Tryz.ntmps95
    go_wp2_with fail
    go_end0
    exact ⟨rfl, HS.out, .refl _ _⟩
end Go.Proofs.YtpeoefbibjbinaaGreat

namespace Go.Proofs.YtpeoefbibjbinaaGreat
open Go.RowKit

theorem kind_w {s : List UInt8} (h1 : 97 ≤ chr s 0) (h2 : chr s 0 ≤ 122) : kindOf s = 2 := by unfold kindOf; rw [if_pos (by simp [h1, h2])]
theorem kind_m {s : List UInt8} (h : chr s 0 < 97 ∨ 122 < chr s 0) : kindOf s = 4 := by unfold kindOf; rw [if_neg (by simp; omega)]

set_option maxRecDepth 100000 in
set_option maxHeartbeats 1000000 in
theorem is3_ok (C : Rx) (w : World) (m : Nat) (σ : Sg) (x : UInt8) (s : List UInt8) (h : RS w C m σ) :
    Calls Tryz.prog 62 #[C.ptr, .string ⟨(x :: s).toArray⟩] w fun e w' => e = .returned (.bool (isT C.T (x :: s) σ)) ∧ Below w.heap.size w w' := by
  have HN := Lib.hid (ahead_ok C w m σ h)
  clear h
  unfold isT
  generalize hd (rest C.T σ) = t at *
  have hchr : chr (x :: s) 0 = (((⟨(x :: s).toArray⟩ : ByteArray)[0]'(by simp [ByteArray.size])).toNat : Int) := rfl
  have HCHR := Lib.hid hchr
  clear hchr
  unfold Rx.ptr at *
  have key : ∀ (b : Bool) (k : Int), kindOf (x :: s) = k → (t.kind == k) = b → (t.kind == kindOf (x :: s) && t.text == x :: s) = (b && t.text == x :: s) := fun b k e1 e2 => by rw [e1, e2]
  have HK := Lib.hid key
  clear key
  by_cases hk : t.kind = 2
  · have hk1 : (t.kind == 2) = true := by simp [hk]
    have hk2 : (t.kind == 4) = false := by simp [hk]
    clear hk
    go_enter Tryz.func62, Tryz.ntmps62
    go_wp2_with fail
    refine HN.out.mono ?_
    rintro e w1 ⟨rfl, hb⟩
    have HB := Lib.hid hb
    clear hb HN
    unfold tokV
    go_wp2_with fail
    all_goals
      go_ret
      have h0 := HCHR.out
      refine ⟨ret_bool ?_, HB.out.trans (((Below.refl _ _).alloc (Nat.le_refl _) _).mono HB.out.size)⟩
      first
        | (rw [HK.out true 2 (kind_w (by omega) (by omega)) hk1]; rfl)
        | (rw [HK.out false 4 (kind_m (by omega)) hk2]; rfl)
  · by_cases hk' : t.kind = 4
    · have hk1 : (t.kind == 2) = false := by simp [hk']
      have hk2 : (t.kind == 4) = true := by simp [hk']
      clear hk hk'
      go_enter Tryz.func62, Tryz.ntmps62
      go_wp2_with fail
      refine HN.out.mono ?_
      rintro e w1 ⟨rfl, hb⟩
      have HB := Lib.hid hb
      clear hb HN
      unfold tokV
      go_wp2_with fail
      all_goals
        go_ret
        have h0 := HCHR.out
        refine ⟨ret_bool ?_, HB.out.trans (((Below.refl _ _).alloc (Nat.le_refl _) _).mono HB.out.size)⟩
        first
          | (rw [HK.out false 2 (kind_w (by omega) (by omega)) hk1]; rfl)
          | (rw [HK.out true 4 (kind_m (by omega)) hk2]; rfl)
    · have hk1 : (t.kind == 2) = false := by simp [hk]
      have hk2 : (t.kind == 4) = false := by simp [hk']
      clear hk hk'
      go_enter Tryz.func62, Tryz.ntmps62
      go_wp2_with fail
      refine HN.out.mono ?_
      rintro e w1 ⟨rfl, hb⟩
      have HB := Lib.hid hb
      clear hb HN
      unfold tokV
      go_wp2_with fail
      all_goals
        go_ret
        have h0 := HCHR.out
        refine ⟨ret_bool ?_, HB.out.trans (((Below.refl _ _).alloc (Nat.le_refl _) _).mono HB.out.size)⟩
        first
          | (rw [HK.out false 2 (kind_w (by omega) (by omega)) hk1]; rfl)
          | (rw [HK.out false 4 (kind_m (by omega)) hk2]; rfl)

theorem KR.allocs {p : Nat} {w w' : World} (h : KR p w w') (o : Obj) : KR p w (w'.alloc o) := h.trans (.alloc _ _ o)
theorem KR.new {p : Nat} {w w2 : World} (hp : p < w.heap.size) {o : Obj} (hk : KR p (w.alloc o) w2) : w2.heap[w.heap.size]? = some o :=
  (hk.block _ (by simp) (by omega)).trans (heap_alloc_new w o)
theorem KR.set5 {p : Nat} {w w2 : World} (h : KR p (w.alloc tok0) w2) (t : Tok) : KR p w (st5 w2 w.heap.size t) := by
  have hk := (KR.alloc p w tok0).trans h
  have hb := st5_below w2 w.heap.size t
  exact ⟨hb.os.trans hk.os, hb.tape.trans hk.tape, hb.output.trans hk.output, Nat.le_trans hk.size hb.size, fun b h1 h2 => (st5_other _ _ _ _ (by omega)).trans (hk.block b h1 h2)⟩
theorem RS.set5 {C : Rx} {w2 : World} {m : Nat} {σ : Sg} (h : RS w2 C m σ) (g : Nat) (hg : C.p < g) (t : Tok) : RS (st5 w2 g t) C m σ :=
  have hb := st5_below w2 g t
  ⟨(st5_other _ _ _ _ (by omega)).trans h.par, h.toks.below hb (by omega), h.kle, h.big, h.nest⟩
/-- A token is taken, or not. -/
def Took3 (C : Rx) (w : World) (m : Nat) (x : Tok × Sg) (e : Ending) (w' : World) : Prop := e = .returned (tokV x.1) ∧ RS w' C m x.2 ∧ KR C.p w w'

set_option maxRecDepth 100000 in
set_option maxHeartbeats 1000000 in
theorem take3_ok (C : Rx) (w : World) (m : Nat) (σ : Sg) (b : Bool) (h : RS w C m σ) (hb : b = true → σ.er = 0 ∧ σ.k < C.T.length) :
    Calls Tryz.prog 78 #[C.ptr, .bool b] w (Took3 C w m (takeS C.T b σ)) := by
  have hp := h.lt
  have hal := h.al tok0
  unfold Took3 Rx.ptr takeS
  cases b with
  | true =>
    obtain ⟨he, hlt⟩ := hb rfl
    rw [if_pos rfl]
    have HN := Lib.hid (ahead_ok C _ m σ hal)
    have HAL := Lib.hid hal
    have HE := Lib.hid he
    have HLT := Lib.hid hlt
    clear h hal hb he hlt
    unfold Rx.ptr at HN
    generalize hd (rest C.T σ) = t at *
    go_enter Tryz.func78, Tryz.ntmps78
    go_wp2_with fail
    refine HN.out.mono ?_
    rintro e w1 ⟨rfl, hb⟩
    have hal1 := HAL.out.after hb
    have HK := Lib.hid ((KR.of (p := C.p) hb))
    have hnew := HK.out.new hp
    obtain ⟨r0, r1, r2, r3, r4, r5⟩ := tok5 hnew
    have hz : w.heap.size < w1.heap.size := by have := hb.size; simp at this; omega
    have hne : ¬ C.p = w.heap.size := by omega
    have hfin : RS (w1.setCell ⟨C.p, 1, none⟩ (.int .i64 ((σ.k : Int) + 1))) C m ⟨σ.k + 1, σ.er, σ.wh⟩ :=
      hal1.setP 1 _ m _ (by simp) (by have := HLT.out; show σ.k + 1 ≤ _; omega) hal1.nest
    obtain ⟨c0, c1, c2, c3, c4⟩ := hal1.cells
    have f1 := hal1.free 1
    have hp1 := hal1.lt
    have hbig := hal1.big
    have hlt' := HLT.out
    have HF := Lib.hid hfin
    have hk2 : KR C.p (w.alloc tok0) (w1.setCell ⟨C.p, 1, none⟩ (.int .i64 ((σ.k : Int) + 1))) := HK.out.trans (.set _ _ _ _)
    have HK2 := Lib.hid hk2
    clear hb HN hal1 hnew c0 c2 c3 c4 hfin hk2 HAL
    unfold tokV
    go_wp2_with fail
    have hend := HF.out.set5 w.heap.size hp t
    have hke := HK2.out.set5 t
    have h5 := fin5 (HK2.out.new hp) t
    change bodyPost _ _ _ _ _ ((st5 (w1.setCell ⟨C.p, 1, none⟩ (.int .i64 ((σ.k : Int) + 1))) w.heap.size t).alloc _)
    generalize st5 (w1.setCell ⟨C.p, 1, none⟩ (.int .i64 ((σ.k : Int) + 1))) w.heap.size t = w2 at hend hke h5 ⊢
    obtain ⟨q0, q1, q2, q3, q4, q5⟩ := tok5 h5
    have hz2 : w.heap.size < w2.heap.size := lt_of_block h5
    exact bodyPost_ret (v := tokV t) (by simp [results, Tryz.results78, go_sem, tokV, q0, q1, q2, q3, q4, hz2]) rfl ⟨rfl, hend.al _, hke.allocs _⟩
  | false =>
    rw [if_neg (by decide)]
    have HN := Lib.hid (wrong_ok C _ m σ 4 hal)
    clear h hal hb
    unfold Rx.ptr at HN
    go_enter Tryz.func78, Tryz.ntmps78
    go_wp2_with fail
    refine HN.out.mono ?_
    rintro e w1 ⟨rfl, hs, hk⟩
    have hnew := hk.new hp
    obtain ⟨r0, r1, r2, r3, r4, r5⟩ := tok5 hnew
    have hz : w.heap.size < w1.heap.size := by have := hk.size; simp at this; omega
    have HS := Lib.hid hs
    have HK := Lib.hid hk
    have HNEW := Lib.hid hnew
    clear hs hk HN hnew
    go_wp2_with fail
    have hend := HS.out.set5 w.heap.size hp tok0'
    have hke := HK.out.set5 tok0'
    have h5 := fin5 HNEW.out tok0'
    change bodyPost _ _ _ _ _ (st5 w1 w.heap.size tok0')
    generalize st5 w1 w.heap.size tok0' = w2 at hend hke h5 ⊢
    obtain ⟨q0, q1, q2, q3, q4, q5⟩ := tok5 h5
    exact bodyPost_ret (v := tokV tok0') (by simp [results, Tryz.results78, go_sem, tokV, q0, q1, q2, q3, q4]) rfl ⟨rfl, hend, hke⟩

theorem isT_lt {T : List Tok} {s : List UInt8} {σ : Sg} (h : isT T s σ = true) : σ.er = 0 ∧ σ.k < T.length := by
  unfold isT at h
  simp only [Bool.and_eq_true, beq_iff_eq] at h
  refine rest_lt (k := kindOf s) ?_ h.1
  unfold kindOf
  split <;> decide
theorem isKd_lt {T : List Tok} {k : Int} {σ : Sg} (hk : k ≠ 0) (h : isKd T k σ = true) : σ.er = 0 ∧ σ.k < T.length := by
  unfold isKd at h
  exact rest_lt hk (by simpa using h)
theorem isIn_lt {T : List Tok} {l : List (List UInt8)} {σ : Sg} (h : isIn T l σ = true) : σ.er = 0 ∧ σ.k < T.length := by
  unfold isIn at h
  rw [List.any_eq_true] at h
  obtain ⟨s, _, hs⟩ := h
  exact isT_lt hs

set_option maxRecDepth 100000 in
set_option maxHeartbeats 1000000 in
theorem sign3_ok (C : Rx) (w : World) (m : Nat) (σ : Sg) (c : UInt8) (s : List UInt8) (h : RS w C m σ) :
    Calls Tryz.prog 60 #[C.ptr, .string ⟨(c :: s).toArray⟩] w (Took3 C w m (takeS C.T (isT C.T (c :: s) σ) σ)) := by
  have hp := h.lt
  have hal := h.al tok0
  have HI := Lib.hid (is3_ok C _ m σ c s hal)
  have HT := Lib.hid fun (w1 : World) (hb : Below (w.alloc tok0).heap.size (w.alloc tok0) w1) => take3_ok C w1 m σ (isT C.T (c :: s) σ) (hal.after hb) isT_lt
  clear h hal
  unfold Took3 Rx.ptr at *
  generalize takeS C.T (isT C.T (c :: s) σ) σ = x at *
  obtain ⟨t, σ'⟩ := x
  generalize isT C.T (c :: s) σ = b at *
  go_enter Tryz.func60, Tryz.ntmps60
  go_wp2_with fail
  refine HI.out.mono ?_
  rintro e w1 ⟨rfl, hb⟩
  have HB := Lib.hid hb
  clear HI hb
  go_wp2_with fail
  refine (HT.out w1 HB.out).mono ?_
  rintro e w2 ⟨rfl, hs, hk⟩
  have HS := Lib.hid hs
  have HK := Lib.hid ((KR.of (p := C.p) HB.out).trans hk)
  obtain ⟨r0, r1, r2, r3, r4, r5⟩ := tok5 (HK.out.new hp)
  have hz : w.heap.size < w2.heap.size := by have := HK.out.size; simp at this; omega
  clear hs hk HB
  dsimp only at HS ⊢
  unfold tokV
  go_wp2_with fail
  have hend := HS.out.set5 w.heap.size hp t
  have hke := HK.out.set5 t
  have h5 := fin5 (HK.out.new hp) t
  change bodyPost _ _ _ _ _ (st5 w2 w.heap.size t)
  generalize st5 w2 w.heap.size t = w3 at hend hke h5 ⊢
  obtain ⟨q0, q1, q2, q3, q4, q5⟩ := tok5 h5
  exact bodyPost_ret (v := tokV t) (by simp [results, Tryz.results60, go_sem, tokV, q0, q1, q2, q3, q4]) rfl ⟨rfl, hend, hke⟩
set_option maxRecDepth 100000 in
set_option maxHeartbeats 1000000 in
theorem kind3_ok (C : Rx) (w : World) (m : Nat) (σ : Sg) (k : Int) (h : RS w C m σ) (hk : k ≠ 0) :
    Calls Tryz.prog 59 #[C.ptr, .int .i64 k] w (Took3 C w m (takeS C.T (isKd C.T k σ) σ)) := by
  have hp := h.lt
  have hal := h.al tok0
  have HI := Lib.hid (ahead_ok C _ m σ hal)
  have HT := Lib.hid fun (w1 : World) (hb : Below (w.alloc tok0).heap.size (w.alloc tok0) w1) => take3_ok C w1 m σ (isKd C.T k σ) (hal.after hb) (isKd_lt hk)
  have hfd := field0
  clear h hal hk
  unfold Took3 Rx.ptr isKd at *
  generalize takeS C.T ((hd (rest C.T σ)).kind == k) σ = x at *
  obtain ⟨t, σ'⟩ := x
  generalize hd (rest C.T σ) = t0 at *
  go_enter Tryz.func59, Tryz.ntmps59
  go_wp2_with fail
  refine HI.out.mono ?_
  rintro e w1 ⟨rfl, hb⟩
  have HB := Lib.hid hb
  clear HI hb
  unfold tokV
  go_wp2_with fail
  refine (HT.out w1 HB.out).mono ?_
  rintro e w2 ⟨rfl, hs, hk⟩
  have HS := Lib.hid hs
  have HK := Lib.hid ((KR.of (p := C.p) HB.out).trans hk)
  obtain ⟨r0, r1, r2, r3, r4, r5⟩ := tok5 (HK.out.new hp)
  have hz : w.heap.size < w2.heap.size := by have := HK.out.size; simp at this; omega
  clear hs hk HB
  dsimp only at HS ⊢
  unfold tokV
  go_wp2_with fail
  have hend := HS.out.set5 w.heap.size hp t
  have hke := HK.out.set5 t
  have h5 := fin5 (HK.out.new hp) t
  change bodyPost _ _ _ _ _ (st5 w2 w.heap.size t)
  generalize st5 w2 w.heap.size t = w3 at hend hke h5 ⊢
  obtain ⟨q0, q1, q2, q3, q4, q5⟩ := tok5 h5
  exact bodyPost_ret (v := tokV t) (by simp [results, Tryz.results59, go_sem, tokV, q0, q1, q2, q3, q4]) rfl ⟨rfl, hend, hke⟩
set_option maxRecDepth 100000 in
set_option maxHeartbeats 1000000 in
theorem in3_ok (C : Rx) (w : World) (m : Nat) (σ : Sg) (l : List (List UInt8)) (g c : Nat) (h : RS w C m σ) (hs : Strs w g l) (hg : g < w.heap.size) (hl : l.length ≤ 1000) (hne : ∀ s ∈ l, s ≠ []) :
    Calls Tryz.prog 79 #[C.ptr, .slice (some ⟨g, 0, none⟩) l.length c] w fun e w' => e = .returned (.bool (isIn C.T l σ)) ∧ Below w.heap.size w w' := by
  have HS := Lib.hid hs
  have HR := Lib.hid h
  have HNE := Lib.hid hne
  clear hs h hne
  have HC := Lib.hid fun (w1 : World) (x : UInt8) (s : List UInt8) (h1 : RS w1 C m σ) => is3_ok C w1 m σ x s h1
  unfold Rx.ptr at *
  go_enter Tryz.func79, Tryz.ntmps79
  go_wp2_with fail
  go_loopg [5] l.length (fun n v5 wr => ∃ k : Nat, k + n = l.length ∧ v5 = .int .i64 k ∧ isIn C.T (l.take k) σ = false ∧ Below w.heap.size w wr)
  case atStart => exact ⟨0, by omega, rfl, by simp [isIn], .refl _ _⟩
  case round =>
    obtain ⟨k, hk, rfl, hc, hb⟩ := hrel
    have HCC := Lib.hid hc
    have HK := Lib.hid hk
    have HB := Lib.hid hb
    have hsz := hb.size
    clear hc hk hb
    by_cases hlt : k < l.length
    · have hcell := (HS.out.below HB.out hg) k _ (List.getElem?_eq_getElem hlt)
      have htk : l.take (k + 1) = l.take k ++ [l[k]] := List.take_succ_eq_append_getElem hlt
      have hx0 : l[k] ≠ [] := HNE.out _ (List.getElem_mem hlt)
      have hin : isIn C.T (l.take (k + 1)) σ = isT C.T l[k] σ := by
        have := HCC.out
        unfold isIn at this ⊢
        rw [htk, List.any_append, this]
        simp
      have hall : isT C.T l[k] σ = true → isIn C.T l σ = true := fun h => by
        unfold isIn
        rw [List.any_eq_true]
        exact ⟨_, List.getElem_mem hlt, h⟩
      have HIN := Lib.hid hin
      have HALL := Lib.hid hall
      clear hin hall htk HCC
      generalize l[k] = x at hcell hx0 HIN HALL
      cases x with
      | nil => exact absurd rfl hx0
      | cons x s =>
      have HCS := Lib.hid (HC.out wr x s (HR.out.after HB.out))
      clear hx0
      generalize hbo : isT C.T (x :: s) σ = b at HIN HALL HCS
      clear hbo
      have hgw : g < wr.heap.size := by omega
      go_wp2_with fail
      refine HCS.out.mono ?_
      rintro e w1 ⟨rfl, hb⟩
      have HB1 := Lib.hid (HB.out.trans (hb.mono HB.out.size))
      clear hb HB hcell HCS
      cases b with
      | true =>
        have H1 := Lib.hid (HALL.out rfl)
        clear HALL HIN
        go_wp2_with fail
        go_ret
        exact ⟨ret_bool H1.out.symm, HB1.out⟩
      | false =>
        have H1 := Lib.hid HIN.out
        clear HALL HIN
        go_wp2_with fail
        go_roundg (gk - 1)
        case measure => have := HK.out; omega
        case rel => exact ⟨k + 1, by have := HK.out; omega, by go_num, H1.out, HB1.out⟩
    · have h1 : isIn C.T l σ = false := by
        have := HCC.out
        rwa [List.take_of_length_le (by omega)] at this
      have H1 := Lib.hid h1
      clear h1 HCC
      go_wp2_with fail
      go_ret
      exact ⟨ret_bool H1.out.symm, HB.out⟩

set_option maxRecDepth 100000 in
set_option maxHeartbeats 1000000 in
theorem one3_ok (C : Rx) (w : World) (m : Nat) (σ : Sg) (l : List (List UInt8)) (g c : Nat) (h : RS w C m σ) (hs : Strs w g l) (hg : g < w.heap.size) (hl : l.length ≤ 1000) (hne : ∀ s ∈ l, s ≠ []) :
    Calls Tryz.prog 57 #[C.ptr, .slice (some ⟨g, 0, none⟩) l.length c] w (Took3 C w m (takeS C.T (isIn C.T l σ) σ)) := by
  have hp := h.lt
  have hal := h.al tok0
  have HI := Lib.hid (in3_ok C _ m σ l g c hal (hs.below ((Below.refl _ _).alloc (Nat.le_refl _) _) hg) (by simp; omega) hl hne)
  have HT := Lib.hid fun (w1 : World) (hb : Below (w.alloc tok0).heap.size (w.alloc tok0) w1) => take3_ok C w1 m σ (isIn C.T l σ) (hal.after hb) isIn_lt
  clear h hal hs hne hl
  unfold Took3 Rx.ptr at *
  generalize takeS C.T (isIn C.T l σ) σ = x at *
  obtain ⟨t, σ'⟩ := x
  generalize isIn C.T l σ = b at *
  generalize l.length = len at *
  go_enter Tryz.func57, Tryz.ntmps57
  go_wp2_with fail
  refine HI.out.mono ?_
  rintro e w1 ⟨rfl, hb⟩
  have HB := Lib.hid hb
  clear HI hb
  go_wp2_with fail
  refine (HT.out w1 HB.out).mono ?_
  rintro e w2 ⟨rfl, hs, hk⟩
  have HS := Lib.hid hs
  have HK := Lib.hid ((KR.of (p := C.p) HB.out).trans hk)
  obtain ⟨r0, r1, r2, r3, r4, r5⟩ := tok5 (HK.out.new hp)
  have hz : w.heap.size < w2.heap.size := by have := HK.out.size; simp at this; omega
  clear hs hk HB
  dsimp only at HS ⊢
  unfold tokV
  go_wp2_with fail
  have hend := HS.out.set5 w.heap.size hp t
  have hke := HK.out.set5 t
  have h5 := fin5 (HK.out.new hp) t
  change bodyPost _ _ _ _ _ (st5 w2 w.heap.size t)
  generalize st5 w2 w.heap.size t = w3 at hend hke h5 ⊢
  obtain ⟨q0, q1, q2, q3, q4, q5⟩ := tok5 h5
  exact bodyPost_ret (v := tokV t) (by simp [results, Tryz.results57, go_sem, tokV, q0, q1, q2, q3, q4]) rfl ⟨rfl, hend, hke⟩
end Go.Proofs.YtpeoefbibjbinaaGreat

namespace Go.Proofs.YtpeoefbibjbinaaGreat
open Go.RowKit

def openE (T : List Tok) (m : Nat) (s : List UInt8) (σ : Sg) : Sg := if isT T s σ = true ∧ 64 ≤ m then wrong 5 σ else σ
def openS (T : List Tok) (m : Nat) (s : List UInt8) (σ : Sg) : Tok × Sg := takeS T (isT T s (openE T m s σ)) (openE T m s σ)

set_option maxRecDepth 100000 in
set_option maxHeartbeats 1000000 in
theorem open3_ok (C : Rx) (w : World) (m : Nat) (σ : Sg) (c : UInt8) (s : List UInt8) (h : RS w C m σ) (hm : m + 1 ≤ 2000) :
    Calls Tryz.prog 80 #[C.ptr, .string ⟨(c :: s).toArray⟩] w (Took3 C w (m + 1) (openS C.T m (c :: s) σ)) := by
  have hp := h.lt
  have hal := h.al tok0
  have HI := Lib.hid (is3_ok C _ m σ c s hal)
  have HW := Lib.hid fun (w1 : World) (h1 : RS w1 C m σ) => wrong_ok C w1 m σ 5 h1
  have HT := Lib.hid fun (w1 : World) (σ1 : Sg) (h1 : RS w1 C (m + 1) σ1) => sign3_ok C w1 (m + 1) σ1 c s h1
  have HAL := Lib.hid hal
  clear h hal
  unfold Took3 openS Rx.ptr at *
  by_cases hb : isT C.T (c :: s) σ = true ∧ 64 ≤ m
  · have he : openE C.T m (c :: s) σ = wrong 5 σ := if_pos hb
    rw [he]
    clear he
    have HT5 := Lib.hid fun (w1 : World) => HT.out w1 (wrong 5 σ)
    clear HT
    generalize takeS C.T (isT C.T (c :: s) (wrong 5 σ)) (wrong 5 σ) = x at HT5 ⊢
    obtain ⟨t, σ'⟩ := x
    obtain ⟨hb1, hb2'⟩ := hb
    have hb2 : 64 ≤ (m : Int) := by omega
    rw [hb1] at HI
    clear hb1 hb2'
    go_enter Tryz.func80, Tryz.ntmps80
    go_wp2_with fail
    refine HI.out.mono ?_
    rintro e w1 ⟨rfl, hb⟩
    have hr1 := HAL.out.after hb
    obtain ⟨c0, c1, c2, c3, c4⟩ := hr1.cells
    have hp1 := hr1.lt
    have HR1 := Lib.hid hr1
    have HB := Lib.hid hb
    clear HI hb c0 c1 c3 c4 hr1 HAL
    go_wp2_with fail
    refine (HW.out w1 HR1.out).mono ?_
    rintro e w2 ⟨rfl, hs2, hk2⟩
    have hr2 := hs2.setP 2 (.int .i64 ((m : Int) + 1)) (m + 1) (wrong 5 σ) (by simp) hs2.kle hm
    have HK2 := Lib.hid ((KR.of (p := C.p) HB.out).trans (hk2.trans (.set _ _ 2 (.int .i64 ((m : Int) + 1)))))
    have HR2 := Lib.hid hr2
    obtain ⟨c0, c1, d2, c3, c4⟩ := hs2.cells
    have f2 := hs2.free 2
    have hp2 := hs2.lt
    clear hs2 hk2 hr2 c0 c1 c3 c4 HB HR1 c2 hp1 HW
    go_wp2_with fail
    refine (HT5.out _ HR2.out).mono ?_
    rintro e w3 ⟨rfl, hs, hk⟩
    dsimp only at hs ⊢
    have HS := Lib.hid hs
    have HK := Lib.hid (HK2.out.trans hk)
    obtain ⟨r0, r1, r2, r3, r4, r5⟩ := tok5 (HK.out.new hp)
    have hz : w.heap.size < w3.heap.size := by have := HK.out.size; simp at this; omega
    clear hs hk HK2 HR2 HT5
    unfold tokV
    go_wp2_with fail
    have hend := HS.out.set5 w.heap.size hp t
    have hke := HK.out.set5 t
    have h5 := fin5 (HK.out.new hp) t
    change bodyPost _ _ _ _ _ (st5 w3 w.heap.size t)
    generalize st5 w3 w.heap.size t = w4 at hend hke h5 ⊢
    obtain ⟨q0, q1, q2, q3, q4, q5⟩ := tok5 h5
    exact bodyPost_ret (v := tokV t) (by simp [results, Tryz.results80, go_sem, tokV, q0, q1, q2, q3, q4]) rfl ⟨rfl, hend, hke⟩
  · have he : openE C.T m (c :: s) σ = σ := if_neg hb
    rw [he]
    clear he
    have hb' : isT C.T (c :: s) σ = false ∨ (m : Int) < 64 := by
      cases hx : isT C.T (c :: s) σ
      · exact .inl rfl
      · exact .inr (by rw [hx] at hb; simp at hb; omega)
    clear hb HW
    have HT5 := Lib.hid fun (w1 : World) => HT.out w1 σ
    clear HT
    generalize takeS C.T (isT C.T (c :: s) σ) σ = x at HT5 ⊢
    obtain ⟨t, σ'⟩ := x
    go_enter Tryz.func80, Tryz.ntmps80
    go_wp2_with fail
    refine HI.out.mono ?_
    generalize isT C.T (c :: s) σ = b at *
    rintro e w1 ⟨rfl, hb⟩
    have hr1 := HAL.out.after hb
    obtain ⟨c0, c1, c2, c3, c4⟩ := hr1.cells
    have f2 := hr1.free 2
    have hp1 := hr1.lt
    have hr2 := hr1.setP 2 (.int .i64 ((m : Int) + 1)) (m + 1) σ (by simp) hr1.kle hm
    have HK2 := Lib.hid ((KR.of (p := C.p) hb).trans (.set _ _ 2 (.int .i64 ((m : Int) + 1))))
    have HR2 := Lib.hid hr2
    clear HI hb c0 c1 c3 c4 hr1 HAL hr2
    cases b with
    | false =>
      clear hb'
      go_wp2_with fail
      refine (HT5.out _ HR2.out).mono ?_
      rintro e w3 ⟨rfl, hs, hk⟩
      dsimp only at hs ⊢
      have HS := Lib.hid hs
      have HK := Lib.hid (HK2.out.trans hk)
      obtain ⟨r0, r1, r2, r3, r4, r5⟩ := tok5 (HK.out.new hp)
      have hz : w.heap.size < w3.heap.size := by have := HK.out.size; simp at this; omega
      clear hs hk HK2 HR2 HT5
      unfold tokV
      go_wp2_with fail
      have hend := HS.out.set5 w.heap.size hp t
      have hke := HK.out.set5 t
      have h5 := fin5 (HK.out.new hp) t
      change bodyPost _ _ _ _ _ (st5 w3 w.heap.size t)
      generalize st5 w3 w.heap.size t = w4 at hend hke h5 ⊢
      obtain ⟨q0, q1, q2, q3, q4, q5⟩ := tok5 h5
      exact bodyPost_ret (v := tokV t) (by simp [results, Tryz.results80, go_sem, tokV, q0, q1, q2, q3, q4]) rfl ⟨rfl, hend, hke⟩
    | true =>
      have hlt : (m : Int) < 64 := hb'.elim (fun h => absurd h (by decide)) id
      clear hb'
      go_wp2_with fail
      refine (HT5.out _ HR2.out).mono ?_
      rintro e w3 ⟨rfl, hs, hk⟩
      dsimp only at hs ⊢
      have HS := Lib.hid hs
      have HK := Lib.hid (HK2.out.trans hk)
      obtain ⟨r0, r1, r2, r3, r4, r5⟩ := tok5 (HK.out.new hp)
      have hz : w.heap.size < w3.heap.size := by have := HK.out.size; simp at this; omega
      clear hs hk HK2 HR2 HT5
      unfold tokV
      go_wp2_with fail
      have hend := HS.out.set5 w.heap.size hp t
      have hke := HK.out.set5 t
      have h5 := fin5 (HK.out.new hp) t
      change bodyPost _ _ _ _ _ (st5 w3 w.heap.size t)
      generalize st5 w3 w.heap.size t = w4 at hend hke h5 ⊢
      obtain ⟨q0, q1, q2, q3, q4, q5⟩ := tok5 h5
      exact bodyPost_ret (v := tokV t) (by simp [results, Tryz.results80, go_sem, tokV, q0, q1, q2, q3, q4]) rfl ⟨rfl, hend, hke⟩
end Go.Proofs.YtpeoefbibjbinaaGreat
