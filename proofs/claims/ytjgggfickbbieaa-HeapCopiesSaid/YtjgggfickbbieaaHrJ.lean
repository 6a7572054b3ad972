/- The document's heap: Closure. -/
import Derived.Test.YtjgggfickbbieaaHrI
namespace Go.Proofs.Ytjgggfickbbieaa
open Go.RowKit Go.Shelf
attribute [local go_sem] Oper.semAt_some
theorem wpList_append_any {P : Program} {w : World} {ops : Array Oper} {rest : List Oper} {o : Oper} {a : Act} {Q : Exit → Act → World → Prop} (hgd : o.guard = none) (s x : Operand) (t : TypeId)
    (ho : o.op = Op.call { callee := Callee.builtin Builtin.append, args := #[s, x], argTypes := #[t, t] }) (base : Nat) (e : TypeId) (i : TypeInfo) (z : Value) (size bytes : Nat) (ht : P.underlying t = some (.slice e)) (hi : P.info? e = some i) (hz : i.zero = some z) (hsize : i.size = size) (hby : i.bytes = bytes)
    (hzs : z.cells.size = size) (hsz : 0 < size) (v : Value) (n : Nat) (xs : List Value) (hs : a.eval s = v) (hown : w.ownsRow base e size v n xs) (xv : Value) (m : Nat) (news : List Value) (hx : a.eval x = xv) (hl : news.length = m * size) (hsrc : Src w xv m news) (h1 : ∀ u ∈ news, u.oneCell' = true)
    (h63 : n + m ≤ maxLen) (hbytes : (n + m) * bytes ≤ 140737488355328) (hbase : base ≤ w.heap.size) (T : Nat) (hT : n + m = T) (ys : List Value) (hY : xs ++ news = ys)
    (h : ∀ A c w', w'.ownsRow base e size (.slice A T c) T ys → w.grownBy w' v.ownBlock → ((Value.slice A T c).ownBlock = v.ownBlock ∨ (Value.slice A T c).ownBlock = some w.heap.size) → wpList P ops Q rest (a.put o.dst (.slice A T c)) w') :
    wpList P ops Q (o :: rest) a w :=
  wpList_plain hgd fun _ hK => wp_append_any s x t ho base e i z size bytes ht hi hz hsize hby hzs hsz v n xs hs hown xv m news hx hl hsrc h1 h63 hbytes hbase T hT ys hY fun A c w' k1 k2 k3 => hK _ _ (h A c w' k1 k2 k3)
theorem grown_ext {W0 W W1 : World} {r : Option Nat} (h : Ext W0 W) (hg : W.grownBy W1 r) (hr : ∀ b, r = some b → W0.heap.size ≤ b) : Ext W0 W1 := Kept.trans h (Kept.grown hg fun j o e _ => by have := hr j e; simp [pOld]; omega)
section
variable {own : Nat → Bool} {bw : Nat} {L : List Ob} {W : World}
set_option maxHeartbeats 2000000 in
set_option maxRecDepth 100000 in
theorem refClosure_bad (o si b : Int) (A : Option Addr) (m c : Nat) (hm : 256 < m) :
    Calls Try.prog 26 #[.pointer (some ⟨bw, 0, none⟩), .int .i64 o, .slice A m c, .int .i64 si, .int .i64 b] W fun e W' => e = .returned (.tuple #[.int .i64 0, .int .i64 2]) ∧ W' = W := by
  have h1 : (m : Int) > 256 := by omega
  go_enter Try.func26, Try.ntmps26
  go_wp2_with fail
  refine bodyPost_ret (v := .tuple #[.int .i64 0, .int .i64 2]) (by simp [results, Try.results26, go_sem]) rfl ?_
  exact ⟨rfl, rfl⟩
set_option maxHeartbeats 2000000 in
set_option maxRecDepth 100000 in
theorem refClosure_any (o si b : Int) (l : List Int) (A : Option Addr) (c : Nat) (hs : Src W (.slice A l.length c) l.length (rowI l)) (hl : l.length ≤ 256) (R : Value) (Q : World → Prop)
    (hadd : ∀ w1 A1 c1, Ext W w1 → w1.ownsRow W.heap.size 2 1 (.slice A1 l.length c1) l.length (rowI l) → Calls Try.prog 44 #[.pointer (some ⟨bw, 0, none⟩), .agg #[.int .i64 4, .int .i64 o, .slice A1 l.length c1, .int .i64 si, .int .i64 b, .int .i64 0]] w1 fun e W' => ∃ z r, e = .returned (.tuple #[.int .i64 z, .int .i64 r]) ∧ R = .tuple #[.int .i64 z, .int .i64 r] ∧ Q W') :
    Calls Try.prog 26 #[.pointer (some ⟨bw, 0, none⟩), .int .i64 o, .slice A l.length c, .int .i64 si, .int .i64 b] W fun e W' => e = .returned R ∧ Q W' := by
  obtain ⟨i0, hi0, hz0, hz1, hz2⟩ := infoParts infoI
  have h1 : ¬ (l.length : Int) > 256 := by omega
  have hone : ∀ u ∈ rowI l, u.oneCell' = true := by
    intro u hu
    obtain ⟨z, _, rfl⟩ := List.mem_map.1 hu
    rfl
  have hlen : (rowI l).length = l.length * 1 := by simp [rowI]
  have HADD := Lib.hid hadd
  clear hadd
  go_enter Try.func26, Try.ntmps26
  go_wp2_with (first
    | (at_builtin; refine wpList_append_any rfl _ _ 33 rfl W.heap.size 2 i0 (.int .i64 0) 1 8 Try.underlying33 hi0 hz0 hz1 hz2 rfl (by decide) (.slice none 0 0) 0 [] rfl (World.ownsRow_nil _ _ _ _) (.slice A l.length c) l.length (rowI l) rfl hlen hs hone (by unfold maxLen; omega) (by omega) (Nat.le_refl _) l.length (by omega) (rowI l) (by simp) ?_; intro A1 c1 w1 hown1 hgrow1 hat1; have hx1 : Ext W w1 := grown_ext (Ext.refl _) hgrow1 (by intro b hb; simp [Value.ownBlock] at hb); have HAD := Lib.hid (HADD.out w1 A1 c1 hx1 hown1); clear hown1 hgrow1 hat1 hx1)
    | (go_at_call 44; refine HAD.out.mono ?_; rintro e w2 ⟨z, r, rfl, hr, hq⟩; have HRQ := Lib.hid hr; have HQ := Lib.hid hq; clear hr hq))
  go_ret2
  exact ⟨by rw [HRQ.out]; rfl, HQ.out⟩
theorem refClosure_ok (h : RH own bw L W) (o si b : Int) (l : List Int) (A : Option Addr) (c : Nat) (hs : Src W (.slice A l.length c) l.length (rowI l)) (hl : l.length ≤ 256) (hL : L.length < 1024) :
    Calls Try.prog 26 #[.pointer (some ⟨bw, 0, none⟩), .int .i64 o, .slice A l.length c, .int .i64 si, .int .i64 b] W fun e W' => e = .returned (.tuple #[.int .i64 ((L.length : Int) + 1), .int .i64 0]) ∧ ∃ v, Made own bw L ⟨4, o, v, l, si, b, 0⟩ W W' :=
  refClosure_any o si b l A c hs hl _ _ fun _ A1 c1 hx1 how => (refAdd_ok (h.ext hx1) hL ⟨4, o, .slice A1 l.length c1, l, si, b, 0⟩ 0 (own_zero how) (fun g hg => h.fresh (own_base how g hg)) hl).mono fun _ _ ⟨h1, h2⟩ => ⟨_, _, h1, rfl, _, made_of _ hx1 (fun g hg => own_base how g hg) h2⟩
theorem refClosure_full (h : RH own bw L W) (o si b : Int) (l : List Int) (A : Option Addr) (c : Nat) (hs : Src W (.slice A l.length c) l.length (rowI l)) (hl : l.length ≤ 256) (hL : L.length = 1024) :
    Calls Try.prog 26 #[.pointer (some ⟨bw, 0, none⟩), .int .i64 o, .slice A l.length c, .int .i64 si, .int .i64 b] W fun e W' => e = .returned (.tuple #[.int .i64 0, .int .i64 11]) ∧ Ext W W' :=
  refClosure_any o si b l A c hs hl _ _ fun _ A1 c1 hx1 _ => (refAdd_full (h.ext hx1) hL ⟨4, o, .slice A1 l.length c1, [], si, b, 0⟩ 0).mono fun _ _ ⟨h1, h2⟩ => ⟨_, _, h1, rfl, hx1.trans h2⟩
end
end Go.Proofs.Ytjgggfickbbieaa
