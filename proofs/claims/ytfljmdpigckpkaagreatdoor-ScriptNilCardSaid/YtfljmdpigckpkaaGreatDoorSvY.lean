/- The program's Step of an instruction that is a thread's own: what it writes, and its trap. -/
import Derived.Test.YtfljmdpigckpkaaGreatDoorSvX
namespace Go.Proofs.YtfljmdpigckpkaaGreatDoor
open Go.RowKit Go.Shelf
section
variable {bt g bf gr bc bh : Nat} {k : Nat} {R : List Int} {W : World} {Q : Prg}
theorem Th.lt {fn at' tr : Int} (h : Th bt g bf gr bc fn at' R tr W) : bt < W.heap.size ∧ g < W.heap.size ∧ bf < W.heap.size := ⟨(Array.getElem?_eq_some_iff.1 h.t).1, (Array.getElem?_eq_some_iff.1 h.s).1, (Array.getElem?_eq_some_iff.1 h.f).1⟩
theorem Th.keep {fn at' tr : Int} {R : List Int} {w w' : World} {n : Nat} (h : Th bt g bf gr bc fn at' R tr w) (k : Kept (ne' n) w w') (h1 : bt ≠ n) (h2 : g ≠ n) (h3 : bf ≠ n) (h4 : gr ≠ n) : Th bt g bf gr bc fn at' R tr w' :=
  ⟨k.same _ _ h.t (by simp [ne', h1]), k.same _ _ h.s (by simp [ne', h2]), k.same _ _ h.f (by simp [ne', h3]), k.row h.r fun b hb => by
    obtain rfl : gr = b := by simpa [Value.ownBlock] using hb
    simp [ne', h4]⟩
theorem keep_new {p : Nat → Option TypeId → Bool} {w w' : World} (h : Kept p W w) (k : Kept (ne' W.heap.size) w w') : Kept p W w' :=
  ⟨k.os.trans h.os, k.tape.trans h.tape, k.output.trans h.output, Nat.le_trans h.size k.size, fun b o hb hp => k.same _ _ (h.same _ _ hb hp) (by
    have := (Array.getElem?_eq_some_iff.1 hb).1
    have : b ≠ W.heap.size := Nat.ne_of_lt this
    simp [ne', this])⟩
/-- The thread's blocks are there, and apart. -/
structure Apart (bt g bf gr : Nat) (W : World) : Prop where
  lr : gr < W.heap.size
  tg : bt ≠ g
  fg : bf ≠ g
  ft : bf ≠ bt
  rt : gr ≠ bt
  rg : gr ≠ g
  rf : gr ≠ bf
theorem Apart.ext {w w' : World} (h : Apart bt g bf gr w) (k : w.heap.size ≤ w'.heap.size) : Apart bt g bf gr w' := ⟨Nat.lt_of_lt_of_le h.lr k, h.2, h.3, h.4, h.5, h.6, h.7⟩
theorem Step_good {i : Nat} {y : Ins} {task it : Int} {f : FuncId} {R' : List Int} (h : Th bt g bf gr bc i k R 0 W) (ha : Apart bt g bf gr W) (hc : Cod bc Q W) (hi : i < Q.fns.length) (hk : k < Q.fns[i].code.length) (hy : Q.fns[i].code[k] = y) (hks : k ≤ 1000) (hop : 1 ≤ y.op ∧ y.op ≤ 33) (hsh : sharedO y.op = false) (hf : fnO y.op deedL = some f)
    (hdo : ∀ bd w, W.heap.size < bd → Ext W w → w.heap[bd]? = some (dgo bt bf bh y task it ((k : Int) + 1) 0) → Th bt g bf gr bc i k R 0 w → Calls Tryz.prog f #[.pointer (some ⟨bd, 0, none⟩)] w fun e w' => e = .returned (.tuple #[]) ∧ Th bt g bf gr bc i k R' 0 w' ∧ Kept (ne' gr) w w')
    (hcl : ∀ b w, (callFunc f #[.pointer (some ⟨b, 0, none⟩)]).run Tryz.prog w = .ok (.enter f #[.pointer (some ⟨b, 0, none⟩)]) w) :
    Calls Tryz.prog 65 #[.pointer (some ⟨bt, 0, none⟩), .pointer (some ⟨bh, 0, none⟩), .int .i64 task, .int .i64 it] W fun e W' => e = .returned (.tuple #[zaskV, .int .i64 0]) ∧ Th bt g bf gr bc i ((k : Int) + 1) R' 0 W' ∧ Kept (nF gr bf) W W' := by
  obtain ⟨l1, l2, l3⟩ := h.lt
  have l4 := ha.lr
  refine Step_any (X := fun W' => Th bt g bf gr bc i ((k : Int) + 1) R' 0 W' ∧ Kept (nF gr bf) W W') (p := nF gr bf) h hc hi hk hy hks hop hsh ?_ ?_ ?_
  · intro bd w hb hx hd
    have hne : bd ≠ gr := by omega
    have hnf : bd ≠ bf := by omega
    refine (do_good hd (h.ext hx) (hc.ext hx) hf (fun w2 hx2 => hdo bd w2 hb (hx.trans hx2) ((hx2.kept (fun _ _ => true)).same _ _ hd rfl) (h.ext (hx.trans hx2))) hne hnf ha.ft.symm ha.fg.symm ha.rf (hcl bd)).mono ?_
    rintro e w' ⟨rfl, h1, h2, h3⟩
    exact ⟨rfl, ⟨h1, (hx.kept _).trans h3⟩, h2, h3⟩
  · intro b t hb
    have h1 : b ≠ gr := by omega
    have h2 : b ≠ bf := by omega
    simp [nF, h1, h2]
  · rintro w w' kk ⟨h1, h2⟩
    exact ⟨h1.keep kk (by omega) (by omega) (by omega) (by omega), keep_new h2 kk⟩
theorem Step_trap {i : Nat} {y : Ins} {task it : Int} {f : FuncId} {t : Int} (h : Th bt g bf gr bc i k R 0 W) (ha : Apart bt g bf gr W) (hc : Cod bc Q W) (hi : i < Q.fns.length) (hk : k < Q.fns[i].code.length) (hy : Q.fns[i].code[k] = y) (hks : k ≤ 1000) (hop : 1 ≤ y.op ∧ y.op ≤ 33) (hsh : sharedO y.op = false) (hf : fnO y.op deedL = some f)
    (hdo : ∀ bd w, W.heap.size < bd → Ext W w → w.heap[bd]? = some (dgo bt bf bh y task it ((k : Int) + 1) 0) → Th bt g bf gr bc i k R 0 w → Calls Tryz.prog f #[.pointer (some ⟨bd, 0, none⟩)] w fun e w' => e = .panicked [{ v := trapV t, recovered := false }] ∧ Ext w w')
    (hcl : ∀ b w, (callFunc f #[.pointer (some ⟨b, 0, none⟩)]).run Tryz.prog w = .ok (.enter f #[.pointer (some ⟨b, 0, none⟩)]) w) :
    Calls Tryz.prog 65 #[.pointer (some ⟨bt, 0, none⟩), .pointer (some ⟨bh, 0, none⟩), .int .i64 task, .int .i64 it] W fun e W' => e = .returned (.tuple #[zaskV, .int .i64 0]) ∧ Th bt g bf gr bc i k R t W' ∧ Kept (ne' bt) W W' := by
  obtain ⟨l1, l2, l3⟩ := h.lt
  have l4 := ha.lr
  refine Step_any (X := fun W' => Th bt g bf gr bc i k R t W' ∧ Kept (ne' bt) W W') (p := ne' bt) h hc hi hk hy hks hop hsh ?_ ?_ ?_
  · intro bd w hb hx hd
    have hne : bd ≠ bt := by omega
    refine (do_trap hd (h.ext hx) (hc.ext hx) hf (fun w2 hx2 => hdo bd w2 hb (hx.trans hx2) ((hx2.kept (fun _ _ => true)).same _ _ hd rfl) (h.ext (hx.trans hx2))) hne ha.tg.symm ha.ft ha.rt (hcl bd)).mono ?_
    rintro e w' ⟨rfl, h1, h2, h3⟩
    exact ⟨rfl, ⟨h1, (hx.kept _).trans h3⟩, h2, h3⟩
  · intro b t hb
    have h1 : b ≠ bt := by omega
    simp [ne', h1]
  · rintro w w' kk ⟨h1, h2⟩
    exact ⟨h1.keep kk (by omega) (by omega) (by omega) (by omega), keep_new h2 kk⟩
theorem Step_const {i a : Nat} {y : Ins} {task it : Int} (h : Th bt g bf gr bc i k R 0 W) (ha : Apart bt g bf gr W) (hc : Cod bc Q W) (hi : i < Q.fns.length) (hk : k < Q.fns[i].code.length) (hy : Q.fns[i].code[k] = y) (hks : k ≤ 1000) (ho : y.op = 1) (h1 : y.a = a) (hl : a < R.length) :
    Calls Tryz.prog 65 #[.pointer (some ⟨bt, 0, none⟩), .pointer (some ⟨bh, 0, none⟩), .int .i64 task, .int .i64 it] W fun e W' => e = .returned (.tuple #[zaskV, .int .i64 0]) ∧ Th bt g bf gr bc i ((k : Int) + 1) (R.set a y.n) 0 W' ∧ Kept (nF gr bf) W W' :=
  Step_good h ha hc hi hk hy hks (by rw [ho]; decide) (by rw [ho]; rfl) (f := 211) (by rw [ho]; rfl) (fun _ _ _ _ hd ht => deed1_ok hd ht ha.rt.symm ha.rg.symm ha.rf.symm h1 hl) (fun _ _ => by kernel_rfl)
theorem Step_add {i a b c : Nat} {y : Ins} {task it : Int} (h : Th bt g bf gr bc i k R 0 W) (ha : Apart bt g bf gr W) (hc : Cod bc Q W) (hi : i < Q.fns.length) (hk : k < Q.fns[i].code.length) (hy : Q.fns[i].code[k] = y) (hks : k ≤ 1000) (ho : y.op = 3) (h1 : y.a = a) (hl : a < R.length) (h2 : y.b = b) (hl2 : b < R.length) (h3 : y.c = c) (hl3 : c < R.length) (hs : -9223372036854775808 ≤ R.getD b 0 + R.getD c 0 ∧ R.getD b 0 + R.getD c 0 ≤ 9223372036854775807) :
    Calls Tryz.prog 65 #[.pointer (some ⟨bt, 0, none⟩), .pointer (some ⟨bh, 0, none⟩), .int .i64 task, .int .i64 it] W fun e W' => e = .returned (.tuple #[zaskV, .int .i64 0]) ∧ Th bt g bf gr bc i ((k : Int) + 1) (R.set a (R.getD b 0 + R.getD c 0)) 0 W' ∧ Kept (nF gr bf) W W' :=
  Step_good h ha hc hi hk hy hks (by rw [ho]; decide) (by rw [ho]; rfl) (f := 215) (by rw [ho]; rfl) (fun _ _ _ _ hd ht => deed3_ok hd ht ha.rt.symm ha.rg.symm ha.rf.symm h1 hl h2 hl2 h3 hl3 hs) (fun _ _ => by kernel_rfl)
theorem Step_get {i b : Nat} {y : Ins} {task it : Int} (h : Th bt g bf gr bc i k R 0 W) (ha : Apart bt g bf gr W) (hh : W.heap[bh]? = some heapo) (hc : Cod bc Q W) (hi : i < Q.fns.length) (hk : k < Q.fns[i].code.length) (hy : Q.fns[i].code[k] = y) (hks : k ≤ 1000) (ho : y.op = 12) (h2 : y.b = b) (hl2 : b < R.length) :
    Calls Tryz.prog 65 #[.pointer (some ⟨bt, 0, none⟩), .pointer (some ⟨bh, 0, none⟩), .int .i64 task, .int .i64 it] W fun e W' => e = .returned (.tuple #[zaskV, .int .i64 0]) ∧ Th bt g bf gr bc i k R 1 W' ∧ Kept (ne' bt) W W' :=
  Step_trap h ha hc hi hk hy hks (by rw [ho]; decide) (by rw [ho]; rfl) (f := 225) (by rw [ho]; rfl) (fun _ _ _ hx hd ht => deed10_no hd ht ((hx.kept (fun _ _ => true)).same _ _ hh rfl) h2 hl2) (fun _ _ => by kernel_rfl)
end
end Go.Proofs.YtfljmdpigckpkaaGreatDoor
