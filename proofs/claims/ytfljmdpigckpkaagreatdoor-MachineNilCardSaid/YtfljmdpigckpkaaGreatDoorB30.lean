/- Steps of a looper: the first task begins, does OpConst, OpStore, OpRet; What New of a machine calls: its deeds as a map, lives, queues, the program's copy; The loopers of a new machine: what is there of them, and the region that makes one more. Written by genMcS2.py. -/
import Derived.Test.YtfljmdpigckpkaaGreatDoorB29
namespace Go.Proofs.YtfljmdpigckpkaaGreatDoor
open Go.RowKit Go.Shelf
attribute [local go_sem] Oper.semAt_some
set_option maxHeartbeats 2000000
set_option maxRecDepth 100000
section
variable {W3 w w' : World} {L : Lay} {s : Sta} {Q : Prg}
theorem due_nil : QQ.dueV ((QQ.srt []).takeWhile (QQ.dueAt 0)).head? = .tuple #[.agg #[.int .i64 0, .bool false, .int .i64 0], .bool false] := by simp [QQ.srt, QQ.dueV, QQ.itV]
theorem due_one : QQ.dueV ((QQ.srt [⟨1, false, 0, 0⟩]).takeWhile (QQ.dueAt 0)).head? = .tuple #[.agg #[.int .i64 1, .bool false, .int .i64 0], .bool true] := by simp [QQ.srt, QQ.dueV, QQ.itV, QQ.dueAt, QQ.Ent.it]
/-- An instruction of the first function, as it was meant. -/
def At (Q : Prg) (k : Nat) (y : Ins) : Prop := ∃ (hi : 0 < Q.fns.length) (hk : k < Q.fns[0].code.length), Ins.like y Q.fns[0].code[k]
theorem next_m (a : MA W3 L s w) {k : Nat} {R : List Int} (ht : s.thr = some (k, R)) (hc : Cod L.bc Q W3) {y : Ins} (hy : At Q k y) (hl : y.l = []) : ∃ z : Ins, z.op = y.op ∧ ∀ w', Ext w w' → Calls Tryz.prog 117 #[.pointer (some ⟨L.bt, 0, none⟩)] w' fun e w2 => ∃ A c, e = .returned (.tuple #[({ z with lA := A, l := [], lC := c } : Ins).v, .bool true]) ∧ Ext w' w2 := by
  obtain ⟨hi, hk, h⟩ := hy
  exact ⟨_, h.1, fun w' x => Next_th ((a.ext x).th k R ht).1 (hc.ext (a.ext x).x3) hi hk rfl (h.2.2.2.2.2.1.trans hl)⟩
/-- A step of the looper that runs the first task. -/
theorem run_go (a : MA W3 L s w) (hf : s.full = false) (hr : s.runs = 1) (hs : s.state = 2) (hth : s.th = .pointer (some ⟨L.bt, 0, none⟩)) {k : Nat} {R : List Int} (ht : s.thr = some (k, R)) (hc : Cod L.bc Q W3) {y : Ins} (hy : At Q k y) (hl : y.l = []) (ho : (y.op != 29) = true) {s1 : Sta} (hs1 : s1.full = false)
    (hgo : ∀ w', MA W3 L s w' → Calls Tryz.prog 100 #[.pointer (some ⟨L.bm, 0, none⟩), .int .i64 1] w' fun e w2 => e = .returned (.int .i64 0) ∧ MA W3 L s1 w2) :
    Calls Tryz.prog 8 #[.pointer (some ⟨L.bm, 0, none⟩), .int .i64 0] w fun e w' => e = .returned (.int .i64 0) ∧ MA W3 L s1 w' := by
  refine Run_m a hf (t := 1) (by decide) hs1 (fun w' x => (ofLooper_run (a.ext x) hr).mono fun _ _ h => ⟨h.1, h.2 ▸ Ext.refl _⟩) fun w' x => step_1 (X := fun w => MA W3 L s1 w) (fun w2 x2 => ?_) fun w2 x2 => hgo w2 (a.ext (x.trans x2))
  obtain ⟨z, hz, hn⟩ := next_m (a.ext (x.trans x2)) ht hc hy hl
  exact Waits_run (a.ext (x.trans x2)) hs hth (by rw [hz]; exact ho) hn
theorem due_ok {own : Nat → Bool} {bq : Nat} {l : List QQ.Ent} {pu : Int} (q : QQ.QV own bq l pu w) (ht : QQ.Tri l) : Calls Tryz.prog 101 #[.pointer (some ⟨bq, 0, none⟩), .int .i64 0] w fun e w2 => e = .returned (QQ.dueV ((QQ.srt l).takeWhile (QQ.dueAt 0)).head?) ∧ Ext w w2 :=
  (QQ.Due_ok ht q.hp q.len w q.ev).mono fun _ _ h => ⟨h.1, extUp h.2⟩
/-- A looper that runs nothing, and of whose queue nothing is due, is not stepped: the second one. -/
theorem run_skip (a : MA W3 L s w) (hf : s.full = false) : Calls Tryz.prog 8 #[.pointer (some ⟨L.bm, 0, none⟩), .int .i64 1] w fun e w' => e = .returned (.int .i64 10) ∧ MA W3 L s w' := by
  refine Run_m a hf (t := 0) (by decide) hf (fun w' x => ?_) fun w' x => (step_0 L.bm w').mono fun _ _ h => ⟨h.1, a.ext (x.trans h.2)⟩
  have b := a.ext x
  obtain ⟨o0, o1, p0, p1, q1, q2, q3, q4⟩ := b.q
  exact ofLooper_due b (i := 1) (by decide) b.loop1 b.l1 (ti := 0) (fr := false) (du := 0) (is := false) fun w2 x2 => due_nil ▸ due_ok (q2.ext (extDn x2)) (by intro i j k hi; simp at hi)
/-- .. the first one. -/
theorem run_skip0 (a : MA W3 L s w) (hr : s.runs = 0) (he : s.e0 = []) : Calls Tryz.prog 41 #[.pointer (some ⟨L.bm, 0, none⟩), .int .i64 0] w fun e w' => e = .returned (.int .i64 0) ∧ Ext w w' := by
  obtain ⟨o0, o1, p0, p1, q1, q2, q3, q4⟩ := a.q
  rw [he] at q1
  exact ofLooper_due a (i := 0) (by decide) a.loop0 (hr ▸ a.l0) (ti := 0) (fr := false) (du := 0) (is := false) fun w2 x2 => due_nil ▸ due_ok (q1.ext (extDn x2)) (by intro i j k hi; simp at hi)
/-- The first task begins. -/
theorem run_begin (a : MA W3 L s w) (hf : s.full = false) (hr : s.runs = 0) (hs : s.state = 1) (he : s.e0 = [⟨1, false, 0, 0⟩]) (hM : s.M.length ≤ 100000) (h20 : s.steps ≠ 20000) (hst : 0 ≤ s.steps ∧ s.steps ≤ 20000) :
    Calls Tryz.prog 8 #[.pointer (some ⟨L.bm, 0, none⟩), .int .i64 0] w fun e w' => e = .returned (.int .i64 0) ∧ MA W3 L { s with state := 2, runs := 1, e0 := [], M := s.M ++ [⟨1, 1, 0, 0, 0, 0, 0, false⟩], steps := s.steps + 1 } w' := by
  refine Run_m a hf (t := 1) (by decide) (s1 := { s with state := 2, runs := 1, e0 := [], M := s.M ++ [⟨1, 1, 0, 0, 0, 0, 0, false⟩], steps := s.steps + 1 }) hf (fun w' x => ?_) fun w' x => step_1 (X := fun w => MA W3 L { s with state := 2, runs := 1, e0 := [], M := s.M ++ [⟨1, 1, 0, 0, 0, 0, 0, false⟩], steps := s.steps + 1 } w) (fun w2 x2 => Waits_wait (a.ext (x.trans x2)) hs) fun w2 x2 => goOn_begin (a.ext (x.trans x2)) hs hM he rfl h20 hst
  have b := a.ext x
  obtain ⟨o0, o1, p0, p1, q1, q2, q3, q4⟩ := b.q
  have ht := b.tri
  rw [he] at q1 ht
  exact ofLooper_due b (i := 0) (by decide) b.loop0 (hr ▸ b.l0) (ti := 1) (fr := false) (du := 0) (is := true) fun w2 x2 => due_one ▸ due_ok (q1.ext (extDn x2)) ht
theorem not_in (a : MA W3 L s w) {k : Nat} {R : List Int} (ht : s.thr = some (k, R)) {d : Nat} (hd : w.heap[d]? = some (dv0 L).o) : d ≠ L.bt ∧ d ≠ L.g ∧ d ≠ L.bf ∧ d ≠ L.gr := by
  obtain ⟨t1, t2, t3⟩ := a.th k R ht
  obtain ⟨o, r1, r2⟩ := own_is t1.r L.gr rfl
  exact ⟨tags_ne hd t1.t (by rw [DV.tag]; simp [tag]), tags_ne hd t1.s (by rw [DV.tag]; simp [tag]), tags_ne hd t1.f (by rw [DV.tag]; simp [tag]), tags_ne hd r1 (by rw [r2, DV.tag]; simp)⟩
theorem keep_pD {bt g bf gr bc : Nat} {fn at' tr : Int} {R : List Int} {p : Nat → Option TypeId → Bool} (h : Th bt g bf gr bc fn at' R tr w) (k : Kept p w w') (hp : ∀ b t, b ≠ bt → b ≠ bf → b ≠ gr → p b t = true) : Kept pD w w' := k.to fun b o hb hq => by
  obtain ⟨o', r1, r2⟩ := own_is h.r gr rfl
  refine hp _ _ (tags_ne hb h.t ?_) (tags_ne hb h.f ?_) (tags_ne hb r1 ?_)
  all_goals
    intro e
    rw [e] at hq
    first
      | (rw [r2] at hq; simp [pD] at hq)
      | simp [pD, tag] at hq
theorem zask_eq : zaskV = .agg #[.int .i64 0, .int .i64 0, .int .i64 0, .int .i64 0, .int .i64 0, .slice none 0 0] := rfl
/-- OpConst. -/
theorem run_const (a : MA W3 L s w) (hf : s.full = false) (hr : s.runs = 1) (hs : s.state = 2) (hth : s.th = .pointer (some ⟨L.bt, 0, none⟩)) {k : Nat} {R : List Int} (ht : s.thr = some (k, R)) (hc : Cod L.bc Q W3) {y : Ins} (hy : At Q k y) (hl : y.l = []) (ho : y.op = 1) {j : Nat} (hj : y.a = j) (hjl : j < R.length) (hks : k ≤ 1000) (h20 : s.steps ≠ 20000) (hst : 0 ≤ s.steps ∧ s.steps ≤ 20000) :
    Calls Tryz.prog 8 #[.pointer (some ⟨L.bm, 0, none⟩), .int .i64 0] w fun e w' => e = .returned (.int .i64 0) ∧ MA W3 L { s with thr := some (k + 1, R.set j y.n), steps := s.steps + 1 } w' := by
  refine run_go a hf hr hs hth ht hc hy hl (by rw [ho]; decide) (s1 := { s with thr := some (k + 1, R.set j y.n), steps := s.steps + 1 }) hf fun w1 a1 => ?_
  obtain ⟨hi, hk, lk⟩ := hy
  refine goOn_do a1 hs h20 hst (s1 := { s with thr := some (k + 1, R.set j y.n) }) rfl ?_
  refine do_on a1 (s1 := { s with thr := some (k + 1, R.set j y.n) }) (TH := fun _ => True) (fun w2 d x2 hd hld => ?_) hth fun w2 a2 _ => Over_th (a2.th (k + 1) (R.set j y.n) rfl).1
  have a2 := a1.ext x2
  obtain ⟨n1, n2, n3, n4⟩ := not_in a2 ht hd
  refine (instr_own a2 hth hd hld (s1 := { s with thr := some (k + 1, R.set j y.n) }) (si := 0) (n := 0) (v := 0) (l := 0) (TH := fun w => Th L.bt L.g L.bf L.gr L.bc ((0 : Nat) : Int) ((k : Int) + 1) (R.set j y.n) 0 w) (fun w3 x3 => ?_) rfl (fun _ _ h kk => h.keep kk n1.symm n2.symm n3.symm n4.symm) fun _ h => Trap_th h).mono ?_
  · have a3 := a2.ext x3
    obtain ⟨t1, t2, t3⟩ := a3.th k R ht
    have q := Step_const (bh := L.bh) (task := 1) (it := 0) (a := j) t1 t2 (hc.ext a3.x3) hi hk rfl hks (lk.1.trans ho) (lk.2.1.trans hj) hjl
    refine q.mono ?_
    rintro e w4 ⟨rfl, h1, h2⟩
    rw [lk.2.2.2.2.1] at h1
    exact ⟨by rw [zask_eq], a3.setTh ht h2 (by exact_mod_cast h1), h1, keep_pD t1 h2 fun b t _ hb2 hb3 => by simp [nF, hb2, hb3]⟩
  · rintro e w4 ⟨rfl, h1, _, h3⟩
    exact ⟨rfl, h1, trivial, _, _, _, _, _, h3⟩
/-- OpStore of the global j. -/
theorem run_store (a : MA W3 L s w) (hf : s.full = false) (hr : s.runs = 1) (hs : s.state = 2) (hth : s.th = .pointer (some ⟨L.bt, 0, none⟩)) {k : Nat} {R : List Int} (ht : s.thr = some (k, R)) (hc : Cod L.bc Q W3) {y : Ins} (hy : At Q k y) (hl : y.l = []) (ho : y.op = 10) {j i : Nat} (hj : y.a = j) (hjl : j < R.length) (hg : y.n = i) (hgl : i < s.G.length) (hks : k ≤ 1000) (hM : s.M.length ≤ 100000) (h20 : s.steps ≠ 20000) (hst : 0 ≤ s.steps ∧ s.steps ≤ 20000) :
    Calls Tryz.prog 8 #[.pointer (some ⟨L.bm, 0, none⟩), .int .i64 0] w fun e w' => e = .returned (.int .i64 0) ∧ MA W3 L { s with M := s.M ++ [⟨3, 1, 0, y.site, 1, i, 0, true⟩], G := s.G.set i (R.getD j 0), thr := some (k + 1, R), steps := s.steps + 1 } w' := by
  refine run_go a hf hr hs hth ht hc hy hl (by rw [ho]; decide) (s1 := { s with M := s.M ++ [⟨3, 1, 0, y.site, 1, i, 0, true⟩], G := s.G.set i (R.getD j 0), thr := some (k + 1, R), steps := s.steps + 1 }) hf fun w1 a1 => ?_
  obtain ⟨hi, hk, lk⟩ := hy
  refine goOn_do a1 hs h20 hst (s1 := { s with M := s.M ++ [⟨3, 1, 0, y.site, 1, i, 0, true⟩], G := s.G.set i (R.getD j 0), thr := some (k + 1, R) }) rfl ?_
  refine do_on a1 (s1 := { s with M := s.M ++ [⟨3, 1, 0, y.site, 1, i, 0, true⟩], G := s.G.set i (R.getD j 0), thr := some (k + 1, R) }) (TH := fun _ => True) (fun w2 d x2 hd hld => ?_) hth fun w2 a2 _ => Over_th (a2.th (k + 1) R rfl).1
  have a2 := a1.ext x2
  obtain ⟨n1, n2, n3, n4⟩ := not_in a2 ht hd
  refine (instr_sto a2 hth hd hld (s1 := s) (si := y.site) (n := i) (v := R.getD j 0) (l := 0) (s2 := { s with M := s.M ++ [⟨3, 1, 0, y.site, 1, i, 0, true⟩], G := s.G.set i (R.getD j 0) }) (s3 := { s with M := s.M ++ [⟨3, 1, 0, y.site, 1, i, 0, true⟩], G := s.G.set i (R.getD j 0), thr := some (k + 1, R) }) (TH := fun w => Th L.bt L.g L.bf L.gr L.bc ((0 : Nat) : Int) ((k : Nat) : Int) R 0 w) (fun w3 x3 => ?_) rfl (fun _ _ h kk => h.keep kk n1.symm n2.symm n3.symm n4.symm) (fun _ h => Trap_th h) (fun w3 a3 hd3 => store_m a3 hgl hd3 hM) rfl fun w3 a3 => done_m a3 (Q := Q) (k := k) (R := R) ht hc hi hk (.inl (lk.1.trans ho)) hks).mono ?_
  · have a3 := a2.ext x3
    obtain ⟨t1, t2, t3⟩ := a3.th k R ht
    have q := Step_ask (bh := L.bh) (task := 1) (it := 0) (a := j) t1 (hc.ext a3.x3) hi hk rfl (.inl (lk.1.trans ho)) (lk.2.1.trans hj) hjl
    refine q.mono ?_
    rintro e w4 ⟨rfl, h1⟩
    refine ⟨?_, a3.ext h1, t1.ext h1, h1.kept _⟩
    unfold askV
    rw [lk.1, ho, lk.2.2.2.2.1, hg, lk.2.2.2.2.2.2.1]
  · rintro e w4 ⟨rfl, h1, h3⟩
    exact ⟨rfl, h1, trivial, _, _, _, _, _, h3⟩
theorem ThO.over {bt g bc : Nat} (h : ThO bt g bc w) : Calls Tryz.prog 184 #[.pointer (some ⟨bt, 0, none⟩)] w fun e w' => e = .returned (.bool true) ∧ w' = w := by
  have t0 : w.cell? ⟨bt, 0, none⟩ = some (.pointer (some ⟨bc, 0, none⟩)) := by simp [World.cell?, show w.heap[bt]? = _ from h]
  have t1 : w.cell? ⟨bt, 1, none⟩ = some (.slice (some ⟨g, 0, none⟩) 0 1) := by simp [World.cell?, show w.heap[bt]? = _ from h]
  have tl := (Array.getElem?_eq_some_iff.1 h).1
  have H : Calls Tryz.prog 118 #[.pointer (some ⟨bt, 0, none⟩)] w fun e w' => e = .returned (.bool false) ∧ w' = w := by
    clear h
    go_enter Tryz.func118, Tryz.ntmps118
    go_wp2_with fail
    go_ret
    exact ⟨rfl, rfl⟩
  have H := Lib.hid H
  clear h
  go_enter Tryz.func184, Tryz.ntmps184
  go_wp2_with (go_at_call 118; refine H.out.mono ?_; rintro e w2 ⟨rfl, hw⟩; rw [hw]; clear hw)
  go_ret
  exact ⟨rfl, rfl⟩
theorem ThO.trap {bt g bc : Nat} (h : ThO bt g bc w) : Calls Tryz.prog 305 #[.pointer (some ⟨bt, 0, none⟩)] w fun e w' => e = .returned (.int .i64 0) ∧ w' = w := by
  have t2 : w.cell? ⟨bt, 2, none⟩ = some (.int .i64 0) := by simp [World.cell?, show w.heap[bt]? = _ from h]
  have tl := (Array.getElem?_eq_some_iff.1 h).1
  clear h
  go_enter Tryz.func305, Tryz.ntmps305
  go_wp2_with fail
  go_ret
  exact ⟨rfl, rfl⟩
/-- The thread's frames are gone. -/
theorem MA.setOver (a : MA W3 L s w) {k : Nat} {R : List Int} (hs : s.thr = some (k, R)) (kk : Kept (nF L.bt L.bf) w w') : MA W3 L { s with thr := none } w' := by
  obtain ⟨t1, t2, t3⟩ := a.th k R hs
  obtain ⟨o0, o1, p0, p1, q1, q2, q3⟩ := a.q
  obtain ⟨lv, mv, m1, m2, m3, m4⟩ := a.m
  have hb : ∀ b o', w.heap[b]? = some o' → tag o' ≠ some 290 ∧ tag o' ≠ some 203 → b ≠ L.bt ∧ b ≠ L.bf := fun b o' hb hh => ⟨tags_ne hb t1.t (by simpa [tag] using hh.1), tags_ne hb t1.f (by simpa [tag] using hh.2)⟩
  have hs' : ∀ b o', w.heap[b]? = some o' → tag o' ≠ some 290 ∧ tag o' ≠ some 203 → w'.heap[b]? = some o' := fun b o' h1 h2 => kk.same b o' h1 (by simp [nF, hb b o' h1 h2])
  have hr : ∀ {B n m : Nat} {e : TypeId} {v : Value} {xs : List Value}, w.ownsRow B e n v m xs → e ≠ 290 ∧ e ≠ 203 → w'.ownsRow B e n v m xs := fun h he => kk.row h fun b h0 => by
    obtain ⟨o', h3, h4⟩ := own_is h b h0
    simp [nF, hb b o' h3 (by rw [h4]; simp [he])]
  have hq : ∀ {own : Nat → Bool} {bq : Nat} {l : List QQ.Ent} {pu : Int}, QQ.QV own bq l pu w → QQ.QV own bq l pu w' := fun q => q.frame (keptDn kk) fun b t h0 => by
    have n1 := nbQ q t1.t (by simp [tag])
    have n2 := nbQ q t1.f (by simp [tag])
    simp only [nF, Bool.and_eq_true, bne_iff_ne]
    constructor
    · rintro rfl; rw [n1] at h0; cases h0
    · rintro rfl; rw [n2] at h0; cases h0
  refine ⟨Kept.trans a.x3 (kk.mono fun b t _ hp => ?_), ⟨lv, mv, hs' _ _ m1 (by rw [MV.tag]; decide), hr m2 (by decide), hr m3 (by decide), m4⟩, hs' _ _ a.d (by decide), hs' _ _ a.h (by decide), hr a.G (by decide), hr a.T (by decide), hs' _ _ a.t (by rw [TV.tag]; decide), hr a.P (by decide), hs' _ _ a.l0 (by rw [LV.tag]; decide), hs' _ _ a.l1 (by rw [LV.tag]; decide),
    ⟨o0, o1, p0, p1, hq q1, hq q2, q3⟩, a.tri, a.lo, a.ne, fun k2 R2 hh => by cases hh⟩
  simp only [pOld, decide_eq_true_eq] at hp
  have := t3
  simp [nF]; omega
/-- OpRet: the task is over. -/
theorem run_ret (a : MA W3 L s w) (hf : s.full = false) (hr : s.runs = 1) (hs : s.state = 2) (hth : s.th = .pointer (some ⟨L.bt, 0, none⟩)) {k : Nat} {R : List Int} (ht : s.thr = some (k, R)) (hc : Cod L.bc Q W3) {y : Ins} (hy : At Q k y) (hl : y.l = []) (ho : y.op = 33) (hks : k ≤ 1000) (hM : s.M.length ≤ 100000) (h20 : s.steps ≠ 20000) (hst : 0 ≤ s.steps ∧ s.steps ≤ 20000) :
    Calls Tryz.prog 8 #[.pointer (some ⟨L.bm, 0, none⟩), .int .i64 0] w fun e w' => e = .returned (.int .i64 0) ∧ MA W3 L { s with thr := none, state := 3, trap := 0, th := .pointer none, runs := 0, M := s.M ++ [⟨2, 1, 0, 0, 0, 0, 0, false⟩], steps := s.steps + 1 } w' := by
  refine run_go a hf hr hs hth ht hc hy hl (by rw [ho]; decide) (s1 := { s with thr := none, state := 3, trap := 0, th := .pointer none, runs := 0, M := s.M ++ [⟨2, 1, 0, 0, 0, 0, 0, false⟩], steps := s.steps + 1 }) hf fun w1 a1 => ?_
  obtain ⟨hi, hk, lk⟩ := hy
  refine goOn_do a1 hs h20 hst (s1 := { s with thr := none, state := 3, trap := 0, th := .pointer none, runs := 0, M := s.M ++ [⟨2, 1, 0, 0, 0, 0, 0, false⟩] }) rfl ?_
  refine do_off a1 (s1 := { s with thr := none }) (TH := fun w => ThO L.bt L.g L.bc w) (fun w2 d x2 hd hld => ?_) hth hM fun w2 a2 h => ThO.over h
  have a2 := a1.ext x2
  obtain ⟨n1, n2, n3, n4⟩ := not_in a2 ht hd
  refine (instr_own a2 hth hd hld (s1 := { s with thr := none }) (si := 0) (n := 0) (v := 0) (l := 0) (TH := fun w => ThO L.bt L.g L.bc w) (fun w3 x3 => ?_) rfl (fun _ _ h kk => kk.same _ _ h (by simp [ne', n1.symm])) fun _ h => ThO.trap h).mono ?_
  · have a3 := a2.ext x3
    obtain ⟨t1, t2, t3⟩ := a3.th k R ht
    have q := Step_ret (bh := L.bh) (task := 1) (it := 0) t1 t2 (hc.ext a3.x3) hi hk rfl hks (lk.1.trans ho)
    refine q.mono ?_
    rintro e w4 ⟨rfl, h1, h2⟩
    exact ⟨by rw [zask_eq], a3.setOver ht h2, h1, keep_pD t1 h2 fun b t hb1 hb2 _ => by simp [nF, hb1, hb2]⟩
  · rintro e w4 ⟨rfl, h1, h2, h3⟩
    exact ⟨rfl, h1, h2, _, _, _, _, _, h3⟩
end
end Go.Proofs.YtfljmdpigckpkaaGreatDoor

namespace Go.Proofs.YtfljmdpigckpkaaGreatDoor
open Go.RowKit Go.Shelf Go.Maps Go.ChangeMaps
attribute [local go_sem] Oper.semAt_some
theorem mins_run (w : World) (ws : List (Int × FuncId)) (k : Int) (f : FuncId) (h : fnO k ws = none) :
    (Instr.mapUpdate 64 (.map (some w.heap.size)) (.int .i64 k) (.func (.func f) #[] #[])).run Tryz.prog (w.alloc (dobj ws)) = .ok () (w.alloc (dobj (ws ++ [(k, f)]))) := by
  obtain ⟨j, hj⟩ := find_entD k ws 0 0
  rw [h, Option.map_none] at hj
  have hb : (w.alloc (dobj ws)).heap[w.heap.size]? = some (.map (entD 0 ws).toArray ws.length) := heap_alloc_new w _
  have hc : ∀ m W, (Instr.checkKey false (m + 1) 22 (.int .i64 k)).run Tryz.prog W = .ok () W := fun m W => MapKept.run_checkKey (k := .int .i64 k) Tryz.underlying22 rfl false m
  have hset : ∀ o, (setObj w.heap.size o).run Tryz.prog (w.alloc (dobj ws)) = .ok () (w.alloc o) := fun o => by
    rw [MapKept.run_setObj_map o hb]
    simp [World.alloc, -World.alloc_eq, push_setD, dobj]
  have he : dobj (ws ++ [(k, f)]) = .map ((entD 0 ws).toArray.push ⟨.int .i64 k, .func (.func f) #[] #[], ws.length⟩) (ws.length + 1) := by
    unfold dobj
    rw [entD_snoc]
    simp
  rw [he]
  simp [Instr.mapUpdate, run_underlying Tryz.underlying64, MapKept.run_getObj_map hb, hc, Instr.findKey, run_underlying Tryz.underlying22, hj, Result.andThen, hset]
def mdk (i : Nat) : List (Int × FuncId) := mdeedL.take i
theorem mins (w : World) (i j : Nat) (k : Int) (f : FuncId) (hs : mdeedL[i]? = some (k, f)) (h : fnO k (mdeedL.take i) = none) (hj : j = i + 1) :
    (Instr.mapUpdate 64 (.map (some w.heap.size)) (.int .i64 k) (.func (.func f) #[] #[])).run Tryz.prog (w.alloc (dobj (mdk i))) = .ok () (w.alloc (dobj (mdk j))) := by
  subst hj
  have hr := mins_run w (mdk i) k f h
  rw [hr]
  unfold mdk
  rw [List.take_add_one, hs]
  rfl
set_option maxRecDepth 100000 in
set_option maxHeartbeats 4000000 in
theorem mdeeds_ok (w : World) : Calls Tryz.prog 88 #[] w fun e w' => e = .returned (.map (some w.heap.size)) ∧ w' = w.alloc (dobj (mdk 10)) := by
  have hmm : ∀ u : World, (Instr.makeMap 64 none).run Tryz.prog u = .ok (.map (some u.heap.size)) (u.alloc (dobj (mdk 0))) := fun u => rfl
  have i0 := mins w 0 1 9 138 rfl (by decide) rfl
  have i1 := mins w 1 2 10 139 rfl (by decide) rfl
  have i2 := mins w 2 3 23 140 rfl (by decide) rfl
  have i3 := mins w 3 4 24 141 rfl (by decide) rfl
  have i4 := mins w 4 5 25 142 rfl (by decide) rfl
  have i5 := mins w 5 6 26 143 rfl (by decide) rfl
  have i6 := mins w 6 7 27 144 rfl (by decide) rfl
  have i7 := mins w 7 8 28 145 rfl (by decide) rfl
  have i8 := mins w 8 9 29 146 rfl (by decide) rfl
  have i9 := mins w 9 10 30 147 rfl (by decide) rfl
  go_enter Tryz.func88, Tryz.ntmps88
  go_wp2
  go_ret
  exact ⟨rfl, rfl⟩
set_option maxRecDepth 100000 in
set_option maxHeartbeats 4000000 in
theorem lifeNew_ok (l : List Bool) (A : Option Addr) (c : Nat) (w : World) (hs : Src w (.slice A l.length c) l.length (rowV bV l)) (hl : l.length ≤ 1000) : Calls Tryz.prog 90 #[.int .i64 0, .slice A l.length c] w fun e w' => ∃ b, e = .returned (.pointer (some ⟨b, 0, none⟩)) ∧ Ext w w' := by
  have hmm := @run_makeMap Tryz.prog
  have hx1 : Ext w (w.alloc (.map #[] 0)) := Ext.one w (.map #[] 0)
  have HCL := Lib.hid (cloneB_ok l A c (hs.ext hx1) (by omega))
  have HX1 := Lib.hid hx1
  clear hs hx1
  go_enter Tryz.func90, Tryz.ntmps90
  go_wp2_with (go_at_call 126; refine HCL.out.mono ?_; rintro e w2 ⟨A', c', rfl, hx2, -⟩; have HX2 := Lib.hid (HX1.out.trans hx2); clear hx2)
  go_ret
  exact ⟨_, rfl, HX2.out.trans (Ext.one _ _)⟩
def newQ (b : Nat) : Nat → Bool := fun k => k == b
theorem newQV {b : Nat} {w : World} (h : w.heap[b]? = some (.cells #[.slice none 0 0, .map none, .int .i64 0] 258 (0, 0))) : QQ.QV (newQ b) b [] 0 w :=
  ⟨⟨_, _, h, World.ownsRow_nil _ _ _ _, fun g hg => by simp [Value.ownBlock] at hg, .inl ⟨rfl, rfl⟩⟩, by simp [newQ], fun b' hb => by
    have e : b' = b := by simpa [newQ] using hb
    subst e; exact ⟨_, h, .inr (.inl rfl)⟩, fun k _ hk => absurd hk (by simp), by simp⟩
set_option maxRecDepth 100000 in
theorem queueNew_ok (w : World) : Calls Tryz.prog 91 #[] w fun e w' => e = .returned (.pointer (some ⟨w.heap.size, 0, none⟩)) ∧ Ext w w' ∧ w'.heap[w.heap.size]? = some (.cells #[.slice none 0 0, .map none, .int .i64 0] 258 (0, 0)) ∧ w.heap.size < w'.heap.size := by
  go_enter Tryz.func91, Tryz.ntmps91
  go_wp2
  go_ret
  exact ⟨rfl, Ext.one _ _, World.alloc_heap_new _ _, by simp⟩
theorem SmallP.like {P Q : Prg} (h : SmallP P) (l : PrgLike P Q) : SmallP Q := by
  have fl : Q.fns.length = P.fns.length := l.fns.1
  have cl : Q.clss.length = P.clss.length := l.clss.1
  refine ⟨by rw [l.loops]; exact h.n0, by rw [cl]; exact h.n1, by rw [l.glbs]; exact h.n2, by rw [fl]; exact h.n3, by rw [l.cmps]; exact h.n4, by rw [l.evts]; exact h.n5, by rw [l.sits]; exact h.n7, fun i y hy => ?_, fun i f hf => ?_⟩
  · have hi : i < P.clss.length := by rw [← cl]; exact (List.getElem?_eq_some_iff.1 hy).1
    have q := l.clss.2 i _ y (List.getElem?_eq_getElem hi) hy
    have := h.cls i _ (List.getElem?_eq_getElem hi)
    rw [q.2.1, q.2.2]; exact this
  · have hi : i < P.fns.length := by rw [← fl]; exact (List.getElem?_eq_some_iff.1 hf).1
    have q := l.fns.2 i _ f (List.getElem?_eq_getElem hi) hf
    have r := h.fn i _ (List.getElem?_eq_getElem hi)
    refine ⟨by rw [q.2.2.2.1]; exact r.1, fun k x hx => ?_⟩
    have hk : k < P.fns[i].code.length := by rw [← q.2.2.2.1]; exact (List.getElem?_eq_some_iff.1 hx).1
    have s := q.2.2.2.2 k _ x (List.getElem?_eq_getElem hk) hx
    have := r.2 k _ (List.getElem?_eq_getElem hk)
    rw [s.2.2.2.2.2.1]; exact this
theorem PrgLike.trans {P Q R : Prg} (h : PrgLike P Q) (k : PrgLike Q R) : R.loops = P.loops ∧ R.glbs = P.glbs ∧ R.cmps = P.cmps ∧ R.evts = P.evts ∧ R.main = P.main ∧ R.fns.length = P.fns.length :=
  ⟨k.loops.trans h.loops, k.glbs.trans h.glbs, k.cmps.trans h.cmps, k.evts.trans h.evts, k.main.trans h.main, k.fns.1.trans h.fns.1⟩
def prg8 (w : World) (b : Nat) (P : Prg) : World := (((((((w.setCell ⟨b, 0, none⟩ (.slice P.loopsA P.loops.length P.loopsC)).setCell ⟨b, 1, none⟩ (.slice P.clssA P.clss.length P.clssC)).setCell ⟨b, 2, none⟩ (.slice P.glbsA P.glbs.length P.glbsC)).setCell ⟨b, 3, none⟩ (.slice P.fnsA P.fns.length P.fnsC)).setCell ⟨b, 4, none⟩ (.slice P.cmpsA P.cmps.length P.cmpsC)).setCell ⟨b, 5, none⟩ (.slice P.evtsA P.evts.length P.evtsC)).setCell ⟨b, 6, none⟩ (.int .i64 P.main)).setCell ⟨b, 7, none⟩ (.slice P.sitsA P.sits.length P.sitsC)
theorem prg8_ok {w : World} {b : Nat} {P : Prg} (h : w.heap[b]? = some zprg) : (prg8 w b P).heap[b]? = some P.o ∧ Kept (ne' b) w (prg8 w b P) :=
  set_range (b := b) (t := 35) [.slice P.loopsA P.loops.length P.loopsC, .slice P.clssA P.clss.length P.clssC, .slice P.glbsA P.glbs.length P.glbsC, .slice P.fnsA P.fns.length P.fnsC, .slice P.cmpsA P.cmps.length P.cmpsC, .slice P.evtsA P.evts.length P.evtsC, .int .i64 P.main, .slice P.sitsA P.sits.length P.sitsC] [] [.slice none 0 0, .slice none 0 0, .slice none 0 0, .slice none 0 0, .slice none 0 0, .slice none 0 0, .int .i64 0, .slice none 0 0] w h rfl
theorem zprg_cells {w : World} {b : Nat} (h : w.heap[b]? = some zprg) : w.cell? ⟨b, 0, none⟩ = some (.slice none 0 0) ∧ w.cell? ⟨b, 1, none⟩ = some (.slice none 0 0) ∧ w.cell? ⟨b, 2, none⟩ = some (.slice none 0 0) ∧ w.cell? ⟨b, 3, none⟩ = some (.slice none 0 0) ∧ w.cell? ⟨b, 4, none⟩ = some (.slice none 0 0) ∧ w.cell? ⟨b, 5, none⟩ = some (.slice none 0 0) ∧ w.cell? ⟨b, 6, none⟩ = some (.int .i64 0) ∧ w.cell? ⟨b, 7, none⟩ = some (.slice none 0 0) ∧ b < w.heap.size ∧ ∀ n, w.frozen? ⟨b, n, none⟩ = false := by
  refine ⟨?_, ?_, ?_, ?_, ?_, ?_, ?_, ?_, (Array.getElem?_eq_some_iff.1 h).1, fun n => frozen_of_row w b n _ _ h⟩
  all_goals simp [World.cell?, h, zprg]
theorem evts_other {w w' : World} {b : Nat} {A : Option Addr} {T : List Evt} (h : Rows3 Evt.cells 4 (fun _ => True) w A T) (hz : w.heap[b]? = some zprg) (k : Kept (ne' b) w w') : Rows3 Evt.cells 4 (fun _ => True) w' A T := fun i x hi => by
  obtain ⟨g, off, h1, h2, h3, h4⟩ := h i x hi
  have hn : g ≠ b := by
    rintro rfl
    have h0 := h4 0 _ rfl
    simp only [World.cell?, hz, zprg] at h0
    generalize off + i * 4 + 0 = n at h0
    match n, h0 with
    | 0, h0 | 1, h0 | 2, h0 | 3, h0 | 4, h0 | 5, h0 | 6, h0 | 7, h0 => simp [sV] at h0
    | n + 8, h0 => simp at h0
  exact ⟨g, off, h1, Nat.lt_of_lt_of_le h2 k.size, h3, fun j u hj => k.cell (h4 j u hj) fun o _ => by simp [ne', hn]⟩
set_option maxRecDepth 100000 in
set_option maxHeartbeats 4000000 in
theorem Prog_ok {bc : Nat} {Q : Prg} {w : World} (h : Cod bc Q w) (hs : SmallP Q) : Calls Tryz.prog 87 #[.pointer (some ⟨bc, 0, none⟩)] w fun e w' => ∃ R, e = .returned R.v ∧ PrgLike Q R ∧ Rows3 Evt.cells 4 (fun _ => True) w' R.evtsA R.evts ∧ Ext w w' := by
  obtain ⟨W1, hW1⟩ : ∃ W1, W1 = w.alloc zprg := ⟨_, rfl⟩
  have hx1 : Ext w W1 := by rw [hW1]; exact Ext.one _ _
  have hb1 : W1.heap[w.heap.size]? = some zprg := by rw [hW1]; exact World.alloc_heap_new _ _
  obtain ⟨bm, h1, _⟩ := (h.ext hx1).ex
  have c : ∀ i v, (#[.slice Q.loopsA Q.loops.length Q.loopsC, .slice Q.clssA Q.clss.length Q.clssC, .slice Q.glbsA Q.glbs.length Q.glbsC, .slice Q.fnsA Q.fns.length Q.fnsC, .slice Q.cmpsA Q.cmps.length Q.cmpsC, .slice Q.evtsA Q.evts.length Q.evtsC, .int .i64 Q.main, .slice Q.sitsA Q.sits.length Q.sitsC, .map (some bm)] : Array Value)[i]? = some v → W1.cell? ⟨bc, i, none⟩ = some v := fun i v hv => by
    simp only [World.cell?, h1, codo]; exact hv
  have c0 := c 0 _ rfl
  have c1 := c 1 _ rfl
  have c2 := c 2 _ rfl
  have c3 := c 3 _ rfl
  have c4 := c 4 _ rfl
  have c5 := c 5 _ rfl
  have c6 := c 6 _ rfl
  have c7 := c 7 _ rfl
  have cl := (Array.getElem?_eq_some_iff.1 h1).1
  have HC := Lib.hid (copied_ok (h.ext hx1).pin hs)
  unfold Prg.v at HC ⊢
  have HX1 := Lib.hid hx1
  have HB1 := Lib.hid hb1
  have HW := Lib.hid hW1
  clear c h h1 hx1 hb1 hW1 hs
  go_enter Tryz.func87, Tryz.ntmps87
  go_upto_region 1 with (fail)
  change Code.wp _ _ _ _ (w.alloc zprg)
  rw [← HW.out]
  generalize hbb : w.heap.size = b at *
  go_wp2_with (go_at_call 136; refine HC.out.mono ?_; rintro e w2 ⟨R, rfl, hl, hin, hx2⟩; have HL := Lib.hid hl; have HIN := Lib.hid hin; have HX2 := Lib.hid (HX1.out.trans hx2); have HB2 := Lib.hid ((hx2.kept (fun _ _ => true)).same _ _ HB1.out rfl); clear hl hin hx2; obtain ⟨d0, d1, d2, d3, d4, d5, d6, d7, dl, dz⟩ := zprg_cells HB2.out)
  change bodyPost _ _ _ _ _ (prg8 w2 b R)
  obtain ⟨ho, hk⟩ := prg8_ok (P := R) HB2.out
  obtain ⟨z0, z1, z2, z3, z4, z5, z6, z7⟩ : (prg8 w2 b R).cell? ⟨b, 0, none⟩ = some (.slice R.loopsA R.loops.length R.loopsC) ∧ (prg8 w2 b R).cell? ⟨b, 1, none⟩ = some (.slice R.clssA R.clss.length R.clssC) ∧ (prg8 w2 b R).cell? ⟨b, 2, none⟩ = some (.slice R.glbsA R.glbs.length R.glbsC) ∧ (prg8 w2 b R).cell? ⟨b, 3, none⟩ = some (.slice R.fnsA R.fns.length R.fnsC) ∧ (prg8 w2 b R).cell? ⟨b, 4, none⟩ = some (.slice R.cmpsA R.cmps.length R.cmpsC) ∧ (prg8 w2 b R).cell? ⟨b, 5, none⟩ = some (.slice R.evtsA R.evts.length R.evtsC) ∧ (prg8 w2 b R).cell? ⟨b, 6, none⟩ = some (.int .i64 R.main) ∧ (prg8 w2 b R).cell? ⟨b, 7, none⟩ = some (.slice R.sitsA R.sits.length R.sitsC) := by
    refine ⟨?_, ?_, ?_, ?_, ?_, ?_, ?_, ?_⟩
    all_goals simp [World.cell?, ho, Prg.o]
  refine bodyPost_ret (v := R.v) (by simp [results, Tryz.results87, go_sem, Prg.v, z0, z1, z2, z3, z4, z5, z6, z7]) rfl ⟨R, rfl, HL.out, evts_other (fun i x hi => (by obtain ⟨g, off, a1, a2, _, a4⟩ := HIN.out.evts.2.2 i x hi; exact ⟨g, off, a1, a2, trivial, a4⟩)) HB2.out hk, ext_ne HX2.out hk (by omega)⟩
end Go.Proofs.YtfljmdpigckpkaaGreatDoor

namespace Go.Proofs.YtfljmdpigckpkaaGreatDoor
open Go.RowKit Go.Shelf
attribute [local go_sem] Oper.semAt_some
def mvN (bc bd bh : Nat) (R : Prg) (gl lv tu lp : Value) : MV := ⟨bc, R, bd, bh, gl, .slice none 0 0, lv, tu, .slice none 0 0, lp, .slice none 0 0, 0, 0, false⟩
/-- What stands beside the machine's block. -/
structure NX (W3 : World) (bc bd bh : Nat) (Q R : Prg) (w : World) : Prop where
  x3 : Ext W3 w
  c : Cod bc Q w
  d : w.heap[bd]? = some (dobj mdeedL)
  h : w.heap[bh]? = some heapo
  e : Rows3 Evt.cells 4 (fun _ => True) w R.evtsA R.evts
structure NW (w6 : World) (bm : Nat) (m : MV) (w : World) : Prop where
  x : Ext w6 w
  m : w.heap[bm]? = some m.o
  lo : w6.heap.size ≤ bm
theorem NW.ext {w6 w w' : World} {bm : Nat} {m : MV} (h : NW w6 bm m w) (k : Ext w w') : NW w6 bm m w' := ⟨h.x.trans k, (k.kept (fun _ _ => true)).same _ _ h.m rfl, h.lo⟩
theorem NW.other {w6 w w' : World} {bm g : Nat} {m : MV} (h : NW w6 bm m w) (k : Kept (ne' g) w w') (hg : w6.heap.size ≤ g) (hn : bm ≠ g) : NW w6 bm m w' := ⟨ext_ne h.x k hg, k.same _ _ h.m (by simp [ne', hn]), h.lo⟩
theorem NW.set {w6 w : World} {bm : Nat} {m m' : MV} (h : NW w6 bm m w) {i : Nat} {u : Value} (hm : (w.setCell ⟨bm, i, none⟩ u).heap[bm]? = some m'.o) : NW w6 bm m' (w.setCell ⟨bm, i, none⟩ u) := ⟨ext_ne h.x (Kept.one bm w i u) h.lo, hm, h.lo⟩
theorem row_set {w : World} {bm i n B s : Nat} {e : TypeId} {v u : Value} {xs : List Value} (h : w.ownsRow B e s v n xs) (hn : ∀ b, v.ownBlock = some b → b ≠ bm) : (w.setCell ⟨bm, i, none⟩ u).ownsRow B e s v n xs := (Kept.one bm w i u).row h fun b hb => by simp [ne', hn b hb]
theorem mvn_cells {bc bd bh b : Nat} {R : Prg} {gl lv tu lp : Value} {w : World} (h : w.heap[b]? = some (mvN bc bd bh R gl lv tu lp).o) (q : R.glbs.length = 1 ∧ R.evts.length = 1 ∧ R.loops.length = 2 ∧ R.main = 0) : w.cell? ⟨b, 0, none⟩ = some (.pointer (some ⟨bc, 0, none⟩)) ∧ w.cell? ⟨b, 1, none⟩ = some (.slice R.loopsA 2 R.loopsC) ∧ w.cell? ⟨b, 3, none⟩ = some (.slice R.glbsA 1 R.glbsC) ∧ w.cell? ⟨b, 5, none⟩ = some (.slice R.cmpsA R.cmps.length R.cmpsC) ∧ w.cell? ⟨b, 6, none⟩ = some (.slice R.evtsA 1 R.evtsC) ∧ w.cell? ⟨b, 7, none⟩ = some (.int .i64 0) ∧ w.cell? ⟨b, 11, none⟩ = some gl ∧ w.cell? ⟨b, 13, none⟩ = some lv ∧ w.cell? ⟨b, 14, none⟩ = some tu ∧ w.cell? ⟨b, 15, none⟩ = some (.slice none 0 0) ∧ w.cell? ⟨b, 16, none⟩ = some lp ∧ w.cell? ⟨b, 18, none⟩ = some (.int .i64 0) ∧ b < w.heap.size ∧ ∀ n, w.frozen? ⟨b, n, none⟩ = false := by
  obtain ⟨c0, c1, c2, c3, c4, c5, c6, c7, c8, c9, c10, c11, c12, c13, c14, c15, c16, c17, c18, c19, c20, cl, cz⟩ := MV.cells h
  obtain ⟨q1, q2, q3, q4⟩ := q
  refine ⟨c0, ?_, ?_, c5, ?_, ?_, c11, c13, c14, c15, c16, c18, cl, cz⟩
  · rw [← q3]; exact c1
  · rw [← q1]; exact c3
  · rw [← q2]; exact c6
  · rw [← q4]; exact c7
def evb (w : World) (x : Evt) : World := w.alloc (.cells #[.string x.name, .int .i64 x.loop, .bool x.on, .int .i64 x.fn] 97)
theorem evb_ok (w : World) (x : Evt) : (evb w x).heap[w.heap.size]? = some (.cells #[.string x.name, .int .i64 x.loop, .bool x.on, .int .i64 x.fn] 97 (0, 0)) ∧ Ext w (evb w x) := ⟨World.alloc_heap_new _ _, Ext.one _ _⟩
theorem mdk10 : mdk 10 = mdeedL := rfl
def qnew : Obj := .cells #[.slice none 0 0, .map none, .int .i64 0] 258 (0, 0)
def ptrs (ls : List (Nat × Nat)) : List Value := ls.map fun x => .pointer (some ⟨x.1, 0, none⟩)
/-- The machine's block with its loopers: W2 what was there when its program had been read, w6 ahead of the block. -/
structure LP (W2 w6 : World) (bm bc bd bh gG : Nat) (R : Prg) (lv tu mlp : Value) (ls : List (Nat × Nat)) (A : Option Addr) (c : Nat) (w : World) : Prop where
  n : NW w6 bm (mvN bc bd bh R (.slice (some ⟨gG, 0, none⟩) 1 1) lv tu mlp) w
  g : w.ownsRow W2.heap.size 2 1 (.slice (some ⟨gG, 0, none⟩) 1 1) 1 (rowV iV [0])
  r : w.ownsRow w6.heap.size 153 1 (.slice A ls.length c) ls.length (ptrs ls)
  o : ∀ x ∈ ls, w.heap[x.1]? = some (LV.mk 0 x.2).o ∧ w.heap[x.2]? = some qnew ∧ w6.heap.size ≤ x.1 ∧ w6.heap.size ≤ x.2
  d : (ls.map (·.1)).Nodup ∧ (ls.map (·.2)).Nodup
section
variable {W2 w6 w w' : World} {bm bc bd bh gG : Nat} {R : Prg} {lv tu mlp : Value} {ls : List (Nat × Nat)} {A A' : Option Addr} {c c' : Nat}
theorem LP.ext (h : LP W2 w6 bm bc bd bh gG R lv tu mlp ls A c w) (k : Ext w w') : LP W2 w6 bm bc bd bh gG R lv tu mlp ls A c w' :=
  have kk := k.kept (fun _ _ => true)
  ⟨h.n.ext k, kk.row h.g fun _ _ => rfl, kk.row h.r fun _ _ => rfl, fun x hx => ⟨kk.same _ _ (h.o x hx).1 rfl, kk.same _ _ (h.o x hx).2.1 rfl, (h.o x hx).2.2⟩, h.d⟩
theorem LP.app {l q n : Nat} (h : LP W2 w6 bm bc bd bh gG R lv tu mlp ls A c w) (hg : w.grownBy w' (Value.slice A ls.length c).ownBlock) (ho : w'.ownsRow w6.heap.size 153 1 (.slice A' n c') n (ptrs ls ++ [.pointer (some ⟨l, 0, none⟩)])) (hn : ls.length + 1 = n)
    (hl : w.heap[l]? = some (LV.mk 0 q).o) (hq : w.heap[q]? = some qnew) (l6 : w6.heap.size ≤ l) (q6 : w6.heap.size ≤ q) (hne : ∀ x ∈ ls, x.1 ≠ l ∧ x.2 ≠ q) : LP W2 w6 bm bc bd bh gG R lv tu mlp (ls ++ [(l, q)]) A' c' w' := by
  have key : (∀ (b : Nat) (o : Obj), w.heap[b]? = some o → tag o ≠ some 153 → w'.heap[b]? = some o) ∧ w'.ownsRow W2.heap.size 2 1 (.slice (some ⟨gG, 0, none⟩) 1 1) 1 (rowV iV [0]) ∧ Ext w6 w' := by
    cases hb : (Value.slice A ls.length c).ownBlock with
    | none =>
      rw [hb] at hg
      have k : Ext w w' := Kept.grown hg fun j o e _ => by cases e
      have kk := k.kept (fun _ _ => true)
      exact ⟨fun b o h1 _ => kk.same _ _ h1 rfl, kk.row h.g fun _ _ => rfl, h.n.x.trans k⟩
    | some x =>
      obtain ⟨ob, h1, h2⟩ := own_is h.r x hb
      have hbs := own_base h.r x hb
      rw [hb] at hg
      have k : Kept (ne' x) w w' := Kept.grown hg fun j o e _ => by cases e; simp [ne']
      exact ⟨fun b o h3 h4 => same_of k h1 h3 (by rw [h2]; exact h4), row_of k h1 h.g (by rw [h2]; decide), ext_ne h.n.x k hbs⟩
  obtain ⟨hs, hgr, hx⟩ := key
  have hln : (ls ++ [(l, q)]).length = n := by simp [hn]
  refine ⟨⟨hx, hs _ _ h.n.m (by rw [MV.tag]; decide), h.n.lo⟩, hgr, ?_, fun x hx => ?_, ?_⟩
  · rw [hln]
    have : ptrs (ls ++ [(l, q)]) = ptrs ls ++ [.pointer (some ⟨l, 0, none⟩)] := by simp [ptrs]
    rw [this]; exact ho
  · rcases List.mem_append.1 hx with h1 | h1
    · obtain ⟨a1, a2, a3⟩ := h.o x h1
      exact ⟨hs _ _ a1 (by rw [LV.tag]; decide), hs _ _ a2 (by decide), a3⟩
    · rw [List.mem_singleton] at h1
      subst h1
      exact ⟨hs _ _ hl (by rw [LV.tag]; decide), hs _ _ hq (by decide), l6, q6⟩
  · constructor
    · rw [List.map_append, List.nodup_append]
      refine ⟨h.d.1, by simp, fun a ha b hb => ?_⟩
      obtain ⟨x, hx, rfl⟩ := List.mem_map.1 ha
      simp at hb; subst hb
      exact (hne x hx).1
    · rw [List.map_append, List.nodup_append]
      refine ⟨h.d.2, by simp, fun a ha b hb => ?_⟩
      obtain ⟨x, hx, rfl⟩ := List.mem_map.1 ha
      simp at hb; subst hb
      exact (hne x hx).2
theorem LP.sto (h : LP W2 w6 bm bc bd bh gG R lv tu mlp ls A c w) {v : Value} : LP W2 w6 bm bc bd bh gG R lv tu v ls A c (w.setCell ⟨bm, 16, none⟩ v) := by
  have k : Kept (ne' bm) w (w.setCell ⟨bm, 16, none⟩ v) := Kept.one bm w 16 _
  refine ⟨h.n.set (MV.set_loopers h.n.m _), row_of k h.n.m h.g (by rw [MV.tag]; decide), row_of k h.n.m h.r (by rw [MV.tag]; decide), fun x hx => ⟨same_of k h.n.m (h.o x hx).1 (by rw [MV.tag, LV.tag]; decide), same_of k h.n.m (h.o x hx).2.1 (by rw [MV.tag]; decide), (h.o x hx).2.2⟩, h.d⟩
theorem infoLp : (Tryz.prog.info? 153).map (fun i => (i.zero, i.size, i.bytes)) = some (some (.pointer none), 1, 8) := by kernel_rfl
end
theorem Fr.puts {ops : Array Oper} {n : Nat} {fr : Array Value} {a' : Act} {w' : World} {G : Nat → Value → World → Prop} (hF : Fr ops n fr a') (hG : ∀ j, j < n → Got ops G j a' w') (ds : List Nat) (hds : (ops.toList.take n).map (·.dst) = ds.map some) {z : Nat} (hz : fr.size = z) (hlt : ∀ d ∈ ds, d < z) : ∃ u : Nat → Value, a' = ds.foldl (fun (a : Act) d => a.put (some d) (u d)) ⟨fr, []⟩ ∧ ∀ j, j < n → ∃ d, (ops[j]?).bind (·.dst) = some d ∧ G j (u d) w' := by
  subst hz
  refine ⟨fun d => a'.tmps.getD d undef, ?_, fun j hj => hG j hj⟩
  obtain ⟨f1, f2, f3⟩ := hF
  have gen : ∀ (ds : List Nat) (b : Act), b.tmps.size = fr.size → (∀ d ∈ ds, d < fr.size) → (ds.foldl (fun a d => a.put (some d) (a'.tmps.getD d undef)) b).defers = b.defers ∧ (ds.foldl (fun a d => a.put (some d) (a'.tmps.getD d undef)) b).tmps.size = fr.size ∧ ∀ k, (ds.foldl (fun a d => a.put (some d) (a'.tmps.getD d undef)) b).tmps.getD k undef = if k ∈ ds then a'.tmps.getD k undef else b.tmps.getD k undef := by
    intro ds
    induction ds with
    | nil => intro b hb _; simp [hb]
    | cons d ds ih =>
      intro b hb hl
      have hd : d < b.tmps.size := by rw [hb]; exact hl d (by simp)
      obtain ⟨i1, i2, i3⟩ := ih (b.put (some d) (a'.tmps.getD d undef)) (by simp [Act.put, hb]) fun x hx => hl x (by simp [hx])
      refine ⟨i1, i2, fun k => ?_⟩
      simp only [List.foldl_cons]
      rw [i3 k]
      by_cases hk : k ∈ ds
      · simp [hk]
      · by_cases hkd : k = d
        · subst hkd
          simp [hk, Act.put, Array.getD, hd]
        · have hdk : d ≠ k := fun e => hkd e.symm
          have e : ∀ v, (b.put (some d) v).tmps.getD k undef = b.tmps.getD k undef := fun v => by
            simp only [Act.put, Array.getD_eq_getD_getElem?]
            rw [Array.getElem?_setIfInBounds_ne hdk]
          rw [e, if_neg hk, if_neg (by simp [hk, hkd])]
  obtain ⟨g1, g2, g3⟩ := gen ds ⟨fr, []⟩ rfl hlt
  generalize hx : ds.foldl (fun (a : Act) d => a.put (some d) (a'.tmps.getD d undef)) ⟨fr, []⟩ = x at g1 g2 g3
  show a' = x
  obtain ⟨t, df⟩ := a'
  obtain ⟨t2, df2⟩ := x
  obtain rfl : df = [] := f1
  obtain rfl : df2 = [] := g1
  have : t = t2 := by
    refine Array.ext (by rw [show t.size = fr.size from f2, show t2.size = fr.size from g2]) fun k h1 h2 => ?_
    have e1 : t[k] = t.getD k undef := by simp [Array.getD, h1]
    have e2 : t2[k] = t2.getD k undef := by simp [Array.getD, h2]
    rw [e1, e2]
    have e3 : t2.getD k undef = if k ∈ ds then t.getD k undef else fr.getD k undef := g3 k
    rw [e3]
    by_cases hk : k ∈ ds
    · rw [if_pos hk]
    · rw [if_neg hk]
      refine f3 k (List.all_eq_true.2 fun o ho => ?_)
      have : o.dst ∈ ds.map some := hds ▸ List.mem_map_of_mem ho
      obtain ⟨d, hd, e⟩ := List.mem_map.1 this
      have hne : d ≠ k := fun e => hk (e ▸ hd)
      simp [← e, hne]
  rw [this]
set_option maxHeartbeats 4000000
set_option maxRecDepth 100000
/-- What the operations give of the region that makes a looper more. -/
def GLp (bm : Nat) (v : Value) (W : World) (Y : Nat × Nat → Option Addr → Nat → World → Prop) (n : Nat) (f : Bool) : Nat → Value → World → Prop
  | 0, u, _ => u = .pointer (some ⟨bm, 0, none⟩)
  | 1, u, _ => u = .pointer (some ⟨bm, 0, none⟩)
  | 2, u, _ => u = .pointer (some ⟨bm, 0, none⟩)
  | 3, u, _ => u = .pointer (some ⟨bm, 16, none⟩)
  | 4, u, _ => u = v
  | 5, u, w => ∃ q, u = .pointer (some ⟨q, 0, none⟩) ∧ w.heap[q]? = some qnew ∧ W.heap.size ≤ q
  | 6, u, w => ∃ q, u = .agg #[.int .i64 0, .pointer (some ⟨q, 0, none⟩)] ∧ w.heap[q]? = some qnew ∧ W.heap.size ≤ q
  | 7, u, w => ∃ l q, u = .pointer (some ⟨l, 0, none⟩) ∧ w.heap[l]? = some (LV.mk 0 q).o ∧ w.heap[q]? = some qnew ∧ W.heap.size ≤ l ∧ W.heap.size ≤ q
  | 8, u, w => f = false → ∃ b l q, u = .slice (some ⟨b, 0, none⟩) 1 1 ∧ w.heap[b]? = some (.cells #[.pointer (some ⟨l, 0, none⟩)] 153 (0, 0)) ∧ w.heap[l]? = some (LV.mk 0 q).o ∧ w.heap[q]? = some qnew ∧ W.heap.size ≤ l ∧ W.heap.size ≤ q
  | 9, u, w => ∃ A c x, u = .slice A n c ∧ Y x A c w
  | _ + 10, _, _ => True
theorem GLp.mono {bm : Nat} {v : Value} {W : World} {Y : Nat × Nat → Option Addr → Nat → World → Prop} {n : Nat} (hY : ∀ x A c w w', Y x A c w → Ext w w' → Y x A c w') : ∀ (f : Bool) (j : Nat) (u : Value) (w w' : World), GLp bm v W Y n f j u w → Ext w w' → GLp bm v W Y n f j u w' := by
  intro f j u w w' h k
  have kk := k.kept (fun _ _ => true)
  match j with
  | 0 => exact h
  | 1 => exact h
  | 2 => exact h
  | 3 => exact h
  | 4 => exact h
  | 5 => obtain ⟨q, h1, h2, h3⟩ := h; exact ⟨q, h1, kk.same _ _ h2 rfl, h3⟩
  | 6 => obtain ⟨q, h1, h2, h3⟩ := h; exact ⟨q, h1, kk.same _ _ h2 rfl, h3⟩
  | 7 => obtain ⟨l, q, h1, h2, h3, h4⟩ := h; exact ⟨l, q, h1, kk.same _ _ h2 rfl, kk.same _ _ h3 rfl, h4⟩
  | 8 => exact fun e => by obtain ⟨b, l, q, h1, h0, h2, h3, h4⟩ := h e; exact ⟨b, l, q, h1, kk.same _ _ h0 rfl, kk.same _ _ h2 rfl, kk.same _ _ h3 rfl, h4⟩
  | 9 => obtain ⟨A, c, x, h1, h2⟩ := h; exact ⟨A, c, x, h1, hY _ _ _ _ _ h2 k⟩
  | _ + 10 => exact h
def ILp (bm : Nat) (W : World) (v : Value) (f : Bool) (w : World) : Prop := w.cell? ⟨bm, 16, none⟩ = some v ∧ bm < w.heap.size ∧ W.heap.size ≤ w.heap.size ∧ (f = false → Ext W w)
theorem ILp.mono {bm : Nat} {W : World} {v : Value} (f : Bool) (w w' : World) (h : ILp bm W v f w) (k : Ext w w') : ILp bm W v f w' := ⟨k.cell h.1 fun o _ => by simp [pOld, h.2.1], Nat.lt_of_lt_of_le h.2.1 k.size, Nat.le_trans h.2.2.1 k.size, fun e => (h.2.2.2 e).trans k⟩
theorem grown_other {w w' : World} {B n s : Nat} {t : TypeId} {v : Value} {xs : List Value} (hg : w.grownBy w' v.ownBlock) (h : w.ownsRow B t s v n xs) {b : Nat} {o : Obj} (hb : w.heap[b]? = some o) (ht : tag o ≠ some t) : w'.heap[b]? = some o := by
  cases hv : v.ownBlock with
  | none =>
    rw [hv] at hg
    exact ((show Ext w w' from Kept.grown hg fun j o e _ => by cases e).kept (fun _ _ => true)).same _ _ hb rfl
  | some x =>
    obtain ⟨ob, h1, h2⟩ := own_is h x hv
    rw [hv] at hg
    exact same_of (Kept.grown hg fun j o e _ => by cases e; simp [ne']) h1 hb (by rw [h2]; exact ht)

end Go.Proofs.YtfljmdpigckpkaaGreatDoor
