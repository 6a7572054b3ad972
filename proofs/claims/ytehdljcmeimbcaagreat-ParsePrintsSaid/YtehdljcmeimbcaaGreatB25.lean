/- The document's printer in memory: statement, a post, a spawn; The document's printer in memory: a class; an if; Much; The document's printer in memory: statement, an if; Trees, plainly: what is put on a page is the document's text. -/
import Derived.Test.YtehdljcmeimbcaaGreatB22
import Derived.Test.YtehdljcmeimbcaaGreatB01
namespace Go.Proofs.YtehdljcmeimbcaaGreat
open Go.RowKit
set_option linter.unusedVariables false
set_option linter.unusedSimpArgs false
set_option maxRecDepth 100000 in
set_option maxHeartbeats 2000000 in
theorem stat_20_1 (t : Tw) (kv : Value) (x0 : List UInt8) (v : Value) (w : World) (tr : Value) (hk : t.kind = 20) (hK : SR w v [x0]) (ht : t.text.length ≤ 1000) (hx0 : x0.length ≤ 1000000) :
    Calls Tryz.prog 44 #[.agg #[tr], twA t kv, v] w fun e w' => e = .returned (.string ⟨([115, 112, 97, 119, 110, 32] ++ x0 ++ [59]).toArray⟩) ∧ Below w.heap.size w w' := by
  obtain ⟨kd, tx, nn, ln, cl, ks⟩ := t
  simp only at hk ht
  subst hk
  obtain ⟨A, cap, rfl, hcap, hc⟩ := hK
  have zt := str_size tx
  have z0 := str_size x0
  obtain ⟨g, off, rfl, hg, c0⟩ := hc 0 x0 rfl
  rw [Nat.add_zero] at c0
  obtain ⟨W, hW⟩ : ∃ W : World, W = (w.alloc (.cells #[tr] 26)).alloc (twO ⟨20, tx, nn, ln, cl, ks⟩ kv) := ⟨_, rfl⟩
  have hbe : Below w.heap.size w W := by rw [hW]; exact ((Below.refl _ w).alloc (Nat.le_refl _) _).alloc (by simp) _
  have k1 : W.heap[w.heap.size + 1]? = some (twO ⟨20, tx, nn, ln, cl, ks⟩ kv) := by
    rw [hW]
    have := heap_alloc_new (w.alloc (.cells #[tr] 26)) (twO ⟨20, tx, nn, ln, cl, ks⟩ kv)
    rwa [World.size_alloc] at this
  obtain ⟨p0, p1, p2, p3, p4, p5⟩ := tw_cells k1
  have q0 := (hbe.cell (p := ⟨g, off, none⟩) hg).trans c0
  have HBE := Lib.hid hbe
  clear hc hbe k1 c0
  unfold twA
  go_enter Tryz.func44, Tryz.ntmps44
  go_upto_region 1 with (fail)
  change Code.wp _ _ _ _ ((w.alloc (.cells #[tr] 26)).alloc (twO ⟨20, tx, nn, ln, cl, ks⟩ kv))
  rw [← hW]
  clear hW
  go_wp2_with fail
  go_ret
  exact ⟨ret_str (by simp), by first | exact HBE.out | exact bdrew HBE.out _⟩
set_option maxRecDepth 100000 in
set_option maxHeartbeats 2000000 in
theorem stat_19_z1 (t : Tw) (kv : Value) (x0 : List UInt8) (v : Value) (w : World) (tr : Value) (hk : t.kind = 19) (hK : SR w v [x0]) (ht : t.text.length ≤ 1000) (hx0 : x0.length ≤ 1000000) (hn : t.n = 0) :
    Calls Tryz.prog 44 #[.agg #[tr], twA t kv, v] w fun e w' => e = .returned (.string ⟨([112, 111, 115, 116, 32] ++ t.text ++ [32] ++ x0 ++ [59]).toArray⟩) ∧ Below w.heap.size w w' := by
  obtain ⟨kd, tx, nn, ln, cl, ks⟩ := t
  simp only at hk ht hn
  subst hk
  subst hn
  obtain ⟨A, cap, rfl, hcap, hc⟩ := hK
  have zt := str_size tx
  have z0 := str_size x0
  obtain ⟨g, off, rfl, hg, c0⟩ := hc 0 x0 rfl
  rw [Nat.add_zero] at c0
  obtain ⟨W, hW⟩ : ∃ W : World, W = (w.alloc (.cells #[tr] 26)).alloc (twO ⟨19, tx, 0, ln, cl, ks⟩ kv) := ⟨_, rfl⟩
  have hbe : Below w.heap.size w W := by rw [hW]; exact ((Below.refl _ w).alloc (Nat.le_refl _) _).alloc (by simp) _
  have k1 : W.heap[w.heap.size + 1]? = some (twO ⟨19, tx, 0, ln, cl, ks⟩ kv) := by
    rw [hW]
    have := heap_alloc_new (w.alloc (.cells #[tr] 26)) (twO ⟨19, tx, 0, ln, cl, ks⟩ kv)
    rwa [World.size_alloc] at this
  obtain ⟨p0, p1, p2, p3, p4, p5⟩ := tw_cells k1
  have q0 := (hbe.cell (p := ⟨g, off, none⟩) hg).trans c0
  have HBE := Lib.hid hbe
  clear hc hbe k1 c0
  unfold twA
  go_enter Tryz.func44, Tryz.ntmps44
  go_upto_region 1 with (fail)
  change Code.wp _ _ _ _ ((w.alloc (.cells #[tr] 26)).alloc (twO ⟨19, tx, 0, ln, cl, ks⟩ kv))
  rw [← hW]
  clear hW
  go_upto_region 18 with (fail)
  go_quiet (fail)
  go_wp2_with fail
  go_ret
  exact ⟨ret_str (by simp), by first | exact HBE.out | exact bdrew HBE.out _⟩
set_option maxRecDepth 100000 in
set_option maxHeartbeats 2000000 in
theorem stat_19_m1 (t : Tw) (kv : Value) (x0 : List UInt8) (v : Value) (w : World) (tr : Value) (hk : t.kind = 19) (hK : SR w v [x0]) (ht : t.text.length ≤ 1000) (hx0 : x0.length ≤ 1000000) (hn : t.n < 0) :
    Calls Tryz.prog 44 #[.agg #[tr], twA t kv, v] w fun e w' => e = .returned (.string ⟨([112, 111, 115, 116, 32] ++ t.text ++ [32] ++ x0 ++ [32, 102, 114, 111, 110, 116] ++ [59]).toArray⟩) ∧ Below w.heap.size w w' := by
  obtain ⟨kd, tx, nn, ln, cl, ks⟩ := t
  simp only at hk ht hn
  subst hk
  obtain ⟨A, cap, rfl, hcap, hc⟩ := hK
  have zt := str_size tx
  have z0 := str_size x0
  obtain ⟨g, off, rfl, hg, c0⟩ := hc 0 x0 rfl
  rw [Nat.add_zero] at c0
  obtain ⟨W, hW⟩ : ∃ W : World, W = (w.alloc (.cells #[tr] 26)).alloc (twO ⟨19, tx, nn, ln, cl, ks⟩ kv) := ⟨_, rfl⟩
  have hbe : Below w.heap.size w W := by rw [hW]; exact ((Below.refl _ w).alloc (Nat.le_refl _) _).alloc (by simp) _
  have k1 : W.heap[w.heap.size + 1]? = some (twO ⟨19, tx, nn, ln, cl, ks⟩ kv) := by
    rw [hW]
    have := heap_alloc_new (w.alloc (.cells #[tr] 26)) (twO ⟨19, tx, nn, ln, cl, ks⟩ kv)
    rwa [World.size_alloc] at this
  obtain ⟨p0, p1, p2, p3, p4, p5⟩ := tw_cells k1
  have q0 := (hbe.cell (p := ⟨g, off, none⟩) hg).trans c0
  have HBE := Lib.hid hbe
  clear hc hbe k1 c0
  unfold twA
  go_enter Tryz.func44, Tryz.ntmps44
  go_upto_region 1 with (fail)
  change Code.wp _ _ _ _ ((w.alloc (.cells #[tr] 26)).alloc (twO ⟨19, tx, nn, ln, cl, ks⟩ kv))
  rw [← hW]
  clear hW
  go_upto_region 18 with (fail)
  go_quiet (fail)
  go_wp2_with fail
  go_ret
  exact ⟨ret_str (by simp), by first | exact HBE.out | exact bdrew HBE.out _⟩
set_option maxRecDepth 100000 in
set_option maxHeartbeats 2000000 in
theorem stat_19_p1 (t : Tw) (kv : Value) (x0 : List UInt8) (v : Value) (w : World) (tr : Value) (hk : t.kind = 19) (hK : SR w v [x0]) (ht : t.text.length ≤ 1000) (hx0 : x0.length ≤ 1000000) (hn : 0 < t.n) (hn2 : t.n ≤ 2147483647) :
    Calls Tryz.prog 44 #[.agg #[tr], twA t kv, v] w fun e w' => e = .returned (.string ⟨([112, 111, 115, 116, 32] ++ t.text ++ [32] ++ x0 ++ [32, 97, 102, 116, 101, 114, 32] ++ digs t.n.toNat ++ [59]).toArray⟩) ∧ Below w.heap.size w w' := by
  obtain ⟨kd, tx, nn, ln, cl, ks⟩ := t
  simp only at hk ht hn hn2
  subst hk
  obtain ⟨m, rfl⟩ : ∃ m : Nat, nn = m := ⟨nn.toNat, by omega⟩
  rw [Int.toNat_natCast]
  have hdl : (digs m).length ≤ 1000000 := digs_len6 m (by omega)
  have zd := str_size (digs m)
  obtain ⟨A, cap, rfl, hcap, hc⟩ := hK
  have zt := str_size tx
  have z0 := str_size x0
  obtain ⟨g, off, rfl, hg, c0⟩ := hc 0 x0 rfl
  rw [Nat.add_zero] at c0
  obtain ⟨W, hW⟩ : ∃ W : World, W = (w.alloc (.cells #[tr] 26)).alloc (twO ⟨19, tx, (m : Int), ln, cl, ks⟩ kv) := ⟨_, rfl⟩
  have hbe : Below w.heap.size w W := by rw [hW]; exact ((Below.refl _ w).alloc (Nat.le_refl _) _).alloc (by simp) _
  have k1 : W.heap[w.heap.size + 1]? = some (twO ⟨19, tx, (m : Int), ln, cl, ks⟩ kv) := by
    rw [hW]
    have := heap_alloc_new (w.alloc (.cells #[tr] 26)) (twO ⟨19, tx, (m : Int), ln, cl, ks⟩ kv)
    rwa [World.size_alloc] at this
  obtain ⟨p0, p1, p2, p3, p4, p5⟩ := tw_cells k1
  have q0 := (hbe.cell (p := ⟨g, off, none⟩) hg).trans c0
  have HBE := Lib.hid hbe
  clear hc hbe k1 c0
  unfold twA
  go_enter Tryz.func44, Tryz.ntmps44
  go_upto_region 1 with (fail)
  change Code.wp _ _ _ _ ((w.alloc (.cells #[tr] 26)).alloc (twO ⟨19, tx, (m : Int), ln, cl, ks⟩ kv))
  rw [← hW]
  clear hW
  go_upto_region 18 with (fail)
  go_quiet (fail)
  go_wp2_with (go_at_call 71; refine (digits_ok m _ (by omega)).mono ?_; rintro e w1 ⟨rfl, hb1⟩)
  go_ret
  exact ⟨ret_str (by simp), by first | exact HBE.out.trans (hb1.mono HBE.out.size) | exact (bdrew HBE.out _).trans (hb1.mono HBE.out.size)⟩
set_option maxRecDepth 100000 in
set_option maxHeartbeats 2000000 in
theorem stat_20_2 (t : Tw) (kv : Value) (x0 x1 : List UInt8) (v : Value) (w : World) (tr : Value) (hk : t.kind = 20) (hK : SR w v [x0, x1]) (ht : t.text.length ≤ 1000) (hx0 : x0.length ≤ 1000000) (hx1 : x1.length ≤ 1000000) :
    Calls Tryz.prog 44 #[.agg #[tr], twA t kv, v] w fun e w' => e = .returned (.string ⟨([115, 112, 97, 119, 110, 32] ++ x0 ++ [32, 116, 111, 32] ++ x1 ++ [59]).toArray⟩) ∧ Below w.heap.size w w' := by
  obtain ⟨kd, tx, nn, ln, cl, ks⟩ := t
  simp only at hk ht
  subst hk
  obtain ⟨A, cap, rfl, hcap, hc⟩ := hK
  have zt := str_size tx
  have z0 := str_size x0
  have z1 := str_size x1
  obtain ⟨g, off, rfl, hg, c0⟩ := hc 0 x0 rfl
  rw [Nat.add_zero] at c0
  obtain ⟨g1, off1, e1, hg1, c1⟩ := hc 1 x1 rfl
  injection e1 with e1
  injection e1 with e1 eo1
  subst e1
  subst eo1
  obtain ⟨W, hW⟩ : ∃ W : World, W = (w.alloc (.cells #[tr] 26)).alloc (twO ⟨20, tx, nn, ln, cl, ks⟩ kv) := ⟨_, rfl⟩
  have hbe : Below w.heap.size w W := by rw [hW]; exact ((Below.refl _ w).alloc (Nat.le_refl _) _).alloc (by simp) _
  have k1 : W.heap[w.heap.size + 1]? = some (twO ⟨20, tx, nn, ln, cl, ks⟩ kv) := by
    rw [hW]
    have := heap_alloc_new (w.alloc (.cells #[tr] 26)) (twO ⟨20, tx, nn, ln, cl, ks⟩ kv)
    rwa [World.size_alloc] at this
  obtain ⟨p0, p1, p2, p3, p4, p5⟩ := tw_cells k1
  have q0 := (hbe.cell (p := ⟨g, off, none⟩) hg).trans c0
  have q1 := (hbe.cell (p := ⟨g, off + 1, none⟩) hg).trans c1
  have HBE := Lib.hid hbe
  clear hc hbe k1 c0 c1
  unfold twA
  go_enter Tryz.func44, Tryz.ntmps44
  go_upto_region 1 with (fail)
  change Code.wp _ _ _ _ ((w.alloc (.cells #[tr] 26)).alloc (twO ⟨20, tx, nn, ln, cl, ks⟩ kv))
  rw [← hW]
  clear hW
  go_wp2_with fail
  go_ret
  exact ⟨ret_str (by simp), by first | exact HBE.out | exact bdrew HBE.out _⟩
set_option maxRecDepth 100000 in
set_option maxHeartbeats 2000000 in
theorem stat_19_z2 (t : Tw) (kv : Value) (x0 x1 : List UInt8) (v : Value) (w : World) (tr : Value) (hk : t.kind = 19) (hK : SR w v [x0, x1]) (ht : t.text.length ≤ 1000) (hx0 : x0.length ≤ 1000000) (hx1 : x1.length ≤ 1000000) (hn : t.n = 0) :
    Calls Tryz.prog 44 #[.agg #[tr], twA t kv, v] w fun e w' => e = .returned (.string ⟨([112, 111, 115, 116, 32] ++ t.text ++ [32] ++ x0 ++ [32, 116, 111, 32] ++ x1 ++ [59]).toArray⟩) ∧ Below w.heap.size w w' := by
  obtain ⟨kd, tx, nn, ln, cl, ks⟩ := t
  simp only at hk ht hn
  subst hk
  subst hn
  obtain ⟨A, cap, rfl, hcap, hc⟩ := hK
  have zt := str_size tx
  have z0 := str_size x0
  have z1 := str_size x1
  obtain ⟨g, off, rfl, hg, c0⟩ := hc 0 x0 rfl
  rw [Nat.add_zero] at c0
  obtain ⟨g1, off1, e1, hg1, c1⟩ := hc 1 x1 rfl
  injection e1 with e1
  injection e1 with e1 eo1
  subst e1
  subst eo1
  obtain ⟨W, hW⟩ : ∃ W : World, W = (w.alloc (.cells #[tr] 26)).alloc (twO ⟨19, tx, 0, ln, cl, ks⟩ kv) := ⟨_, rfl⟩
  have hbe : Below w.heap.size w W := by rw [hW]; exact ((Below.refl _ w).alloc (Nat.le_refl _) _).alloc (by simp) _
  have k1 : W.heap[w.heap.size + 1]? = some (twO ⟨19, tx, 0, ln, cl, ks⟩ kv) := by
    rw [hW]
    have := heap_alloc_new (w.alloc (.cells #[tr] 26)) (twO ⟨19, tx, 0, ln, cl, ks⟩ kv)
    rwa [World.size_alloc] at this
  obtain ⟨p0, p1, p2, p3, p4, p5⟩ := tw_cells k1
  have q0 := (hbe.cell (p := ⟨g, off, none⟩) hg).trans c0
  have q1 := (hbe.cell (p := ⟨g, off + 1, none⟩) hg).trans c1
  have HBE := Lib.hid hbe
  clear hc hbe k1 c0 c1
  unfold twA
  go_enter Tryz.func44, Tryz.ntmps44
  go_upto_region 1 with (fail)
  change Code.wp _ _ _ _ ((w.alloc (.cells #[tr] 26)).alloc (twO ⟨19, tx, 0, ln, cl, ks⟩ kv))
  rw [← hW]
  clear hW
  go_upto_region 18 with (fail)
  go_quiet (fail)
  go_wp2_with fail
  go_ret
  exact ⟨ret_str (by simp), by first | exact HBE.out | exact bdrew HBE.out _⟩
set_option maxRecDepth 100000 in
set_option maxHeartbeats 2000000 in
theorem stat_19_m2 (t : Tw) (kv : Value) (x0 x1 : List UInt8) (v : Value) (w : World) (tr : Value) (hk : t.kind = 19) (hK : SR w v [x0, x1]) (ht : t.text.length ≤ 1000) (hx0 : x0.length ≤ 1000000) (hx1 : x1.length ≤ 1000000) (hn : t.n < 0) :
    Calls Tryz.prog 44 #[.agg #[tr], twA t kv, v] w fun e w' => e = .returned (.string ⟨([112, 111, 115, 116, 32] ++ t.text ++ [32] ++ x0 ++ [32, 102, 114, 111, 110, 116] ++ [32, 116, 111, 32] ++ x1 ++ [59]).toArray⟩) ∧ Below w.heap.size w w' := by
  obtain ⟨kd, tx, nn, ln, cl, ks⟩ := t
  simp only at hk ht hn
  subst hk
  obtain ⟨A, cap, rfl, hcap, hc⟩ := hK
  have zt := str_size tx
  have z0 := str_size x0
  have z1 := str_size x1
  obtain ⟨g, off, rfl, hg, c0⟩ := hc 0 x0 rfl
  rw [Nat.add_zero] at c0
  obtain ⟨g1, off1, e1, hg1, c1⟩ := hc 1 x1 rfl
  injection e1 with e1
  injection e1 with e1 eo1
  subst e1
  subst eo1
  obtain ⟨W, hW⟩ : ∃ W : World, W = (w.alloc (.cells #[tr] 26)).alloc (twO ⟨19, tx, nn, ln, cl, ks⟩ kv) := ⟨_, rfl⟩
  have hbe : Below w.heap.size w W := by rw [hW]; exact ((Below.refl _ w).alloc (Nat.le_refl _) _).alloc (by simp) _
  have k1 : W.heap[w.heap.size + 1]? = some (twO ⟨19, tx, nn, ln, cl, ks⟩ kv) := by
    rw [hW]
    have := heap_alloc_new (w.alloc (.cells #[tr] 26)) (twO ⟨19, tx, nn, ln, cl, ks⟩ kv)
    rwa [World.size_alloc] at this
  obtain ⟨p0, p1, p2, p3, p4, p5⟩ := tw_cells k1
  have q0 := (hbe.cell (p := ⟨g, off, none⟩) hg).trans c0
  have q1 := (hbe.cell (p := ⟨g, off + 1, none⟩) hg).trans c1
  have HBE := Lib.hid hbe
  clear hc hbe k1 c0 c1
  unfold twA
  go_enter Tryz.func44, Tryz.ntmps44
  go_upto_region 1 with (fail)
  change Code.wp _ _ _ _ ((w.alloc (.cells #[tr] 26)).alloc (twO ⟨19, tx, nn, ln, cl, ks⟩ kv))
  rw [← hW]
  clear hW
  go_upto_region 18 with (fail)
  go_quiet (fail)
  go_wp2_with fail
  go_ret
  exact ⟨ret_str (by simp), by first | exact HBE.out | exact bdrew HBE.out _⟩
set_option maxRecDepth 100000 in
set_option maxHeartbeats 2000000 in
theorem stat_19_p2 (t : Tw) (kv : Value) (x0 x1 : List UInt8) (v : Value) (w : World) (tr : Value) (hk : t.kind = 19) (hK : SR w v [x0, x1]) (ht : t.text.length ≤ 1000) (hx0 : x0.length ≤ 1000000) (hx1 : x1.length ≤ 1000000) (hn : 0 < t.n) (hn2 : t.n ≤ 2147483647) :
    Calls Tryz.prog 44 #[.agg #[tr], twA t kv, v] w fun e w' => e = .returned (.string ⟨([112, 111, 115, 116, 32] ++ t.text ++ [32] ++ x0 ++ [32, 97, 102, 116, 101, 114, 32] ++ digs t.n.toNat ++ [32, 116, 111, 32] ++ x1 ++ [59]).toArray⟩) ∧ Below w.heap.size w w' := by
  obtain ⟨kd, tx, nn, ln, cl, ks⟩ := t
  simp only at hk ht hn hn2
  subst hk
  obtain ⟨m, rfl⟩ : ∃ m : Nat, nn = m := ⟨nn.toNat, by omega⟩
  rw [Int.toNat_natCast]
  have hdl : (digs m).length ≤ 1000000 := digs_len6 m (by omega)
  have zd := str_size (digs m)
  obtain ⟨A, cap, rfl, hcap, hc⟩ := hK
  have zt := str_size tx
  have z0 := str_size x0
  have z1 := str_size x1
  obtain ⟨g, off, rfl, hg, c0⟩ := hc 0 x0 rfl
  rw [Nat.add_zero] at c0
  obtain ⟨g1, off1, e1, hg1, c1⟩ := hc 1 x1 rfl
  injection e1 with e1
  injection e1 with e1 eo1
  subst e1
  subst eo1
  obtain ⟨W, hW⟩ : ∃ W : World, W = (w.alloc (.cells #[tr] 26)).alloc (twO ⟨19, tx, (m : Int), ln, cl, ks⟩ kv) := ⟨_, rfl⟩
  have hbe : Below w.heap.size w W := by rw [hW]; exact ((Below.refl _ w).alloc (Nat.le_refl _) _).alloc (by simp) _
  have k1 : W.heap[w.heap.size + 1]? = some (twO ⟨19, tx, (m : Int), ln, cl, ks⟩ kv) := by
    rw [hW]
    have := heap_alloc_new (w.alloc (.cells #[tr] 26)) (twO ⟨19, tx, (m : Int), ln, cl, ks⟩ kv)
    rwa [World.size_alloc] at this
  obtain ⟨p0, p1, p2, p3, p4, p5⟩ := tw_cells k1
  have q0 := (hbe.cell (p := ⟨g, off, none⟩) hg).trans c0
  have q1 := (hbe.cell (p := ⟨g, off + 1, none⟩) hg).trans c1
  have HBE := Lib.hid hbe
  clear hc hbe k1 c0 c1
  unfold twA
  go_enter Tryz.func44, Tryz.ntmps44
  go_upto_region 1 with (fail)
  change Code.wp _ _ _ _ ((w.alloc (.cells #[tr] 26)).alloc (twO ⟨19, tx, (m : Int), ln, cl, ks⟩ kv))
  rw [← hW]
  clear hW
  go_upto_region 18 with (fail)
  go_quiet (fail)
  go_wp2_with (go_at_call 71; refine (digits_ok m _ (by omega)).mono ?_; rintro e w1 ⟨rfl, hb1⟩)
  go_ret
  exact ⟨ret_str (by simp), by first | exact HBE.out.trans (hb1.mono HBE.out.size) | exact (bdrew HBE.out _).trans (hb1.mono HBE.out.size)⟩
end Go.Proofs.YtehdljcmeimbcaaGreat

namespace Go.Proofs.YtehdljcmeimbcaaGreat
open Go.RowKit
set_option linter.unusedVariables false
set_option linter.unusedSimpArgs false

def spaced (K : List (List UInt8)) : List UInt8 := K.flatMap fun x => [32] ++ x
theorem spaced_snoc (K : List (List UInt8)) (x : List UInt8) : spaced (K ++ [x]) = spaced K ++ ([32] ++ x) := by simp [spaced]
theorem spaced_len (B : Nat) : ∀ K : List (List UInt8), (∀ x ∈ K, x.length ≤ B) → (spaced K).length ≤ K.length * (B + 1)
  | [], _ => by simp [spaced]
  | x :: K, h => by
    have ih := spaced_len B K (fun y hy => h y (List.mem_cons_of_mem _ hy))
    have hx := h x List.mem_cons_self
    have e : spaced (x :: K) = ([32] ++ x) ++ spaced K := by simp [spaced]
    rw [e, List.length_append, List.length_cons, Nat.add_mul]
    simp only [List.length_append, List.length_cons, List.length_nil]
    omega

set_option maxRecDepth 100000 in
set_option maxHeartbeats 2000000 in
theorem decl_3 (t : Tw) (kv : Value) (K : List (List UInt8)) (v : Value) (w : World) (hk : t.kind = 3) (hK : SR w v K) (ht : t.text.length ≤ 1000) (hx : ∀ x ∈ K, x.length ≤ 1000000) (hl : K.length ≤ 1000) :
    Calls Tryz.prog 45 #[twA t kv, v] w fun e w' => e = .returned (.string ⟨([99, 108, 97, 115, 115, 32] ++ t.text ++ [32, 123] ++ spaced K ++ [32, 125]).toArray⟩) ∧ Below w.heap.size w w' := by
  obtain ⟨kd, tx, nn, ln, cl, ks⟩ := t
  simp only at hk ht
  subst hk
  obtain ⟨A, cap, rfl, hcap, hc⟩ := hK
  have zt := str_size tx
  obtain ⟨W, hW⟩ : ∃ W : World, W = w.alloc (twO ⟨3, tx, nn, ln, cl, ks⟩ kv) := ⟨_, rfl⟩
  have hbe : Below w.heap.size w W := by rw [hW]; exact (Below.refl _ w).alloc (Nat.le_refl _) _
  have k1 : W.heap[w.heap.size]? = some (twO ⟨3, tx, nn, ln, cl, ks⟩ kv) := by
    rw [hW]
    exact heap_alloc_new w _
  obtain ⟨p0, p1, p2, p3, p4, p5⟩ := tw_cells k1
  have HBE := Lib.hid hbe
  have HC := Lib.hid hc
  have HX := Lib.hid hx
  clear hc hbe k1 hx
  unfold twA
  go_enter Tryz.func45, Tryz.ntmps45
  go_upto_region 1 with (fail)
  change Code.wp _ _ _ _ (w.alloc (twO ⟨3, tx, nn, ln, cl, ks⟩ kv))
  rw [← hW]
  clear hW
  go_wp2_with fail
  go_loopg [5, 6] K.length (fun n v5 v6 wr => ∃ i nq : Nat, i + n = K.length ∧ v6 = .int .i64 i ∧ v5 = .string ⟨([99, 108, 97, 115, 115, 32] ++ tx ++ [32, 123] ++ spaced (K.take i)).toArray⟩ ∧ wr = W.drewN nq)
  case atStart => exact ⟨0, 0, by omega, rfl, congrArg Value.string (str_ext (by simp [spaced])), rfl⟩
  case round =>
    obtain ⟨i, nq, hin, rfl, rfl, rfl⟩ := hrel
    have hll := spaced_len 1000000 (K.take i) (fun x hx => HX.out x (List.mem_of_mem_take hx))
    have htl : (K.take i).length ≤ 1000 := by rw [List.length_take]; omega
    have hmul : (K.take i).length * (1000000 + 1) ≤ 1000 * (1000000 + 1) := Nat.mul_le_mul_right _ htl
    obtain ⟨S, hS⟩ : ∃ S, S = [99, 108, 97, 115, 115, 32] ++ tx ++ [32, 123] ++ spaced (K.take i) := ⟨_, rfl⟩
    have hSl : S.length ≤ 1000003005 := by rw [hS, List.length_append]; simp; omega
    rw [← hS]
    have hSz := str_size S
    have HS := Lib.hid hS
    clear hS hll htl hmul p0 p1 p2 p3 p4 p5
    by_cases hlt : i < K.length
    · have hi := List.getElem?_eq_getElem hlt
      have hxl := HX.out _ (List.mem_of_getElem? hi)
      obtain ⟨g, off, rfl, hg, hcell0⟩ := HC.out i _ hi
      have hcell := (HBE.out.cell (p := ⟨g, off + i, none⟩) hg).trans hcell0
      have hT : K.take (i + 1) = K.take i ++ [K[i]] := List.take_succ_eq_append_getElem hlt
      generalize K[i] = x at *
      have hxz := str_size x
      have HT := Lib.hid hT
      clear hT hi hcell0
      go_wp2_with fail
      go_roundg (K.length - (i + 1))
      case measure => omega
      case rel =>
        refine ⟨i + 1, nq, by omega, by go_num, congrArg Value.string (str_ext ?_), rfl⟩
        rw [HT.out, spaced_snoc]
        simp [HS.out]
    · obtain rfl : i = K.length := by omega
      have hT : K.take K.length = K := List.take_of_length_le (Nat.le_refl _)
      have HT := Lib.hid hT
      clear hT
      go_wp2_with fail
      go_ret
      refine ⟨ret_str ?_, bdrew HBE.out _⟩
      have := HS.out
      rw [HT.out] at this
      simp [this]

def longT (R : List Tw) : Bool := R.any fun t => decide (100 < t.text.length)
set_option maxRecDepth 100000 in
set_option maxHeartbeats 2000000 in
theorem much_ok (R : List Tw) (va : Value) (w : World) (hR : RdO w va R) (hn : R.length ≤ 9223372036854775807) :
    Calls Tryz.prog 12 #[.agg #[va], .int .i64 300] w fun e w' => (∃ b, e = .returned (.bool b) ∧ (b = false → R.length ≤ 300 ∧ ∀ t ∈ R, t.text.length ≤ 100)) ∧ Below w.heap.size w w' := by
  obtain ⟨A, ca, rfl, ha⟩ := hR
  obtain ⟨W, hW⟩ : ∃ W : World, W = w.alloc (.cells #[.slice A R.length ca] 26) := ⟨_, rfl⟩
  have hbe : Below w.heap.size w W := by rw [hW]; exact (Below.refl _ w).alloc (Nat.le_refl _) _
  have k0 : W.heap[w.heap.size]? = some (.cells #[.slice A R.length ca] 26 (0, 0)) := by
    rw [hW]
    exact heap_alloc_new w _
  have q0 := cell_of_one k0
  have HBE := Lib.hid hbe
  have HA := Lib.hid ha
  clear ha hbe k0
  go_enter Tryz.func12, Tryz.ntmps12
  go_wp2_with fail
  change Code.wp _ _ _ _ (w.alloc (.cells #[.slice A R.length ca] 26))
  rw [← hW]
  clear hW
  go_loopg [5] 300 (fun n v5 wr => ∃ i nq : Nat, i + n = 300 ∧ i ≤ R.length ∧ v5 = .int .i64 i ∧ wr = W.drewN nq ∧ ∀ t ∈ R.take i, t.text.length ≤ 100)
  case atStart => exact ⟨0, 0, by omega, by omega, rfl, rfl, fun t h => by simp at h⟩
  case round =>
    obtain ⟨i, nq, hin, hir, rfl, rfl, hall⟩ := hrel
    have HALL := Lib.hid hall
    clear hall
    by_cases hlt : i < R.length
    · by_cases h300 : i < 300
      · have hi := List.getElem?_eq_getElem hlt
        obtain ⟨g, off, kv, rfl, hg, _, hc⟩ := HA.out i _ hi
        have hcell := (HBE.out.cell (p := ⟨g, off + i * 6 + 1, none⟩) hg).trans (hc 1 _ rfl)
        have hT : R.take (i + 1) = R.take i ++ [R[i]] := List.take_succ_eq_append_getElem hlt
        generalize R[i] = t at *
        have hz := str_size t.text
        have HTK := Lib.hid hT
        clear hT hi hc
        by_cases h100 : 100 < t.text.length
        · go_wp2_with fail
          go_ret
          exact ⟨⟨true, rfl, fun h => by cases h⟩, bdrew HBE.out _⟩
        · go_wp2_with fail
          go_roundg (300 - (i + 1))
          case measure => omega
          case rel =>
            refine ⟨i + 1, nq, by omega, by omega, by go_num, rfl, fun x hx => ?_⟩
            rw [HTK.out, List.mem_append] at hx
            rcases hx with hx | hx
            · exact HALL.out x hx
            · obtain rfl : x = t := by simpa using hx
              omega
      · go_wp2_with fail
        go_ret
        exact ⟨⟨_, rfl, fun h => by simp at h; omega⟩, bdrew HBE.out _⟩
    · obtain rfl : i = R.length := by omega
      have hle : R.length ≤ 300 := by omega
      have hT : R.take R.length = R := List.take_of_length_le (Nat.le_refl _)
      have hall := HALL.out
      rw [hT] at hall
      have HALL2 := Lib.hid hall
      clear hall hT
      go_wp2_with fail
      go_ret
      exact ⟨⟨_, rfl, fun _ => ⟨hle, HALL2.out⟩⟩, bdrew HBE.out _⟩
end Go.Proofs.YtehdljcmeimbcaaGreat

namespace Go.Proofs.YtehdljcmeimbcaaGreat
open Go.RowKit
set_option linter.unusedVariables false
set_option linter.unusedSimpArgs false
set_option maxRecDepth 100000 in
set_option maxHeartbeats 2000000 in
theorem stat_23a (t : Tw) (kv : Value) (x0 x1 x2 : List UInt8) (v : Value) (w : World) (R : List Tw) (tr : Value) (k2 : Nat) (y : Tw) (hk : t.kind = 23) (hK : SR w v [x0, x1, x2]) (ht : t.text.length ≤ 1000) (hx0 : x0.length ≤ 1000000) (hx1 : x1.length ≤ 1000000) (hx2 : x2.length ≤ 1000000) (hR : RdO w tr R) (hkd : KidO w kv t.kids) (h2 : t.kids[2]? = some (k2 : Int)) (hy : R[k2]? = some y) (hn : 0 < y.kids.length) :
    Calls Tryz.prog 44 #[.agg #[tr], twA t kv, v] w fun e w' => e = .returned (.string ⟨([105, 102, 32] ++ x0 ++ [32] ++ x1 ++ [32, 101, 108, 115, 101, 32] ++ x2).toArray⟩) ∧ Below w.heap.size w w' := by
  obtain ⟨kd, tx, nn, ln, cl, ks⟩ := t
  simp only at hk ht h2
  subst hk
  obtain ⟨TA, tc, rfl, ha⟩ := hR
  obtain ⟨KA, kc, rfl, hkk⟩ := hkd
  obtain ⟨gy, oy, kvy, rfl, hgy, hky, hcy⟩ := ha k2 y hy
  obtain ⟨YA, yc, rfl, _⟩ := hky
  obtain ⟨gk, ok, rfl, hgk, hck⟩ := hkk 2 _ h2
  have hk2l := (List.getElem?_eq_some_iff.1 hy).1
  have h2l := (List.getElem?_eq_some_iff.1 h2).1
  have cy := hcy 5 _ rfl
  obtain ⟨A, cap, rfl, hcap, hc⟩ := hK
  have zt := str_size tx
  have z0 := str_size x0
  have z1 := str_size x1
  have z2 := str_size x2
  obtain ⟨g, off, rfl, hg, c0⟩ := hc 0 x0 rfl
  rw [Nat.add_zero] at c0
  obtain ⟨g1, off1, e1, hg1, c1⟩ := hc 1 x1 rfl
  injection e1 with e1
  injection e1 with e1 eo1
  subst e1
  subst eo1
  obtain ⟨g2, off2, e2, hg2, c2⟩ := hc 2 x2 rfl
  injection e2 with e2
  injection e2 with e2 eo2
  subst e2
  subst eo2
  obtain ⟨W, hW⟩ : ∃ W : World, W = (w.alloc (.cells #[.slice (some ⟨gy, oy, none⟩) R.length tc] 26)).alloc (twO ⟨23, tx, nn, ln, cl, ks⟩ (.slice (some ⟨gk, ok, none⟩) ks.length kc)) := ⟨_, rfl⟩
  have hbe : Below w.heap.size w W := by rw [hW]; exact ((Below.refl _ w).alloc (Nat.le_refl _) _).alloc (by simp) _
  have k1 : W.heap[w.heap.size + 1]? = some (twO ⟨23, tx, nn, ln, cl, ks⟩ (.slice (some ⟨gk, ok, none⟩) ks.length kc)) := by
    rw [hW]
    have := heap_alloc_new (w.alloc (.cells #[.slice (some ⟨gy, oy, none⟩) R.length tc] 26)) (twO ⟨23, tx, nn, ln, cl, ks⟩ (.slice (some ⟨gk, ok, none⟩) ks.length kc))
    rwa [World.size_alloc] at this
  obtain ⟨p0, p1, p2, p3, p4, p5⟩ := tw_cells k1
  have q0 := (hbe.cell (p := ⟨g, off, none⟩) hg).trans c0
  have q1 := (hbe.cell (p := ⟨g, off + 1, none⟩) hg).trans c1
  have q2 := (hbe.cell (p := ⟨g, off + 2, none⟩) hg).trans c2
  have kt : W.heap[w.heap.size]? = some (.cells #[.slice (some ⟨gy, oy, none⟩) R.length tc] 26 (0, 0)) := by
    rw [hW, Below.heap_alloc _ _ _ (by simp)]
    exact heap_alloc_new w _
  have qt := cell_of_one kt
  have qk := (hbe.cell (p := ⟨gk, ok + 2, none⟩) hgk).trans hck
  have qy := (hbe.cell (p := ⟨gy, oy + k2 * 6 + 5, none⟩) hgy).trans cy
  clear ha hkk hcy cy hck kt hy h2
  have HBE := Lib.hid hbe
  clear hc hbe k1 c0 c1 c2
  unfold twA
  go_enter Tryz.func44, Tryz.ntmps44
  go_upto_region 1 with (fail)
  change Code.wp _ _ _ _ ((w.alloc (.cells #[.slice (some ⟨gy, oy, none⟩) R.length tc] 26)).alloc (twO ⟨23, tx, nn, ln, cl, ks⟩ (.slice (some ⟨gk, ok, none⟩) ks.length kc)))
  rw [← hW]
  clear hW
  go_upto_region 33 with (fail)
  go_quiet (fail)
  go_upto_region 34 with (fail)
  go_quiet (fail)
  go_wp2_with fail
  go_ret
  exact ⟨ret_str (by simp), by first | exact HBE.out | exact bdrew HBE.out _⟩
set_option maxRecDepth 100000 in
set_option maxHeartbeats 2000000 in
theorem stat_23b (t : Tw) (kv : Value) (x0 x1 x2 : List UInt8) (v : Value) (w : World) (R : List Tw) (tr : Value) (k2 : Nat) (y : Tw) (hk : t.kind = 23) (hK : SR w v [x0, x1, x2]) (ht : t.text.length ≤ 1000) (hx0 : x0.length ≤ 1000000) (hx1 : x1.length ≤ 1000000) (hx2 : x2.length ≤ 1000000) (hR : RdO w tr R) (hkd : KidO w kv t.kids) (h2 : t.kids[2]? = some (k2 : Int)) (hy : R[k2]? = some y) (hn : y.kids.length = 0) :
    Calls Tryz.prog 44 #[.agg #[tr], twA t kv, v] w fun e w' => e = .returned (.string ⟨([105, 102, 32] ++ x0 ++ [32] ++ x1).toArray⟩) ∧ Below w.heap.size w w' := by
  obtain ⟨kd, tx, nn, ln, cl, ks⟩ := t
  simp only at hk ht h2
  subst hk
  obtain ⟨TA, tc, rfl, ha⟩ := hR
  obtain ⟨KA, kc, rfl, hkk⟩ := hkd
  obtain ⟨gy, oy, kvy, rfl, hgy, hky, hcy⟩ := ha k2 y hy
  obtain ⟨YA, yc, rfl, _⟩ := hky
  obtain ⟨gk, ok, rfl, hgk, hck⟩ := hkk 2 _ h2
  have hk2l := (List.getElem?_eq_some_iff.1 hy).1
  have h2l := (List.getElem?_eq_some_iff.1 h2).1
  have cy := hcy 5 _ rfl
  obtain ⟨A, cap, rfl, hcap, hc⟩ := hK
  have zt := str_size tx
  have z0 := str_size x0
  have z1 := str_size x1
  have z2 := str_size x2
  obtain ⟨g, off, rfl, hg, c0⟩ := hc 0 x0 rfl
  rw [Nat.add_zero] at c0
  obtain ⟨g1, off1, e1, hg1, c1⟩ := hc 1 x1 rfl
  injection e1 with e1
  injection e1 with e1 eo1
  subst e1
  subst eo1
  obtain ⟨g2, off2, e2, hg2, c2⟩ := hc 2 x2 rfl
  injection e2 with e2
  injection e2 with e2 eo2
  subst e2
  subst eo2
  obtain ⟨W, hW⟩ : ∃ W : World, W = (w.alloc (.cells #[.slice (some ⟨gy, oy, none⟩) R.length tc] 26)).alloc (twO ⟨23, tx, nn, ln, cl, ks⟩ (.slice (some ⟨gk, ok, none⟩) ks.length kc)) := ⟨_, rfl⟩
  have hbe : Below w.heap.size w W := by rw [hW]; exact ((Below.refl _ w).alloc (Nat.le_refl _) _).alloc (by simp) _
  have k1 : W.heap[w.heap.size + 1]? = some (twO ⟨23, tx, nn, ln, cl, ks⟩ (.slice (some ⟨gk, ok, none⟩) ks.length kc)) := by
    rw [hW]
    have := heap_alloc_new (w.alloc (.cells #[.slice (some ⟨gy, oy, none⟩) R.length tc] 26)) (twO ⟨23, tx, nn, ln, cl, ks⟩ (.slice (some ⟨gk, ok, none⟩) ks.length kc))
    rwa [World.size_alloc] at this
  obtain ⟨p0, p1, p2, p3, p4, p5⟩ := tw_cells k1
  have q0 := (hbe.cell (p := ⟨g, off, none⟩) hg).trans c0
  have q1 := (hbe.cell (p := ⟨g, off + 1, none⟩) hg).trans c1
  have q2 := (hbe.cell (p := ⟨g, off + 2, none⟩) hg).trans c2
  have kt : W.heap[w.heap.size]? = some (.cells #[.slice (some ⟨gy, oy, none⟩) R.length tc] 26 (0, 0)) := by
    rw [hW, Below.heap_alloc _ _ _ (by simp)]
    exact heap_alloc_new w _
  have qt := cell_of_one kt
  have qk := (hbe.cell (p := ⟨gk, ok + 2, none⟩) hgk).trans hck
  have qy := (hbe.cell (p := ⟨gy, oy + k2 * 6 + 5, none⟩) hgy).trans cy
  clear ha hkk hcy cy hck kt hy h2
  have HBE := Lib.hid hbe
  clear hc hbe k1 c0 c1 c2
  unfold twA
  go_enter Tryz.func44, Tryz.ntmps44
  go_upto_region 1 with (fail)
  change Code.wp _ _ _ _ ((w.alloc (.cells #[.slice (some ⟨gy, oy, none⟩) R.length tc] 26)).alloc (twO ⟨23, tx, nn, ln, cl, ks⟩ (.slice (some ⟨gk, ok, none⟩) ks.length kc)))
  rw [← hW]
  clear hW
  go_upto_region 33 with (fail)
  go_quiet (fail)
  go_upto_region 34 with (fail)
  go_quiet (fail)
  go_wp2_with fail
  go_ret
  exact ⟨ret_str (by simp), by first | exact HBE.out | exact bdrew HBE.out _⟩
end Go.Proofs.YtehdljcmeimbcaaGreat

namespace Go.Proofs.YtehdljcmeimbcaaGreat
set_option linter.unusedVariables false
set_option linter.unusedSimpArgs false

theorem Pg.puts_app (p : Pg) (a b : List Pa) : p.puts (a ++ b) = (p.puts a).puts b := by simp [Pg.puts]
theorem Pg.puts_nil (p : Pg) : p.puts [] = p := rfl
theorem Pg.puts_tok (p : Pg) (s : List UInt8) (r : List Pa) : p.puts (.tok s :: r) = (Pg.mk (p.text ++ glue p.last s p.margin ++ s) s p.margin).puts r := rfl
theorem Pg.puts_line (p : Pg) (k : Int) (r : List Pa) : p.puts (.line k :: r) = (Pg.mk (p.text ++ [10]) [] (p.margin + k)).puts r := rfl

theorem glue_ap {a s : List UInt8} {m : Int} (h0 : a ≠ []) (h1 : opens a = false) (h2 : closes s = false) : glue a s m = [32] := by
  simp [glue, h0, apart, h1, h2]
theorem glue_cl {a s : List UInt8} {m : Int} (h0 : a ≠ []) (h2 : closes s = true) : glue a s m = [] := by
  simp [glue, h0, apart, h2]
theorem glue_op {a s : List UInt8} {m : Int} (h0 : a ≠ []) (h1 : opens a = true) : glue a s m = [] := by
  simp [glue, h0, apart, h1]
theorem glue_nl {s : List UInt8} {m : Int} : glue [] s m = blanks m := by simp [glue]

/-- Parts that are put as one text, whatever stands ahead. -/
def Gp (q : List Pa) (t : Int → List UInt8) : Prop :=
  ∃ a z, closes a = false ∧ opens z = false ∧ z ≠ [] ∧ ∀ (x l : List UInt8) (m : Int), 0 ≤ m → (Pg.mk x l m).puts q = ⟨x ++ glue l a m ++ t m, z, m⟩

/-- A token that stands apart from others. -/
def Ok1 (s : List UInt8) : Prop := closes s = false ∧ opens s = false ∧ s ≠ []

theorem gp_par {q : List Pa} {t : Int → List UInt8} (b : Bool) (h : Gp q t) : Gp (inPar b q) (fun m => parT b (t m)) := by
  cases b with
  | false => simpa [inPar, parT] using h
  | true =>
    obtain ⟨a, z, h1, h2, h3, h4⟩ := h
    refine ⟨[40], [41], by decide, by decide, by decide, fun x l m hm => ?_⟩
    simp only [inPar, if_true, parT]
    rw [Pg.puts_tok, Pg.puts_app, h4 _ _ _ hm, Pg.puts_tok, Pg.puts_nil]
    rw [glue_op (a := [40]) (by decide) (by decide), glue_cl h3 (by decide)]
    simp

theorem rowOk_lenP : ∀ (aq : List (Int → Bool)) (l : List Int), rowOk aq noK l = true → l.length = aq.length
  | [], l, h => by
    cases l with
    | nil => rfl
    | cons x r => simp [rowOk, noK] at h
  | a :: aq, [], h => by simp [rowOk] at h
  | a :: aq, x :: l, h => by
    simp only [rowOk, Bool.and_eq_true] at h
    simp [rowOk_lenP aq l h.2]

/-- The texts of the trees of a forest, by the blanks ahead of their lines. -/
def Fo.fts (p : Nd) : Nat → Fo → List (Int → List UInt8)
  | _, .nil => []
  | i, .cons d k r => (fun m => parT (prn p i d) (joinT d m k.more (k.txts d m 0))) :: r.fts p (i + 1)
theorem Fo.fts_len (p : Nd) : ∀ (f : Fo) (i : Nat), (f.fts p i).length = f.len
  | .nil, _ => rfl
  | .cons d k r, i => by simp [fts, fts_len p r, len, nds]
theorem Fo.seqs_len (p : Nd) : ∀ (f : Fo) (i : Nat), (f.seqs p i).length = f.len
  | .nil, _ => rfl
  | .cons d k r, i => by simp [seqs, seqs_len p r, len, nds]
theorem Fo.txts_len (p : Nd) (m : Int) : ∀ (f : Fo) (i : Nat), (f.txts p m i).length = f.len
  | .nil, _ => rfl
  | .cons d k r, i => by simp [txts, txts_len p m r, len, nds]
theorem txts_plain (p : Nd) (h : ¬ p.kind = 12) (h8 : ¬ p.kind = 8) (m : Int) : ∀ (f : Fo) (i : Nat), f.txts p m i = (f.fts p i).map (· m)
  | .nil, _ => rfl
  | .cons d k r, i => by
    have e : deepOf p i m = m := by simp [deepOf, h, h8]
    simp only [Fo.txts, Fo.fts, List.map_cons, txts_plain p h h8 m r, e]
theorem txts_deep (p : Nd) (m : Int) : ∀ (f : Fo) (i : Nat), (p.kind = 12 ∨ (p.kind = 8 ∧ 0 < i)) → f.txts p m i = (f.fts p i).map (· (m + 2))
  | .nil, _, _ => rfl
  | .cons d k r, i, h => by
    have e : deepOf p i m = m + 2 := by simp [deepOf, h]
    simp only [Fo.txts, Fo.fts, List.map_cons, txts_deep p m r (i + 1) (h.imp id (fun h => ⟨h.1, by omega⟩)), e]

inductive GpAll : List (List Pa) → List (Int → List UInt8) → Prop
  | nil : GpAll [] []
  | cons {q t Q T} : Gp q t → GpAll Q T → GpAll (q :: Q) (t :: T)
theorem GpAll.len {Q T} (h : GpAll Q T) : Q.length = T.length := by
  induction h with
  | nil => rfl
  | cons _ _ ih => simp [ih]

theorem blanks_two (m : Int) (h : 0 ≤ m) : blanks (m + 2) = blanks m ++ [32, 32] := by
  unfold blanks
  have : (m + 2).toNat = m.toNat + 2 := by omega
  rw [this, ← List.replicate_append_replicate]; rfl

theorem getD_mid (Q1 : List (List Pa)) (q : List Pa) (Q : List (List Pa)) : (Q1 ++ q :: Q).getD Q1.length [] = q := by
  simp [List.getD]

theorem puts_lines : ∀ (Q : List (List Pa)) (T : List (Int → List UInt8)), GpAll Q T → Q ≠ [] → ∀ (Q1 : List (List Pa)) (p : Pg), p.last = [] → 2 ≤ p.margin →
    p.puts ((kidLines (Q1.length + Q.length) Q.length Q1.length).flatMap (put (Q1 ++ Q))) = ⟨p.text ++ T.flatMap (fun t => blanks p.margin ++ t p.margin ++ [10]), [], p.margin - 2⟩
  | [], _, _, h0, _, _, _, _ => absurd rfl h0
  | q :: Q, _, .cons (t := t) (T := T) hq hQ, _, Q1, p, hp, hm => by
    obtain ⟨a, z, h1, h2, h3, h4⟩ := hq
    simp only [List.length_cons, kidLines, List.flatMap_cons, put, getD_mid, Pg.puts_app]
    obtain ⟨px, pl, pm⟩ := p
    simp only at hp hm
    subst hp
    rw [h4 px [] pm (by omega), glue_nl]
    simp only [List.cons_append, List.nil_append, Pg.puts_line]
    by_cases hl : Q = []
    · subst hl
      cases hQ
      simp only [List.length_nil, kidLines, List.flatMap_nil, Pg.puts_nil]
      rw [if_pos (by simp)]
      simp; omega
    · have hl' : 0 < Q.length := by cases Q with
        | nil => exact absurd rfl hl
        | cons _ _ => simp
      rw [if_neg (by omega)]
      have ih := puts_lines Q T hQ hl (Q1 ++ [q]) ⟨px ++ blanks pm ++ t pm ++ [10], [], pm + 0⟩ rfl (by simpa using hm)
      simp only [List.length_append, List.length_cons, List.length_nil, List.append_assoc, List.cons_append, List.nil_append, Int.add_zero] at ih
      rw [show Q1.length + (Q.length + 1) = Q1.length + (0 + 1) + Q.length by omega]
      simp only [List.append_assoc, Int.add_zero, Pg.puts_nil]
      rw [ih]
      simp

theorem gp_braced (Q1 Q : List (List Pa)) (T : List (Int → List UInt8)) (h : GpAll Q T) : Gp ((braced (Q1 ++ Q).length Q1.length).flatMap (put (Q1 ++ Q))) (fun m => bracesT (T.map (· (m + 2))) m) := by
  refine ⟨[123], [125], by decide, by decide, by decide, fun px pl pm hp => ?_⟩
  cases h with
  | nil =>
    simp only [List.append_nil, braced, if_true, List.flatMap_cons, put, List.flatMap_nil, List.cons_append, List.nil_append, Pg.puts_tok, Pg.puts_nil, List.map_nil, bracesT]
    rw [glue_ap (a := [123]) (s := [125]) (by decide) (by decide) (by decide)]
    simp
  | cons hq hQ =>
    rename_i q t Q T
    have hne : ¬ (Q1 ++ q :: Q).length = Q1.length := by simp
    simp only [braced, if_neg hne, List.flatMap_cons, put, List.flatMap_append, List.cons_append, List.nil_append, Pg.puts_tok, Pg.puts_line, Pg.puts_app, List.flatMap_nil, Pg.puts_nil]
    have := puts_lines (q :: Q) (t :: T) (.cons hq hQ) (by simp) Q1 ⟨px ++ glue pl [123] pm ++ [123] ++ [10], [], pm + 2⟩ rfl (by simp only; omega)
    have e : (Q1 ++ q :: Q).length = Q1.length + (q :: Q).length := by simp
    rw [e, Nat.add_sub_cancel_left, this]
    simp only [Pg.puts_tok, Pg.puts_nil, glue_nl, bracesT, List.map_cons]
    rw [if_neg (by simp)]
    have e2 : pm + 2 - 2 = pm := by omega
    simp only [e2]
    have e3 : ∀ T : List (Int → List UInt8), (T.map (· (pm + 2))).flatMap (fun x => blanks pm ++ [32, 32] ++ x ++ [10]) = T.flatMap (fun t => blanks (pm + 2) ++ t (pm + 2) ++ [10]) := by
      intro T
      rw [blanks_two _ hp]
      induction T with
      | nil => rfl
      | cons a b ih => simp only [List.map_cons, List.flatMap_cons, ih]
    have e4 := e3 (t :: T)
    rw [List.map_cons] at e4
    rw [e4]
    simp

end Go.Proofs.YtehdljcmeimbcaaGreat
