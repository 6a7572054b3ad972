/- The document's printer in memory: term; The document's printer in memory: declaration; The document's printer in memory: statement. -/
import Derived.Test.YtehdljcmeimbcaaGreatB22
namespace Go.Proofs.YtehdljcmeimbcaaGreat
open Go.RowKit
set_option linter.unusedVariables false
set_option linter.unusedSimpArgs false
set_option maxRecDepth 100000 in
set_option maxHeartbeats 2000000 in
theorem term_27 (t : Tw) (kv : Value) (v : Value) (w : World) (hk : t.kind = 27) (hK : SR w v []) (ht : t.text.length ≤ 1000) :
    Calls Tryz.prog 42 #[twA t kv, v] w fun e w' => e = .returned (.string ⟨([110, 117, 108, 108]).toArray⟩) ∧ Below w.heap.size w w' := by
  obtain ⟨kd, tx, nn, ln, cl, ks⟩ := t
  simp only at hk ht
  subst hk
  obtain ⟨A, cap, rfl, hcap, hc⟩ := hK
  have zt := str_size tx
  obtain ⟨W, hW⟩ : ∃ W : World, W = w.alloc (twO ⟨27, tx, nn, ln, cl, ks⟩ kv) := ⟨_, rfl⟩
  have hbe : Below w.heap.size w W := by rw [hW]; exact (Below.refl _ w).alloc (Nat.le_refl _) _
  have k1 : W.heap[w.heap.size]? = some (twO ⟨27, tx, nn, ln, cl, ks⟩ kv) := by
    rw [hW]
    exact heap_alloc_new w _
  obtain ⟨p0, p1, p2, p3, p4, p5⟩ := tw_cells k1
  have HBE := Lib.hid hbe
  clear hc hbe k1 
  unfold twA
  go_enter Tryz.func42, Tryz.ntmps42
  go_upto_region 1 with (fail)
  change Code.wp _ _ _ _ (w.alloc (twO ⟨27, tx, nn, ln, cl, ks⟩ kv))
  rw [← hW]
  clear hW
  go_wp2_with fail
  go_ret
  exact ⟨ret_str (by simp), by first | exact HBE.out | exact bdrew HBE.out _⟩
set_option maxRecDepth 100000 in
set_option maxHeartbeats 2000000 in
theorem term_28 (t : Tw) (kv : Value) (v : Value) (w : World) (hk : t.kind = 28) (hK : SR w v []) (ht : t.text.length ≤ 1000) :
    Calls Tryz.prog 42 #[twA t kv, v] w fun e w' => e = .returned (.string ⟨([105, 116]).toArray⟩) ∧ Below w.heap.size w w' := by
  obtain ⟨kd, tx, nn, ln, cl, ks⟩ := t
  simp only at hk ht
  subst hk
  obtain ⟨A, cap, rfl, hcap, hc⟩ := hK
  have zt := str_size tx
  obtain ⟨W, hW⟩ : ∃ W : World, W = w.alloc (twO ⟨28, tx, nn, ln, cl, ks⟩ kv) := ⟨_, rfl⟩
  have hbe : Below w.heap.size w W := by rw [hW]; exact (Below.refl _ w).alloc (Nat.le_refl _) _
  have k1 : W.heap[w.heap.size]? = some (twO ⟨28, tx, nn, ln, cl, ks⟩ kv) := by
    rw [hW]
    exact heap_alloc_new w _
  obtain ⟨p0, p1, p2, p3, p4, p5⟩ := tw_cells k1
  have HBE := Lib.hid hbe
  clear hc hbe k1 
  unfold twA
  go_enter Tryz.func42, Tryz.ntmps42
  go_upto_region 1 with (fail)
  change Code.wp _ _ _ _ (w.alloc (twO ⟨28, tx, nn, ln, cl, ks⟩ kv))
  rw [← hW]
  clear hW
  go_wp2_with fail
  go_ret
  exact ⟨ret_str (by simp), by first | exact HBE.out | exact bdrew HBE.out _⟩
set_option maxRecDepth 100000 in
set_option maxHeartbeats 2000000 in
theorem term_30 (t : Tw) (kv : Value) (x0 : List UInt8) (v : Value) (w : World) (hk : t.kind = 30) (hK : SR w v [x0]) (ht : t.text.length ≤ 1000) (hx0 : x0.length ≤ 1000000) :
    Calls Tryz.prog 42 #[twA t kv, v] w fun e w' => e = .returned (.string ⟨(x0 ++ [46] ++ t.text).toArray⟩) ∧ Below w.heap.size w w' := by
  obtain ⟨kd, tx, nn, ln, cl, ks⟩ := t
  simp only at hk ht
  subst hk
  obtain ⟨A, cap, rfl, hcap, hc⟩ := hK
  have zt := str_size tx
  have z0 := str_size x0
  obtain ⟨g, off, rfl, hg, c0⟩ := hc 0 x0 rfl
  rw [Nat.add_zero] at c0
  obtain ⟨W, hW⟩ : ∃ W : World, W = w.alloc (twO ⟨30, tx, nn, ln, cl, ks⟩ kv) := ⟨_, rfl⟩
  have hbe : Below w.heap.size w W := by rw [hW]; exact (Below.refl _ w).alloc (Nat.le_refl _) _
  have k1 : W.heap[w.heap.size]? = some (twO ⟨30, tx, nn, ln, cl, ks⟩ kv) := by
    rw [hW]
    exact heap_alloc_new w _
  obtain ⟨p0, p1, p2, p3, p4, p5⟩ := tw_cells k1
  have q0 := (hbe.cell (p := ⟨g, off, none⟩) hg).trans c0
  have HBE := Lib.hid hbe
  clear hc hbe k1 c0
  unfold twA
  go_enter Tryz.func42, Tryz.ntmps42
  go_upto_region 1 with (fail)
  change Code.wp _ _ _ _ (w.alloc (twO ⟨30, tx, nn, ln, cl, ks⟩ kv))
  rw [← hW]
  clear hW
  go_upto_region 9 with (fail)
  go_quiet (fail)
  go_wp2_with fail
  go_ret
  exact ⟨ret_str (by simp), by first | exact HBE.out | exact bdrew HBE.out _⟩
set_option maxRecDepth 100000 in
set_option maxHeartbeats 2000000 in
theorem term_31 (t : Tw) (kv : Value) (x0 x1 : List UInt8) (v : Value) (w : World) (hk : t.kind = 31) (hK : SR w v [x0, x1]) (ht : t.text.length ≤ 1000) (hx0 : x0.length ≤ 1000000) (hx1 : x1.length ≤ 1000000) :
    Calls Tryz.prog 42 #[twA t kv, v] w fun e w' => e = .returned (.string ⟨(x0 ++ [91] ++ x1 ++ [93]).toArray⟩) ∧ Below w.heap.size w w' := by
  obtain ⟨kd, tx, nn, ln, cl, ks⟩ := t
  simp only at hk ht
  subst hk
  obtain ⟨A, cap, rfl, hcap, hc⟩ := hK
  have zt := str_size tx
  have z0 := str_size x0
  have z1 := str_size x1
  obtain ⟨g, off, rfl, hg, c0⟩ := hc 0 x0 rfl
  rw [Nat.add_zero] at c0
  obtain ⟨g1, off1, e1, hg1, c1⟩ := hc 1 x1 rfl
  injection e1 with e1
  injection e1 with e1 eo1
  subst e1
  subst eo1
  obtain ⟨W, hW⟩ : ∃ W : World, W = w.alloc (twO ⟨31, tx, nn, ln, cl, ks⟩ kv) := ⟨_, rfl⟩
  have hbe : Below w.heap.size w W := by rw [hW]; exact (Below.refl _ w).alloc (Nat.le_refl _) _
  have k1 : W.heap[w.heap.size]? = some (twO ⟨31, tx, nn, ln, cl, ks⟩ kv) := by
    rw [hW]
    exact heap_alloc_new w _
  obtain ⟨p0, p1, p2, p3, p4, p5⟩ := tw_cells k1
  have q0 := (hbe.cell (p := ⟨g, off, none⟩) hg).trans c0
  have q1 := (hbe.cell (p := ⟨g, off + 1, none⟩) hg).trans c1
  have HBE := Lib.hid hbe
  clear hc hbe k1 c0 c1
  unfold twA
  go_enter Tryz.func42, Tryz.ntmps42
  go_upto_region 1 with (fail)
  change Code.wp _ _ _ _ (w.alloc (twO ⟨31, tx, nn, ln, cl, ks⟩ kv))
  rw [← hW]
  clear hW
  go_upto_region 11 with (fail)
  go_quiet (fail)
  go_wp2_with fail
  go_ret
  exact ⟨ret_str (by simp), by first | exact HBE.out | exact bdrew HBE.out _⟩
set_option maxRecDepth 100000 in
set_option maxHeartbeats 2000000 in
theorem term_32 (t : Tw) (kv : Value) (x0 x1 : List UInt8) (v : Value) (w : World) (hk : t.kind = 32) (hK : SR w v [x0, x1]) (ht : t.text.length ≤ 1000) (hx0 : x0.length ≤ 1000000) (hx1 : x1.length ≤ 1000000) :
    Calls Tryz.prog 42 #[twA t kv, v] w fun e w' => e = .returned (.string ⟨(x0 ++ [32] ++ t.text ++ [32] ++ x1).toArray⟩) ∧ Below w.heap.size w w' := by
  obtain ⟨kd, tx, nn, ln, cl, ks⟩ := t
  simp only at hk ht
  subst hk
  obtain ⟨A, cap, rfl, hcap, hc⟩ := hK
  have zt := str_size tx
  have z0 := str_size x0
  have z1 := str_size x1
  obtain ⟨g, off, rfl, hg, c0⟩ := hc 0 x0 rfl
  rw [Nat.add_zero] at c0
  obtain ⟨g1, off1, e1, hg1, c1⟩ := hc 1 x1 rfl
  injection e1 with e1
  injection e1 with e1 eo1
  subst e1
  subst eo1
  obtain ⟨W, hW⟩ : ∃ W : World, W = w.alloc (twO ⟨32, tx, nn, ln, cl, ks⟩ kv) := ⟨_, rfl⟩
  have hbe : Below w.heap.size w W := by rw [hW]; exact (Below.refl _ w).alloc (Nat.le_refl _) _
  have k1 : W.heap[w.heap.size]? = some (twO ⟨32, tx, nn, ln, cl, ks⟩ kv) := by
    rw [hW]
    exact heap_alloc_new w _
  obtain ⟨p0, p1, p2, p3, p4, p5⟩ := tw_cells k1
  have q0 := (hbe.cell (p := ⟨g, off, none⟩) hg).trans c0
  have q1 := (hbe.cell (p := ⟨g, off + 1, none⟩) hg).trans c1
  have HBE := Lib.hid hbe
  clear hc hbe k1 c0 c1
  unfold twA
  go_enter Tryz.func42, Tryz.ntmps42
  go_upto_region 1 with (fail)
  change Code.wp _ _ _ _ (w.alloc (twO ⟨32, tx, nn, ln, cl, ks⟩ kv))
  rw [← hW]
  clear hW
  go_upto_region 13 with (fail)
  go_quiet (fail)
  go_wp2_with fail
  go_ret
  exact ⟨ret_str (by simp), by first | exact HBE.out | exact bdrew HBE.out _⟩
set_option maxRecDepth 100000 in
set_option maxHeartbeats 2000000 in
theorem term_33 (t : Tw) (kv : Value) (v : Value) (w : World) (hk : t.kind = 33) (hK : SR w v []) (ht : t.text.length ≤ 1000) :
    Calls Tryz.prog 42 #[twA t kv, v] w fun e w' => e = .returned (.string ⟨([110, 101, 119, 32] ++ t.text).toArray⟩) ∧ Below w.heap.size w w' := by
  obtain ⟨kd, tx, nn, ln, cl, ks⟩ := t
  simp only at hk ht
  subst hk
  obtain ⟨A, cap, rfl, hcap, hc⟩ := hK
  have zt := str_size tx
  obtain ⟨W, hW⟩ : ∃ W : World, W = w.alloc (twO ⟨33, tx, nn, ln, cl, ks⟩ kv) := ⟨_, rfl⟩
  have hbe : Below w.heap.size w W := by rw [hW]; exact (Below.refl _ w).alloc (Nat.le_refl _) _
  have k1 : W.heap[w.heap.size]? = some (twO ⟨33, tx, nn, ln, cl, ks⟩ kv) := by
    rw [hW]
    exact heap_alloc_new w _
  obtain ⟨p0, p1, p2, p3, p4, p5⟩ := tw_cells k1
  have HBE := Lib.hid hbe
  clear hc hbe k1 
  unfold twA
  go_enter Tryz.func42, Tryz.ntmps42
  go_upto_region 1 with (fail)
  change Code.wp _ _ _ _ (w.alloc (twO ⟨33, tx, nn, ln, cl, ks⟩ kv))
  rw [← hW]
  clear hW
  go_wp2_with fail
  go_ret
  exact ⟨ret_str (by simp), by first | exact HBE.out | exact bdrew HBE.out _⟩
set_option maxRecDepth 100000 in
set_option maxHeartbeats 2000000 in
theorem term_34 (t : Tw) (kv : Value) (x0 : List UInt8) (v : Value) (w : World) (hk : t.kind = 34) (hK : SR w v [x0]) (ht : t.text.length ≤ 1000) (hx0 : x0.length ≤ 1000000) :
    Calls Tryz.prog 42 #[twA t kv, v] w fun e w' => e = .returned (.string ⟨([97, 114, 114, 32] ++ x0).toArray⟩) ∧ Below w.heap.size w w' := by
  obtain ⟨kd, tx, nn, ln, cl, ks⟩ := t
  simp only at hk ht
  subst hk
  obtain ⟨A, cap, rfl, hcap, hc⟩ := hK
  have zt := str_size tx
  have z0 := str_size x0
  obtain ⟨g, off, rfl, hg, c0⟩ := hc 0 x0 rfl
  rw [Nat.add_zero] at c0
  obtain ⟨W, hW⟩ : ∃ W : World, W = w.alloc (twO ⟨34, tx, nn, ln, cl, ks⟩ kv) := ⟨_, rfl⟩
  have hbe : Below w.heap.size w W := by rw [hW]; exact (Below.refl _ w).alloc (Nat.le_refl _) _
  have k1 : W.heap[w.heap.size]? = some (twO ⟨34, tx, nn, ln, cl, ks⟩ kv) := by
    rw [hW]
    exact heap_alloc_new w _
  obtain ⟨p0, p1, p2, p3, p4, p5⟩ := tw_cells k1
  have q0 := (hbe.cell (p := ⟨g, off, none⟩) hg).trans c0
  have HBE := Lib.hid hbe
  clear hc hbe k1 c0
  unfold twA
  go_enter Tryz.func42, Tryz.ntmps42
  go_upto_region 1 with (fail)
  change Code.wp _ _ _ _ (w.alloc (twO ⟨34, tx, nn, ln, cl, ks⟩ kv))
  rw [← hW]
  clear hW
  go_wp2_with fail
  go_ret
  exact ⟨ret_str (by simp), by first | exact HBE.out | exact bdrew HBE.out _⟩
set_option maxRecDepth 100000 in
set_option maxHeartbeats 2000000 in
theorem term_35 (t : Tw) (kv : Value) (x0 : List UInt8) (v : Value) (w : World) (hk : t.kind = 35) (hK : SR w v [x0]) (ht : t.text.length ≤ 1000) (hx0 : x0.length ≤ 1000000) :
    Calls Tryz.prog 42 #[twA t kv, v] w fun e w' => e = .returned (.string ⟨([108, 101, 110, 32] ++ x0).toArray⟩) ∧ Below w.heap.size w w' := by
  obtain ⟨kd, tx, nn, ln, cl, ks⟩ := t
  simp only at hk ht
  subst hk
  obtain ⟨A, cap, rfl, hcap, hc⟩ := hK
  have zt := str_size tx
  have z0 := str_size x0
  obtain ⟨g, off, rfl, hg, c0⟩ := hc 0 x0 rfl
  rw [Nat.add_zero] at c0
  obtain ⟨W, hW⟩ : ∃ W : World, W = w.alloc (twO ⟨35, tx, nn, ln, cl, ks⟩ kv) := ⟨_, rfl⟩
  have hbe : Below w.heap.size w W := by rw [hW]; exact (Below.refl _ w).alloc (Nat.le_refl _) _
  have k1 : W.heap[w.heap.size]? = some (twO ⟨35, tx, nn, ln, cl, ks⟩ kv) := by
    rw [hW]
    exact heap_alloc_new w _
  obtain ⟨p0, p1, p2, p3, p4, p5⟩ := tw_cells k1
  have q0 := (hbe.cell (p := ⟨g, off, none⟩) hg).trans c0
  have HBE := Lib.hid hbe
  clear hc hbe k1 c0
  unfold twA
  go_enter Tryz.func42, Tryz.ntmps42
  go_upto_region 1 with (fail)
  change Code.wp _ _ _ _ (w.alloc (twO ⟨35, tx, nn, ln, cl, ks⟩ kv))
  rw [← hW]
  clear hW
  go_wp2_with fail
  go_ret
  exact ⟨ret_str (by simp), by first | exact HBE.out | exact bdrew HBE.out _⟩
set_option maxRecDepth 100000 in
set_option maxHeartbeats 2000000 in
theorem term_36 (t : Tw) (kv : Value) (x0 : List UInt8) (v : Value) (w : World) (hk : t.kind = 36) (hK : SR w v [x0]) (ht : t.text.length ≤ 1000) (hx0 : x0.length ≤ 1000000) :
    Calls Tryz.prog 42 #[twA t kv, v] w fun e w' => e = .returned (.string ⟨([102, 110, 32] ++ x0).toArray⟩) ∧ Below w.heap.size w w' := by
  obtain ⟨kd, tx, nn, ln, cl, ks⟩ := t
  simp only at hk ht
  subst hk
  obtain ⟨A, cap, rfl, hcap, hc⟩ := hK
  have zt := str_size tx
  have z0 := str_size x0
  obtain ⟨g, off, rfl, hg, c0⟩ := hc 0 x0 rfl
  rw [Nat.add_zero] at c0
  obtain ⟨W, hW⟩ : ∃ W : World, W = w.alloc (twO ⟨36, tx, nn, ln, cl, ks⟩ kv) := ⟨_, rfl⟩
  have hbe : Below w.heap.size w W := by rw [hW]; exact (Below.refl _ w).alloc (Nat.le_refl _) _
  have k1 : W.heap[w.heap.size]? = some (twO ⟨36, tx, nn, ln, cl, ks⟩ kv) := by
    rw [hW]
    exact heap_alloc_new w _
  obtain ⟨p0, p1, p2, p3, p4, p5⟩ := tw_cells k1
  have q0 := (hbe.cell (p := ⟨g, off, none⟩) hg).trans c0
  have HBE := Lib.hid hbe
  clear hc hbe k1 c0
  unfold twA
  go_enter Tryz.func42, Tryz.ntmps42
  go_upto_region 1 with (fail)
  change Code.wp _ _ _ _ (w.alloc (twO ⟨36, tx, nn, ln, cl, ks⟩ kv))
  rw [← hW]
  clear hW
  go_wp2_with fail
  go_ret
  exact ⟨ret_str (by simp), by first | exact HBE.out | exact bdrew HBE.out _⟩
set_option maxRecDepth 100000 in
set_option maxHeartbeats 2000000 in
theorem term_29 (t : Tw) (kv : Value) (v : Value) (w : World) (hk : t.kind = 29) (hK : SR w v []) (ht : t.text.length ≤ 1000) :
    Calls Tryz.prog 42 #[twA t kv, v] w fun e w' => e = .returned (.string ⟨(t.text).toArray⟩) ∧ Below w.heap.size w w' := by
  obtain ⟨kd, tx, nn, ln, cl, ks⟩ := t
  simp only at hk ht
  subst hk
  obtain ⟨A, cap, rfl, hcap, hc⟩ := hK
  have zt := str_size tx
  obtain ⟨W, hW⟩ : ∃ W : World, W = w.alloc (twO ⟨29, tx, nn, ln, cl, ks⟩ kv) := ⟨_, rfl⟩
  have hbe : Below w.heap.size w W := by rw [hW]; exact (Below.refl _ w).alloc (Nat.le_refl _) _
  have k1 : W.heap[w.heap.size]? = some (twO ⟨29, tx, nn, ln, cl, ks⟩ kv) := by
    rw [hW]
    exact heap_alloc_new w _
  obtain ⟨p0, p1, p2, p3, p4, p5⟩ := tw_cells k1
  have HBE := Lib.hid hbe
  clear hc hbe k1 
  unfold twA
  go_enter Tryz.func42, Tryz.ntmps42
  go_upto_region 1 with (fail)
  change Code.wp _ _ _ _ (w.alloc (twO ⟨29, tx, nn, ln, cl, ks⟩ kv))
  rw [← hW]
  clear hW
  go_wp2_with fail
  go_ret
  exact ⟨ret_str (by simp), by first | exact HBE.out | exact bdrew HBE.out _⟩
set_option maxRecDepth 100000 in
set_option maxHeartbeats 2000000 in
theorem term_26 (t : Tw) (kv : Value) (v : Value) (w : World) (hk : t.kind = 26) (hK : SR w v []) (ht : t.text.length ≤ 1000) (hn : 0 ≤ t.n) (hn2 : t.n ≤ 2147483647) :
    Calls Tryz.prog 42 #[twA t kv, v] w fun e w' => e = .returned (.string ⟨(digs t.n.toNat).toArray⟩) ∧ Below w.heap.size w w' := by
  obtain ⟨kd, tx, nn, ln, cl, ks⟩ := t
  simp only at hk ht hn hn2
  subst hk
  obtain ⟨m, rfl⟩ : ∃ m : Nat, nn = m := ⟨nn.toNat, by omega⟩
  rw [Int.toNat_natCast]
  obtain ⟨A, cap, rfl, hcap, hc⟩ := hK
  have zt := str_size tx
  obtain ⟨W, hW⟩ : ∃ W : World, W = w.alloc (twO ⟨26, tx, (m : Int), ln, cl, ks⟩ kv) := ⟨_, rfl⟩
  have hbe : Below w.heap.size w W := by rw [hW]; exact (Below.refl _ w).alloc (Nat.le_refl _) _
  have k1 : W.heap[w.heap.size]? = some (twO ⟨26, tx, (m : Int), ln, cl, ks⟩ kv) := by
    rw [hW]
    exact heap_alloc_new w _
  obtain ⟨p0, p1, p2, p3, p4, p5⟩ := tw_cells k1
  have HBE := Lib.hid hbe
  clear hc hbe k1 
  unfold twA
  go_enter Tryz.func42, Tryz.ntmps42
  go_upto_region 1 with (fail)
  change Code.wp _ _ _ _ (w.alloc (twO ⟨26, tx, (m : Int), ln, cl, ks⟩ kv))
  rw [← hW]
  clear hW
  go_wp2_with (go_at_call 71; refine (digits_ok m _ (by omega)).mono ?_; rintro e w1 ⟨rfl, hb1⟩)
  go_ret
  exact ⟨rfl, HBE.out.trans (hb1.mono HBE.out.size)⟩
end Go.Proofs.YtehdljcmeimbcaaGreat

namespace Go.Proofs.YtehdljcmeimbcaaGreat
open Go.RowKit
set_option linter.unusedVariables false
set_option linter.unusedSimpArgs false
set_option maxRecDepth 100000 in
set_option maxHeartbeats 2000000 in
theorem decl_2 (t : Tw) (kv : Value) (v : Value) (w : World) (hk : t.kind = 2) (hK : SR w v []) (ht : t.text.length ≤ 1000) :
    Calls Tryz.prog 45 #[twA t kv, v] w fun e w' => e = .returned (.string ⟨([108, 111, 111, 112, 101, 114, 32] ++ t.text ++ [59]).toArray⟩) ∧ Below w.heap.size w w' := by
  obtain ⟨kd, tx, nn, ln, cl, ks⟩ := t
  simp only at hk ht
  subst hk
  obtain ⟨A, cap, rfl, hcap, hc⟩ := hK
  have zt := str_size tx
  obtain ⟨W, hW⟩ : ∃ W : World, W = w.alloc (twO ⟨2, tx, nn, ln, cl, ks⟩ kv) := ⟨_, rfl⟩
  have hbe : Below w.heap.size w W := by rw [hW]; exact (Below.refl _ w).alloc (Nat.le_refl _) _
  have k1 : W.heap[w.heap.size]? = some (twO ⟨2, tx, nn, ln, cl, ks⟩ kv) := by
    rw [hW]
    exact heap_alloc_new w _
  obtain ⟨p0, p1, p2, p3, p4, p5⟩ := tw_cells k1
  have HBE := Lib.hid hbe
  clear hc hbe k1 
  unfold twA
  go_enter Tryz.func45, Tryz.ntmps45
  go_upto_region 1 with (fail)
  change Code.wp _ _ _ _ (w.alloc (twO ⟨2, tx, nn, ln, cl, ks⟩ kv))
  rw [← hW]
  clear hW
  go_wp2_with fail
  go_ret
  exact ⟨ret_str (by simp), by first | exact HBE.out | exact bdrew HBE.out _⟩
set_option maxRecDepth 100000 in
set_option maxHeartbeats 2000000 in
theorem decl_4 (t : Tw) (kv : Value) (x0 : List UInt8) (v : Value) (w : World) (hk : t.kind = 4) (hK : SR w v [x0]) (ht : t.text.length ≤ 1000) (hx0 : x0.length ≤ 1000000) :
    Calls Tryz.prog 45 #[twA t kv, v] w fun e w' => e = .returned (.string ⟨(t.text ++ [32] ++ x0 ++ [59]).toArray⟩) ∧ Below w.heap.size w w' := by
  obtain ⟨kd, tx, nn, ln, cl, ks⟩ := t
  simp only at hk ht
  subst hk
  obtain ⟨A, cap, rfl, hcap, hc⟩ := hK
  have zt := str_size tx
  have z0 := str_size x0
  obtain ⟨g, off, rfl, hg, c0⟩ := hc 0 x0 rfl
  rw [Nat.add_zero] at c0
  obtain ⟨W, hW⟩ : ∃ W : World, W = w.alloc (twO ⟨4, tx, nn, ln, cl, ks⟩ kv) := ⟨_, rfl⟩
  have hbe : Below w.heap.size w W := by rw [hW]; exact (Below.refl _ w).alloc (Nat.le_refl _) _
  have k1 : W.heap[w.heap.size]? = some (twO ⟨4, tx, nn, ln, cl, ks⟩ kv) := by
    rw [hW]
    exact heap_alloc_new w _
  obtain ⟨p0, p1, p2, p3, p4, p5⟩ := tw_cells k1
  have q0 := (hbe.cell (p := ⟨g, off, none⟩) hg).trans c0
  have HBE := Lib.hid hbe
  clear hc hbe k1 c0
  unfold twA
  go_enter Tryz.func45, Tryz.ntmps45
  go_upto_region 1 with (fail)
  change Code.wp _ _ _ _ (w.alloc (twO ⟨4, tx, nn, ln, cl, ks⟩ kv))
  rw [← hW]
  clear hW
  go_upto_region 12 with (fail)
  go_quiet (fail)
  go_wp2_with fail
  go_ret
  exact ⟨ret_str (by simp), by first | exact HBE.out | exact bdrew HBE.out _⟩
set_option maxRecDepth 100000 in
set_option maxHeartbeats 2000000 in
theorem decl_5 (t : Tw) (kv : Value) (v : Value) (w : World) (hk : t.kind = 5) (hK : SR w v []) (ht : t.text.length ≤ 1000) :
    Calls Tryz.prog 45 #[twA t kv, v] w fun e w' => e = .returned (.string ⟨(t.text).toArray⟩) ∧ Below w.heap.size w w' := by
  obtain ⟨kd, tx, nn, ln, cl, ks⟩ := t
  simp only at hk ht
  subst hk
  obtain ⟨A, cap, rfl, hcap, hc⟩ := hK
  have zt := str_size tx
  obtain ⟨W, hW⟩ : ∃ W : World, W = w.alloc (twO ⟨5, tx, nn, ln, cl, ks⟩ kv) := ⟨_, rfl⟩
  have hbe : Below w.heap.size w W := by rw [hW]; exact (Below.refl _ w).alloc (Nat.le_refl _) _
  have k1 : W.heap[w.heap.size]? = some (twO ⟨5, tx, nn, ln, cl, ks⟩ kv) := by
    rw [hW]
    exact heap_alloc_new w _
  obtain ⟨p0, p1, p2, p3, p4, p5⟩ := tw_cells k1
  have HBE := Lib.hid hbe
  clear hc hbe k1 
  unfold twA
  go_enter Tryz.func45, Tryz.ntmps45
  go_upto_region 1 with (fail)
  change Code.wp _ _ _ _ (w.alloc (twO ⟨5, tx, nn, ln, cl, ks⟩ kv))
  rw [← hW]
  clear hW
  go_wp2_with fail
  go_ret
  exact ⟨ret_str (by simp), by first | exact HBE.out | exact bdrew HBE.out _⟩
set_option maxRecDepth 100000 in
set_option maxHeartbeats 2000000 in
theorem decl_6 (t : Tw) (kv : Value) (x0 : List UInt8) (v : Value) (w : World) (hk : t.kind = 6) (hK : SR w v [x0]) (ht : t.text.length ≤ 1000) (hx0 : x0.length ≤ 1000000) :
    Calls Tryz.prog 45 #[twA t kv, v] w fun e w' => e = .returned (.string ⟨([118, 97, 114, 32] ++ t.text ++ [32] ++ x0 ++ [59]).toArray⟩) ∧ Below w.heap.size w w' := by
  obtain ⟨kd, tx, nn, ln, cl, ks⟩ := t
  simp only at hk ht
  subst hk
  obtain ⟨A, cap, rfl, hcap, hc⟩ := hK
  have zt := str_size tx
  have z0 := str_size x0
  obtain ⟨g, off, rfl, hg, c0⟩ := hc 0 x0 rfl
  rw [Nat.add_zero] at c0
  obtain ⟨W, hW⟩ : ∃ W : World, W = w.alloc (twO ⟨6, tx, nn, ln, cl, ks⟩ kv) := ⟨_, rfl⟩
  have hbe : Below w.heap.size w W := by rw [hW]; exact (Below.refl _ w).alloc (Nat.le_refl _) _
  have k1 : W.heap[w.heap.size]? = some (twO ⟨6, tx, nn, ln, cl, ks⟩ kv) := by
    rw [hW]
    exact heap_alloc_new w _
  obtain ⟨p0, p1, p2, p3, p4, p5⟩ := tw_cells k1
  have q0 := (hbe.cell (p := ⟨g, off, none⟩) hg).trans c0
  have HBE := Lib.hid hbe
  clear hc hbe k1 c0
  unfold twA
  go_enter Tryz.func45, Tryz.ntmps45
  go_upto_region 1 with (fail)
  change Code.wp _ _ _ _ (w.alloc (twO ⟨6, tx, nn, ln, cl, ks⟩ kv))
  rw [← hW]
  clear hW
  go_upto_region 14 with (fail)
  go_quiet (fail)
  go_wp2_with fail
  go_ret
  exact ⟨ret_str (by simp), by first | exact HBE.out | exact bdrew HBE.out _⟩
set_option maxRecDepth 100000 in
set_option maxHeartbeats 2000000 in
theorem decl_7 (t : Tw) (kv : Value) (x0 : List UInt8) (v : Value) (w : World) (hk : t.kind = 7) (hK : SR w v [x0]) (ht : t.text.length ≤ 1000) (hx0 : x0.length ≤ 1000000) :
    Calls Tryz.prog 45 #[twA t kv, v] w fun e w' => e = .returned (.string ⟨([102, 110, 32] ++ t.text ++ [32] ++ x0).toArray⟩) ∧ Below w.heap.size w w' := by
  obtain ⟨kd, tx, nn, ln, cl, ks⟩ := t
  simp only at hk ht
  subst hk
  obtain ⟨A, cap, rfl, hcap, hc⟩ := hK
  have zt := str_size tx
  have z0 := str_size x0
  obtain ⟨g, off, rfl, hg, c0⟩ := hc 0 x0 rfl
  rw [Nat.add_zero] at c0
  obtain ⟨W, hW⟩ : ∃ W : World, W = w.alloc (twO ⟨7, tx, nn, ln, cl, ks⟩ kv) := ⟨_, rfl⟩
  have hbe : Below w.heap.size w W := by rw [hW]; exact (Below.refl _ w).alloc (Nat.le_refl _) _
  have k1 : W.heap[w.heap.size]? = some (twO ⟨7, tx, nn, ln, cl, ks⟩ kv) := by
    rw [hW]
    exact heap_alloc_new w _
  obtain ⟨p0, p1, p2, p3, p4, p5⟩ := tw_cells k1
  have q0 := (hbe.cell (p := ⟨g, off, none⟩) hg).trans c0
  have HBE := Lib.hid hbe
  clear hc hbe k1 c0
  unfold twA
  go_enter Tryz.func45, Tryz.ntmps45
  go_upto_region 1 with (fail)
  change Code.wp _ _ _ _ (w.alloc (twO ⟨7, tx, nn, ln, cl, ks⟩ kv))
  rw [← hW]
  clear hW
  go_upto_region 16 with (fail)
  go_quiet (fail)
  go_wp2_with fail
  go_ret
  exact ⟨ret_str (by simp), by first | exact HBE.out | exact bdrew HBE.out _⟩
set_option maxRecDepth 100000 in
set_option maxHeartbeats 2000000 in
theorem decl_11 (t : Tw) (kv : Value) (x0 : List UInt8) (v : Value) (w : World) (hk : t.kind = 11) (hK : SR w v [x0]) (ht : t.text.length ≤ 1000) (hx0 : x0.length ≤ 1000000) :
    Calls Tryz.prog 45 #[twA t kv, v] w fun e w' => e = .returned (.string ⟨([109, 97, 105, 110, 32] ++ x0).toArray⟩) ∧ Below w.heap.size w w' := by
  obtain ⟨kd, tx, nn, ln, cl, ks⟩ := t
  simp only at hk ht
  subst hk
  obtain ⟨A, cap, rfl, hcap, hc⟩ := hK
  have zt := str_size tx
  have z0 := str_size x0
  obtain ⟨g, off, rfl, hg, c0⟩ := hc 0 x0 rfl
  rw [Nat.add_zero] at c0
  obtain ⟨W, hW⟩ : ∃ W : World, W = w.alloc (twO ⟨11, tx, nn, ln, cl, ks⟩ kv) := ⟨_, rfl⟩
  have hbe : Below w.heap.size w W := by rw [hW]; exact (Below.refl _ w).alloc (Nat.le_refl _) _
  have k1 : W.heap[w.heap.size]? = some (twO ⟨11, tx, nn, ln, cl, ks⟩ kv) := by
    rw [hW]
    exact heap_alloc_new w _
  obtain ⟨p0, p1, p2, p3, p4, p5⟩ := tw_cells k1
  have q0 := (hbe.cell (p := ⟨g, off, none⟩) hg).trans c0
  have HBE := Lib.hid hbe
  clear hc hbe k1 c0
  unfold twA
  go_enter Tryz.func45, Tryz.ntmps45
  go_upto_region 1 with (fail)
  change Code.wp _ _ _ _ (w.alloc (twO ⟨11, tx, nn, ln, cl, ks⟩ kv))
  rw [← hW]
  clear hW
  go_wp2_with fail
  go_ret
  exact ⟨ret_str (by simp), by first | exact HBE.out | exact bdrew HBE.out _⟩
end Go.Proofs.YtehdljcmeimbcaaGreat

namespace Go.Proofs.YtehdljcmeimbcaaGreat
open Go.RowKit
set_option linter.unusedVariables false
set_option linter.unusedSimpArgs false
set_option maxRecDepth 100000 in
set_option maxHeartbeats 2000000 in
theorem stat_13 (t : Tw) (kv : Value) (x0 x1 : List UInt8) (v : Value) (w : World) (tr : Value) (hk : t.kind = 13) (hK : SR w v [x0, x1]) (ht : t.text.length ≤ 1000) (hx0 : x0.length ≤ 1000000) (hx1 : x1.length ≤ 1000000) :
    Calls Tryz.prog 44 #[.agg #[tr], twA t kv, v] w fun e w' => e = .returned (.string ⟨([118, 97, 114, 32] ++ t.text ++ [32] ++ x0 ++ [32, 61, 32] ++ x1 ++ [59]).toArray⟩) ∧ Below w.heap.size w w' := by
  obtain ⟨kd, tx, nn, ln, cl, ks⟩ := t
  simp only at hk ht
  subst hk
  obtain ⟨A, cap, rfl, hcap, hc⟩ := hK
  have zt := str_size tx
  have z0 := str_size x0
  have z1 := str_size x1
  obtain ⟨g, off, rfl, hg, c0⟩ := hc 0 x0 rfl
  rw [Nat.add_zero] at c0
  obtain ⟨g1, off1, e1, hg1, c1⟩ := hc 1 x1 rfl
  injection e1 with e1
  injection e1 with e1 eo1
  subst e1
  subst eo1
  obtain ⟨W, hW⟩ : ∃ W : World, W = (w.alloc (.cells #[tr] 26)).alloc (twO ⟨13, tx, nn, ln, cl, ks⟩ kv) := ⟨_, rfl⟩
  have hbe : Below w.heap.size w W := by rw [hW]; exact ((Below.refl _ w).alloc (Nat.le_refl _) _).alloc (by simp) _
  have k1 : W.heap[w.heap.size + 1]? = some (twO ⟨13, tx, nn, ln, cl, ks⟩ kv) := by
    rw [hW]
    have := heap_alloc_new (w.alloc (.cells #[tr] 26)) (twO ⟨13, tx, nn, ln, cl, ks⟩ kv)
    rwa [World.size_alloc] at this
  obtain ⟨p0, p1, p2, p3, p4, p5⟩ := tw_cells k1
  have q0 := (hbe.cell (p := ⟨g, off, none⟩) hg).trans c0
  have q1 := (hbe.cell (p := ⟨g, off + 1, none⟩) hg).trans c1
  have HBE := Lib.hid hbe
  clear hc hbe k1 c0 c1
  unfold twA
  go_enter Tryz.func44, Tryz.ntmps44
  go_upto_region 1 with (fail)
  change Code.wp _ _ _ _ ((w.alloc (.cells #[tr] 26)).alloc (twO ⟨13, tx, nn, ln, cl, ks⟩ kv))
  rw [← hW]
  clear hW
  go_upto_region 6 with (fail)
  go_quiet (fail)
  go_wp2_with fail
  go_ret
  exact ⟨ret_str (by simp), by first | exact HBE.out | exact bdrew HBE.out _⟩
set_option maxRecDepth 100000 in
set_option maxHeartbeats 2000000 in
theorem stat_14 (t : Tw) (kv : Value) (x0 x1 : List UInt8) (v : Value) (w : World) (tr : Value) (hk : t.kind = 14) (hK : SR w v [x0, x1]) (ht : t.text.length ≤ 1000) (hx0 : x0.length ≤ 1000000) (hx1 : x1.length ≤ 1000000) :
    Calls Tryz.prog 44 #[.agg #[tr], twA t kv, v] w fun e w' => e = .returned (.string ⟨(x0 ++ [32, 61, 32] ++ x1 ++ [59]).toArray⟩) ∧ Below w.heap.size w w' := by
  obtain ⟨kd, tx, nn, ln, cl, ks⟩ := t
  simp only at hk ht
  subst hk
  obtain ⟨A, cap, rfl, hcap, hc⟩ := hK
  have zt := str_size tx
  have z0 := str_size x0
  have z1 := str_size x1
  obtain ⟨g, off, rfl, hg, c0⟩ := hc 0 x0 rfl
  rw [Nat.add_zero] at c0
  obtain ⟨g1, off1, e1, hg1, c1⟩ := hc 1 x1 rfl
  injection e1 with e1
  injection e1 with e1 eo1
  subst e1
  subst eo1
  obtain ⟨W, hW⟩ : ∃ W : World, W = (w.alloc (.cells #[tr] 26)).alloc (twO ⟨14, tx, nn, ln, cl, ks⟩ kv) := ⟨_, rfl⟩
  have hbe : Below w.heap.size w W := by rw [hW]; exact ((Below.refl _ w).alloc (Nat.le_refl _) _).alloc (by simp) _
  have k1 : W.heap[w.heap.size + 1]? = some (twO ⟨14, tx, nn, ln, cl, ks⟩ kv) := by
    rw [hW]
    have := heap_alloc_new (w.alloc (.cells #[tr] 26)) (twO ⟨14, tx, nn, ln, cl, ks⟩ kv)
    rwa [World.size_alloc] at this
  obtain ⟨p0, p1, p2, p3, p4, p5⟩ := tw_cells k1
  have q0 := (hbe.cell (p := ⟨g, off, none⟩) hg).trans c0
  have q1 := (hbe.cell (p := ⟨g, off + 1, none⟩) hg).trans c1
  have HBE := Lib.hid hbe
  clear hc hbe k1 c0 c1
  unfold twA
  go_enter Tryz.func44, Tryz.ntmps44
  go_upto_region 1 with (fail)
  change Code.wp _ _ _ _ ((w.alloc (.cells #[tr] 26)).alloc (twO ⟨14, tx, nn, ln, cl, ks⟩ kv))
  rw [← hW]
  clear hW
  go_upto_region 8 with (fail)
  go_quiet (fail)
  go_wp2_with fail
  go_ret
  exact ⟨ret_str (by simp), by first | exact HBE.out | exact bdrew HBE.out _⟩
set_option maxRecDepth 100000 in
set_option maxHeartbeats 2000000 in
theorem stat_15 (t : Tw) (kv : Value) (x0 : List UInt8) (v : Value) (w : World) (tr : Value) (hk : t.kind = 15) (hK : SR w v [x0]) (ht : t.text.length ≤ 1000) (hx0 : x0.length ≤ 1000000) :
    Calls Tryz.prog 44 #[.agg #[tr], twA t kv, v] w fun e w' => e = .returned (.string ⟨([99, 97, 108, 108, 32] ++ x0 ++ [59]).toArray⟩) ∧ Below w.heap.size w w' := by
  obtain ⟨kd, tx, nn, ln, cl, ks⟩ := t
  simp only at hk ht
  subst hk
  obtain ⟨A, cap, rfl, hcap, hc⟩ := hK
  have zt := str_size tx
  have z0 := str_size x0
  obtain ⟨g, off, rfl, hg, c0⟩ := hc 0 x0 rfl
  rw [Nat.add_zero] at c0
  obtain ⟨W, hW⟩ : ∃ W : World, W = (w.alloc (.cells #[tr] 26)).alloc (twO ⟨15, tx, nn, ln, cl, ks⟩ kv) := ⟨_, rfl⟩
  have hbe : Below w.heap.size w W := by rw [hW]; exact ((Below.refl _ w).alloc (Nat.le_refl _) _).alloc (by simp) _
  have k1 : W.heap[w.heap.size + 1]? = some (twO ⟨15, tx, nn, ln, cl, ks⟩ kv) := by
    rw [hW]
    have := heap_alloc_new (w.alloc (.cells #[tr] 26)) (twO ⟨15, tx, nn, ln, cl, ks⟩ kv)
    rwa [World.size_alloc] at this
  obtain ⟨p0, p1, p2, p3, p4, p5⟩ := tw_cells k1
  have q0 := (hbe.cell (p := ⟨g, off, none⟩) hg).trans c0
  have HBE := Lib.hid hbe
  clear hc hbe k1 c0
  unfold twA
  go_enter Tryz.func44, Tryz.ntmps44
  go_upto_region 1 with (fail)
  change Code.wp _ _ _ _ ((w.alloc (.cells #[tr] 26)).alloc (twO ⟨15, tx, nn, ln, cl, ks⟩ kv))
  rw [← hW]
  clear hW
  go_wp2_with fail
  go_ret
  exact ⟨ret_str (by simp), by first | exact HBE.out | exact bdrew HBE.out _⟩
set_option maxRecDepth 100000 in
set_option maxHeartbeats 2000000 in
theorem stat_16 (t : Tw) (kv : Value) (x0 : List UInt8) (v : Value) (w : World) (tr : Value) (hk : t.kind = 16) (hK : SR w v [x0]) (ht : t.text.length ≤ 1000) (hx0 : x0.length ≤ 1000000) :
    Calls Tryz.prog 44 #[.agg #[tr], twA t kv, v] w fun e w' => e = .returned (.string ⟨([99, 97, 110, 99, 101, 108, 32] ++ x0 ++ [59]).toArray⟩) ∧ Below w.heap.size w w' := by
  obtain ⟨kd, tx, nn, ln, cl, ks⟩ := t
  simp only at hk ht
  subst hk
  obtain ⟨A, cap, rfl, hcap, hc⟩ := hK
  have zt := str_size tx
  have z0 := str_size x0
  obtain ⟨g, off, rfl, hg, c0⟩ := hc 0 x0 rfl
  rw [Nat.add_zero] at c0
  obtain ⟨W, hW⟩ : ∃ W : World, W = (w.alloc (.cells #[tr] 26)).alloc (twO ⟨16, tx, nn, ln, cl, ks⟩ kv) := ⟨_, rfl⟩
  have hbe : Below w.heap.size w W := by rw [hW]; exact ((Below.refl _ w).alloc (Nat.le_refl _) _).alloc (by simp) _
  have k1 : W.heap[w.heap.size + 1]? = some (twO ⟨16, tx, nn, ln, cl, ks⟩ kv) := by
    rw [hW]
    have := heap_alloc_new (w.alloc (.cells #[tr] 26)) (twO ⟨16, tx, nn, ln, cl, ks⟩ kv)
    rwa [World.size_alloc] at this
  obtain ⟨p0, p1, p2, p3, p4, p5⟩ := tw_cells k1
  have q0 := (hbe.cell (p := ⟨g, off, none⟩) hg).trans c0
  have HBE := Lib.hid hbe
  clear hc hbe k1 c0
  unfold twA
  go_enter Tryz.func44, Tryz.ntmps44
  go_upto_region 1 with (fail)
  change Code.wp _ _ _ _ ((w.alloc (.cells #[tr] 26)).alloc (twO ⟨16, tx, nn, ln, cl, ks⟩ kv))
  rw [← hW]
  clear hW
  go_wp2_with fail
  go_ret
  exact ⟨ret_str (by simp), by first | exact HBE.out | exact bdrew HBE.out _⟩
set_option maxRecDepth 100000 in
set_option maxHeartbeats 2000000 in
theorem stat_17 (t : Tw) (kv : Value) (x0 : List UInt8) (v : Value) (w : World) (tr : Value) (hk : t.kind = 17) (hK : SR w v [x0]) (ht : t.text.length ≤ 1000) (hx0 : x0.length ≤ 1000000) :
    Calls Tryz.prog 44 #[.agg #[tr], twA t kv, v] w fun e w' => e = .returned (.string ⟨([106, 111, 105, 110, 32] ++ x0 ++ [59]).toArray⟩) ∧ Below w.heap.size w w' := by
  obtain ⟨kd, tx, nn, ln, cl, ks⟩ := t
  simp only at hk ht
  subst hk
  obtain ⟨A, cap, rfl, hcap, hc⟩ := hK
  have zt := str_size tx
  have z0 := str_size x0
  obtain ⟨g, off, rfl, hg, c0⟩ := hc 0 x0 rfl
  rw [Nat.add_zero] at c0
  obtain ⟨W, hW⟩ : ∃ W : World, W = (w.alloc (.cells #[tr] 26)).alloc (twO ⟨17, tx, nn, ln, cl, ks⟩ kv) := ⟨_, rfl⟩
  have hbe : Below w.heap.size w W := by rw [hW]; exact ((Below.refl _ w).alloc (Nat.le_refl _) _).alloc (by simp) _
  have k1 : W.heap[w.heap.size + 1]? = some (twO ⟨17, tx, nn, ln, cl, ks⟩ kv) := by
    rw [hW]
    have := heap_alloc_new (w.alloc (.cells #[tr] 26)) (twO ⟨17, tx, nn, ln, cl, ks⟩ kv)
    rwa [World.size_alloc] at this
  obtain ⟨p0, p1, p2, p3, p4, p5⟩ := tw_cells k1
  have q0 := (hbe.cell (p := ⟨g, off, none⟩) hg).trans c0
  have HBE := Lib.hid hbe
  clear hc hbe k1 c0
  unfold twA
  go_enter Tryz.func44, Tryz.ntmps44
  go_upto_region 1 with (fail)
  change Code.wp _ _ _ _ ((w.alloc (.cells #[tr] 26)).alloc (twO ⟨17, tx, nn, ln, cl, ks⟩ kv))
  rw [← hW]
  clear hW
  go_wp2_with fail
  go_ret
  exact ⟨ret_str (by simp), by first | exact HBE.out | exact bdrew HBE.out _⟩
set_option maxRecDepth 100000 in
set_option maxHeartbeats 2000000 in
theorem stat_18 (t : Tw) (kv : Value) (x0 : List UInt8) (v : Value) (w : World) (tr : Value) (hk : t.kind = 18) (hK : SR w v [x0]) (ht : t.text.length ≤ 1000) (hx0 : x0.length ≤ 1000000) :
    Calls Tryz.prog 44 #[.agg #[tr], twA t kv, v] w fun e w' => e = .returned (.string ⟨([108, 111, 103, 32] ++ x0 ++ [59]).toArray⟩) ∧ Below w.heap.size w w' := by
  obtain ⟨kd, tx, nn, ln, cl, ks⟩ := t
  simp only at hk ht
  subst hk
  obtain ⟨A, cap, rfl, hcap, hc⟩ := hK
  have zt := str_size tx
  have z0 := str_size x0
  obtain ⟨g, off, rfl, hg, c0⟩ := hc 0 x0 rfl
  rw [Nat.add_zero] at c0
  obtain ⟨W, hW⟩ : ∃ W : World, W = (w.alloc (.cells #[tr] 26)).alloc (twO ⟨18, tx, nn, ln, cl, ks⟩ kv) := ⟨_, rfl⟩
  have hbe : Below w.heap.size w W := by rw [hW]; exact ((Below.refl _ w).alloc (Nat.le_refl _) _).alloc (by simp) _
  have k1 : W.heap[w.heap.size + 1]? = some (twO ⟨18, tx, nn, ln, cl, ks⟩ kv) := by
    rw [hW]
    have := heap_alloc_new (w.alloc (.cells #[tr] 26)) (twO ⟨18, tx, nn, ln, cl, ks⟩ kv)
    rwa [World.size_alloc] at this
  obtain ⟨p0, p1, p2, p3, p4, p5⟩ := tw_cells k1
  have q0 := (hbe.cell (p := ⟨g, off, none⟩) hg).trans c0
  have HBE := Lib.hid hbe
  clear hc hbe k1 c0
  unfold twA
  go_enter Tryz.func44, Tryz.ntmps44
  go_upto_region 1 with (fail)
  change Code.wp _ _ _ _ ((w.alloc (.cells #[tr] 26)).alloc (twO ⟨18, tx, nn, ln, cl, ks⟩ kv))
  rw [← hW]
  clear hW
  go_wp2_with fail
  go_ret
  exact ⟨ret_str (by simp), by first | exact HBE.out | exact bdrew HBE.out _⟩
set_option maxRecDepth 100000 in
set_option maxHeartbeats 2000000 in
theorem stat_21 (t : Tw) (kv : Value) (v : Value) (w : World) (tr : Value) (hk : t.kind = 21) (hK : SR w v []) (ht : t.text.length ≤ 1000) :
    Calls Tryz.prog 44 #[.agg #[tr], twA t kv, v] w fun e w' => e = .returned (.string ⟨([101, 110, 97, 98, 108, 101, 32] ++ t.text ++ [59]).toArray⟩) ∧ Below w.heap.size w w' := by
  obtain ⟨kd, tx, nn, ln, cl, ks⟩ := t
  simp only at hk ht
  subst hk
  obtain ⟨A, cap, rfl, hcap, hc⟩ := hK
  have zt := str_size tx
  obtain ⟨W, hW⟩ : ∃ W : World, W = (w.alloc (.cells #[tr] 26)).alloc (twO ⟨21, tx, nn, ln, cl, ks⟩ kv) := ⟨_, rfl⟩
  have hbe : Below w.heap.size w W := by rw [hW]; exact ((Below.refl _ w).alloc (Nat.le_refl _) _).alloc (by simp) _
  have k1 : W.heap[w.heap.size + 1]? = some (twO ⟨21, tx, nn, ln, cl, ks⟩ kv) := by
    rw [hW]
    have := heap_alloc_new (w.alloc (.cells #[tr] 26)) (twO ⟨21, tx, nn, ln, cl, ks⟩ kv)
    rwa [World.size_alloc] at this
  obtain ⟨p0, p1, p2, p3, p4, p5⟩ := tw_cells k1
  have HBE := Lib.hid hbe
  clear hc hbe k1 
  unfold twA
  go_enter Tryz.func44, Tryz.ntmps44
  go_upto_region 1 with (fail)
  change Code.wp _ _ _ _ ((w.alloc (.cells #[tr] 26)).alloc (twO ⟨21, tx, nn, ln, cl, ks⟩ kv))
  rw [← hW]
  clear hW
  go_wp2_with fail
  go_ret
  exact ⟨ret_str (by simp), by first | exact HBE.out | exact bdrew HBE.out _⟩
set_option maxRecDepth 100000 in
set_option maxHeartbeats 2000000 in
theorem stat_22 (t : Tw) (kv : Value) (v : Value) (w : World) (tr : Value) (hk : t.kind = 22) (hK : SR w v []) (ht : t.text.length ≤ 1000) :
    Calls Tryz.prog 44 #[.agg #[tr], twA t kv, v] w fun e w' => e = .returned (.string ⟨([100, 105, 115, 97, 98, 108, 101, 32] ++ t.text ++ [59]).toArray⟩) ∧ Below w.heap.size w w' := by
  obtain ⟨kd, tx, nn, ln, cl, ks⟩ := t
  simp only at hk ht
  subst hk
  obtain ⟨A, cap, rfl, hcap, hc⟩ := hK
  have zt := str_size tx
  obtain ⟨W, hW⟩ : ∃ W : World, W = (w.alloc (.cells #[tr] 26)).alloc (twO ⟨22, tx, nn, ln, cl, ks⟩ kv) := ⟨_, rfl⟩
  have hbe : Below w.heap.size w W := by rw [hW]; exact ((Below.refl _ w).alloc (Nat.le_refl _) _).alloc (by simp) _
  have k1 : W.heap[w.heap.size + 1]? = some (twO ⟨22, tx, nn, ln, cl, ks⟩ kv) := by
    rw [hW]
    have := heap_alloc_new (w.alloc (.cells #[tr] 26)) (twO ⟨22, tx, nn, ln, cl, ks⟩ kv)
    rwa [World.size_alloc] at this
  obtain ⟨p0, p1, p2, p3, p4, p5⟩ := tw_cells k1
  have HBE := Lib.hid hbe
  clear hc hbe k1 
  unfold twA
  go_enter Tryz.func44, Tryz.ntmps44
  go_upto_region 1 with (fail)
  change Code.wp _ _ _ _ ((w.alloc (.cells #[tr] 26)).alloc (twO ⟨22, tx, nn, ln, cl, ks⟩ kv))
  rw [← hW]
  clear hW
  go_wp2_with fail
  go_ret
  exact ⟨ret_str (by simp), by first | exact HBE.out | exact bdrew HBE.out _⟩
set_option maxRecDepth 100000 in
set_option maxHeartbeats 2000000 in
theorem stat_24 (t : Tw) (kv : Value) (x0 x1 : List UInt8) (v : Value) (w : World) (tr : Value) (hk : t.kind = 24) (hK : SR w v [x0, x1]) (ht : t.text.length ≤ 1000) (hx0 : x0.length ≤ 1000000) (hx1 : x1.length ≤ 1000000) :
    Calls Tryz.prog 44 #[.agg #[tr], twA t kv, v] w fun e w' => e = .returned (.string ⟨([119, 104, 105, 108, 101, 32] ++ x0 ++ [32] ++ x1).toArray⟩) ∧ Below w.heap.size w w' := by
  obtain ⟨kd, tx, nn, ln, cl, ks⟩ := t
  simp only at hk ht
  subst hk
  obtain ⟨A, cap, rfl, hcap, hc⟩ := hK
  have zt := str_size tx
  have z0 := str_size x0
  have z1 := str_size x1
  obtain ⟨g, off, rfl, hg, c0⟩ := hc 0 x0 rfl
  rw [Nat.add_zero] at c0
  obtain ⟨g1, off1, e1, hg1, c1⟩ := hc 1 x1 rfl
  injection e1 with e1
  injection e1 with e1 eo1
  subst e1
  subst eo1
  obtain ⟨W, hW⟩ : ∃ W : World, W = (w.alloc (.cells #[tr] 26)).alloc (twO ⟨24, tx, nn, ln, cl, ks⟩ kv) := ⟨_, rfl⟩
  have hbe : Below w.heap.size w W := by rw [hW]; exact ((Below.refl _ w).alloc (Nat.le_refl _) _).alloc (by simp) _
  have k1 : W.heap[w.heap.size + 1]? = some (twO ⟨24, tx, nn, ln, cl, ks⟩ kv) := by
    rw [hW]
    have := heap_alloc_new (w.alloc (.cells #[tr] 26)) (twO ⟨24, tx, nn, ln, cl, ks⟩ kv)
    rwa [World.size_alloc] at this
  obtain ⟨p0, p1, p2, p3, p4, p5⟩ := tw_cells k1
  have q0 := (hbe.cell (p := ⟨g, off, none⟩) hg).trans c0
  have q1 := (hbe.cell (p := ⟨g, off + 1, none⟩) hg).trans c1
  have HBE := Lib.hid hbe
  clear hc hbe k1 c0 c1
  unfold twA
  go_enter Tryz.func44, Tryz.ntmps44
  go_upto_region 1 with (fail)
  change Code.wp _ _ _ _ ((w.alloc (.cells #[tr] 26)).alloc (twO ⟨24, tx, nn, ln, cl, ks⟩ kv))
  rw [← hW]
  clear hW
  go_upto_region 31 with (fail)
  go_quiet (fail)
  go_wp2_with fail
  go_ret
  exact ⟨ret_str (by simp), by first | exact HBE.out | exact bdrew HBE.out _⟩
set_option maxRecDepth 100000 in
set_option maxHeartbeats 2000000 in
theorem stat_25 (t : Tw) (kv : Value) (v : Value) (w : World) (tr : Value) (hk : t.kind = 25) (hK : SR w v []) (ht : t.text.length ≤ 1000) :
    Calls Tryz.prog 44 #[.agg #[tr], twA t kv, v] w fun e w' => e = .returned (.string ⟨([114, 101, 116, 117, 114, 110, 59]).toArray⟩) ∧ Below w.heap.size w w' := by
  obtain ⟨kd, tx, nn, ln, cl, ks⟩ := t
  simp only at hk ht
  subst hk
  obtain ⟨A, cap, rfl, hcap, hc⟩ := hK
  have zt := str_size tx
  obtain ⟨W, hW⟩ : ∃ W : World, W = (w.alloc (.cells #[tr] 26)).alloc (twO ⟨25, tx, nn, ln, cl, ks⟩ kv) := ⟨_, rfl⟩
  have hbe : Below w.heap.size w W := by rw [hW]; exact ((Below.refl _ w).alloc (Nat.le_refl _) _).alloc (by simp) _
  have k1 : W.heap[w.heap.size + 1]? = some (twO ⟨25, tx, nn, ln, cl, ks⟩ kv) := by
    rw [hW]
    have := heap_alloc_new (w.alloc (.cells #[tr] 26)) (twO ⟨25, tx, nn, ln, cl, ks⟩ kv)
    rwa [World.size_alloc] at this
  obtain ⟨p0, p1, p2, p3, p4, p5⟩ := tw_cells k1
  have HBE := Lib.hid hbe
  clear hc hbe k1 
  unfold twA
  go_enter Tryz.func44, Tryz.ntmps44
  go_upto_region 1 with (fail)
  change Code.wp _ _ _ _ ((w.alloc (.cells #[tr] 26)).alloc (twO ⟨25, tx, nn, ln, cl, ks⟩ kv))
  rw [← hW]
  clear hW
  go_wp2_with fail
  go_ret
  exact ⟨ret_str (by simp), by first | exact HBE.out | exact bdrew HBE.out _⟩
end Go.Proofs.YtehdljcmeimbcaaGreat
