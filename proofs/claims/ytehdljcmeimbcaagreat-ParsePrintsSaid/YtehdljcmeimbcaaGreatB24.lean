/- The document's printer in memory: declaration, a life, an event. -/
import Derived.Test.YtehdljcmeimbcaaGreatB22
import Derived.RegionTactic
import Derived.ChangeAlike
namespace Go.Proofs.YtehdljcmeimbcaaGreat
open Go.RowKit
set_option linter.unusedVariables false
set_option linter.unusedSimpArgs false
set_option maxRecDepth 100000 in
set_option maxHeartbeats 2000000 in
theorem decl_9_0 (t : Tw) (kv : Value) (x0 : List UInt8) (v : Value) (w : World) (hk : t.kind = 9) (hK : SR w v [x0]) (ht : t.text.length ≤ 1000) (hx0 : x0.length ≤ 1000000) (hn : t.n = 0) :
    Calls Tryz.prog 45 #[twA t kv, v] w fun e w' => e = .returned (.string ⟨([99, 114, 101, 97, 116, 101, 32] ++ x0).toArray⟩) ∧ Below w.heap.size w w' := by
  obtain ⟨kd, tx, nn, ln, cl, ks⟩ := t
  simp only at hk ht hn
  subst hk
  subst hn
  obtain ⟨A, cap, rfl, hcap, hc⟩ := hK
  have zt := str_size tx
  have z0 := str_size x0
  obtain ⟨g, off, rfl, hg, c0⟩ := hc 0 x0 rfl
  rw [Nat.add_zero] at c0
  obtain ⟨W, hW⟩ : ∃ W : World, W = w.alloc (twO ⟨9, tx, 0, ln, cl, ks⟩ kv) := ⟨_, rfl⟩
  have hbe : Below w.heap.size w W := by rw [hW]; exact (Below.refl _ w).alloc (Nat.le_refl _) _
  have k1 : W.heap[w.heap.size]? = some (twO ⟨9, tx, 0, ln, cl, ks⟩ kv) := by
    rw [hW]
    exact heap_alloc_new w _
  obtain ⟨p0, p1, p2, p3, p4, p5⟩ := tw_cells k1
  have q0 := (hbe.cell (p := ⟨g, off, none⟩) hg).trans c0
  have hlw : w.heap.size < W.heap.size := lt_of_block k1
  have hlg : g < W.heap.size := Nat.lt_of_lt_of_le hg hbe.size
  have hba := (Below.refl W.heap.size W).alloc (Nat.le_refl _) (.cells #[.string ⟨#[99, 114, 101, 97, 116, 101, 32]⟩, .string ⟨#[115, 116, 97, 114, 116, 32]⟩, .string ⟨#[115, 116, 111, 112, 32]⟩, .string ⟨#[100, 101, 115, 116, 114, 111, 121, 32]⟩] 9)
  have pa1 := (hba.cell (p := ⟨w.heap.size, 1, none⟩) hlw).trans p1
  have pa2 := (hba.cell (p := ⟨w.heap.size, 2, none⟩) hlw).trans p2
  have qa0 := (hba.cell (p := ⟨g, off, none⟩) hlg).trans q0
  have na : (W.alloc (.cells #[.string ⟨#[99, 114, 101, 97, 116, 101, 32]⟩, .string ⟨#[115, 116, 97, 114, 116, 32]⟩, .string ⟨#[115, 116, 111, 112, 32]⟩, .string ⟨#[100, 101, 115, 116, 114, 111, 121, 32]⟩] 9)).cell? ⟨W.heap.size, 0, none⟩ = some (.string ⟨#[99, 114, 101, 97, 116, 101, 32]⟩) := al_cell rfl
  have HBA := Lib.hid (hbe.trans (hba.mono hbe.size))
  clear hba
  have HBE := Lib.hid hbe
  clear hc hbe k1 c0
  unfold twA
  go_enter Tryz.func45, Tryz.ntmps45
  go_upto_region 1 with (fail)
  change Code.wp _ _ _ _ (w.alloc (twO ⟨9, tx, 0, ln, cl, ks⟩ kv))
  rw [← hW]
  clear hW
  go_upto_region 18 with (fail)
  generalize hgen : w.heap.size = b0 at *
  go_region
  go_wp2_with fail
  go_ret
  exact ⟨ret_str (by simp), by first | exact HBA.out | exact bdrew HBA.out _ | (rw [hgen]; first | exact HBA.out | exact bdrew HBA.out _)⟩
set_option maxRecDepth 100000 in
set_option maxHeartbeats 2000000 in
theorem decl_9_1 (t : Tw) (kv : Value) (x0 : List UInt8) (v : Value) (w : World) (hk : t.kind = 9) (hK : SR w v [x0]) (ht : t.text.length ≤ 1000) (hx0 : x0.length ≤ 1000000) (hn : t.n = 1) :
    Calls Tryz.prog 45 #[twA t kv, v] w fun e w' => e = .returned (.string ⟨([115, 116, 97, 114, 116, 32] ++ x0).toArray⟩) ∧ Below w.heap.size w w' := by
  obtain ⟨kd, tx, nn, ln, cl, ks⟩ := t
  simp only at hk ht hn
  subst hk
  subst hn
  obtain ⟨A, cap, rfl, hcap, hc⟩ := hK
  have zt := str_size tx
  have z0 := str_size x0
  obtain ⟨g, off, rfl, hg, c0⟩ := hc 0 x0 rfl
  rw [Nat.add_zero] at c0
  obtain ⟨W, hW⟩ : ∃ W : World, W = w.alloc (twO ⟨9, tx, 1, ln, cl, ks⟩ kv) := ⟨_, rfl⟩
  have hbe : Below w.heap.size w W := by rw [hW]; exact (Below.refl _ w).alloc (Nat.le_refl _) _
  have k1 : W.heap[w.heap.size]? = some (twO ⟨9, tx, 1, ln, cl, ks⟩ kv) := by
    rw [hW]
    exact heap_alloc_new w _
  obtain ⟨p0, p1, p2, p3, p4, p5⟩ := tw_cells k1
  have q0 := (hbe.cell (p := ⟨g, off, none⟩) hg).trans c0
  have hlw : w.heap.size < W.heap.size := lt_of_block k1
  have hlg : g < W.heap.size := Nat.lt_of_lt_of_le hg hbe.size
  have hba := (Below.refl W.heap.size W).alloc (Nat.le_refl _) (.cells #[.string ⟨#[99, 114, 101, 97, 116, 101, 32]⟩, .string ⟨#[115, 116, 97, 114, 116, 32]⟩, .string ⟨#[115, 116, 111, 112, 32]⟩, .string ⟨#[100, 101, 115, 116, 114, 111, 121, 32]⟩] 9)
  have pa1 := (hba.cell (p := ⟨w.heap.size, 1, none⟩) hlw).trans p1
  have pa2 := (hba.cell (p := ⟨w.heap.size, 2, none⟩) hlw).trans p2
  have qa0 := (hba.cell (p := ⟨g, off, none⟩) hlg).trans q0
  have na : (W.alloc (.cells #[.string ⟨#[99, 114, 101, 97, 116, 101, 32]⟩, .string ⟨#[115, 116, 97, 114, 116, 32]⟩, .string ⟨#[115, 116, 111, 112, 32]⟩, .string ⟨#[100, 101, 115, 116, 114, 111, 121, 32]⟩] 9)).cell? ⟨W.heap.size, 1, none⟩ = some (.string ⟨#[115, 116, 97, 114, 116, 32]⟩) := al_cell rfl
  have HBA := Lib.hid (hbe.trans (hba.mono hbe.size))
  clear hba
  have HBE := Lib.hid hbe
  clear hc hbe k1 c0
  unfold twA
  go_enter Tryz.func45, Tryz.ntmps45
  go_upto_region 1 with (fail)
  change Code.wp _ _ _ _ (w.alloc (twO ⟨9, tx, 1, ln, cl, ks⟩ kv))
  rw [← hW]
  clear hW
  go_upto_region 18 with (fail)
  generalize hgen : w.heap.size = b0 at *
  go_region
  go_wp2_with fail
  go_ret
  exact ⟨ret_str (by simp), by first | exact HBA.out | exact bdrew HBA.out _ | (rw [hgen]; first | exact HBA.out | exact bdrew HBA.out _)⟩
set_option maxRecDepth 100000 in
set_option maxHeartbeats 2000000 in
theorem decl_9_2 (t : Tw) (kv : Value) (x0 : List UInt8) (v : Value) (w : World) (hk : t.kind = 9) (hK : SR w v [x0]) (ht : t.text.length ≤ 1000) (hx0 : x0.length ≤ 1000000) (hn : t.n = 2) :
    Calls Tryz.prog 45 #[twA t kv, v] w fun e w' => e = .returned (.string ⟨([115, 116, 111, 112, 32] ++ x0).toArray⟩) ∧ Below w.heap.size w w' := by
  obtain ⟨kd, tx, nn, ln, cl, ks⟩ := t
  simp only at hk ht hn
  subst hk
  subst hn
  obtain ⟨A, cap, rfl, hcap, hc⟩ := hK
  have zt := str_size tx
  have z0 := str_size x0
  obtain ⟨g, off, rfl, hg, c0⟩ := hc 0 x0 rfl
  rw [Nat.add_zero] at c0
  obtain ⟨W, hW⟩ : ∃ W : World, W = w.alloc (twO ⟨9, tx, 2, ln, cl, ks⟩ kv) := ⟨_, rfl⟩
  have hbe : Below w.heap.size w W := by rw [hW]; exact (Below.refl _ w).alloc (Nat.le_refl _) _
  have k1 : W.heap[w.heap.size]? = some (twO ⟨9, tx, 2, ln, cl, ks⟩ kv) := by
    rw [hW]
    exact heap_alloc_new w _
  obtain ⟨p0, p1, p2, p3, p4, p5⟩ := tw_cells k1
  have q0 := (hbe.cell (p := ⟨g, off, none⟩) hg).trans c0
  have hlw : w.heap.size < W.heap.size := lt_of_block k1
  have hlg : g < W.heap.size := Nat.lt_of_lt_of_le hg hbe.size
  have hba := (Below.refl W.heap.size W).alloc (Nat.le_refl _) (.cells #[.string ⟨#[99, 114, 101, 97, 116, 101, 32]⟩, .string ⟨#[115, 116, 97, 114, 116, 32]⟩, .string ⟨#[115, 116, 111, 112, 32]⟩, .string ⟨#[100, 101, 115, 116, 114, 111, 121, 32]⟩] 9)
  have pa1 := (hba.cell (p := ⟨w.heap.size, 1, none⟩) hlw).trans p1
  have pa2 := (hba.cell (p := ⟨w.heap.size, 2, none⟩) hlw).trans p2
  have qa0 := (hba.cell (p := ⟨g, off, none⟩) hlg).trans q0
  have na : (W.alloc (.cells #[.string ⟨#[99, 114, 101, 97, 116, 101, 32]⟩, .string ⟨#[115, 116, 97, 114, 116, 32]⟩, .string ⟨#[115, 116, 111, 112, 32]⟩, .string ⟨#[100, 101, 115, 116, 114, 111, 121, 32]⟩] 9)).cell? ⟨W.heap.size, 2, none⟩ = some (.string ⟨#[115, 116, 111, 112, 32]⟩) := al_cell rfl
  have HBA := Lib.hid (hbe.trans (hba.mono hbe.size))
  clear hba
  have HBE := Lib.hid hbe
  clear hc hbe k1 c0
  unfold twA
  go_enter Tryz.func45, Tryz.ntmps45
  go_upto_region 1 with (fail)
  change Code.wp _ _ _ _ (w.alloc (twO ⟨9, tx, 2, ln, cl, ks⟩ kv))
  rw [← hW]
  clear hW
  go_upto_region 18 with (fail)
  generalize hgen : w.heap.size = b0 at *
  go_region
  go_wp2_with fail
  go_ret
  exact ⟨ret_str (by simp), by first | exact HBA.out | exact bdrew HBA.out _ | (rw [hgen]; first | exact HBA.out | exact bdrew HBA.out _)⟩
set_option maxRecDepth 100000 in
set_option maxHeartbeats 2000000 in
theorem decl_9_3 (t : Tw) (kv : Value) (x0 : List UInt8) (v : Value) (w : World) (hk : t.kind = 9) (hK : SR w v [x0]) (ht : t.text.length ≤ 1000) (hx0 : x0.length ≤ 1000000) (hn : t.n = 3) :
    Calls Tryz.prog 45 #[twA t kv, v] w fun e w' => e = .returned (.string ⟨([100, 101, 115, 116, 114, 111, 121, 32] ++ x0).toArray⟩) ∧ Below w.heap.size w w' := by
  obtain ⟨kd, tx, nn, ln, cl, ks⟩ := t
  simp only at hk ht hn
  subst hk
  subst hn
  obtain ⟨A, cap, rfl, hcap, hc⟩ := hK
  have zt := str_size tx
  have z0 := str_size x0
  obtain ⟨g, off, rfl, hg, c0⟩ := hc 0 x0 rfl
  rw [Nat.add_zero] at c0
  obtain ⟨W, hW⟩ : ∃ W : World, W = w.alloc (twO ⟨9, tx, 3, ln, cl, ks⟩ kv) := ⟨_, rfl⟩
  have hbe : Below w.heap.size w W := by rw [hW]; exact (Below.refl _ w).alloc (Nat.le_refl _) _
  have k1 : W.heap[w.heap.size]? = some (twO ⟨9, tx, 3, ln, cl, ks⟩ kv) := by
    rw [hW]
    exact heap_alloc_new w _
  obtain ⟨p0, p1, p2, p3, p4, p5⟩ := tw_cells k1
  have q0 := (hbe.cell (p := ⟨g, off, none⟩) hg).trans c0
  have hlw : w.heap.size < W.heap.size := lt_of_block k1
  have hlg : g < W.heap.size := Nat.lt_of_lt_of_le hg hbe.size
  have hba := (Below.refl W.heap.size W).alloc (Nat.le_refl _) (.cells #[.string ⟨#[99, 114, 101, 97, 116, 101, 32]⟩, .string ⟨#[115, 116, 97, 114, 116, 32]⟩, .string ⟨#[115, 116, 111, 112, 32]⟩, .string ⟨#[100, 101, 115, 116, 114, 111, 121, 32]⟩] 9)
  have pa1 := (hba.cell (p := ⟨w.heap.size, 1, none⟩) hlw).trans p1
  have pa2 := (hba.cell (p := ⟨w.heap.size, 2, none⟩) hlw).trans p2
  have qa0 := (hba.cell (p := ⟨g, off, none⟩) hlg).trans q0
  have na : (W.alloc (.cells #[.string ⟨#[99, 114, 101, 97, 116, 101, 32]⟩, .string ⟨#[115, 116, 97, 114, 116, 32]⟩, .string ⟨#[115, 116, 111, 112, 32]⟩, .string ⟨#[100, 101, 115, 116, 114, 111, 121, 32]⟩] 9)).cell? ⟨W.heap.size, 3, none⟩ = some (.string ⟨#[100, 101, 115, 116, 114, 111, 121, 32]⟩) := al_cell rfl
  have HBA := Lib.hid (hbe.trans (hba.mono hbe.size))
  clear hba
  have HBE := Lib.hid hbe
  clear hc hbe k1 c0
  unfold twA
  go_enter Tryz.func45, Tryz.ntmps45
  go_upto_region 1 with (fail)
  change Code.wp _ _ _ _ (w.alloc (twO ⟨9, tx, 3, ln, cl, ks⟩ kv))
  rw [← hW]
  clear hW
  go_upto_region 18 with (fail)
  generalize hgen : w.heap.size = b0 at *
  go_region
  go_wp2_with fail
  go_ret
  exact ⟨ret_str (by simp), by first | exact HBA.out | exact bdrew HBA.out _ | (rw [hgen]; first | exact HBA.out | exact bdrew HBA.out _)⟩
set_option maxRecDepth 100000 in
set_option maxHeartbeats 2000000 in
theorem decl_10_0 (t : Tw) (kv : Value) (x0 x1 : List UInt8) (v : Value) (w : World) (hk : t.kind = 10) (hK : SR w v [x0, x1]) (ht : t.text.length ≤ 1000) (hx0 : x0.length ≤ 1000000) (hx1 : x1.length ≤ 1000000) (hn : t.n = 0) :
    Calls Tryz.prog 45 #[twA t kv, v] w fun e w' => e = .returned (.string ⟨([101, 118, 101, 110, 116, 32] ++ t.text ++ [32, 111, 110, 32] ++ x0 ++ [32, 111, 102, 102, 32] ++ x1).toArray⟩) ∧ Below w.heap.size w w' := by
  obtain ⟨kd, tx, nn, ln, cl, ks⟩ := t
  simp only at hk ht hn
  subst hk
  subst hn
  obtain ⟨A, cap, rfl, hcap, hc⟩ := hK
  have zt := str_size tx
  have z0 := str_size x0
  have z1 := str_size x1
  obtain ⟨g, off, rfl, hg, c0⟩ := hc 0 x0 rfl
  rw [Nat.add_zero] at c0
  obtain ⟨g1, off1, e1, hg1, c1⟩ := hc 1 x1 rfl
  injection e1 with e1
  injection e1 with e1 eo1
  subst e1
  subst eo1
  obtain ⟨W, hW⟩ : ∃ W : World, W = w.alloc (twO ⟨10, tx, 0, ln, cl, ks⟩ kv) := ⟨_, rfl⟩
  have hbe : Below w.heap.size w W := by rw [hW]; exact (Below.refl _ w).alloc (Nat.le_refl _) _
  have k1 : W.heap[w.heap.size]? = some (twO ⟨10, tx, 0, ln, cl, ks⟩ kv) := by
    rw [hW]
    exact heap_alloc_new w _
  obtain ⟨p0, p1, p2, p3, p4, p5⟩ := tw_cells k1
  have q0 := (hbe.cell (p := ⟨g, off, none⟩) hg).trans c0
  have q1 := (hbe.cell (p := ⟨g, off + 1, none⟩) hg).trans c1
  have hlw : w.heap.size < W.heap.size := lt_of_block k1
  have hlg : g < W.heap.size := Nat.lt_of_lt_of_le hg hbe.size
  have hba := (Below.refl W.heap.size W).alloc (Nat.le_refl _) (.cells #[.string ⟨#[32, 111, 102, 102, 32]⟩, .string ⟨#[32, 111, 110, 32]⟩] 9)
  have pa1 := (hba.cell (p := ⟨w.heap.size, 1, none⟩) hlw).trans p1
  have pa2 := (hba.cell (p := ⟨w.heap.size, 2, none⟩) hlw).trans p2
  have qa0 := (hba.cell (p := ⟨g, off, none⟩) hlg).trans q0
  have qa1 := (hba.cell (p := ⟨g, off + 1, none⟩) hlg).trans q1
  have na : (W.alloc (.cells #[.string ⟨#[32, 111, 102, 102, 32]⟩, .string ⟨#[32, 111, 110, 32]⟩] 9)).cell? ⟨W.heap.size, 0, none⟩ = some (.string ⟨#[32, 111, 102, 102, 32]⟩) := al_cell rfl
  have HBA := Lib.hid (hbe.trans (hba.mono hbe.size))
  clear hba
  have HBE := Lib.hid hbe
  clear hc hbe k1 c0 c1
  unfold twA
  go_enter Tryz.func45, Tryz.ntmps45
  go_upto_region 1 with (fail)
  change Code.wp _ _ _ _ (w.alloc (twO ⟨10, tx, 0, ln, cl, ks⟩ kv))
  rw [← hW]
  clear hW
  go_upto_region 20 with (fail)
  generalize hgen : w.heap.size = b0 at *
  go_region
  go_wp2_with fail
  go_ret
  exact ⟨ret_str (by simp), by first | exact HBA.out | exact bdrew HBA.out _ | (rw [hgen]; first | exact HBA.out | exact bdrew HBA.out _)⟩
set_option maxRecDepth 100000 in
set_option maxHeartbeats 2000000 in
theorem decl_10_1 (t : Tw) (kv : Value) (x0 x1 : List UInt8) (v : Value) (w : World) (hk : t.kind = 10) (hK : SR w v [x0, x1]) (ht : t.text.length ≤ 1000) (hx0 : x0.length ≤ 1000000) (hx1 : x1.length ≤ 1000000) (hn : t.n = 1) :
    Calls Tryz.prog 45 #[twA t kv, v] w fun e w' => e = .returned (.string ⟨([101, 118, 101, 110, 116, 32] ++ t.text ++ [32, 111, 110, 32] ++ x0 ++ [32, 111, 110, 32] ++ x1).toArray⟩) ∧ Below w.heap.size w w' := by
  obtain ⟨kd, tx, nn, ln, cl, ks⟩ := t
  simp only at hk ht hn
  subst hk
  subst hn
  obtain ⟨A, cap, rfl, hcap, hc⟩ := hK
  have zt := str_size tx
  have z0 := str_size x0
  have z1 := str_size x1
  obtain ⟨g, off, rfl, hg, c0⟩ := hc 0 x0 rfl
  rw [Nat.add_zero] at c0
  obtain ⟨g1, off1, e1, hg1, c1⟩ := hc 1 x1 rfl
  injection e1 with e1
  injection e1 with e1 eo1
  subst e1
  subst eo1
  obtain ⟨W, hW⟩ : ∃ W : World, W = w.alloc (twO ⟨10, tx, 1, ln, cl, ks⟩ kv) := ⟨_, rfl⟩
  have hbe : Below w.heap.size w W := by rw [hW]; exact (Below.refl _ w).alloc (Nat.le_refl _) _
  have k1 : W.heap[w.heap.size]? = some (twO ⟨10, tx, 1, ln, cl, ks⟩ kv) := by
    rw [hW]
    exact heap_alloc_new w _
  obtain ⟨p0, p1, p2, p3, p4, p5⟩ := tw_cells k1
  have q0 := (hbe.cell (p := ⟨g, off, none⟩) hg).trans c0
  have q1 := (hbe.cell (p := ⟨g, off + 1, none⟩) hg).trans c1
  have hlw : w.heap.size < W.heap.size := lt_of_block k1
  have hlg : g < W.heap.size := Nat.lt_of_lt_of_le hg hbe.size
  have hba := (Below.refl W.heap.size W).alloc (Nat.le_refl _) (.cells #[.string ⟨#[32, 111, 102, 102, 32]⟩, .string ⟨#[32, 111, 110, 32]⟩] 9)
  have pa1 := (hba.cell (p := ⟨w.heap.size, 1, none⟩) hlw).trans p1
  have pa2 := (hba.cell (p := ⟨w.heap.size, 2, none⟩) hlw).trans p2
  have qa0 := (hba.cell (p := ⟨g, off, none⟩) hlg).trans q0
  have qa1 := (hba.cell (p := ⟨g, off + 1, none⟩) hlg).trans q1
  have na : (W.alloc (.cells #[.string ⟨#[32, 111, 102, 102, 32]⟩, .string ⟨#[32, 111, 110, 32]⟩] 9)).cell? ⟨W.heap.size, 1, none⟩ = some (.string ⟨#[32, 111, 110, 32]⟩) := al_cell rfl
  have HBA := Lib.hid (hbe.trans (hba.mono hbe.size))
  clear hba
  have HBE := Lib.hid hbe
  clear hc hbe k1 c0 c1
  unfold twA
  go_enter Tryz.func45, Tryz.ntmps45
  go_upto_region 1 with (fail)
  change Code.wp _ _ _ _ (w.alloc (twO ⟨10, tx, 1, ln, cl, ks⟩ kv))
  rw [← hW]
  clear hW
  go_upto_region 20 with (fail)
  generalize hgen : w.heap.size = b0 at *
  go_region
  go_wp2_with fail
  go_ret
  exact ⟨ret_str (by simp), by first | exact HBA.out | exact bdrew HBA.out _ | (rw [hgen]; first | exact HBA.out | exact bdrew HBA.out _)⟩
end Go.Proofs.YtehdljcmeimbcaaGreat
