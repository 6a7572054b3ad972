/- The document's heap: SameObject. -/
import Derived.Test.YtjgggfickbbieaaHrJ
namespace Go.Proofs.Ytjgggfickbbieaa
open Go.RowKit Go.Shelf
attribute [local go_sem] Oper.semAt_some
def Ob.key (x : Ob) : Int × Int × Int × Int × Int × List Int := (x.kind, x.of, x.site, x.by', x.nth, x.vals)
def sameOb (x y : Ob) : Bool := decide (x.key = y.key)
theorem same_not {x y : Ob} (h : x.key = y.key → False) : sameOb x y = false := by simpa [sameOb] using h
theorem getD_ext {l m : List Int} (hl : l.length = m.length) (h : ∀ i, i < l.length → l.getD i 0 = m.getD i 0) : l = m := by
  apply List.ext_getElem hl
  intro i h1 h2
  have := h i h1
  simpa [List.getD, h1, h2] using this
theorem ret_bool {a b : Bool} (h : a = b) : Ending.returned (.bool a) = .returned (.bool b) := by rw [h]
section
variable {W : World}
set_option maxHeartbeats 4000000 in
set_option maxRecDepth 100000 in
theorem refSameOb_ok (x y : Ob) {B1 B2 : Nat} (hx : W.ownsRow B1 2 1 x.v x.vals.length (rowI x.vals)) (hy : W.ownsRow B2 2 1 y.v y.vals.length (rowI y.vals)) (hn : x.vals.length ≤ 256) (hm : y.vals.length ≤ 256) :
    Calls Try.prog 32 #[.agg #[.int .i64 x.kind, .int .i64 x.of, x.v, .int .i64 x.site, .int .i64 x.by', .int .i64 x.nth], .agg #[.int .i64 y.kind, .int .i64 y.of, y.v, .int .i64 y.site, .int .i64 y.by', .int .i64 y.nth]] W fun e W' => e = .returned (.bool (sameOb x y)) ∧ Ext W W' := by
  obtain ⟨k, o, v, l, s, b, n⟩ := x
  obtain ⟨k2, o2, v2, l2, s2, b2, n2⟩ := y
  dsimp only at *
  obtain ⟨A, c, rfl⟩ := own_slice3 hx
  obtain ⟨A2, c2, rfl⟩ := own_slice3 hy
  have HX := Lib.hid hx
  have HY := Lib.hid hy
  clear hx hy
  by_cases e : k2 = k
  case neg =>
    have E := Lib.hid e
    have e' : (k != k2) = true := by simpa using Ne.symm e
    clear e
    rw [same_not (fun h => E.out (by simp [Ob.key] at h; simp [h]))]
    go_enter Try.func32, Try.ntmps32
    go_wp2_with fail
    go_ret
    exact ⟨rfl, Ext.two _ _ _⟩
  subst e
  by_cases e : o2 = o
  case neg =>
    have E := Lib.hid e
    have e' : (o != o2) = true := by simpa using Ne.symm e
    clear e
    rw [same_not (fun h => E.out (by simp [Ob.key] at h; simp [h]))]
    go_enter Try.func32, Try.ntmps32
    go_wp2_with fail
    go_ret
    exact ⟨rfl, Ext.two _ _ _⟩
  subst e
  by_cases e : s2 = s
  case neg =>
    have E := Lib.hid e
    have e' : (s != s2) = true := by simpa using Ne.symm e
    clear e
    rw [same_not (fun h => E.out (by simp [Ob.key] at h; simp [h]))]
    go_enter Try.func32, Try.ntmps32
    go_wp2_with fail
    go_ret
    exact ⟨rfl, Ext.two _ _ _⟩
  subst e
  by_cases e : b2 = b
  case neg =>
    have E := Lib.hid e
    have e' : (b != b2) = true := by simpa using Ne.symm e
    clear e
    rw [same_not (fun h => E.out (by simp [Ob.key] at h; simp [h]))]
    go_enter Try.func32, Try.ntmps32
    go_wp2_with fail
    go_ret
    exact ⟨rfl, Ext.two _ _ _⟩
  subst e
  by_cases e : n2 = n
  case neg =>
    have E := Lib.hid e
    have e' : (n != n2) = true := by simpa using Ne.symm e
    clear e
    rw [same_not (fun h => E.out (by simp [Ob.key] at h; simp [h]))]
    go_enter Try.func32, Try.ntmps32
    go_wp2_with fail
    go_ret
    exact ⟨rfl, Ext.two _ _ _⟩
  subst e
  by_cases e : l.length = l2.length
  case neg =>
    have E := Lib.hid e
    have e' : ((l.length : Int) != (l2.length : Int)) = true := by simp; omega
    clear e
    rw [same_not (fun h => E.out (by simp [Ob.key] at h; simp [h]))]
    go_enter Try.func32, Try.ntmps32
    go_wp2_with fail
    go_ret
    exact ⟨rfl, Ext.two _ _ _⟩
  rw [← e] at HY
  rw [← e]
  have HE := Lib.hid e
  obtain ⟨r, hr⟩ : ∃ r, r = sameOb ⟨k2, o2, .slice A l.length c, l, s2, b2, n2⟩ ⟨k2, o2, .slice A2 l.length c2, l2, s2, b2, n2⟩ := ⟨_, rfl⟩
  rw [← hr]
  have HR := Lib.hid hr
  obtain ⟨W2, hW2⟩ : ∃ W2, W2 = (W.alloc (.cells #[.int .i64 k2, .int .i64 o2, .slice A l.length c, .int .i64 s2, .int .i64 b2, .int .i64 n2] 45 (0, 0))).alloc (.cells #[.int .i64 k2, .int .i64 o2, .slice A2 l.length c2, .int .i64 s2, .int .i64 b2, .int .i64 n2] 45 (0, 0)) := ⟨_, rfl⟩
  have hE2 : Ext W W2 := by rw [hW2]; exact Ext.two _ _ _
  have hs2 : W2.heap.size = W.heap.size + 2 := by rw [hW2]; simp
  have hr0 : W2.heap[W.heap.size]? = some (obo ⟨k2, o2, .slice A l.length c, l, s2, b2, n2⟩ n2) := by rw [hW2]; exact (Below.heap_alloc _ _ _ (by simp)).trans (World.alloc_heap_new _ _)
  have hr1 : W2.heap[W.heap.size + 1]? = some (obo ⟨k2, o2, .slice A2 l.length c2, l2, s2, b2, n2⟩ n2) := by rw [hW2]; have := World.alloc_heap_new (W.alloc (.cells #[.int .i64 k2, .int .i64 o2, .slice A l.length c, .int .i64 s2, .int .i64 b2, .int .i64 n2] 45 (0, 0))) (.cells #[.int .i64 k2, .int .i64 o2, .slice A2 l.length c2, .int .i64 s2, .int .i64 b2, .int .i64 n2] 45 (0, 0)); rwa [World.size_alloc] at this
  have HW := Lib.hid hW2
  have HE2 := Lib.hid hE2
  have HR0 := Lib.hid hr0
  have HR1 := Lib.hid hr1
  obtain ⟨⟨p0, p1, p2, p3, p4, p5⟩, _, pl⟩ := obo_cells hr0
  obtain ⟨⟨q0, q1, q2, q3, q4, q5⟩, _, ql⟩ := obo_cells hr1
  dsimp only at p0 p1 p2 p3 p4 p5 q0 q1 q2 q3 q4 q5
  clear hr hW2 hE2 hr0 hr1 e hm
  go_enter Try.func32, Try.ntmps32
  go_upto_region 1 with (fail)
  change Code.wp _ _ _ _ ((W.alloc (.cells #[.int .i64 k2, .int .i64 o2, .slice A l.length c, .int .i64 s2, .int .i64 b2, .int .i64 n2] 45 (0, 0))).alloc (.cells #[.int .i64 k2, .int .i64 o2, .slice A2 l.length c2, .int .i64 s2, .int .i64 b2, .int .i64 n2] 45 (0, 0)))
  rw [← HW.out]
  go_wp2_with fail
  clear p0 p1 p2 p3 p4 p5 q0 q1 q2 q3 q4 q5 pl ql
  go_loopg [5] l.length (fun k v5 wr => ∃ i : Nat, i + k = l.length ∧ v5 = .int .i64 i ∧ Ext W2 wr ∧ ∀ j, j < i → l.getD j 0 = l2.getD j 0)
  case atStart => exact ⟨0, by omega, rfl, Ext.refl _, by simp⟩
  case round =>
    obtain ⟨i, hik, rfl, hx, hall⟩ := hrel
    have HX0 := Lib.hid hx
    have hxk := hx.kept (fun _ _ => true)
    obtain ⟨⟨_, _, p2, _⟩, _, pl⟩ := obo_cells (hxk.same _ _ HR0.out rfl)
    obtain ⟨⟨_, _, q2, _⟩, _, ql⟩ := obo_cells (hxk.same _ _ HR1.out rfl)
    dsimp only at p2 q2
    have hA := hxk.row ((HE2.out.kept (fun _ _ => true)).row HX.out fun _ _ => rfl) fun _ _ => rfl
    have hB := hxk.row ((HE2.out.kept (fun _ _ => true)).row HY.out fun _ _ => rfl) fun _ _ => rfl
    have HIK := Lib.hid hik
    have HALL := Lib.hid hall
    clear hik hall hx hxk
    by_cases hlt : i < l.length
    · obtain ⟨g, cc, ea, d0⟩ := ownI_cell hA hlt
      injection ea with ea _ ec
      subst ea ec
      obtain ⟨g2, cc2, eb, d1⟩ := ownI_cell (l := l2) (by rw [HE.out] at hB; exact hB) (show i < l2.length by rw [← HE.out]; exact hlt)
      injection eb with eb _ ed
      subst eb ed
      have hil : (i : Int) < (l.length : Int) := by omega
      clear hA hB
      by_cases hk : l.getD i 0 = l2.getD i 0
      · rw [← hk] at d1
        have HK := Lib.hid hk
        clear hk
        generalize l.getD i 0 = z at d0 d1
        go_upto_region 6 with (fail)
        go_region
        all_goals
          go_wp2_with fail
          go_roundg (gk - 1)
          case measure => have := HIK.out; omega
          case rel => exact ⟨i + 1, by have := HIK.out; omega, by go_num, HX0.out.trans (Ext.drew _), fun j hj => by
            rcases Nat.lt_or_ge j i with h | h
            · exact HALL.out j h
            · have : j = i := by omega
              subst this; exact HK.out⟩
      · have HK := Lib.hid hk
        obtain ⟨z, hz⟩ : ∃ z, z = l.getD i 0 := ⟨_, rfl⟩
        obtain ⟨z2, hz2⟩ : ∃ z, z = l2.getD i 0 := ⟨_, rfl⟩
        rw [← hz] at d0
        rw [← hz2] at d1
        have hk' : ¬ z = z2 := by rw [hz, hz2]; exact hk
        clear hk hz hz2
        go_upto_region 6 with (fail)
        go_region
        all_goals
          go_wp2_with fail
          go_ret
          refine ⟨ret_bool ?_, (HE2.out.trans HX0.out).trans (Ext.drew _)⟩
          rw [HR.out, same_not (fun h => HK.out (by simp [Ob.key] at h; rw [h]))]
    · clear hA hB
      go_wp2_with fail
      go_ret
      refine ⟨?_, HE2.out.trans HX0.out⟩
      have : l = l2 := getD_ext HE.out fun j hj => HALL.out j (by omega)
      rw [HR.out]
      subst this
      simp [sameOb, Ob.key]
end
end Go.Proofs.Ytjgggfickbbieaa
