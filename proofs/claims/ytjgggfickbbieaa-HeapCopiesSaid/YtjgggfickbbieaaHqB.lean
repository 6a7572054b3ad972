/- The program's heap: its objects gone over. -/
import Derived.Test.YtjgggfickbbieaaHpF
import Derived.Test.YtjgggfickbbieaaHqA
import Derived.Deep.LoopGhost
import Derived.Laws.EntriesVeiled
namespace Go.Proofs.Ytjgggfickbbieaa
open Go.RowKit Go.Shelf
attribute [local go_sem] Oper.semAt_some
theorem egEach (args : Array Value) (w : World) : (callFunc 46 args).run Try.prog w = .ok (.enter 46 args) w := by kernel_rfl
def eachE (ps : List Nat) (i : Nat) (x : Array Value) (_ : World) : Prop := x = #[.int .i64 ((i : Int) + 1), .pointer (some ⟨pt ps i, 0, none⟩)]
section
variable {own : Nat → Bool} {bh bl : Nat} {ps : List Nat} {L : List Ob}
set_option maxHeartbeats 1000000 in
set_option maxRecDepth 100000 in
theorem each_seq {w : World} (h : PH own bh ps L w) {A : Option Addr} {c : Nat} {mv : Value} (hv : w.heap[bh]? = some (.cells #[.slice A L.length c, mv] 62 (0, 0))) (hbl : w.heap[bl]? = some (.cells #[.pointer (some ⟨bh, 0, none⟩)] 25 (0, 0)))
    (K : Array Value → Nat → TypeId → Bool) (hK : ∀ x g, (Value.slice A L.length c).ownBlock = some g → K x g 75 = true) :
    Seq 46 #[.pointer (some ⟨bl, 0, none⟩)] (eachE ps) K L.length w := by
  intro n lp J Jx W hW hJ hJx hY h0
  have hx : Ext w W := hW
  have hh := h.ext hx
  have hkx := hx.kept (fun _ _ => true)
  have h1 := hkx.same _ _ hv rfl
  have h2 := hkx.same _ _ hbl rfl
  have hrow : W.ownsRow 0 75 1 (.slice A L.length c) L.length (rowP ps) := by
    obtain ⟨v9, mv9, q1, q2, q3, _⟩ := hh.ex
    rw [h1] at q1
    obtain rfl : Value.slice A L.length c = v9 := by
      simp only [Option.some.injEq, Obj.cells.injEq, and_true] at q1
      have := congrArg Array.toList q1; simp at this; exact this.1
    exact q2
  have c0 : W.cell? ⟨bl, 0, none⟩ = some (.pointer (some ⟨bh, 0, none⟩)) := by simp [World.cell?, h2]
  have c1 : W.cell? ⟨bh, 0, none⟩ = some (.slice A L.length c) := by simp [World.cell?, h1]
  have hbh := hh.bl
  have hln := hh.len
  have hpl := hh.pl
  have HROW := Lib.hid hrow
  have HJ := Lib.hid hJ
  have HJX := Lib.hid hJx
  have HY := Lib.hid hY
  have H0 := Lib.hid h0
  have HK := Lib.hid hK
  have HPL := Lib.hid hpl
  clear hW hx hh hkx h1 h2 hrow hJ hJx hY h0 hK h hv hbl hpl
  refine callsIn_of_wp Try.func46 rfl trivial ?_ rfl
  simp only [Try.ntmps46, List.size_toArray, List.length_cons, List.length_nil, Nat.reduceAdd, Nat.reduceSub, Array.replicate_succ, Array.replicate_zero, List.push_toArray, List.append_toArray, List.nil_append, List.cons_append]
  gi_wp2
  gi_loopw [12] (fun v12 wr => ∃ i : Nat, i ≤ L.length ∧ v12 = .int .i64 i ∧ J i wr ∧ wr.ownsRow 0 75 1 (.slice A L.length c) L.length (rowP ps)) (fun v12 _ => L.length - (intOf v12).toNat)
  case atStart => exact ⟨0, Nat.zero_le _, rfl, H0.out, HROW.out⟩
  case round =>
    obtain ⟨i, hil, rfl, hj, hr⟩ := hrel
    have HJI := Lib.hid hj
    have HRI := Lib.hid hr
    clear hj hr H0 HROW
    by_cases hi : i < L.length
    · obtain ⟨g, cc, e, d0⟩ := ownP_cell HPL.out HRI.out hi
      injection e with e1 _ e3
      subst e1 e3
      have hi' : (i : Int) < (L.length : Int) := by omega
      obtain ⟨fn, tmps, assign, body, hy, hR⟩ := HY.out i _ wr hi rfl HJI.out
      gi_wp2
      refine ⟨fun h => by simp [Fence.wide] at h, hR.mono ?_⟩
      rintro e W3 (⟨rfl, hJ3, hk3⟩ | ⟨rfl, hJx3, hk3⟩)
      · have HJ3 := Lib.hid hJ3
        have HR3 := Lib.hid (hk3.row HRI.out fun g hg => (by simpa [pK] using HK.out _ g hg))
        clear hJ3 hk3 hR hy d0 HJI HRI
        gi_wp2
        go_roundw
        case rel => exact ⟨i + 1, by omega, by go_num, HJ3.out, HR3.out⟩
        case measure => simp [intOf]; omega
      · have HJ3 := Lib.hid hJx3
        clear hJx3 hk3 hR hy d0 HJI HRI
        gi_wp2
        refine bodyPost_ret (results_none rfl _ _ _) rfl ?_
        exact ⟨⟨_, rfl⟩, .inr ⟨i, hi, HJ3.out⟩⟩
    · have hi' : ¬ (i : Int) < (L.length : Int) := by omega
      have e : i = L.length := by omega
      gi_wp2
      go_end0
      exact ⟨⟨_, rfl⟩, .inl (by rw [← e]; exact HJI.out)⟩
set_option maxHeartbeats 1000000 in
set_option maxRecDepth 100000 in
theorem each_ok (a : Option Addr) (w : World) :
    Calls Try.prog 34 #[.pointer a] w fun e w' => e = .returned (.func (.func 46) #[] #[.pointer (some ⟨w.heap.size, 0, none⟩)]) ∧ w' = w.alloc (.cells #[.pointer a] 25) := by
  have hmf : ∀ (fn : Fn) (first cap : Array Value) (w : World), (Instr.makeFunc fn first cap).run Try.prog w = .ok (.func fn first cap) w := fun _ _ _ _ => rfl
  go_enter Try.func34, Try.ntmps34
  go_wp2
  go_ret
  exact ⟨rfl, rfl⟩
end
end Go.Proofs.Ytjgggfickbbieaa
