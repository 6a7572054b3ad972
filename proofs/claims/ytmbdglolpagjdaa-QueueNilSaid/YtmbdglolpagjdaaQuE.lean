/- container/heap, over any value with the methods of a heap. -/
import Derived.Test.YtmbdglolpagjdaaQuA
import Derived.Lib.Hide
import Derived.Deep.QuietTactic
import Derived.BigQuiet
import Derived.RegionTactic
import Derived.Outline
import Derived.WalkLawsBesides
import Derived.LoopIn
import Derived.LoopTactic
import Derived.Shelf.Abstract
namespace Go.Proofs.Ytmbdglolpagjdaa
open Go.RowKit Go.Shelf

theorem ret_bool {a b : Bool} (h : a = b) : Ending.returned (.bool a) = .returned (.bool b) := by rw [h]
/-- A value with the methods of a heap: what each does to what it holds. -/
structure HI {α : Type} [Inhabited α] (S : List α → World → Prop) (lt : α → α → Bool) (T : TypeId) (rv : Value) (te : TypeId) (enc : α → Value) (ok : List α → α → Prop) (top : Nat) (gn gl gs gp gq : Nat) : Prop where
  mn : ∀ w, Sem.run Try.prog (method 218 T rv "Len") w = .ok (gn, rv) w
  ml : ∀ w, Sem.run Try.prog (method 218 T rv "Less") w = .ok (gl, rv) w
  ms : ∀ w, Sem.run Try.prog (method 218 T rv "Swap") w = .ok (gs, rv) w
  mp : ∀ w, Sem.run Try.prog (method 218 T rv "Push") w = .ok (gp, rv) w
  mq : ∀ w, Sem.run Try.prog (method 218 T rv "Pop") w = .ok (gq, rv) w
  en : ∀ args w, (callFunc gn args).run Try.prog w = .ok (.enter gn args) w
  el : ∀ args w, (callFunc gl args).run Try.prog w = .ok (.enter gl args) w
  es : ∀ args w, (callFunc gs args).run Try.prog w = .ok (.enter gs args) w
  ep : ∀ args w, (callFunc gp args).run Try.prog w = .ok (.enter gp args) w
  eq : ∀ args w, (callFunc gq args).run Try.prog w = .ok (.enter gq args) w
  swo : Swo lt
  small : top < 1000000000000
  bound : ∀ l w, S l w → l.length ≤ top
  len : ∀ l w, S l w → Calls Try.prog gn #[rv] w fun e w' => e = .returned (.int .i64 l.length) ∧ S l w'
  less : ∀ l w, S l w → ∀ i j : Nat, i < l.length → j < l.length → Calls Try.prog gl #[rv, .int .i64 i, .int .i64 j] w fun e w' => e = .returned (.bool (lt (nth l i) (nth l j))) ∧ S l w'
  swap : ∀ l w, S l w → ∀ i j : Nat, i < l.length → j < l.length → Calls Try.prog gs #[rv, .int .i64 i, .int .i64 j] w fun e w' => e = .returned (.tuple #[]) ∧ S (swp l i j) w'
  push : ∀ l x w, S l w → ok l x → Calls Try.prog gp #[rv, .iface te (enc x)] w fun e w' => e = .returned (.tuple #[]) ∧ S (l ++ [x]) w'
  pop : ∀ l x w, S (l ++ [x]) w → Calls Try.prog gq #[rv] w fun e w' => e = .returned (.iface te (enc x)) ∧ S l w'

section
variable {α : Type} [Inhabited α] {S : List α → World → Prop} {lt : α → α → Bool} {T : TypeId} {rv : Value} {te : TypeId} {enc : α → Value} {ok : List α → α → Prop} {top gn gl gs gp gq : Nat}
/-- What heap.up leaves. -/
def UpE (S : List α → World → Prop) (lt : α → α → Bool) (a t : List α) (e : Ending) (w' : World) : Prop := e = .returned (.tuple #[]) ∧ ∃ a', a'.Perm a ∧ Heap lt (nth a') a.length ∧ S (a' ++ t) w'
def UpL (S : List α → World → Prop) (lt : α → α → Bool) (a t : List α) (v : Value) (w' : World) : Prop := ∃ (j : Nat) (a' : List α), v = .int .i64 j ∧ j < a.length ∧ a'.Perm a ∧ HU lt (nth a') a.length j ∧ S (a' ++ t) w'

set_option maxHeartbeats 2000000 in
set_option maxRecDepth 100000 in
theorem up_ok (h : HI S lt T rv te enc ok top gn gl gs gp gq) (a t : List α) (j : Nat) (w : World) (hS : S (a ++ t) w) (hj : j < a.length) (hu : HU lt (nth a) a.length j) :
    Calls Try.prog 46 #[.iface T rv, .int .i64 j] w (UpE S lt a t) := by
  have ml := h.ml; have ms := h.ms; have el := h.el; have es := h.es
  have hb : a.length ≤ top := by have := h.bound _ _ hS; simp at this; omega
  have hsm := h.small
  have H := Lib.hid h
  clear h
  go_enter Try.func46, Try.ntmps46
  go_wp2
  go_loopw [1] (fun v wr => UpL S lt a t v wr) (fun v _ => (intOf v).toNat)
  case atStart => exact ⟨j, a, rfl, hj, .refl _, hu, hS⟩
  case round =>
    obtain ⟨j, a', rfl, hj, hp, hu, hS⟩ := hrel
    have HL := Lib.hid hp.length_eq
    have HS := Lib.hid hS
    have HU' := Lib.hid hu
    have HP := Lib.hid hp
    clear hS hu hp
    rcases Nat.eq_zero_or_pos j with rfl | h0
    · go_wp2
      go_end0
      exact ⟨rfl, a', HP.out, HU'.out.zero, HS.out⟩
    · have hlen := HL.out
      have ej : (((j - 1) / 2 : Nat) : Int) = ((j : Int) - 1) / 2 := by omega
      have hl := H.out.less _ _ HS.out j ((j - 1) / 2) (by simp; omega) (by simp; omega)
      rw [nth_left (by omega), nth_left (by omega), ej] at hl
      have hsw := fun W (hW : S (a' ++ t) W) => H.out.swap _ _ hW ((j - 1) / 2) j (by simp; omega) (by simp; omega)
      rw [swp_left (by omega) (by omega), ej] at hsw
      have e2 : (((j : Int) - 1) / 2 == (j : Int)) = false := by simp; omega
      have h0' : (1 : Int) ≤ (j : Int) := by omega
      have HSW := Lib.hid hsw
      have EJ := Lib.hid ej
      clear hsw ej hlen
      cases hlv : lt (nth a' j) (nth a' ((j - 1) / 2)) with
      | true =>
        rw [hlv] at hl
        have HLV := Lib.hid hlv
        clear hlv
        go_wp2_with (first
          | (go_at_fn gl; refine hl.mono ?_; rintro e w' ⟨rfl, hS1⟩; have HS1 := Lib.hid hS1; clear hS1)
          | (go_at_fn gs; refine (HSW.out _ HS1.out).mono ?_; rintro e w' ⟨rfl, hS2⟩; have HS2 := Lib.hid hS2; clear hS2))
        go_roundw
        case rel =>
          refine ⟨(j - 1) / 2, swp a' ((j - 1) / 2) j, by rw [EJ.out], by omega, (swp_perm (by have := HL.out; omega) (by have := HL.out; omega)).trans HP.out, ?_, HS2.out⟩
          exact (HU'.out.step H.out.swo h0 hj HLV.out).ext (by omega) (fun k hk => nth_swp k (by have := HL.out; omega))
        case measure => simp [intOf]; omega
      | false =>
        rw [hlv] at hl
        have HLV := Lib.hid hlv
        clear hlv
        go_wp2_with (go_at_fn gl; refine hl.mono ?_; rintro e w' ⟨rfl, hS1⟩; have HS1 := Lib.hid hS1; clear hS1)
        go_end0
        exact ⟨rfl, a', HP.out, HU'.out.stop HLV.out, HS1.out⟩

/-- What heap.down leaves. -/
def DnE (S : List α → World → Prop) (lt : α → α → Bool) (a t : List α) (i0 : Nat) (e : Ending) (w' : World) : Prop := ∃ (b : Bool) (a' : List α), e = .returned (.bool b) ∧ a'.Perm a ∧ (b = true → Heap lt (nth a') a.length) ∧ (b = false → HU lt (nth a') a.length i0) ∧ S (a' ++ t) w'
def DnL (S : List α → World → Prop) (lt : α → α → Bool) (a t : List α) (i0 : Nat) (v : Value) (w' : World) : Prop := ∃ (i : Nat) (a' : List α), v = .int .i64 i ∧ i ≤ a.length ∧ a'.Perm a ∧ HD lt (nth a') a.length i0 i ∧ S (a' ++ t) w'
theorem DnE.stop {a t a' : List α} {i0 i : Nat} {w' : World} (hp : a'.Perm a) (hd : HD lt (nth a') a.length i0 i) (hc : ∀ c, c < a.length → (c = 2 * i + 1 ∨ c = 2 * i + 2) → lt (nth a' c) (nth a' i) = false) (hS : S (a' ++ t) w') :
    DnE S lt a t i0 (.returned (.bool (decide (i0 < i)))) w' := by
  obtain ⟨h1, h2⟩ := hd.stop hc
  have h3 := hd.2.2.2
  refine ⟨_, a', rfl, hp, fun h => h1 (by simp at h; omega), fun h => h2 (by simp at h; omega), hS⟩

omit [Inhabited α] in
theorem Fst.one (S : Swo lt) {f : Nat → α} {n i : Nat} (h : 2 * i + 1 < n) (h2 : n ≤ 2 * i + 2) : Fst lt f n i (2 * i + 1) :=
  ⟨h, .inl rfl, fun c hc hc2 => by
    have e : c = 2 * i + 1 := by omega
    rw [e]; exact S.irr _⟩
omit [Inhabited α] in
theorem Fst.right (S : Swo lt) {f : Nat → α} {n i : Nat} (h : 2 * i + 2 < n) (hv : lt (f (2 * i + 2)) (f (2 * i + 1)) = true) : Fst lt f n i (2 * i + 2) :=
  ⟨h, .inr rfl, fun c hc hc2 => by
    rcases hc2 with rfl | rfl
    · exact S.asym _ _ hv
    · exact S.irr _⟩
omit [Inhabited α] in
theorem Fst.left (S : Swo lt) {f : Nat → α} {n i : Nat} (h : 2 * i + 2 < n) (hv : lt (f (2 * i + 2)) (f (2 * i + 1)) = false) : Fst lt f n i (2 * i + 1) :=
  ⟨by omega, .inl rfl, fun c hc hc2 => by
    rcases hc2 with rfl | rfl
    · exact S.irr _
    · exact hv⟩
set_option maxHeartbeats 4000000 in
set_option maxRecDepth 100000 in
theorem down_ok (h : HI S lt T rv te enc ok top gn gl gs gp gq) (a t : List α) (i0 : Nat) (w : World) (hS : S (a ++ t) w) (hi : i0 ≤ a.length) (hu : HD lt (nth a) a.length i0 i0) :
    Calls Try.prog 49 #[.iface T rv, .int .i64 i0, .int .i64 a.length] w (DnE S lt a t i0) := by
  have ml := h.ml; have ms := h.ms; have el := h.el; have es := h.es
  have hb : a.length ≤ top := by have := h.bound _ _ hS; simp at this; omega
  have hsm := h.small
  have H := Lib.hid h
  clear h
  generalize hn : a.length = n at *
  have HN := Lib.hid hn
  clear hn
  go_enter Try.func49, Try.ntmps49
  go_wp2
  go_loopw [7] (fun v wr => DnL S lt a t i0 v wr) (fun v _ => n - (intOf v).toNat)
  case atStart => exact ⟨i0, a, rfl, by rw [HN.out]; exact hi, .refl _, by rw [HN.out]; exact hu, hS⟩
  case round =>
    obtain ⟨i, a', rfl, hin, hp, hd, hS⟩ := hrel
    rw [HN.out] at hin hd
    have HL := Lib.hid (hp.length_eq.trans HN.out)
    have HS := Lib.hid hS
    have HD' := Lib.hid hd
    have HP := Lib.hid hp
    clear hS hd hp hu
    have h00 : (0 : Int) ≤ 2 * (i : Int) + 1 := by omega
    by_cases hge : n ≤ 2 * i + 1
    · have hge' : (n : Int) ≤ 2 * (i : Int) + 1 := by omega
      go_wp2
      go_ret
      exact DnE.stop HP.out (by rw [HN.out]; exact HD'.out) (fun c hc hc2 => by have := HN.out; omega) HS.out
    · have hlt1 : 2 * (i : Int) + 1 < n := by omega
      have hless := fun (W : World) (hW : S (a' ++ t) W) (p q : Nat) (hp : p < n) (hq : q < n) => H.out.less _ _ hW p q (by have := HL.out; simp; omega) (by have := HL.out; simp; omega)
      have HLE := Lib.hid hless
      have hsw := fun (W : World) (hW : S (a' ++ t) W) (p q : Nat) (hp : p < n) (hq : q < n) => H.out.swap _ _ hW p q (by have := HL.out; simp; omega) (by have := HL.out; simp; omega)
      have HSW := Lib.hid hsw
      clear hless hsw
      by_cases h2 : n ≤ 2 * i + 2
      · have h2' : (n : Int) ≤ 2 * (i : Int) + 1 + 1 := by omega
        have HSa := HS
        have HL1 : Hid True := trivial
        have hF : Fst lt (nth a') n i (2 * i + 1) := Fst.one H.out.swo (by omega) (by omega)
        have ej : (((2 * i + 1 : Nat)) : Int) = 2 * (i : Int) + 1 := by omega
        have hl2 := fun W hW => HLE.out W hW (2 * i + 1) i (by omega) (by omega)
        rw [nth_left (by have := HL.out; omega), nth_left (by have := HL.out; omega), ej] at hl2
        have hs2 := fun W hW => HSW.out W hW i (2 * i + 1) (by omega) (by omega)
        rw [swp_left (by have := HL.out; omega) (by have := HL.out; omega), ej] at hs2
        have HF := Lib.hid hF
        have EJ := Lib.hid ej
        have HS2 := Lib.hid hs2
        clear hF ej hs2
        cases hlv : lt (nth a' (2 * i + 1)) (nth a' i) with
        | true =>
          rw [hlv] at hl2
          have HLV := Lib.hid hlv
          have HL2 := Lib.hid hl2
          clear hlv hl2
          go_wp2_with (first
            | (go_at_fn gl; ((with_reducible refine (HL2.out _ HSa.out).mono ?_); rintro e w' ⟨rfl, hS1⟩; have HSb := Lib.hid hS1; clear hS1))
            | (go_at_fn gs; refine (HS2.out _ HSb.out).mono ?_; rintro e w' ⟨rfl, hS1⟩; have HSc := Lib.hid hS1; clear hS1))
          go_roundw
          case rel =>
            refine ⟨2 * i + 1, swp a' i (2 * i + 1), by rw [EJ.out], by have := HN.out; omega, (swp_perm (by have := HL.out; omega) (by have := HL.out; omega)).trans HP.out, ?_, HSc.out⟩
            rw [HN.out]
            exact (HD'.out.step H.out.swo HF.out HLV.out).ext (by omega) (fun k hk => nth_swp k (by have := HL.out; omega))
          case measure => simp [intOf]; omega
        | false =>
          rw [hlv] at hl2
          have HLV := Lib.hid hlv
          have HL2 := Lib.hid hl2
          clear hlv hl2
          go_wp2_with (first
            | (go_at_fn gl; ((with_reducible refine (HL2.out _ HSa.out).mono ?_); rintro e w' ⟨rfl, hS1⟩; have HSb := Lib.hid hS1; clear hS1)))
          go_ret
          exact DnE.stop HP.out (by rw [HN.out]; exact HD'.out) (fun c hc hc2 => H.out.swo.ntr _ _ _ (HF.out.2.2 c (by have := HN.out; omega) hc2) HLV.out) HSb.out
      · have h2' : 2 * (i : Int) + 1 + 1 < n := by omega
        have e1 : ((2 * i + 1 : Nat) : Int) = 2 * (i : Int) + 1 := by omega
        have e2 : ((2 * i + 2 : Nat) : Int) = 2 * (i : Int) + 1 + 1 := by omega
        have hl1 := HLE.out _ HS.out (2 * i + 2) (2 * i + 1) (by omega) (by omega)
        rw [nth_left (by have := HL.out; omega), nth_left (by have := HL.out; omega), e1, e2] at hl1
        clear e1 e2
        cases hv1 : lt (nth a' (2 * i + 2)) (nth a' (2 * i + 1)) with
        | true =>
          rw [hv1] at hl1
          have HL1 := Lib.hid hl1
          have HV1 := Lib.hid hv1
          clear hl1 hv1
          have hF : Fst lt (nth a') n i (2 * i + 2) := Fst.right H.out.swo (by omega) HV1.out
          have ej : (((2 * i + 2 : Nat)) : Int) = 2 * (i : Int) + 1 + 1 := by omega
          have hl2 := fun W hW => HLE.out W hW (2 * i + 2) i (by omega) (by omega)
          rw [nth_left (by have := HL.out; omega), nth_left (by have := HL.out; omega), ej] at hl2
          have hs2 := fun W hW => HSW.out W hW i (2 * i + 2) (by omega) (by omega)
          rw [swp_left (by have := HL.out; omega) (by have := HL.out; omega), ej] at hs2
          have HF := Lib.hid hF
          have EJ := Lib.hid ej
          have HS2 := Lib.hid hs2
          clear hF ej hs2
          cases hlv : lt (nth a' (2 * i + 2)) (nth a' i) with
          | true =>
            rw [hlv] at hl2
            have HLV := Lib.hid hlv
            have HL2 := Lib.hid hl2
            clear hlv hl2
            go_wp2_with (first
              | (go_at_fn gl; ((with_reducible refine (HL1.out).mono ?_); rintro e w' ⟨rfl, hS1⟩; have HSa := Lib.hid hS1; clear hS1))
              | (go_at_fn gl; ((with_reducible refine (HL2.out _ HSa.out).mono ?_); rintro e w' ⟨rfl, hS1⟩; have HSb := Lib.hid hS1; clear hS1))
              | (go_at_fn gs; refine (HS2.out _ HSb.out).mono ?_; rintro e w' ⟨rfl, hS1⟩; have HSc := Lib.hid hS1; clear hS1))
            go_roundw
            case rel =>
              refine ⟨2 * i + 2, swp a' i (2 * i + 2), by rw [EJ.out], by have := HN.out; omega, (swp_perm (by have := HL.out; omega) (by have := HL.out; omega)).trans HP.out, ?_, HSc.out⟩
              rw [HN.out]
              exact (HD'.out.step H.out.swo HF.out HLV.out).ext (by omega) (fun k hk => nth_swp k (by have := HL.out; omega))
            case measure => simp [intOf]; omega
          | false =>
            rw [hlv] at hl2
            have HLV := Lib.hid hlv
            have HL2 := Lib.hid hl2
            clear hlv hl2
            go_wp2_with (first
              | (go_at_fn gl; ((with_reducible refine (HL1.out).mono ?_); rintro e w' ⟨rfl, hS1⟩; have HSa := Lib.hid hS1; clear hS1))
              | (go_at_fn gl; ((with_reducible refine (HL2.out _ HSa.out).mono ?_); rintro e w' ⟨rfl, hS1⟩; have HSb := Lib.hid hS1; clear hS1)))
            go_ret
            exact DnE.stop HP.out (by rw [HN.out]; exact HD'.out) (fun c hc hc2 => H.out.swo.ntr _ _ _ (HF.out.2.2 c (by have := HN.out; omega) hc2) HLV.out) HSb.out
        | false =>
          rw [hv1] at hl1
          have HL1 := Lib.hid hl1
          have HV1 := Lib.hid hv1
          clear hl1 hv1
          have hF : Fst lt (nth a') n i (2 * i + 1) := Fst.left H.out.swo (by omega) HV1.out
          have ej : (((2 * i + 1 : Nat)) : Int) = 2 * (i : Int) + 1 := by omega
          have hl2 := fun W hW => HLE.out W hW (2 * i + 1) i (by omega) (by omega)
          rw [nth_left (by have := HL.out; omega), nth_left (by have := HL.out; omega), ej] at hl2
          have hs2 := fun W hW => HSW.out W hW i (2 * i + 1) (by omega) (by omega)
          rw [swp_left (by have := HL.out; omega) (by have := HL.out; omega), ej] at hs2
          have HF := Lib.hid hF
          have EJ := Lib.hid ej
          have HS2 := Lib.hid hs2
          clear hF ej hs2
          cases hlv : lt (nth a' (2 * i + 1)) (nth a' i) with
          | true =>
            rw [hlv] at hl2
            have HLV := Lib.hid hlv
            have HL2 := Lib.hid hl2
            clear hlv hl2
            go_wp2_with (first
              | (go_at_fn gl; ((with_reducible refine (HL1.out).mono ?_); rintro e w' ⟨rfl, hS1⟩; have HSa := Lib.hid hS1; clear hS1))
              | (go_at_fn gl; ((with_reducible refine (HL2.out _ HSa.out).mono ?_); rintro e w' ⟨rfl, hS1⟩; have HSb := Lib.hid hS1; clear hS1))
              | (go_at_fn gs; refine (HS2.out _ HSb.out).mono ?_; rintro e w' ⟨rfl, hS1⟩; have HSc := Lib.hid hS1; clear hS1))
            go_roundw
            case rel =>
              refine ⟨2 * i + 1, swp a' i (2 * i + 1), by rw [EJ.out], by have := HN.out; omega, (swp_perm (by have := HL.out; omega) (by have := HL.out; omega)).trans HP.out, ?_, HSc.out⟩
              rw [HN.out]
              exact (HD'.out.step H.out.swo HF.out HLV.out).ext (by omega) (fun k hk => nth_swp k (by have := HL.out; omega))
            case measure => simp [intOf]; omega
          | false =>
            rw [hlv] at hl2
            have HLV := Lib.hid hlv
            have HL2 := Lib.hid hl2
            clear hlv hl2
            go_wp2_with (first
              | (go_at_fn gl; ((with_reducible refine (HL1.out).mono ?_); rintro e w' ⟨rfl, hS1⟩; have HSa := Lib.hid hS1; clear hS1))
              | (go_at_fn gl; ((with_reducible refine (HL2.out _ HSa.out).mono ?_); rintro e w' ⟨rfl, hS1⟩; have HSb := Lib.hid hS1; clear hS1)))
            go_ret
            exact DnE.stop HP.out (by rw [HN.out]; exact HD'.out) (fun c hc hc2 => H.out.swo.ntr _ _ _ (HF.out.2.2 c (by have := HN.out; omega) hc2) HLV.out) HSb.out
end
end Go.Proofs.Ytmbdglolpagjdaa
