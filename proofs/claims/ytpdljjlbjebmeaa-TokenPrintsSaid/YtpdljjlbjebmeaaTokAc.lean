/- detentlaw01.TokenPrints: its walk. -/
import Derived.Test.YtpdljjlbjebmeaaTokAb
namespace Go.Proofs.Ytpdljjlbjebmeaa
open Go.RowKit

theorem holds_str (l : List UInt8) (W : World) : Holds (Lib.bytesWorld W 5 ⟨l.toArray⟩) (.slice (some ⟨W.heap.size, 0, none⟩) l.length (grownCap W l.length 0 5)) l :=
  ⟨_, _, rfl, grownCap_ge _ _ _ _, fun _ => ⟨_, _, rfl, bs_str l W⟩⟩

theorem holds_far {w w' : World} {v : Value} {l : List UInt8} (h : Holds w v l) (hb : Below w.heap.size w w') : Holds w' v l := h.below hb
theorem holds_ten (w : World) (m : Nat × Nat) : Holds (w.alloc (.cells #[.int .u8 10] 5 m)) (.slice (some ⟨w.heap.size, 0, none⟩) 1 1) [10] :=
  holds_const w [10] #[.int .u8 10] rfl 1 rfl m

/-- The wide text, as far as it has been put together. -/
def WdR (T : List Tok) (gp : List UInt8) (w : World) (k : Nat) (v5 v6 : Value) (wr : World) : Prop :=
  ∃ i, i + k = T.length ∧ v6 = .int .i64 i ∧ (∀ t ∈ T.take i, One t ∧ t.text.length ≤ 40) ∧ wr.ownsRow w.heap.size 5 1 v5 (wide gp (T.take i)).length (bcs (wide gp (T.take i))) ∧ Below w.heap.size w wr

set_option maxRecDepth 100000 in
set_option maxHeartbeats 4000000 in
theorem prints_walk (T : List Tok) (gp : List UInt8) (A : Option Addr) (cap : Nat) (x : Value) (w : World) (ht : TR w A T) (hx : Holds w x gp) (hn : T.length ≤ 60) (hg : gp.length ≤ 20) :
    Calls Try.prog 5 #[.slice A T.length cap, x] w fun e w' => e = .returned (.bool true) ∧ Below w.heap.size w w' := by
  have HT := Lib.hid ht
  have HX := Lib.hid hx
  obtain ⟨A1, c1, rfl, hc1, hA1⟩ := hx
  have HA1 := Lib.hid hA1
  clear ht hA1
  have h60 : decide (60 < (T.length : Int)) = false := by simp; omega
  have h60' : decide (60 < T.length) = false := by simp; omega
  have h20 : decide (20 < (gp.length : Int)) = false := by simp; omega
  have h20' : decide (20 < gp.length) = false := by simp; omega
  go_enter Try.func5, Try.ntmps5
  go_wp2_with fail
  go_loopg [5, 6] T.length (fun k v5 v6 wr => WdR T gp w k v5 v6 wr)
  case atStart => exact ⟨0, by omega, rfl, by simp, World.ownsRow_nil _ _ _ _, Below.refl _ _⟩
  case round =>
    obtain ⟨i, hik, rfl, hone, hown, hb⟩ := hrel
    have HIK := Lib.hid hik
    have HONE := Lib.hid hone
    have HOWN := Lib.hid hown
    have HB := Lib.hid hb
    have HTr := Lib.hid (HT.out.below hb (Nat.le_refl _))
    clear hik hone hown hb
    by_cases hlt : i < T.length
    · obtain ⟨t, hti⟩ : ∃ t, T[i]? = some t := ⟨T[i], List.getElem?_eq_getElem hlt⟩
      obtain ⟨g, off, rfl, p0, p1, p2, p3, p4⟩ := HTr.out i t hti
      have HTI := Lib.hid hti
      clear hti
      by_cases h40 : t.text.length ≤ 40
      · have hd40 : decide (40 < (t.text.length : Int)) = false := by simp; omega
        have hd40' : decide (40 < t.text.length) = false := by simp; omega
        go_wp2_with (go_at_call 20; refine (is_ok t _ h40).mono ?_)
        rintro e w2 ⟨⟨bb, rfl, hbo⟩, hb2⟩
        cases bb with
        | false =>
          clear hbo
          go_wp2_with (go_at_call 8; refine (known_ok _).mono ?_; rintro e w5 ⟨rfl, hb5⟩)
          go_ret
          exact ⟨rfl, (HB.out.trans (hb2.mono HB.out.size)).trans (hb5.mono (Nat.le_trans HB.out.size hb2.size))⟩
        | true =>
          have HBO := Lib.hid (hbo rfl)
          have HB2 := Lib.hid (HB.out.trans (hb2.mono HB.out.size))
          have HO2 := Lib.hid (own_below HOWN.out hb2)
          have HWL : Hid ((wide gp (T.take i)).length ≤ 3660) := Lib.hid (by
            have h1 := wide_len gp (T.take i) (fun x hx => (HONE.out x hx).2)
            have h2 : (T.take i).length ≤ 60 := by rw [List.length_take]; omega
            have h3 : (T.take i).length * (gp.length + 41) ≤ 60 * 61 := Nat.mul_le_mul h2 (by omega)
            omega)
          have HX2 := Lib.hid (holds_far HX.out HB2.out)
          clear hbo hb2 p0 p1 p2 p3 p4
          go_wp2_with (at_builtin; refine wpList_appB _ rfl _ _ rfl w.heap.size _ _ _ gp rfl rfl HO2.out HX2.out (by have := HWL.out; omega) (by omega) HB2.out.size ?_)
          intro v6 w6 ho6 hg6
          have HB6 := Lib.hid (HB2.out.grown hg6 HB2.out.size (fun k hk => (HO2.out.lt k hk).1))
          have HO6 : Hid (w6.ownsRow w.heap.size 5 1 v6 (wide gp (T.take i) ++ gp).length (bcs (wide gp (T.take i) ++ gp))) := Lib.hid (by first | exact ho6 | (rw [List.length_append]; exact ho6))
          clear hg6 ho6 HO2 HX2
          go_wp2_with (at_builtin; (refine wpList_appB _ rfl _ _ rfl w.heap.size _ _ (wide gp (T.take i) ++ gp) [10] rfl rfl (HO6.out.alloc _) (holds_ten _ _) (by have := HWL.out; rw [List.length_append]; omega) (by decide) (by have := HB6.out.size; simp; omega) ?_))
          intro v7 w7 ho7 hg7
          have HB7 := Lib.hid ((HB6.out.alloc HB6.out.size _).grown hg7 (by have := HB6.out.size; simp; omega) (fun k hk => (HO6.out.lt k hk).1))
          have HO7 : Hid (w7.ownsRow w.heap.size 5 1 v7 (wide gp (T.take i) ++ gp ++ [10]).length (bcs (wide gp (T.take i) ++ gp ++ [10]))) := Lib.hid (by first | exact ho7 | simpa [Nat.add_assoc] using ho7)
          clear hg7 ho7 HO6
          obtain ⟨g', off', hgo, p0, p1, p2, p3, p4⟩ := (HT.out.below HB7.out (Nat.le_refl _)) i t HTI.out
          simp only [Option.some.injEq, Addr.mk.injEq, and_true] at hgo
          obtain ⟨rfl, rfl⟩ := hgo
          clear p0 p2 p3 p4
          obtain ⟨i0, hi0, hz0, hz1, hz2⟩ := info_parts infoByte
          go_wp2_with (at_builtin; refine Lib.wpList_append_own_string _ rfl _ _ 22 9 rfl w.heap.size 5 i0 undR (by kernel_rfl) hi0 hz0 hz1 hz2 _ _ _ rfl HO7.out ⟨t.text.toArray⟩ rfl ?c3 ?c4 ?c5 ?_)
          case c3 => unfold maxLen; have := HWL.out; simp [ByteArray.size]; omega
          case c4 => have := HWL.out; simp [ByteArray.size]; omega
          case c5 => exact HB7.out.size
          intro v8 w8 ho8 hg8 _
          have HB8 := Lib.hid (HB7.out.grown hg8 HB7.out.size (fun k hk => (HO7.out.lt k hk).1))
          have HO8 := Lib.hid ho8
          clear hg8 ho8 HO7 p1
          go_wp2_with fail
          go_roundg (gk - 1)
          case measure => have := HIK.out; omega
          case rel =>
            have e1 : T.take (i + 1) = T.take i ++ [t] := by rw [List.take_add_one, HTI.out]; rfl
            refine ⟨i + 1, by have := HIK.out; omega, by go_num, ?_, ?_, HB8.out⟩
            · rw [e1]
              intro y hy
              rcases List.mem_append.1 hy with hy | hy
              · exact HONE.out y hy
              · rw [List.mem_singleton] at hy; subst hy; exact ⟨HBO.out, h40⟩
            · rw [e1, wide_snoc]
              have := HO8.out
              simpa [bcs, strCells_byte, Lib.byteCells, Nat.add_assoc, Nat.add_comm 1 t.text.length, ByteArray.size] using this
      · have hd40 : decide (40 < (t.text.length : Int)) = true := by simp; omega
        have hd40' : decide (40 < t.text.length) = true := by simp; omega
        go_wp2_with (go_at_call 8; refine (known_ok _).mono ?_; rintro e w5 ⟨rfl, hb5⟩)
        go_ret
        exact ⟨rfl, HB.out.trans (hb5.mono HB.out.size)⟩
    · have hi : i = T.length := by have := HIK.out; omega
      subst hi
      rw [List.take_length] at HONE HOWN
      go_wp2_with (go_at_call 21; refine (print_ok T A cap wr HTr.out hn (fun t h => (HONE.out t h).2)).mono ?_)
      rintro e w2 ⟨rfl, hb2⟩
      have hcs := conv_str (prn T) w2
      have HCX := Lib.hid (below_str ⟨(prn T).toArray⟩ w2)
      have hpl := pr_len T (fun t h => (HONE.out t h).2)
      have hpn : (prn T).length ≤ 10000 := by unfold prn; split <;> simp; omega
      have HSC := Lib.hid (scan_ok (prn T) _ _ (holds_str (prn T) w2) (by omega))
      have HB2 := Lib.hid (HB.out.trans (hb2.mono HB.out.size))
      have HO2 := Lib.hid (own_below HOWN.out hb2)
      have HPK := Lib.hid (prn_ok T (fun t h => (HONE.out t h).1))
      clear hb2
      go_wp2_with (go_at_call 9; refine HSC.out.mono ?_)
      rintro e w3 ⟨v4, v5, rfl, hb3, ho4, ho5⟩
      rw [err_nil HPK.out.2] at ho5
      obtain ⟨A4, c4, rfl, ht4⟩ := own_toks ho4
      obtain ⟨A5, c5, rfl, _⟩ := own_dgs ho5
      have hbX : Below w2.heap.size w2 w3 := HCX.out.trans (hb3.mono HCX.out.size)
      have HB3 := Lib.hid (HB2.out.trans (hbX.mono HB2.out.size))
      have HO3 := Lib.hid (own_below HO2.out hbX)
      have HT3 := Lib.hid (HT.out.below HB3.out (Nat.le_refl _))
      have HM3 := Lib.hid ht4
      have hl60 : ∀ t ∈ T, t.text.length ≤ 40 := fun t h => (HONE.out t h).2
      clear hcs HCX HSC hb3 ho4 ho5 ht4 hbX HO2 HB2
      go_wp2_with (first
        | (go_at_call 22; refine (refPrint_ok T A cap w3 HT3.out hn hl60).mono ?_; rintro e w4 ⟨rfl, hb4⟩)
        | (go_at_call 23; refine (same_ok _ T A4 A c4 cap w4 (HM3.out.tr.below hb4 (Nat.le_refl _)) (HT3.out.below hb4 (Nat.le_refl _)) (by omega) (core_len HPK.out.1) (core_at HPK.out.1)).mono ?_; rintro e w5 ⟨rfl, n5, rfl⟩))
      have hbW : Below w3.heap.size w3 (w4.drewN n5) := below_drewN hb4 n5
      have HBW := Lib.hid (HB3.out.trans (hbW.mono HB3.out.size))
      have HOW := Lib.hid (own_below HO3.out hbW)
      clear hb4 hbW HB3 HO3 HT3 HM3 HPK hl60
      generalize w4.drewN n5 = W at HBW HOW ⊢
      go_loopg [10] gp.length (fun k v10 wz => ∃ i : Nat, i + k = gp.length ∧ v10 = .int .i64 i ∧ (∀ j, j < i → (chr gp j = 32 ∨ chr gp j = 9 ∨ chr gp j = 13 ∨ chr gp j = 10 ∨ (j = 0 ∧ chr gp j = 35))) ∧ wz = W)
      case atStart => exact ⟨0, by omega, rfl, fun j hj => by omega, rfl⟩
      case round =>
        obtain ⟨i, hik, rfl, hok, rfl⟩ := hrel
        have HIG := Lib.hid hik
        have HOK := Lib.hid hok
        clear hik hok
        by_cases hlt : i < gp.length
        · obtain ⟨b1, o1, rfl, hbs⟩ := HA1.out (by omega)
          have hlb : b1 < w.heap.size := hbs.lt (by omega)
          have cb := (hbs.below HBW.out hlb) i hlt
          clear hbs hlb
          have hroom : gp.length ≤ 1000000 := by omega
          by_cases hbad : (chr gp i = 32 ∨ chr gp i = 9 ∨ chr gp i = 13 ∨ chr gp i = 10 ∨ (i = 0 ∧ chr gp i = 35))
          · have HBAD := Lib.hid hbad
            have hgo : ∀ j, j < i + 1 → (chr gp j = 32 ∨ chr gp j = 9 ∨ chr gp j = 13 ∨ chr gp j = 10 ∨ (j = 0 ∧ chr gp j = 35)) := by
              intro j hj
              rcases Nat.lt_or_ge j i with h' | h'
              · exact HOK.out j h'
              · obtain rfl : j = i := by omega
                exact HBAD.out
            have HGO := Lib.hid hgo
            clear hgo HOK HBAD
            rcases hbad with hc | hc | hc | hc | ⟨h0, hc⟩
            · rw [hc] at cb
              clear hc
              go_wp2_with fail
              go_roundg (gk - 1)
              case measure => have := HIG.out; omega
              case rel => exact ⟨i + 1, by have := HIG.out; omega, by go_num, HGO.out, rfl⟩
            · rw [hc] at cb
              clear hc
              go_wp2_with fail
              go_roundg (gk - 1)
              case measure => have := HIG.out; omega
              case rel => exact ⟨i + 1, by have := HIG.out; omega, by go_num, HGO.out, rfl⟩
            · rw [hc] at cb
              clear hc
              go_wp2_with fail
              go_roundg (gk - 1)
              case measure => have := HIG.out; omega
              case rel => exact ⟨i + 1, by have := HIG.out; omega, by go_num, HGO.out, rfl⟩
            · rw [hc] at cb
              clear hc
              go_wp2_with fail
              go_roundg (gk - 1)
              case measure => have := HIG.out; omega
              case rel => exact ⟨i + 1, by have := HIG.out; omega, by go_num, HGO.out, rfl⟩
            · rw [hc] at cb
              have hd0 : decide (0 < i) = false := by simp; omega
              have hd1 : decide (0 < (i : Int)) = false := by simp; omega
              clear hc h0
              go_wp2_with fail
              go_roundg (gk - 1)
              case measure => have := HIG.out; omega
              case rel => exact ⟨i + 1, by have := HIG.out; omega, by go_num, HGO.out, rfl⟩
          · have n1 : (chr gp i != 32) = true := bne_iff_ne.2 (fun e => hbad (.inl e))
            have n2 : (chr gp i != 9) = true := bne_iff_ne.2 (fun e => hbad (.inr (.inl e)))
            have n3 : (chr gp i != 13) = true := bne_iff_ne.2 (fun e => hbad (.inr (.inr (.inl e))))
            have n4 : (chr gp i != 10) = true := bne_iff_ne.2 (fun e => hbad (.inr (.inr (.inr (.inl e)))))
            rcases Nat.eq_zero_or_pos i with h0 | h0
            · have n5 : (chr gp i != 35) = true := bne_iff_ne.2 (fun e => hbad (.inr (.inr (.inr (.inr ⟨h0, e⟩)))))
              have hd0 : decide (0 < i) = false := by simp; omega
              have hd1 : decide (0 < (i : Int)) = false := by simp; omega
              clear hbad h0 HOK
              generalize chr gp i = cc at cb n1 n2 n3 n4 n5
              go_wp2_with (go_at_call 8; refine (known_ok _).mono ?_; rintro e w8 ⟨rfl, hb8⟩)
              all_goals first
                | (exfalso; simp_all; done)
                | skip
              go_ret
              exact ⟨rfl, HBW.out.trans (hb8.mono HBW.out.size)⟩
            · have hd0 : decide (0 < i) = true := by simp; omega
              have hd1 : decide (0 < (i : Int)) = true := by simp; omega
              clear hbad HOK
              generalize chr gp i = cc at cb n1 n2 n3 n4
              go_wp2_with (go_at_call 8; refine (known_ok _).mono ?_; rintro e w8 ⟨rfl, hb8⟩)
              all_goals first
                | (exfalso; simp_all; done)
                | skip
              go_ret
              exact ⟨rfl, HBW.out.trans (hb8.mono HBW.out.size)⟩
        · have hi : i = gp.length := by have := HIG.out; omega
          subst hi
          clear HOWN
          have HWK := Lib.hid (wide_ok gp HOK.out T (fun t h => (HONE.out t h).1))
          have hwl : (wide gp T).length ≤ 3660 := by
            have h1 := wide_len gp T (fun x hx => (HONE.out x hx).2)
            have h3 : T.length * (gp.length + 41) ≤ 60 * 61 := Nat.mul_le_mul hn (by omega)
            omega
          have hW := own_holds HOW.out
          obtain ⟨A6, c6, rfl, _⟩ := id hW
          have HSC := Lib.hid (scan_ok (wide gp T) _ _ hW (by omega))
          clear hW HOK
          go_wp2_with (go_at_call 9; refine HSC.out.mono ?_)
          rintro e w6 ⟨v4, v5, rfl, hb6, ho4, ho5⟩
          rw [err_nil HWK.out.2] at ho5
          obtain ⟨A7, c7, rfl, ht7⟩ := own_toks ho4
          obtain ⟨A8, c8, rfl, _⟩ := own_dgs ho5
          have HB6 := Lib.hid (HBW.out.trans (hb6.mono HBW.out.size))
          have HT6 := Lib.hid (HT.out.below HB6.out (Nat.le_refl _))
          have HM6 := Lib.hid ht7
          clear hb6 ho4 ho5 ht7 HSC HOW
          go_wp2_with (first
            | (go_at_call 23; refine (same_ok _ T A7 A c7 cap w6 HM6.out.tr HT6.out (by omega) (core_len HWK.out.1) (core_at HWK.out.1)).mono ?_; rintro e w7 ⟨rfl, n7, rfl⟩)
            | (go_at_call 8; refine (known_ok _).mono ?_; rintro e w8 ⟨rfl, hb8⟩))
          go_ret
          exact ⟨rfl, (below_drewN HB6.out n7).trans (hb8.mono HB6.out.size)⟩
end Go.Proofs.Ytpdljjlbjebmeaa
