/- QueueTimes' walk. -/
import Derived.Test.YtmbdglolpagjdaaQyB
namespace Go.Proofs.Ytmbdglolpagjdaa
open Go.RowKit Go.Shelf
attribute [local go_sem] Oper.semAt_some
abbrev Items (w : World) (A : Option Addr) (T : List ItD) : Prop := Rows3 ItD.cells 3 (fun a => (Lit.int .i64 a.t).wf = true ∧ (Lit.int .i64 a.d).wf = true) w A T
abbrev Ints (w : World) (A : Option Addr) (T : List Int) : Prop := Rows3 intC 1 (fun z => (Lit.int .i64 z).wf = true) w A T
theorem Items.at {w : World} {A : Option Addr} {T : List ItD} (h : Items w A T) {i : Nat} (hi : i < T.length) : ∃ g off x, A = some ⟨g, off, none⟩ ∧ (Lit.int .i64 (ItD.t x)).wf = true ∧ (Lit.int .i64 x.d).wf = true ∧ w.cell? ⟨g, off + i * 3, none⟩ = some (.int .i64 x.t) ∧ w.cell? ⟨g, off + i * 3 + 1, none⟩ = some (.bool x.f) ∧ w.cell? ⟨g, off + i * 3 + 2, none⟩ = some (.int .i64 x.d) := by
  obtain ⟨g, off, h1, _, h3, h4⟩ := h i T[i] (List.getElem?_eq_getElem hi)
  exact ⟨g, off, T[i], h1, h3.1, h3.2, h4 0 _ rfl, h4 1 _ rfl, h4 2 _ rfl⟩
theorem Ints.at {w : World} {A : Option Addr} {T : List Int} (h : Ints w A T) {i : Nat} (hi : i < T.length) : ∃ g off, A = some ⟨g, off, none⟩ ∧ (Lit.int .i64 T[i]).wf = true ∧ w.cell? ⟨g, off + i, none⟩ = some (.int .i64 T[i]) := by
  obtain ⟨g, off, h1, _, h3, h4⟩ := h i T[i] (List.getElem?_eq_getElem hi)
  have := h4 0 _ rfl
  exact ⟨g, off, h1, h3, by simpa using this⟩
theorem due_next {now : Int} {l : List Ent} {x : Ent} (h : duP now l = some x) (hf : x.front = false) : x.due ≤ now ∧ nxP l = some x.due := by
  unfold duP at h
  unfold nxP
  cases hs : srt l with
  | nil => rw [hs] at h; cases h
  | cons y r =>
    rw [hs] at h
    simp only [List.head?_cons, Option.filter_some] at h
    split at h
    · cases h
      refine ⟨?_, by simp [hf]⟩
      rename_i hd
      simpa [isD, hf] using hd
    · cases h
theorem none_next {now d : Int} {l : List Ent} (h : duP now l = none) (hn : nxP l = some d) : ¬ d ≤ now := by
  unfold duP at h
  unfold nxP at hn
  cases hs : srt l with
  | nil => rw [hs] at hn; simp at hn
  | cons y r =>
    rw [hs] at h hn
    simp only [List.head?_cons, Option.filter_some] at h
    split at h
    · cases h
    · rename_i hd
      simp [isD] at hd
      obtain ⟨h1, h2⟩ := hd
      simp [h1] at hn
      omega
/-- What Take and Next tell beside one another. -/
theorem times_cases (now : Int) (l : List Ent) : ∃ t f d b least waits, dueW (duP now l) = .tuple #[.agg #[.int .i64 t, .bool f, .int .i64 d], .bool b] ∧ nxW (nxP l) = .tuple #[.int .i64 least, .bool waits] ∧
    ((b = false ∧ waits = false) ∨ (b = false ∧ waits = true ∧ ¬ least ≤ now) ∨ (b = true ∧ f = true) ∨ (b = true ∧ f = false ∧ waits = true ∧ least = d ∧ ¬ d > now)) := by
  cases hd : duP now l with
  | none =>
    cases hn : nxP l with
    | none => exact ⟨_, _, _, _, _, _, rfl, rfl, .inl ⟨rfl, rfl⟩⟩
    | some d => exact ⟨_, _, _, _, _, _, rfl, rfl, .inr (.inl ⟨rfl, rfl, none_next hd hn⟩)⟩
  | some x =>
    cases hf : x.front with
    | true =>
      obtain ⟨least, waits, hn⟩ := nxW_form (nxP l)
      exact ⟨_, _, _, _, _, _, rfl, hn, .inr (.inr (.inl ⟨rfl, hf⟩))⟩
    | false =>
      obtain ⟨h1, h2⟩ := due_next hd hf
      rw [h2]
      exact ⟨_, _, _, _, _, _, rfl, rfl, .inr (.inr (.inr ⟨rfl, hf, rfl, rfl, by omega⟩))⟩
section
variable {own : Nat → Bool} {bq : Nat} {l E : List Ent} {pu : Int} {W w w' : World}
theorem Ext.drewN (W : World) (n : Nat) : Ext W (W.drewN n) := ⟨rfl, rfl, rfl, Nat.le_refl _, fun _ _ h _ => h⟩
theorem keptSince (hx : Ext W w) (hge : ∀ b, own b = true → W.heap.size ≤ b) (h : Kept (pQ own) w w') : Ext W w' :=
  Kept.trans hx (h.mono fun b t _ hp => by
    simp [pOld] at hp
    unfold pQ
    cases hc : own b with
    | false => rfl
    | true => have := hge b hc; omega)
theorem ownSince {own' : Nat → Bool} (hx : Ext W w) (hge : ∀ b, own b = true → W.heap.size ≤ b) (h : ∀ b, own' b = true → own b = true ∨ w.heap.size ≤ b) : ∀ b, own' b = true → W.heap.size ≤ b := fun b hb => by
  have := hx.size
  rcases h b hb with k | k
  · exact hge b k
  · omega
set_option maxHeartbeats 8000000 in
set_option maxRecDepth 100000 in
theorem times_walk (T : List ItD) (N : List Int) (A B : Option Addr) (c d : Nat) (W : World) (hT : Items W A T) (hN : Ints W B N) (hn : T.length ≤ 60) (hn2 : N.length ≤ 60) :
    Calls Try.prog 6 #[.slice A T.length c, .slice B N.length d] W fun e W' => e = .returned (.bool true) ∧ Ext W W' := by
  have HT := Lib.hid hT
  have HN := Lib.hid hN
  have HNEW := Lib.hid (New_ok W)
  have hn1' : ¬ (T.length : Int) > 60 := by omega
  have hn2' : ¬ (N.length : Int) > 60 := by omega
  clear hT hN
  go_enter Try.func6, Try.ntmps6
  go_upto_region 4 with (go_at_call 9; refine HNEW.out.mono ?_; rintro e w1 ⟨rfl, hx1, hq1⟩; have HX1 := Lib.hid hx1; have HQ1 := Lib.hid hq1; clear hx1 hq1)
  clear HNEW
  go_wp2_with fail
  go_loopg [6] T.length (fun k v6 wr => ∃ (i : Nat) (own : Nat → Bool) (l E : List Ent) (pu : Int), i + k = T.length ∧ v6 = .int .i64 i ∧ QV own W.heap.size l pu wr ∧ Pl l E pu ∧ pu ≤ i ∧ (∀ b, own b = true → W.heap.size ≤ b) ∧ Ext W wr)
  case atStart => exact ⟨0, _, [], [], 0, by omega, rfl, HQ1.out, .nil, by omega, fun b hb => by simp [newQ] at hb; omega, HX1.out⟩
  case round =>
    clear HX1 HQ1
    obtain ⟨i, own, l, E, pu, hik, rfl, hq, hpl, hpu, hge, hx⟩ := hrel
    have hpu0 : 0 ≤ pu := by have := hpl.len; omega
    have hll : l.length ≤ 60 := by have := hpl.len; rw [hpl.perm.length_eq] at this; omega
    have HQ := Lib.hid hq
    have HPL := Lib.hid hpl
    have HGE := Lib.hid hge
    have HX := Lib.hid hx
    have hTr := HT.out.kept hx
    rcases Nat.lt_or_ge i T.length with hi | hi
    · obtain ⟨g, off, x, rfl, hwf, hwd, a0, a1, a2⟩ := Items.at hTr hi
      have hput := Put_any hq ⟨x.t, x.f, x.d, pu⟩ rfl hwf (by omega) ⟨hpu0, by omega⟩
      dsimp only at hput
      have hil : (i : Int) < (T.length : Int) := by omega
      have HPUT := Lib.hid hput
      clear hq hpl hge hx hTr hput hwf hwd
      go_wp2_with (go_at_call 17; refine HPUT.out.mono ?_; rintro e w3 ⟨rfl, own', l', hq3, hp3, hk3, ho3⟩; have HQ3 := Lib.hid hq3; have HP3 := Lib.hid hp3; have HK3 := Lib.hid hk3; have HO3 := Lib.hid ho3; clear hq3 hp3 hk3 ho3)
      go_roundg (gk - 1)
      case measure => omega
      case rel =>
        obtain ⟨hpl3, _⟩ := HPL.out.put_any (x := ⟨x.t, x.f, x.d, pu⟩) rfl HP3.out
        exact ⟨i + 1, own', l', _, _, by omega, by go_num, HQ3.out, hpl3, by split <;> omega, ownSince HX.out HGE.out HO3.out, keptSince HX.out HGE.out HK3.out⟩
    · have hil : ¬ (i : Int) < (T.length : Int) := by omega
      clear hq hpl hge hx hTr HT
      go_wp2_with fail
      go_loopg [7] N.length (fun k v7 wr => ∃ (j : Nat) (own : Nat → Bool) (l E : List Ent), j + k = N.length ∧ v7 = .int .i64 j ∧ QV own W.heap.size l pu wr ∧ Pl l E pu ∧ (∀ b, own b = true → W.heap.size ≤ b) ∧ Ext W wr)
      case atStart => exact ⟨0, own, l, E, by omega, rfl, HQ.out, HPL.out, HGE.out, HX.out⟩
      case round =>
        clear HQ HPL HGE HX
        obtain ⟨j, own2, l2, E2, hjk, rfl, hq, hpl, hge, hx⟩ := hrel
        have HPL := Lib.hid hpl
        have HGE := Lib.hid hge
        have HX := Lib.hid hx
        have HQ := Lib.hid hq
        rcases Nat.lt_or_ge j N.length with hj | hj
        · obtain ⟨g, off, rfl, hwf, nW⟩ := Ints.at HN.out hj
          have n0 := (hx.kept (fun _ _ => true)).cell nW (fun _ _ => rfl)
          have HNW := Lib.hid nW
          clear nW
          have hgl := World.block_lt_of_cell? _ _ n0
          generalize N[j] = now at *
          obtain ⟨t, f, d3, b, least, waits, e1, e2, hcs⟩ := times_cases now l2
          have hnx := Next_ok hpl.tri hq.hp hq.len wr hq.ev
          rw [nextV_eq, show ((srt l2).find? fun x => !x.front).map (·.due) = nxP l2 from rfl, e2] at hnx
          have htk : ∀ w, Ext wr w → Calls Try.prog 20 #[.pointer (some ⟨W.heap.size, 0, none⟩), .int .i64 now] w fun e W' => e = .returned (.tuple #[.agg #[.int .i64 t, .bool f, .int .i64 d3], .bool b]) ∧ ∃ own' l', QV own' W.heap.size l' pu W' ∧ l'.Perm (tkE now l2) ∧ Kept (pQ own2) w W' ∧ ∀ b, own' b = true → own2 b = true ∨ w.heap.size ≤ b := fun w hw => by
            have := Take_ok (now := now) (hq.ext hw) hpl.tri
            rwa [e1] at this
          have hjl : (j : Int) < (N.length : Int) := by omega
          have HTK := Lib.hid htk
          have HNX := Lib.hid hnx
          have HN0 := Lib.hid n0
          clear hq hpl hge hx htk hnx n0 e1 e2 hwf
          go_upto_region 12 with (go_at_call 22; refine HNX.out.mono ?_; rintro e w3 ⟨rfl, hx3⟩; have HX3 := Lib.hid hx3; have n3 := (hx3.kept (fun _ _ => true)).cell HN0.out (fun _ _ => rfl); clear hx3)
          have HTK3 := Lib.hid (HTK.out _ HX3.out)
          go_upto_region 13 with (go_at_call 20; refine HTK3.out.mono ?_; rintro e w4 ⟨rfl, own4, l4, hq4, hp4, hk4, ho4⟩; have HQ4 := Lib.hid hq4; have HP4 := Lib.hid hp4; have HK4 := Lib.hid hk4; have HO4 := Lib.hid ho4; clear hq4 hp4 hk4 ho4 n3)
          obtain ⟨w5, hw5⟩ : ∃ w5, w5 = w4.alloc (itmo t f d3) := ⟨_, rfl⟩
          have hE5 : Ext w4 w5 := by rw [hw5]; exact Ext.one _ _
          have hb5 : w5.heap[w4.heap.size]? = some (itmo t f d3) := by rw [hw5]; exact World.alloc_heap_new _ _
          obtain ⟨⟨y0, y1, y2⟩, _, hl5⟩ := itmo_cells hb5
          have hx33 := HX.out.trans HX3.out
          have hxw4 := keptSince hx33 HGE.out HK4.out
          have n5 : w5.cell? ⟨g, off + j, none⟩ = some (.int .i64 now) := ((hxw4.trans hE5).kept (fun _ _ => true)).cell HNW.out (fun _ _ => rfl)
          change Code.wp _ _ _ _ (w4.alloc (itmo t f d3))
          rw [← hw5]
          have HX5 := Lib.hid (hxw4.trans hE5)
          have HQ5 := Lib.hid (HQ4.out.ext hE5)
          have HOS := Lib.hid (ownSince hx33 HGE.out HO4.out)
          have HPL5 := Lib.hid (HPL.out.take HP4.out)
          clear hw5 hE5 hb5 hx33 hxw4 HTK HTK3 HNX
          rcases hcs with ⟨rfl, rfl⟩ | ⟨rfl, rfl, hc⟩ | ⟨rfl, rfl⟩ | ⟨rfl, rfl, rfl, rfl, hc⟩
          all_goals
            go_quiet (fail)
            go_wp2_with fail
            go_roundg (gk - 1)
            case measure => omega
            case rel => exact ⟨j + 1, own4, l4, _, by omega, by go_num, HQ5.out.ext (Ext.drewN _ _), HPL5.out, HOS.out, HX5.out.trans (Ext.drewN _ _)⟩
        · have hjl : ¬ (j : Int) < (N.length : Int) := by omega
          have hkn := known_ok wr
          clear hq hpl hge hx
          go_wp2_with (go_at_call 8; refine hkn.mono ?_; rintro e w4 ⟨rfl, hx4⟩)
          go_ret
          exact ⟨rfl, HX.out.trans hx4⟩
end
end Go.Proofs.Ytmbdglolpagjdaa
