/- The steps of lay, in memory. -/
import Derived.Test.YthgpepkcjjimlaaLayC
namespace Go.Proofs.Ythgpepkcjjimlaa
open Go.RowKit

variable {n₀ : Nat} {lv : Value} {L : List Tw} {ks : List Value} {sb : Nat} {sv : Value} {S : List Pd} {Ds : List Nat} {w : World}

theorem ownsRow_set {w : World} {base : Nat} {e : TypeId} {size n : Nat} {v : Value} {xs : List Value} (h : w.ownsRow base e size v n xs) {g : Nat} (hg : v.ownBlock = some g) (j : Nat) (u : Value) : (w.setCell ⟨g, j, none⟩ u).ownsRow base e size v n (xs.set j u) := by
  obtain ⟨h1, h2⟩ := h
  refine ⟨by simpa using h1, ?_⟩
  rcases h2 with ⟨rfl, _⟩ | ⟨g', cap, cur, rfl, hb, hh, hn, hm, hs, ht⟩
  · simp [Value.ownBlock] at hg
  · simp [Value.ownBlock] at hg
    subst hg
    refine .inr ⟨g', cap, _, rfl, hb, rowset hh j u, hn, hm, by simpa using hs, ?_⟩
    rw [Array.toList_setIfInBounds, ← ht]
    rw [List.take_set]
theorem kinds {w : World} {b : Nat} {o : Obj} (hb : w.heap[b]? = some o) {e : TypeId} {size n base : Nat} {v : Value} {xs : List Value} (ho : w.ownsRow base e size v n xs) (hne : ∀ cur, o ≠ .cells cur e (0, 0)) : v.ownBlock ≠ some b := fun hv => by
  obtain ⟨cur, hc⟩ := own_type ho b hv
  rw [hc] at hb
  exact hne cur (by injection hb with hb; exact hb.symm)
theorem kindsO {w : World} {e e' : TypeId} {size size' n n' base base' : Nat} {v v' : Value} {xs xs' : List Value} (ho : w.ownsRow base e size v n xs) (ho' : w.ownsRow base' e' size' v' n' xs') (hne : e ≠ e') (b : Nat) (hb : v.ownBlock = some b) : v'.ownBlock ≠ some b := by
  obtain ⟨cur, hc⟩ := own_type ho b hb
  exact kinds hc ho' fun cur' h => hne (by injection h)
/-- One kid more. -/
theorem LS.kid {i : Nat} {t : Tw} {kv kv' : Value} {x : Int} {gl nl cl : Nat} {W w1 : World} (h : LS n₀ (.slice (some ⟨gl, 0, none⟩) nl cl) L ks sb sv S Ds w) (ht : L[i]? = some t) (hkv : ks[i]? = some kv) (hB : Below w.heap.size w W) (hg : W.grownBy w1 kv.ownBlock)
    (ho : w1.ownsRow n₀ 3 1 kv' (t.kids.length + 1) (t.kids.map (Value.int .i64) ++ [Value.int .i64 x])) (hat : ∀ g, kv'.ownBlock = some g → kv.ownBlock = some g ∨ w.heap.size ≤ g) :
    LS n₀ (.slice (some ⟨gl, 0, none⟩) nl cl) (addK L i [x]) (ks.set i kv') sb sv S Ds (w1.setCell ⟨gl, i * 6 + 5, none⟩ kv') ∧ Stp n₀ (Mine n₀ (.slice (some ⟨gl, 0, none⟩) nl cl) ks sb sv Ds) w (Mine n₀ (.slice (some ⟨gl, 0, none⟩) nl cl) (ks.set i kv') sb sv Ds) (w1.setCell ⟨gl, i * 6 + 5, none⟩ kv') := by
  have hik : i < ks.length := (List.getElem?_eq_some_iff.1 hkv).1
  have hil : i < L.length := (List.getElem?_eq_some_iff.1 ht).1
  have hkid := h.laid.kid i t kv ht hkv
  have h1 : ∀ b, b < w.heap.size → kv.ownBlock ≠ some b → w1.heap[b]? = w.heap[b]? := fun b hb hv => (hg.block b (Nat.lt_of_lt_of_le hb hB.size) (fun e => hv e.symm)).trans (hB.block b hb)
  have hgl : w1.heap[gl]? = w.heap[gl]? := h1 gl (h.laid.row.lt gl rfl).2 (kindsO h.laid.row hkid (by decide) gl rfl)
  have h2 : ∀ b, b < w.heap.size → kv.ownBlock ≠ some b → b ≠ gl → (w1.setCell ⟨gl, i * 6 + 5, none⟩ kv').heap[b]? = w.heap[b]? := fun b hb hv hn => (set_other _ _ _ _ _ hn).trans (h1 b hb hv)
  obtain ⟨cgl, hcgl⟩ := own_type h.laid.row gl rfl
  have hl1 : w1.ownsRow n₀ 63 6 (.slice (some ⟨gl, 0, none⟩) nl cl) L.length (lcells L ks) := ownsRow_keep h.laid.row fun g hg' => by
    have e : gl = g := by simpa [Value.ownBlock] using hg'
    subst e; exact hgl
  have hkv'l : kv'.ownBlock ≠ some gl := kinds (hgl.trans hcgl) ho fun cur e => by injection e with _ e _; exact absurd e (by decide)
  have hLen : (addK L i [x]).length = L.length := addK_len _ _ _
  have hK : addK L i [x] = L.modify i fun t => { t with kids := t.kids ++ [x] } := by unfold addK; rw [if_pos (by omega)]; rfl
  have hnot : ∀ b, Mine n₀ (.slice (some ⟨gl, 0, none⟩) nl cl) ks sb sv Ds b → kv.ownBlock ≠ some b → b ≠ gl → (w1.setCell ⟨gl, i * 6 + 5, none⟩ kv').heap[b]? = w.heap[b]? := fun b hb hv hn => h2 b (h.bnd hb).2 hv hn
  have boxk : kv.ownBlock ≠ some sb := kinds h.box hkid fun cur e => by injection e with _ e _; exact absurd e (by decide)
  have boxl : sb ≠ gl := fun e => (kinds h.box h.laid.row fun cur e => by injection e with _ e _; exact absurd e (by decide)) (by rw [e]; rfl)
  have resk : kv.ownBlock ≠ some n₀ := kinds h.res hkid fun cur e => by injection e with _ e _; exact absurd e (by decide)
  have resl : n₀ ≠ gl := fun e => (kinds h.res h.laid.row fun cur e => by injection e with _ e _; exact absurd e (by decide)) (by rw [← e]; rfl)
  refine ⟨⟨⟨?_, by simpa [hLen] using h.laid.len, ?_, ?_⟩, ?_, h.sbn, ?_, ?_, h.nodup, ?_⟩, ?_⟩
  · rw [hLen, hK, lcells_kids, ← lcells_set kv' L ks i hil h.laid.len]
    exact ownsRow_set hl1 rfl _ kv'
  · intro j t' u hj hu
    rw [hK, List.getElem?_modify] at hj
    rw [List.getElem?_set] at hu
    by_cases hji : i = j
    · subst hji
      simp only [if_true, hik] at hu
      simp only [if_true, ht] at hj
      simp at hu
      subst hu
      have hj' := Option.some.inj hj
      rw [← hj']
      simp only [List.length_append, List.length_cons, List.length_nil, List.map_append, List.map_cons, List.map_nil]
      exact ownsRow_setCell_other ho (by simpa using hkv'l) _
    · simp only [hji, if_false] at hu hj
      have hj' : L[j]? = some t' := by simpa using hj
      have hkj := h.laid.kid j t' u hj' hu
      refine ownsRow_keep hkj fun b hb => h2 b (hkj.lt b hb).2 (fun e => ?_) (fun e => ?_)
      · exact h.laid.apart i j kv u b hji hkv hu e hb
      · subst e; exact kindsO h.laid.row hkj (by decide) b rfl hb
  · intro p q u v g hpq hu hv hgu hgv
    rw [List.getElem?_set] at hu hv
    by_cases hp : i = p
    · subst hp
      simp only [if_true, hik] at hu
      simp only [hpq, if_false] at hv
      simp at hu; subst hu
      rcases hat g hgu with e | e
      · exact h.laid.apart i q kv v g hpq hkv hv e hgv
      · have := (h.bnd (b := g) (.inr (.inr (.inr (.inr (.inl ⟨v, List.mem_of_getElem? hv, hgv⟩)))))).2
        omega
    · simp only [hp, if_false] at hu
      by_cases hq : i = q
      · subst hq
        simp only [if_true, hik] at hv
        simp at hv; subst hv
        rcases hat g hgv with e | e
        · exact h.laid.apart p i u kv g hpq hu hkv hgu e
        · have := (h.bnd (b := g) (.inr (.inr (.inr (.inr (.inl ⟨u, List.mem_of_getElem? hu, hgu⟩)))))).2
          omega
      · simp only [hq, if_false] at hv
        exact h.laid.apart p q u v g hpq hu hv hgu hgv
  · exact (hnot sb (.inl rfl) boxk boxl).trans h.box
  · exact ownsRow_keep h.st fun b hb => hnot b (.inr (.inr (.inl hb))) (kindsO h.st hkid (by decide) b hb) fun e => kindsO h.st h.laid.row (by decide) b hb (by rw [e]; rfl)
  · exact (hnot n₀ (.inr (.inl rfl)) resk resl).trans h.res
  · intro D hD
    have hd := (h.marks D hD).2
    refine ⟨(h.marks D hD).1, (hnot D (.inr (.inr (.inr (.inr (.inr hD))))) (kinds hd hkid fun cur e => by cases e) fun e => ?_).trans hd⟩
    exact (kinds hd h.laid.row fun cur e => by cases e) (by rw [e]; rfl)
  · have hsz : (w1.setCell ⟨gl, i * 6 + 5, none⟩ kv').heap.size = w1.heap.size := by simp [World.setCell]
    refine ⟨hg.os.trans hB.os, hg.tape.trans hB.tape, hg.output.trans hB.output, by rw [hsz]; exact Nat.le_trans hB.size hg.size, fun b hb hm => h2 b hb (fun e => hm (.inr (.inr (.inr (.inr (.inl ⟨kv, List.mem_of_getElem? hkv, e⟩)))))) fun e => hm (.inr (.inr (.inr (.inl (by rw [e]; rfl))))), ?_⟩
    rintro b (e | e | e | e | ⟨u, hu, e⟩ | e)
    · exact .inl (.inl e)
    · exact .inl (.inr (.inl e))
    · exact .inl (.inr (.inr (.inl e)))
    · exact .inl (.inr (.inr (.inr (.inl e))))
    · rcases List.mem_or_eq_of_mem_set hu with hu | rfl
      · exact .inl (.inr (.inr (.inr (.inr (.inl ⟨u, hu, e⟩)))))
      · rcases hat b e with e | e
        · exact .inl (.inr (.inr (.inr (.inr (.inl ⟨kv, List.mem_of_getElem? hkv, e⟩)))))
        · exact .inr e
    · exact .inl (.inr (.inr (.inr (.inr (.inr e)))))

/-- The kids are on the stack. -/
theorem LS.push {sv' : Value} {S' : List Pd} {D : Nat} {w' : World} (h : LS n₀ lv L ks sb sv S Ds w) (hk : Kp sb sv w sv' w') (hbox : w'.heap[sb]? = some (.cells #[sv'] 60 (0, 0))) (ho : w'.ownsRow n₀ 59 2 sv' S'.length (pdCells S'.reverse)) (hD : w'.heap[D]? = some (.deferred (some []))) (hlt : w.heap.size ≤ D) :
    LS n₀ lv L ks sb sv' S' (D :: Ds) w' ∧ Stp n₀ (Mine n₀ lv ks sb sv Ds) w (Mine n₀ lv ks sb sv' (D :: Ds)) w' := by
  have hnot : ∀ b, Mine n₀ lv ks sb sv Ds b → b ≠ sb → sv.ownBlock ≠ some b → w'.heap[b]? = w.heap[b]? := fun b hb h1 h2 => hk.block b (h.bnd hb).2 h1 h2
  have keep : ∀ {e : TypeId} {size n : Nat} {v : Value} {xs : List Value}, w.ownsRow n₀ e size v n xs → (∀ b, v.ownBlock = some b → Mine n₀ lv ks sb sv Ds b) → e ≠ 60 → e ≠ 59 → w'.ownsRow n₀ e size v n xs := fun hr hm h1 h2 => ownsRow_keep hr fun b hb => hnot b (hm b hb) (fun e => (kinds h.box hr fun cur e' => by injection e' with _ e' _; exact h1 e'.symm) (by rw [← e]; exact hb)) (kindsO hr h.st h2 b hb)
  refine ⟨⟨⟨keep h.laid.row (fun b hb => .inr (.inr (.inr (.inl hb)))) (by decide) (by decide), h.laid.len, fun i t kv h1 h2 => keep (h.laid.kid i t kv h1 h2) (fun b hb => .inr (.inr (.inr (.inr (.inl ⟨kv, List.mem_of_getElem? h2, hb⟩))))) (by decide) (by decide), h.laid.apart⟩, hbox, h.sbn, ho, ?_, ?_, ?_⟩, ⟨hk.os, hk.tape, hk.output, hk.size, fun b hb hm => hk.block b hb (fun e => hm (.inl e)) fun e => hm (.inr (.inr (.inl e))), ?_⟩⟩
  · exact (hnot n₀ (.inr (.inl rfl)) (by have := h.sbn; omega) (kinds h.res h.st fun cur e => by injection e with _ e _; exact absurd e (by decide))).trans h.res
  · exact List.nodup_cons.2 ⟨fun hm => by have := lt_of_block (h.marks D hm).2; omega, h.nodup⟩
  · intro E hE
    rcases List.mem_cons.1 hE with rfl | hE
    · exact ⟨by have := (h.bnd (.inr (.inl rfl))).2; omega, hD⟩
    · have hd := (h.marks E hE).2
      exact ⟨(h.marks E hE).1, (hnot E (.inr (.inr (.inr (.inr (.inr hE))))) (fun e => by rw [e, h.box] at hd; cases hd) (kinds hd h.st fun cur e => by cases e)).trans hd⟩
  · rintro b (e | e | e | e | e | e)
    · exact .inl (.inl e)
    · exact .inl (.inr (.inl e))
    · exact (hk.own b e).imp (fun e => .inr (.inr (.inl e))) id
    · exact .inl (.inr (.inr (.inr (.inl e))))
    · exact .inl (.inr (.inr (.inr (.inr (.inl e)))))
    · rcases List.mem_cons.1 e with rfl | e
      · exact .inr hlt
      · exact .inl (.inr (.inr (.inr (.inr (.inr e)))))

/-- A twig more is laid. -/
theorem LS.lay {lv' : Value} {t : Tw} {W w1 : World} (h : LS n₀ lv L ks sb sv S Ds w) (hB : Below w.heap.size w W) (hg : W.grownBy w1 lv.ownBlock) (ho : w1.ownsRow n₀ 63 6 lv' (L.length + 1) (lcells L ks ++ twCells t (.slice none 0 0))) (hat : ∀ g, lv'.ownBlock = some g → lv.ownBlock = some g ∨ w.heap.size ≤ g) (ht : t.kids = []) :
    LS n₀ lv' (L ++ [t]) (ks ++ [.slice none 0 0]) sb sv S Ds w1 ∧ Stp n₀ (Mine n₀ lv ks sb sv Ds) w (Mine n₀ lv' (ks ++ [.slice none 0 0]) sb sv Ds) w1 := by
  have h1 : ∀ b, b < w.heap.size → lv.ownBlock ≠ some b → w1.heap[b]? = w.heap[b]? := fun b hb hv => (hg.block b (Nat.lt_of_lt_of_le hb hB.size) (fun e => hv e.symm)).trans (hB.block b hb)
  have keep : ∀ {e : TypeId} {size n : Nat} {v : Value} {xs : List Value}, w.ownsRow n₀ e size v n xs → e ≠ 63 → w1.ownsRow n₀ e size v n xs := fun hr h2 => ownsRow_keep hr fun b hb => h1 b (hr.lt b hb).2 (kindsO hr h.laid.row h2 b hb)
  refine ⟨⟨⟨?_, by simp [h.laid.len], ?_, ?_⟩, ?_, h.sbn, keep h.st (by decide), ?_, h.nodup, ?_⟩, ⟨hg.os.trans hB.os, hg.tape.trans hB.tape, hg.output.trans hB.output, Nat.le_trans hB.size hg.size, fun b hb hm => h1 b hb fun e => hm (.inr (.inr (.inr (.inl e)))), ?_⟩⟩
  · rw [lcells_snoc _ _ _ _ h.laid.len, List.length_append]
    exact ho
  · intro j t' u hj hu
    rw [List.getElem?_append] at hj hu
    rw [h.laid.len] at hu
    by_cases hlt : j < L.length
    · simp only [hlt, if_true] at hj hu
      exact keep (h.laid.kid j t' u hj hu) (by decide)
    · simp only [hlt, if_false] at hj hu
      have h0 : j - L.length = 0 := by
        have := (List.getElem?_eq_some_iff.1 hj).1
        simp at this; omega
      rw [h0] at hj hu
      simp at hj hu
      subst hj hu
      rw [ht]
      exact World.ownsRow_nil _ _ _ _
  · intro p q u v g hpq hu hv hgu hgv
    rw [List.getElem?_append] at hu hv
    by_cases hp : p < ks.length
    · by_cases hq : q < ks.length
      · simp only [hp, hq, if_true] at hu hv
        exact h.laid.apart p q u v g hpq hu hv hgu hgv
      · simp only [hq, if_false] at hv
        have := List.mem_of_getElem? hv
        simp at this; subst this
        simp [Value.ownBlock] at hgv
    · simp only [hp, if_false] at hu
      have := List.mem_of_getElem? hu
      simp at this; subst this
      simp [Value.ownBlock] at hgu
  · exact (h1 sb (lt_of_block h.box) (kinds h.box h.laid.row fun cur e => by injection e with _ e _; exact absurd e (by decide))).trans h.box
  · exact (h1 n₀ (lt_of_block h.res) (kinds h.res h.laid.row fun cur e => by injection e with _ e _; exact absurd e (by decide))).trans h.res
  · intro D hD
    have hd := (h.marks D hD).2
    exact ⟨(h.marks D hD).1, (h1 D (lt_of_block hd) (kinds hd h.laid.row fun cur e => by cases e)).trans hd⟩
  · rintro b (e | e | e | e | ⟨u, hu, e⟩ | e)
    · exact .inl (.inl e)
    · exact .inl (.inr (.inl e))
    · exact .inl (.inr (.inr (.inl e)))
    · exact (hat b e).imp (fun e => .inr (.inr (.inr (.inl e)))) id
    · rcases List.mem_append.1 hu with hu | hu
      · exact .inl (.inr (.inr (.inr (.inr (.inl ⟨u, hu, e⟩)))))
      · simp at hu; subst hu; simp [Value.ownBlock] at e
    · exact .inl (.inr (.inr (.inr (.inr (.inr e)))))

/-- What is laid reads as twigs. -/
theorem Laid.tws {n₀ : Nat} {w : World} {lv : Value} {L : List Tw} {ks : List Value} (h : Laid n₀ w lv L ks) : Tws w [] L (lcells L ks) := by
  have key : ∀ (M : List Tw) (us : List Value), us.length = M.length → (∀ (i : Nat) (t : Tw) (u : Value), M[i]? = some t → us[i]? = some u → w.ownsRow n₀ 3 1 u t.kids.length (t.kids.map (Value.int .i64))) → Tws w [] M (lcells M us) := by
    intro M
    induction M with
    | nil => intro us hl _; cases us with | nil => rfl | cons _ _ => simp at hl
    | cons t M ih =>
      intro us hl hk
      cases us with
      | nil => simp at hl
      | cons u us =>
        refine ⟨u, lcells M us, rfl, ?_, ih us (by simpa using hl) fun i t' u' h1 h2 => hk (i + 1) t' u' (by simpa using h1) (by simpa using h2)⟩
        have h0 := hk 0 t u rfl rfl
        rcases h0.2 with ⟨rfl, hn⟩ | ⟨g, cap, cur, rfl, hb, hh, hle, hm, hs, htk⟩
        · rw [List.eq_nil_of_length_eq_zero hn]
          exact ints_nil _
        · refine ⟨_, cap, rfl, fun _ => ⟨g, cur, (0, 0), rfl, hh, by simp, fun i x hx => ?_⟩⟩
          have h1 : (cur.toList.take (t.kids.length * 1))[i]? = some (Value.int .i64 x) := by rw [htk]; simp [hx]
          rw [List.getElem?_take] at h1
          split at h1
          · simpa using h1
          · cases h1
  exact key L ks h.len h.kid
end Go.Proofs.Ythgpepkcjjimlaa
