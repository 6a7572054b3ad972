/- Trees, plainly: the document's way to tell which trees may be (as in tree/TreH, for this seat); The document's trees in memory: Binds, Must, Paren; The document's printer in memory: strings in a row; braces; The document's printer in memory: Digits; a class. -/
import Derived.Test.YtehdljcmeimbcaaGreatB01
import Derived.Test.YtehdljcmeimbcaaGreatB21
import Derived.Deep.RegionHeld3
import Derived.Deep.RegionWith
import Derived.BigRegion
import Derived.Test.YtehdljcmeimbcaaGreatB20
import Derived.Deep.LoopGhost
namespace Go.Proofs.YtehdljcmeimbcaaGreat
set_option linter.unusedSimpArgs false

def kindsOf (l : List Tw) (ks : List Int) : List Int := ks.map fun k => ((l[k.toNat]?).map (·.kind)).getD 0
theorem kinds_starts (l : List Tw) : ∀ (f : Fo) (b : Nat), (∀ q x, (f.flat b)[q]? = some x → l[b + q]? = some x) → kindsOf l (f.starts b) = f.nds.map (·.kind)
  | .nil, _, _ => rfl
  | .cons d k r, b, h => by
    have h0 := h 0 _ rfl
    have ih := kinds_starts l r (b + 1 + k.size) (fun q x hq => by
      have := h (k.size + q + 1) x (by rw [Fo.flat, List.getElem?_cons_succ, List.getElem?_append_right (by rw [Fo.flat_len]; omega), Fo.flat_len, show k.size + q - k.size = q by omega]; exact hq)
      rw [← this]; congr 1; omega)
    simp only [Fo.starts, kindsOf, List.map_cons, Fo.nds]
    unfold kindsOf at ih
    rw [ih]
    simp at h0
    simp [h0, Nd.tw]
theorem rowOk_len : ∀ (zs : List (Int → Bool)) (l : List Int), rowOk zs noK l = true → l.length = zs.length
  | [], l, h => by
    cases l with
    | nil => rfl
    | cons x r => simp [rowOk, noK] at h
  | a :: zs, [], h => by simp [rowOk] at h
  | a :: zs, x :: l, h => by
    simp only [rowOk, Bool.and_eq_true] at h
    simp [rowOk_len zs l h.2]

def bndR (k : Int) (s : List UInt8) : Int :=
  if isTm k = false then 0
  else if k = 32 then (if s = [60] ∨ s = [61, 61] then 1 else if s = [43] ∨ s = [45] then 2 else 3)
  else if k = 34 ∨ k = 35 then 4 else 5
def mustR (d : Nd) (i : Nat) : Int :=
  if d.kind = 32 then (if bndR d.kind d.text = 1 then 2 else bndR d.kind d.text + i)
  else if d.kind = 34 ∨ d.kind = 35 then 4
  else if d.kind = 30 then 5
  else if d.kind = 31 then 5 - 5 * i
  else 0
def prnR (d : Nd) (i : Nat) (x : Nd) : Bool := decide (0 < bndR x.kind x.text) && decide (bndR x.kind x.text < mustR d i)
def dprR (d : Nd) (i : Nat) (x : Nd) : Int := (if x.kind = 12 then 1 else 0) + (if prnR d i x = true then 1 else 0) + (if ins d i = true then 1 else 0)
def Fo.depsR (m : Int) (p : Nd) : Nat → Fo → List Int
  | _, .nil => []
  | i, .cons d k r => (m + dprR p i d) :: (depsR (m + dprR p i d) d 0 k ++ depsR m p (i + 1) r)

def goesK (g : Nat → Int → Nat) (l : List Tw) (w : Nd) (nest : Int) : Nat → Nat → List Int → Nat
  | _, next, [] => next
  | i, next, k :: ks =>
    if k ≠ next then 0 else match l[next]? with
    | none => 0
    | some x => if g next (nest + dprR w i x.nd) = 0 then 0 else goesK g l w nest (i + 1) (g next (nest + dprR w i x.nd)) ks
def goesR (nm : List UInt8 → Bool) (l : List Tw) : Nat → Nat → Int → Nat
  | 0, _, _ => 0
  | f + 1, at_, nest => match l[at_]? with
    | none => 0
    | some t =>
      if 64 < nest then 0
      else if kindOk t.kind = false ∨ textOk nm t.kind t.text = false ∨ numOk t.kind t.n = false then 0
      else if goesK (goesR nm l f) l t.nd nest 0 (at_ + 1) t.kids = 0 then 0
      else if kidsOk t.kind (kindsOf l t.kids) = true then goesK (goesR nm l f) l t.nd nest 0 (at_ + 1) t.kids else 0

theorem bnd_fit (nm : List UInt8 → Bool) (x : Nd) (h : textOk nm x.kind x.text = true) : bndR x.kind x.text = bnd x.kind x.text := by
  unfold bndR bnd
  by_cases h0 : isTm x.kind = false
  · rw [if_pos h0, if_pos h0]
  · rw [if_neg h0, if_neg h0]
    by_cases h32 : x.kind = 32
    · rw [if_pos h32, if_neg (show ¬ (x.kind = 34 ∨ x.kind = 35) by omega), if_pos h32]
      have hs : isSg x.text = true := by simpa [textOk, h32] using h
      simp only [isSg, Bool.or_eq_true, beq_iff_eq] at hs
      rcases hs with (((e | e) | e) | e) | e <;> (rw [e]; decide)
    · rw [if_neg h32, if_neg h32]

theorem must_eq (nm : List UInt8 → Bool) (d : Nd) (L : List Int) (h : ndOk nm d L = true) (i : Nat) (hi : i < L.length) : mustR d i = must d i := by
  simp only [ndOk, Bool.and_eq_true] at h
  obtain ⟨⟨⟨_, ht⟩, _⟩, hc⟩ := h
  unfold mustR must
  by_cases h32 : d.kind = 32
  · have hl : L.length = 2 := by have := rowOk_len _ _ (show rowOk _ noK _ = true from by simpa [kidsOk, h32] using hc); simpa using this
    have hs : isSg d.text = true := by simpa [textOk, h32] using ht
    simp only [isSg, Bool.or_eq_true, beq_iff_eq] at hs
    rw [if_pos h32, if_pos h32]
    have hi2 : i = 0 ∨ i = 1 := by omega
    rcases hs with (((e | e) | e) | e) | e <;> rcases hi2 with rfl | rfl <;> simp [h32, e, bndR, bnd, isTm]
  · rw [if_neg h32, if_neg h32]
    by_cases h34 : d.kind = 34 ∨ d.kind = 35
    · rw [if_pos h34, if_pos h34]
    · rw [if_neg h34, if_neg h34]
      by_cases h30 : d.kind = 30
      · have hl : L.length = 1 := by have := rowOk_len _ _ (show rowOk _ noK _ = true from by simpa [kidsOk, h30] using hc); simpa using this
        have : i = 0 := by omega
        simp [h30, this]
      · by_cases h31 : d.kind = 31
        · have hl : L.length = 2 := by have := rowOk_len _ _ (show rowOk _ noK _ = true from by simpa [kidsOk, h31] using hc); simpa using this
          have hi2 : i = 0 ∨ i = 1 := by omega
          rcases hi2 with rfl | rfl <;> simp [h31]
        · simp [h30, h31]

theorem rowOk_at : ∀ (zs : List (Int → Bool)) (rest : Int → Bool) (l : List Int) (i : Nat) (a : Int → Bool) (x : Int), rowOk zs rest l = true → zs[i]? = some a → l[i]? = some x → a x = true
  | [], _, _, _, _, _, _, h, _ => by simp at h
  | a :: zs, rest, [], i, _, _, _, _, h => by simp at h
  | a :: zs, rest, y :: l, 0, b, x, h, h1, h2 => by
    simp only [rowOk, Bool.and_eq_true] at h
    simp at h1 h2
    rw [← h1, ← h2]; exact h.1
  | a :: zs, rest, y :: l, i + 1, b, x, h, h1, h2 => by
    simp only [rowOk, Bool.and_eq_true] at h
    exact rowOk_at zs rest l i b x h.2 (by simpa using h1) (by simpa using h2)

theorem bnd_pos {x : Nd} (h : isTm x.kind = true) : 0 < bnd x.kind x.text := by
  unfold bnd
  rw [if_neg (by simp [h])]
  repeat' split
  all_goals decide
theorem bnd_nonneg (k : Int) (s : List UInt8) : 0 ≤ bnd k s := by
  unfold bnd
  repeat' split
  all_goals decide

theorem dpr_eq (nm : List UInt8 → Bool) (d : Nd) (L : List Int) (h : ndOk nm d L = true) (i : Nat) (x : Nd) (hi : L[i]? = some x.kind) (hx : textOk nm x.kind x.text = true) : dprR d i x = dpr d i x := by
  have hlt : i < L.length := (List.getElem?_eq_some_iff.1 hi).1
  have hm := must_eq nm d L h i hlt
  have hb := bnd_fit nm x hx
  have key : prnR d i x = prn d i x := by
    unfold prnR prn
    rw [hm, hb]
    have hn := bnd_nonneg x.kind x.text
    by_cases h0 : must d i ≤ 0
    · have : ¬ bnd x.kind x.text < must d i := by omega
      simp [this]
    · have ht : isTm x.kind = true := by
        simp only [ndOk, Bool.and_eq_true] at h
        obtain ⟨⟨⟨_, _⟩, _⟩, hc⟩ := h
        unfold must at h0
        by_cases h32 : d.kind = 32
        · have hr : rowOk [isTm, isTm] noK L = true := by simpa [kidsOk, h32] using hc
          have hl := rowOk_len _ _ hr
          have hi2 : i = 0 ∨ i = 1 := by simp at hl; omega
          rcases hi2 with rfl | rfl
          · exact rowOk_at _ _ _ 0 isTm _ hr rfl hi
          · exact rowOk_at _ _ _ 1 isTm _ hr rfl hi
        · rw [if_neg h32] at h0
          by_cases h34 : d.kind = 34 ∨ d.kind = 35
          · have hr : rowOk [isTm] noK L = true := by rcases h34 with e | e <;> simpa [kidsOk, e] using hc
            have hl := rowOk_len _ _ hr
            have hi2 : i = 0 := by simp at hl; omega
            subst hi2
            exact rowOk_at _ _ _ 0 isTm _ hr rfl hi
          · rw [if_neg h34] at h0
            by_cases h30 : d.kind = 30
            · have hr : rowOk [isTm] noK L = true := by simpa [kidsOk, h30] using hc
              have hl := rowOk_len _ _ hr
              have hi2 : i = 0 := by simp at hl; omega
              subst hi2
              exact rowOk_at _ _ _ 0 isTm _ hr rfl hi
            · by_cases h31 : d.kind = 31
              · have hr : rowOk [isTm, isTm] noK L = true := by simpa [kidsOk, h31] using hc
                have hl := rowOk_len _ _ hr
                have hi2 : i = 0 ∨ i = 1 := by simp at hl; omega
                rcases hi2 with rfl | rfl
                · exact rowOk_at _ _ _ 0 isTm _ hr rfl hi
                · exact rowOk_at _ _ _ 1 isTm _ hr rfl hi
              · simp [h30, h31] at h0
      have := bnd_pos ht
      simp [this]
  unfold dprR dpr
  rw [key]

theorem text_fit {nm : List UInt8 → Bool} {F : Fo} (h : F.fit nm = true) : ∀ x ∈ F.nds, textOk nm x.kind x.text = true := by
  induction F with
  | nil => intro x hx; simp [Fo.nds] at hx
  | cons d k r _ ih =>
    simp only [Fo.fit, Bool.and_eq_true] at h
    intro x hx
    simp only [Fo.nds, List.mem_cons] at hx
    rcases hx with rfl | hx
    · have := h.1.1
      simp only [ndOk, Bool.and_eq_true] at this
      exact this.1.1.2
    · exact ih h.2 x hx

theorem deps_eq (nm : List UInt8 → Bool) : ∀ (F : Fo) (p : Nd) (i : Nat) (m : Int), F.fit nm = true → (∀ j x, F.nds[j]? = some x → dprR p (i + j) x = dpr p (i + j) x) → F.depsR m p i = F.deps m p i
  | .nil, _, _, _, _, _ => rfl
  | .cons d k r, p, i, m, hf, hp => by
    simp only [Fo.fit, Bool.and_eq_true] at hf
    have h0 := hp 0 d rfl
    rw [Nat.add_zero] at h0
    have hk : ∀ j x, k.nds[j]? = some x → dprR d (0 + j) x = dpr d (0 + j) x := fun j x hj => by
      rw [Nat.zero_add]
      exact dpr_eq nm d _ hf.1.1 j x (by simp [hj]) (text_fit hf.1.2 x (List.mem_of_getElem? hj))
    simp only [Fo.depsR, Fo.deps, h0]
    rw [deps_eq nm k d 0 _ hf.1.2 hk, deps_eq nm r p (i + 1) m hf.2 (fun j x hj => by rw [show i + 1 + j = i + (j + 1) by omega]; exact hp (j + 1) x (by simpa [Fo.nds] using hj))]
theorem deps_tree (nm : List UInt8 → Bool) (d : Nd) (k : Fo) (m : Int) (h : ndOk nm d (k.nds.map (·.kind)) = true) (hf : k.fit nm = true) : k.depsR m d 0 = k.deps m d 0 :=
  deps_eq nm k d 0 m hf (fun j x hj => by rw [Nat.zero_add]; exact dpr_eq nm d _ h j x (by simp [hj]) (text_fit hf x (List.mem_of_getElem? hj)))

/-- A tree that stands at a place, of a nest, and may stand there. -/
def Stands (nm : List UInt8 → Bool) (l : List Tw) (at_ : Nat) (nest : Int) (d : Nd) (k : Fo) : Prop :=
  (∃ rest, l.drop at_ = (Fo.cons d k .nil).flat at_ ++ rest) ∧ (Fo.cons d k .nil).fit nm = true ∧ nest ≤ 64 ∧ ∀ x ∈ k.deps nest d 0, x ≤ 64

theorem drop_head {l : List Tw} {n : Nat} {t : Tw} {r : List Tw} (h : l.drop n = t :: r) : l[n]? = some t ∧ l.drop (n + 1) = r := by
  constructor
  · have := congrArg (·[0]?) h
    simpa using this
  · rw [← List.drop_drop, h]; rfl
theorem head_drop {l : List Tw} {n : Nat} {t : Tw} (h : l[n]? = some t) : l.drop n = t :: l.drop (n + 1) := by
  obtain ⟨h1, h2⟩ := List.getElem?_eq_some_iff.1 h
  rw [List.drop_eq_getElem_cons h1, h2]
theorem flat_sub {l : List Tw} {F : Fo} {b : Nat} {rest : List Tw} (h : l.drop b = F.flat b ++ rest) : ∀ q x, (F.flat b)[q]? = some x → l[b + q]? = some x := by
  intro q x hq
  have hlt := (List.getElem?_eq_some_iff.1 hq).1
  have : (l.drop b)[q]? = some x := by rw [h, List.getElem?_append_left hlt]; exact hq
  simpa using this

theorem goesK_forest (nm : List UInt8 → Bool) (l : List Tw) (w : Nd) (nest : Int) (g : Nat → Int → Nat) (hg : ∀ at_ m, ¬ g at_ m = 0 → ∃ d k, Stands nm l at_ m d k ∧ g at_ m = at_ + 1 + k.size) :
    ∀ (ks : List Int) (i next r : Nat), goesK g l w nest i next ks = r → ¬ r = 0 → ∃ (F : Fo) (rest : List Tw), l.drop next = F.flat next ++ rest ∧ ks = F.starts next ∧ r = next + F.size ∧ F.fit nm = true ∧ ∀ x ∈ F.depsR nest w i, x ≤ 64
  | [], i, next, r, h, h0 => ⟨.nil, l.drop next, rfl, rfl, by simpa [goesK, Fo.size] using h.symm, rfl, by simp [Fo.depsR]⟩
  | k :: ks, i, next, r, h, h0 => by
    unfold goesK at h
    by_cases hk : k = (next : Int)
    · rw [if_neg (by simpa using hk)] at h
      cases hx : l[next]? with
      | none => rw [hx] at h; exact absurd h.symm h0
      | some x =>
        rw [hx] at h
        simp only at h
        by_cases hz : g next (nest + dprR w i x.nd) = 0
        · rw [if_pos hz] at h; exact absurd h.symm h0
        · rw [if_neg hz] at h
          obtain ⟨d, kk, ⟨⟨rest, s1⟩, s2, s3, s4⟩, s5⟩ := hg _ _ hz
          obtain ⟨F, rest', f1, f2, f3, f4, f5⟩ := goesK_forest nm l w nest g hg ks (i + 1) _ r h h0
          have hd : x.nd = d := by
            have := (drop_head (by simpa [Fo.flat] using s1)).1
            rw [hx] at this
            injection this with this
            rw [this]; rfl
          rw [s5] at f1 f2 f3
          have hrest : l.drop (next + 1 + kk.size) = rest := by
            have e5 : next + 1 + kk.size = next + (1 + kk.size) := by omega
            rw [e5, ← List.drop_drop, s1]
            simp only [Fo.flat, List.append_nil]
            rw [List.drop_append_of_le_length (by simp [Fo.flat_len]; omega), List.drop_of_length_le (by simp [Fo.flat_len]; omega), List.nil_append]
          simp only [Fo.fit, Bool.and_true, Bool.and_eq_true] at s2
          refine ⟨.cons d kk F, rest', ?_, ?_, ?_, ?_, ?_⟩
          · rw [s1, ← hrest, f1]; simp [Fo.flat]
          · rw [hk, f2]; rfl
          · rw [f3]; simp [Fo.size]; omega
          · simp [Fo.fit, s2.1, s2.2, f4]
          · intro y hy
            rw [hd] at s3 s4
            simp only [Fo.depsR, List.mem_cons, List.mem_append] at hy
            rcases hy with rfl | hy | hy
            · exact s3
            · rw [deps_tree nm d kk _ s2.1 s2.2] at hy
              exact s4 y hy
            · exact f5 y hy
    · rw [if_pos (by simpa using hk)] at h
      exact absurd h.symm h0

theorem goesR_some (nm : List UInt8 → Bool) (l : List Tw) : ∀ (f at_ : Nat) (m : Int), ¬ goesR nm l f at_ m = 0 → ∃ d k, Stands nm l at_ m d k ∧ goesR nm l f at_ m = at_ + 1 + k.size
  | 0, _, _, h => absurd rfl h
  | f + 1, at_, m, h => by
    unfold goesR at h ⊢
    cases ht : l[at_]? with
    | none => rw [ht] at h; exact absurd rfl h
    | some t =>
      rw [ht] at h
      simp only at h ⊢
      by_cases hm : 64 < m
      · rw [if_pos hm] at h; exact absurd rfl h
      · rw [if_neg hm] at h ⊢
        by_cases hc : kindOk t.kind = false ∨ textOk nm t.kind t.text = false ∨ numOk t.kind t.n = false
        · rw [if_pos hc] at h; exact absurd rfl h
        · rw [if_neg hc] at h ⊢
          by_cases hz : goesK (goesR nm l f) l t.nd m 0 (at_ + 1) t.kids = 0
          · rw [if_pos hz] at h; exact absurd rfl h
          · rw [if_neg hz] at h ⊢
            by_cases hk : kidsOk t.kind (kindsOf l t.kids) = true
            · rw [if_pos hk]
              obtain ⟨F, rest, f1, f2, f3, f4, f5⟩ := goesK_forest nm l t.nd m (goesR nm l f) (goesR_some nm l f) t.kids 0 (at_ + 1) _ rfl hz
              have hkk : kindsOf l t.kids = F.nds.map (·.kind) := by rw [f2]; exact kinds_starts l F (at_ + 1) (flat_sub f1)
              have hnd : ndOk nm t.nd (F.nds.map (·.kind)) = true := by
                rw [← hkk]
                simp only [not_or, Bool.not_eq_false] at hc
                simp [ndOk, Tw.nd, hc.1, hc.2.1, hc.2.2, hk]
              refine ⟨t.nd, F, ⟨⟨rest, ?_⟩, ?_, by omega, ?_⟩, f3⟩
              · rw [head_drop ht, f1]
                simp only [Fo.flat, List.append_nil, List.cons_append, Nd.tw, Tw.nd, ← f2]
              · simp [Fo.fit, hnd, f4]
              · rw [← deps_tree nm t.nd F m hnd f4]
                exact f5
            · rw [if_neg hk] at h; exact absurd rfl h

theorem goesK_stands (nm : List UInt8 → Bool) (l : List Tw) (w : Nd) (nest : Int) (g : Nat → Int → Nat) (lo : Nat) (hg : ∀ at_ m d k, lo ≤ at_ → Stands nm l at_ m d k → g at_ m = at_ + 1 + k.size) :
    ∀ (F : Fo) (i next : Nat) (rest : List Tw), lo ≤ next → l.drop next = F.flat next ++ rest → F.fit nm = true → (∀ x ∈ F.depsR nest w i, x ≤ 64) → goesK g l w nest i next (F.starts next) = next + F.size
  | .nil, i, next, rest, _, _, _, _ => by simp [Fo.starts, goesK, Fo.size]
  | .cons d k r, i, next, rest, hlo, hl, hf, hd => by
    simp only [Fo.fit, Bool.and_eq_true] at hf
    have h1 : l[next]? = some (d.tw (k.starts (next + 1))) := (drop_head (by simpa [Fo.flat] using hl)).1
    have hS : Stands nm l next (nest + dprR w i d) d k := by
      refine ⟨⟨r.flat (next + 1 + k.size) ++ rest, ?_⟩, ?_, hd _ (by simp [Fo.depsR]), ?_⟩
      · rw [hl]; simp [Fo.flat]
      · simp [Fo.fit, hf.1.1, hf.1.2]
      · rw [← deps_tree nm d k _ hf.1.1 hf.1.2]
        intro x hx
        exact hd x (by simp [Fo.depsR, hx])
    have hgg := hg next (nest + dprR w i d) d k hlo hS
    have hrest : l.drop (next + 1 + k.size) = r.flat (next + 1 + k.size) ++ rest := by
      have e5 : next + 1 + k.size = next + (1 + k.size) := by omega
      rw [e5, ← List.drop_drop, hl]
      have : (Fo.cons d k r).flat next ++ rest = (d.tw (k.starts (next + 1)) :: k.flat (next + 1)) ++ (r.flat (next + 1 + k.size) ++ rest) := by simp [Fo.flat]
      rw [this, List.drop_append_of_le_length (by simp [Fo.flat_len]; omega), List.drop_of_length_le (by simp [Fo.flat_len]; omega), List.nil_append, e5]
    have ih := goesK_stands nm l w nest g lo hg r (i + 1) (next + 1 + k.size) rest (by omega) hrest hf.2 (fun x hx => hd x (by simp [Fo.depsR, hx]))
    simp only [Fo.starts]
    unfold goesK
    rw [if_neg (by simp), h1]
    have hgg' : g next (nest + dprR w i (d.tw (k.starts (next + 1))).nd) = next + 1 + k.size := hgg
    simp only
    rw [hgg', if_neg (by omega), ih]
    simp [Fo.size]; omega

theorem goesR_stands (nm : List UInt8 → Bool) (l : List Tw) : ∀ (f at_ : Nat) (m : Int) (d : Nd) (k : Fo), l.length ≤ f + at_ → Stands nm l at_ m d k → goesR nm l f at_ m = at_ + 1 + k.size
  | 0, at_, m, d, k, hf, ⟨⟨rest, h1⟩, _⟩ => by
    exfalso
    rw [List.drop_of_length_le (by omega)] at h1
    simp [Fo.flat] at h1
  | f + 1, at_, m, d, k, hf, ⟨⟨rest, h1⟩, h2, h3, h4⟩ => by
    have hh := drop_head (t := d.tw (k.starts (at_ + 1))) (r := k.flat (at_ + 1) ++ rest) (by simpa [Fo.flat] using h1)
    simp only [Fo.fit, Bool.and_true, Bool.and_eq_true] at h2
    have hok := h2.1
    simp only [ndOk, Bool.and_eq_true] at hok
    have hK := goesK_stands nm l d m (goesR nm l f) (at_ + 1) (fun a n d' k' ha hs => goesR_stands nm l f a n d' k' (by omega) hs) k 0 (at_ + 1) rest (Nat.le_refl _) hh.2 h2.2 (by rw [deps_tree nm d k m h2.1 h2.2]; exact h4)
    have hkk : kindsOf l (d.tw (k.starts (at_ + 1))).kids = k.nds.map (·.kind) := kinds_starts l k (at_ + 1) (flat_sub hh.2)
    unfold goesR
    rw [hh.1]
    simp only
    rw [if_neg (by omega), if_neg (by simp [Nd.tw, hok.1.1.1, hok.1.1.2, hok.1.2]), hkk]
    have hK' : goesK (goesR nm l f) l (d.tw (k.starts (at_ + 1))).nd m 0 (at_ + 1) (d.tw (k.starts (at_ + 1))).kids = at_ + 1 + k.size := hK
    rw [hK', if_neg (by omega), if_pos (by simpa [Nd.tw] using hok.2)]

/-- The document's May. -/
def mayR (nm : List UInt8 → Bool) (l : List Tw) : Bool := match l[0]? with
  | none => false
  | some t => t.kind == 1 && (goesR nm l l.length 0 0 == l.length)
theorem mayR_iff (nm : List UInt8 → Bool) (l : List Tw) : mayR nm l = true ↔ MayL nm l := by
  constructor
  · intro h
    unfold mayR at h
    cases h0 : l[0]? with
    | none => rw [h0] at h; cases h
    | some t =>
      rw [h0] at h
      simp only [Bool.and_eq_true, beq_iff_eq] at h
      have hlt : 0 < l.length := (List.getElem?_eq_some_iff.1 h0).1
      obtain ⟨d, k, ⟨⟨rest, s1⟩, s2, s3, s4⟩, s5⟩ := goesR_some nm l l.length 0 0 (by omega)
      rw [h.2] at s5
      rw [List.drop_zero] at s1
      have hr : rest = [] := by
        have := congrArg List.length s1
        simp [Fo.flat, Fo.flat_len] at this
        exact List.eq_nil_of_length_eq_zero (by omega)
      subst hr
      rw [List.append_nil] at s1
      have hk : t.nd = d := by
        rw [s1] at h0
        injection h0 with h0
        rw [← h0]; rfl
      simp only [Fo.fit, Bool.and_true, Bool.and_eq_true] at s2
      exact ⟨d, k, s1, by rw [← hk]; exact h.1, s2.1, s2.2, s4⟩
  · rintro ⟨d, k, rfl, h1, h2, h3, h4⟩
    have hs : Stands nm ((Fo.cons d k .nil).flat 0) 0 0 d k := ⟨⟨[], by simp⟩, by simp [Fo.fit, h2, h3], by omega, h4⟩
    have := goesR_stands nm _ ((Fo.cons d k .nil).flat 0).length 0 0 d k (by omega) hs
    unfold mayR
    have h0 : ((Fo.cons d k .nil).flat 0)[0]? = some (d.tw (k.starts 1)) := rfl
    rw [h0]
    simp only [this, Bool.and_eq_true, beq_iff_eq]
    exact ⟨h1, by simp [Fo.flat_len, Fo.size]⟩

end Go.Proofs.YtehdljcmeimbcaaGreat

namespace Go.Proofs.YtehdljcmeimbcaaGreat
set_option linter.unusedSimpArgs false
open Go.RowKit

def twA (t : Tw) (kv : Value) : Value := .agg #[.int .i64 t.kind, .string ⟨t.text.toArray⟩, .int .i64 t.n, .int .i64 t.line, .int .i64 t.col, kv]

set_option maxRecDepth 100000 in
set_option maxHeartbeats 2000000 in
theorem binds2_ok (t : Tw) (kv : Value) (w : World) :
    Calls Tryz.prog 67 #[twA t kv] w fun e w' => e = .returned (.int .i64 (bndR t.kind t.text)) ∧ w' = w.alloc (twO t kv) := by
  unfold twA
  go_enter Tryz.func67, Tryz.ntmps67
  go_wp2_with (go_at_call 41; refine (term2_ok t.kind _).mono ?_; rintro e w1 ⟨rfl, rfl⟩)
  all_goals go_ret
  all_goals refine ⟨ret_int ?_, rfl⟩
  all_goals (simp only [beq_iff_eq, beq_eq_false_iff_ne, ne_eq, Bool.not_eq_true', Bool.not_eq_false'] at *)
  all_goals first
    | contradiction
    | (simp [bndR, show isTm 32 = true from rfl, show isTm 34 = true from rfl, show isTm 35 = true from rfl, *]; done)

theorem tw_cells {w : World} {g : Nat} {t : Tw} {kv : Value} (h : w.heap[g]? = some (twO t kv)) : w.cell? ⟨g, 0, none⟩ = some (.int .i64 t.kind) ∧ w.cell? ⟨g, 1, none⟩ = some (.string ⟨t.text.toArray⟩) ∧ w.cell? ⟨g, 2, none⟩ = some (.int .i64 t.n) ∧ w.cell? ⟨g, 3, none⟩ = some (.int .i64 t.line) ∧ w.cell? ⟨g, 4, none⟩ = some (.int .i64 t.col) ∧ w.cell? ⟨g, 5, none⟩ = some kv := by
  refine ⟨?_, ?_, ?_, ?_, ?_, ?_⟩ <;> simp [World.cell?, h, twO]
theorem below_al {W w' : World} (h : Below W.heap.size W w') {o : Obj} : Below W.heap.size W (w'.alloc o) := h.alloc h.size o
theorem below_dr {n : Nat} {W w' : World} (h : Below n W w') : Below n W w'.drew := ⟨h.os, h.tape, h.output, h.size, h.block⟩
theorem keep6 {W w' : World} {b : Nat} {v0 v1 v2 v3 v4 v5 : Value} (h : W.cell? ⟨b, 0, none⟩ = some v0 ∧ W.cell? ⟨b, 1, none⟩ = some v1 ∧ W.cell? ⟨b, 2, none⟩ = some v2 ∧ W.cell? ⟨b, 3, none⟩ = some v3 ∧ W.cell? ⟨b, 4, none⟩ = some v4 ∧ W.cell? ⟨b, 5, none⟩ = some v5) (hb : Below W.heap.size W w') (hlt : b < W.heap.size) :
    w'.cell? ⟨b, 0, none⟩ = some v0 ∧ w'.cell? ⟨b, 1, none⟩ = some v1 ∧ w'.cell? ⟨b, 2, none⟩ = some v2 ∧ w'.cell? ⟨b, 3, none⟩ = some v3 ∧ w'.cell? ⟨b, 4, none⟩ = some v4 ∧ w'.cell? ⟨b, 5, none⟩ = some v5 :=
  ⟨(hb.cell (p := ⟨b, 0, none⟩) hlt).trans h.1, (hb.cell (p := ⟨b, 1, none⟩) hlt).trans h.2.1, (hb.cell (p := ⟨b, 2, none⟩) hlt).trans h.2.2.1, (hb.cell (p := ⟨b, 3, none⟩) hlt).trans h.2.2.2.1, (hb.cell (p := ⟨b, 4, none⟩) hlt).trans h.2.2.2.2.1, (hb.cell (p := ⟨b, 5, none⟩) hlt).trans h.2.2.2.2.2⟩
end Go.Proofs.YtehdljcmeimbcaaGreat

namespace Go.Proofs.YtehdljcmeimbcaaGreat
open Go.RowKit
set_option linter.unusedVariables false
set_option linter.unusedSimpArgs false

theorem str_ext {a b : ByteArray} (h : a.data.toList = b.data.toList) : a = b := by
  cases a with
  | mk x =>
    cases b with
    | mk y =>
      congr 1
      exact Array.toList_inj.1 h
theorem str_app (a b : List UInt8) : ((⟨a.toArray⟩ : ByteArray) ++ ⟨b.toArray⟩) = ⟨(a ++ b).toArray⟩ := str_ext (by simp)
theorem str_size (a : List UInt8) : ByteArray.size ⟨a.toArray⟩ = a.length := by simp [ByteArray.size]
theorem ret_str {a b : ByteArray} (h : a.data.toList = b.data.toList) : Ending.returned (.string a) = .returned (.string b) := by rw [str_ext h]

theorem al_cell {w : World} {cs : Array Value} {ty : TypeId} {k : Nat} {v : Value} (h : cs[k]? = some v) : (w.alloc (.cells cs ty)).cell? ⟨w.heap.size, k, none⟩ = some v := by
  have h0 : (w.alloc (.cells cs ty)).heap[w.heap.size]? = some (.cells cs ty (0, 0)) := heap_alloc_new w _
  unfold World.cell?
  dsimp only
  rw [h0]
  exact h
/-- Strings in memory, as they are read. -/
def SR (w : World) (v : Value) (K : List (List UInt8)) : Prop := ∃ A cap, v = .slice A K.length cap ∧ K.length ≤ cap ∧ ∀ (i : Nat) (s : List UInt8), K[i]? = some s → ∃ g off, A = some ⟨g, off, none⟩ ∧ g < w.heap.size ∧ w.cell? ⟨g, off + i, none⟩ = some (.string ⟨s.toArray⟩)
theorem SR.below {w w' : World} {v : Value} {K : List (List UInt8)} (h : SR w v K) (hb : Below w.heap.size w w') : SR w' v K := by
  obtain ⟨A, cap, rfl, hcap, hc⟩ := h
  refine ⟨A, cap, rfl, hcap, fun i s hi => ?_⟩
  obtain ⟨g, off, h1, h2, h3⟩ := hc i s hi
  exact ⟨g, off, h1, Nat.lt_of_lt_of_le h2 hb.size, (hb.cell (p := ⟨g, off + i, none⟩) h2).trans h3⟩

/-- The lines between the braces. -/
def linesT (m : Int) (K : List (List UInt8)) : List UInt8 := K.flatMap fun x => blanks m ++ [32, 32] ++ x ++ [10]
theorem linesT_snoc (m : Int) (K : List (List UInt8)) (x : List UInt8) : linesT m (K ++ [x]) = linesT m K ++ (blanks m ++ [32, 32] ++ x ++ [10]) := by simp [linesT]
theorem linesT_len (m : Int) (B : Nat) (hm : m.toNat ≤ B) : ∀ K : List (List UInt8), (∀ x ∈ K, x.length ≤ B) → (linesT m K).length ≤ K.length * (2 * B + 3)
  | [], _ => by simp [linesT]
  | x :: K, h => by
    have ih := linesT_len m B hm K (fun y hy => h y (List.mem_cons_of_mem _ hy))
    have hx := h x List.mem_cons_self
    have e : linesT m (x :: K) = (blanks m ++ [32, 32] ++ x ++ [10]) ++ linesT m K := by simp [linesT]
    rw [e, List.length_append, List.length_cons, Nat.add_mul]
    simp only [List.length_append, blanks, List.length_replicate, List.length_cons, List.length_nil]
    omega

set_option maxRecDepth 100000 in
set_option maxHeartbeats 1000000 in
theorem braces_ok (K : List (List UInt8)) (m : Int) (v : Value) (w : World) (hK : SR w v K) (hm : m.toNat ≤ 1000000) (hx : ∀ x ∈ K, x.length ≤ 1000000) (hl : K.length ≤ 1000) :
    Calls Tryz.prog 40 #[v, .string ⟨(blanks m).toArray⟩] w fun e w' => e = .returned (.string ⟨(bracesT K m).toArray⟩) ∧ ∃ nq, w' = w.drewN nq := by
  obtain ⟨A, cap, rfl, hcap, hc⟩ := hK
  have hbl : (blanks m).length ≤ 1000000 := by simpa [blanks] using hm
  generalize hB : blanks m = B at hbl
  have hBz := str_size B
  by_cases h0 : K.length = 0
  · obtain rfl : K = [] := List.eq_nil_of_length_eq_zero h0
    simp only [List.length_nil]
    go_enter Tryz.func40, Tryz.ntmps40
    go_wp2_with fail
    go_ret
    exact ⟨ret_str (by simp [bracesT]), 0, rfl⟩
  · have h0b : ((K.length : Int) == 0) = false := by simpa using h0
    have h0n : (K.length == 0) = false := by simpa using h0
    have HC := Lib.hid hc
    have HX := Lib.hid hx
    clear hc hx
    go_enter Tryz.func40, Tryz.ntmps40
    go_wp2_with fail
    go_loopg [5, 6] K.length (fun n v5 v6 wr => ∃ i nq : Nat, i + n = K.length ∧ v6 = .int .i64 i ∧ v5 = .string ⟨([123, 10] ++ linesT m (K.take i)).toArray⟩ ∧ wr = w.drewN nq)
    case atStart => exact ⟨0, 0, by omega, rfl, rfl, rfl⟩
    case round =>
      obtain ⟨i, nq, hin, rfl, rfl, rfl⟩ := hrel
      have hll := linesT_len m 1000000 hm (K.take i) (fun x hx => HX.out x (List.mem_of_mem_take hx))
      have htl : (K.take i).length ≤ 1000 := by rw [List.length_take]; omega
      have hmul : (K.take i).length * (2 * 1000000 + 3) ≤ 1000 * (2 * 1000000 + 3) := Nat.mul_le_mul_right _ htl
      obtain ⟨S, hS⟩ : ∃ S, S = [123, 10] ++ linesT m (K.take i) := ⟨_, rfl⟩
      have hSl : S.length ≤ 2000003005 := by rw [hS, List.length_append]; simp; omega
      rw [← hS]
      have hSz := str_size S
      have HS := Lib.hid hS
      clear hS hll htl hmul
      by_cases hlt : i < K.length
      · have hi := List.getElem?_eq_getElem hlt
        have hxl := HX.out _ (List.mem_of_getElem? hi)
        obtain ⟨g, off, rfl, hg, hcell⟩ := HC.out i _ hi
        have hT : K.take (i + 1) = K.take i ++ [K[i]] := List.take_succ_eq_append_getElem hlt
        generalize K[i] = x at *
        have hxz := str_size x
        have HT := Lib.hid hT
        clear hT hi
        go_wp2_with fail
        go_roundg (K.length - (i + 1))
        case measure => omega
        case rel =>
          refine ⟨i + 1, nq, by omega, by go_num, congrArg Value.string (str_ext ?_), rfl⟩
          rw [HT.out, linesT_snoc, ← hB] at *
          simp [HS.out, hB]
      · obtain rfl : i = K.length := by omega
        have hT : K.take K.length = K := List.take_of_length_le (Nat.le_refl _)
        have HT := Lib.hid hT
        clear hT
        go_wp2_with fail
        go_ret
        refine ⟨ret_str ?_, _, rfl⟩
        have hne : ¬ K = [] := by rintro rfl; simp at h0
        unfold bracesT
        rw [if_neg hne]
        have := HS.out
        rw [HT.out] at this
        simp [this, linesT, hB]
end Go.Proofs.YtehdljcmeimbcaaGreat

namespace Go.Proofs.YtehdljcmeimbcaaGreat
open Go.RowKit
set_option linter.unusedVariables false
set_option linter.unusedSimpArgs false

theorem digs_step (n : Nat) (h : 0 < n) : digs n = (if n / 10 = 0 then [] else digs (n / 10)) ++ [UInt8.ofNat (48 + n % 10)] := by
  conv => lhs; unfold digs
  split
  · rename_i h10
    rw [if_pos (by omega), Nat.mod_eq_of_lt h10]
    rfl
  · rw [if_neg (by omega)]

theorem digs_len : ∀ (k n : Nat), n < 10 ^ (k + 1) → (digs n).length ≤ k + 1
  | 0, n, h => by
    unfold digs
    rw [dif_pos (by simpa using h)]
    simp
  | k + 1, n, h => by
    unfold digs
    split
    · simp
    · rw [List.length_append, List.length_singleton]
      have := digs_len k (n / 10) (by rw [Nat.div_lt_iff_lt_mul (by decide)]; rw [Nat.pow_succ] at h; exact h)
      omega
theorem digs_len6 (n : Nat) (h : n ≤ 2147483647) : (digs n).length ≤ 1000000 := by
  have := digs_len 9 n (by omega)
  omega

set_option maxRecDepth 100000 in
set_option maxHeartbeats 1000000 in
theorem digits_ok (n : Nat) (w : World) (hn : n ≤ 1000000000000) :
    Calls Tryz.prog 71 #[.int .i64 n] w fun e w' => e = .returned (.string ⟨(digs n).toArray⟩) ∧ Below w.heap.size w w' := by
  go_enter Tryz.func71, Tryz.ntmps71
  go_wp2_with fail
  go_loopg [0, 3] (n + 2) (fun c v0 v3 wr => ∃ (j : Nat) (s : List UInt8), v0 = .int .i64 j ∧ v3 = .string ⟨s.toArray⟩ ∧ Below w.heap.size w wr ∧ j ≤ n ∧ s.length + j ≤ n + 1 ∧ ((s = [] ∧ j = n ∧ c = n + 2) ∨ (s ≠ [] ∧ c = j ∧ digs n = (if j = 0 then [] else digs j) ++ s)))
  case atStart => exact ⟨n, [], rfl, rfl, Below.refl _ _, Nat.le_refl _, by simp, .inl ⟨rfl, rfl, rfl⟩⟩
  case round =>
    obtain ⟨j, s, rfl, rfl, hb, hj, hs, hcase⟩ := hrel
    have hsz := str_size s
    by_cases hgo : 0 < j ∨ s = []
    · have HB := Lib.hid hb
      have hcv := conv_bs (w := wr.alloc (.cells #[.int .u8 (48 + (j : Int) % 10)] 5)) (b := wr.heap.size) (off := 0) (l := [UInt8.ofNat (48 + j % 10)]) (by
        intro k hk
        obtain rfl : k = 0 := by simpa using hk
        rw [al_cell (v := .int .u8 (48 + (j : Int) % 10)) rfl]
        unfold chr
        simp
        omega) 1
      rw [List.length_singleton] at hcv
      have HDZ := Lib.hid (show (j : Int) / 10 = ((j / 10 : Nat) : Int) by omega)
      have hcs : ([UInt8.ofNat (48 + j % 10)] ++ s : List UInt8) ≠ [] := by simp
      have hdn : digs n = (if j / 10 = 0 then [] else digs (j / 10)) ++ ([UInt8.ofNat (48 + j % 10)] ++ s) := by
        rcases hcase with ⟨rfl, rfl, _⟩ | ⟨hne, _, hd⟩
        · by_cases h0 : 0 < j
          · rw [List.append_nil]
            exact digs_step j h0
          · obtain rfl : j = 0 := by omega
            unfold digs
            rfl
        · have hj0 : 0 < j := by
            rcases hgo with h | h
            · exact h
            · exact absurd h hne
          rw [hd, if_neg (by omega), digs_step j hj0, List.append_assoc]
      have hlen : ([UInt8.ofNat (48 + j % 10)] ++ s : List UInt8).length + j / 10 ≤ n + 1 := by
        rw [List.length_append, List.length_singleton]
        rcases hcase with ⟨rfl, rfl, _⟩ | ⟨hne, _, hd⟩
        · simp
          omega
        · have hj0 : 0 < j := by
            rcases hgo with h | h
            · exact h
            · exact absurd h hne
          omega
      have hc : j / 10 < gk := by
        rcases hcase with ⟨rfl, rfl, h⟩ | ⟨hne, h, hd⟩
        · omega
        · have hj0 : 0 < j := by
            rcases hgo with h | h
            · exact h
            · exact absurd h hne
          omega
      have HC := Lib.hid hc
      have HDN := Lib.hid hdn
      have HLEN := Lib.hid hlen
      have HCS := Lib.hid hcs
      clear hcase hdn hlen hcs hc hb
      by_cases hj0 : 0 < j
      · clear hgo
        go_wp2_with fail
        go_roundg (j / 10)
        case measure => have := HC.out; omega
        case rel => exact ⟨j / 10, [UInt8.ofNat (48 + j % 10)] ++ s, by first | rfl | exact congrArg (Value.int .i64) HDZ.out, congrArg Value.string (str_ext (by simp)), (by first | exact HB.out.alloc HB.out.size _), by omega, HLEN.out, .inr ⟨HCS.out, rfl, HDN.out⟩⟩
      · obtain rfl : j = 0 := by omega
        obtain rfl : s = [] := by
          rcases hgo with h | h
          · exact absurd h hj0
          · exact h
        clear hgo
        simp only [Int.natCast_zero, Int.zero_emod, Int.add_zero, Nat.zero_mod, Nat.add_zero] at hcv
        go_wp2_with fail
        go_roundg 0
        case measure => have := HC.out; omega
        case rel => exact ⟨0, [48], rfl, congrArg Value.string (str_ext (by simp)), (by first | exact HB.out.alloc HB.out.size _), by omega, by simp, .inr ⟨by simp, rfl, HDN.out⟩⟩
    · have hj0 : j = 0 := by omega
      have hne : ¬ s = [] := fun h => hgo (.inr h)
      subst hj0
      have hd : digs n = s := by
        rcases hcase with ⟨h, _⟩ | ⟨_, _, hd⟩
        · exact absurd h hne
        · simpa using hd
      have hse : s.isEmpty = false := by simpa using hne
      have HD := Lib.hid hd
      have HB := Lib.hid hb
      clear hcase hd hgo hb hne
      go_wp2_with fail
      go_ret
      exact ⟨by rw [HD.out]; rfl, HB.out⟩
end Go.Proofs.YtehdljcmeimbcaaGreat
