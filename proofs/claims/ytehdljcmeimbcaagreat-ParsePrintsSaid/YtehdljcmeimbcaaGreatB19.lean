/- What the grammar says of some texts. -/
import Derived.Test.YtehdljcmeimbcaaGreatB03
import Derived.KernelRfl
namespace Go.Proofs.YtehdljcmeimbcaaGreat

/-- The tokens of a text without ends of lines, from a place on; is nothing wrong with them? -/
def fz : Nat → List UInt8 → Nat → List Tok × Bool
  | 0, _, _ => ([], true)
  | _ + 1, [], _ => ([], true)
  | n + 1, x :: s, a =>
    let k := kindI (x.toNat : Int)
    let e := if k = 0 then 1 else if pre2 (x :: s) = true then 2 else 1 + run k s
    let t := (x :: s).take e
    let r := (x :: s).drop e
    let g := nx false r
    let q := fz n (r.drop g) (a + e + g)
    (if k = 0 then q.1 else ⟨tkind k t, t, tnum k t, 1, (a : Int) + 1⟩ :: q.1, (if k = 0 then false else terr k t == 0) && q.2)
theorem line_one (l : List UInt8) (h : ∀ p, chr l p ≠ 10) : ∀ a, lineOf l a = 1 ∧ fromOf l a = 0
  | 0 => ⟨rfl, rfl⟩
  | a + 1 => by
    have := line_one l h a
    simp only [lineOf, fromOf]
    rw [if_neg (h a), if_neg (h a)]
    exact this
theorem fz_ok (l : List UInt8) (h : ∀ p, chr l p ≠ 10) : ∀ n a, l.length - a ≤ n → fz n (l.drop a) a = (toks l a, (dgs l a).isEmpty)
  | 0, a, hn => by rw [toks_end l a (by omega), dgs_end l a (by omega)]; rfl
  | n + 1, a, hn => by
    by_cases ha : a < l.length
    · obtain ⟨x, hd, hx⟩ := drop_chr l a ha
      rw [hd]
      simp only [fz]
      have hk : kindA l a = kindI (x.toNat : Int) := by unfold kindA; rw [hx]
      generalize he0 : (if kindI (x.toNat : Int) = 0 then 1 else if pre2 (x :: l.drop (a + 1)) = true then 2 else 1 + run (kindI (x.toNat : Int)) (l.drop (a + 1))) = e0
      have he : endA l a = a + e0 := by
        rw [← he0]
        unfold endA
        rw [hk]
        split
        · rfl
        · unfold endT
          rw [hd]
          split
          · rfl
          · unfold ends; omega
      have ht : textA l a = (x :: l.drop (a + 1)).take e0 := by
        unfold textA
        rw [he, hd]
        congr 1
        omega
      have hg := endA_gt l a
      have hdr : (x :: l.drop (a + 1)).drop e0 = l.drop (endA l a) := by
        rw [← hd, List.drop_drop, ← he]
      have hnx : nxt l (endA l a) = endA l a + nx false (l.drop (endA l a)) := rfl
      have hle := fz_ok l h n (nxt l (endA l a)) (by have := nxt_ge l (endA l a); omega)
      obtain ⟨hl1, hl2⟩ := line_one l h a
      rw [← ht]
      rw [hdr, List.drop_drop, ← hnx]
      rw [← he, ← hnx, hle]
      rw [← hk]
      by_cases h0 : kindA l a = 0
      · have hr : errA l a ≠ 0 := by unfold errA; rw [if_pos h0]; decide
        rw [toks_skip l a ha h0, dgs_one l a ha hr]
        simp [h0]
      · have hr : errA l a = terr (kindA l a) (textA l a) := by unfold errA; rw [if_neg h0]
        rw [toks_one l a ha h0]
        have htk : tokA l a = ⟨tkind (kindA l a) (textA l a), textA l a, tnum (kindA l a) (textA l a), 1, (a : Int) + 1⟩ := by
          unfold tokA
          rw [hl1, hl2]
          simp
        rw [htk]
        by_cases h1 : errA l a = 0
        · rw [dgs_skip l a ha h1]
          rw [hr] at h1
          simp [h0, h1]
        · rw [dgs_one l a ha h1]
          rw [hr] at h1
          simp [h0, h1]
    · rw [toks_end l a ha, dgs_end l a ha, List.drop_of_length_le (by omega)]
      rfl

/-- What is told of a text: no token is wrong, and there is a tree (none), or an error, and where. -/
def outZ (n : Nat) (l : List UInt8) : Option (Option (Int × Int × Int)) :=
  let q := fz (l.length + 1) (l.drop (nx false l)) (nx false l)
  if (l.all fun x => x != 10) && q.2 then match P n (.decls .nil) q.1 0 with
    | .dry => none
    | .bad e r => some (some (e, (hd r).line, (hd r).col))
    | .ok _ _ _ => some none
  else none
theorem chr_ne (l : List UInt8) (h : (l.all fun x => x != 10) = true) (p : Nat) : chr l p ≠ 10 := by
  unfold chr
  by_cases hp : p < l.length
  · have h1 := List.all_eq_true.1 h _ (List.getElem_mem hp)
    rw [List.getElem?_eq_getElem hp]
    intro h2
    have h3 : l[p] = 10 := by
      apply UInt8.toNat_inj.1
      have : ((l[p]).toNat : Int) = 10 := h2
      simp; omega
    simp [h3] at h1
  · rw [List.getElem?_eq_none (by omega)]; simp
theorem outZ_some {n : Nat} {l : List UInt8} {x : Option (Int × Int × Int)} (h : outZ n l = some x) : dgs l (nxt l 0) = [] ∧
    match x with
    | none => ∃ d k r, P n (.decls .nil) (toks l (nxt l 0)) 0 = .ok d k r
    | some (er, li, co) => ∃ r, P n (.decls .nil) (toks l (nxt l 0)) 0 = .bad er r ∧ (hd r).line = li ∧ (hd r).col = co := by
  unfold outZ at h
  simp only [] at h
  have hn : nxt l 0 = nx false l := by unfold nxt; simp
  split at h
  · rename_i hc
    rw [Bool.and_eq_true] at hc
    have hz := fz_ok l (chr_ne l hc.1) (l.length + 1) (nx false l) (by omega)
    rw [hz] at hc h
    rw [hn]
    refine ⟨by simpa using hc.2, ?_⟩
    simp only [] at h
    cases hP : P n (.decls .nil) (toks l (nx false l)) 0 with
    | dry => rw [hP] at h; simp at h
    | bad er r =>
      rw [hP] at h
      simp at h
      subst h
      exact ⟨r, rfl, rfl, rfl⟩
    | ok d k r =>
      rw [hP] at h
      simp at h
      subst h
      exact ⟨d, k, r, rfl⟩
  · cases h

def signs (q : Nat) : List UInt8 := if q = 0 then [40] else if q = 1 then [97, 114, 114, 32] else if q = 2 then [105, 116, 91] else if q = 3 then [108, 101, 110, 32] else [119, 104, 105, 108, 101, 32, 105, 116, 32, 123]
def shuts (q : Nat) : List UInt8 := if q = 0 then [41] else if q = 2 then [93] else if q = 4 then [125] else []
def rep (s : List UInt8) : Nat → List UInt8
  | 0 => []
  | n + 1 => s ++ rep s n
def headT (q : Nat) : List UInt8 := if q < 4 then [109, 97, 105, 110, 32, 123, 108, 111, 103, 32] else [109, 97, 105, 110, 32, 123]
def midT (q : Nat) : List UInt8 := if q < 4 then [105, 116] else []
def endsT (q : Nat) : List UInt8 := if q < 4 then [59, 125] else [125]
def nestT (many q : Nat) : List UInt8 := (headT q ++ rep (signs q) (many - 1) ++ midT q) ++ (rep (shuts q) (many - 1) ++ endsT q)
theorem known1 : outZ 100 [109, 97, 105, 110, 32, 123, 32, 120, 32, 61, 32, 49, 32, 125] = some (some (4, 1, 14)) := by kernel_rfl
theorem known2 : outZ 100 [109, 97, 105, 110, 32, 123, 32, 53, 32, 61, 32, 49, 59, 32, 125] = some (some (4, 1, 10)) := by kernel_rfl
theorem known3 : outZ 100 [108, 111, 111, 112, 101, 114] = some (some (4, 0, 0)) := by kernel_rfl
def offs (q : Nat) : Nat := if q = 2 then 2 else if q = 4 then 9 else 0
/-- Where the one too many stands. -/
def placeT (q : Nat) : Nat := (headT q).length + 63 * (signs q).length + 1
def nestOk (q m : Nat) : Bool := outZ 2000 (nestT m q) == if m ≤ 64 then some none else some (some (5, 1, ((placeT q + offs q : Nat) : Int)))
def nestsOk (q : Nat) : Bool := (List.range 70).all fun m => nestOk q (m + 1)
theorem nests0 : nestsOk 0 = true := by kernel_rfl
theorem nests1 : nestsOk 1 = true := by kernel_rfl
theorem nests2 : nestsOk 2 = true := by kernel_rfl
theorem nests3 : nestsOk 3 = true := by kernel_rfl
theorem nests4 : nestsOk 4 = true := by kernel_rfl
theorem nests (m q : Nat) (h1 : 1 ≤ m) (h2 : m ≤ 70) (hq : q ≤ 4) : outZ 2000 (nestT m q) = if m ≤ 64 then some none else some (some (5, 1, ((placeT q + offs q : Nat) : Int))) := by
  have h : nestsOk q = true := by
    match q, hq with
    | 0, _ => exact nests0
    | 1, _ => exact nests1
    | 2, _ => exact nests2
    | 3, _ => exact nests3
    | 4, _ => exact nests4
  unfold nestsOk at h
  have h3 := List.all_eq_true.1 h (m - 1) (by simp; omega)
  have e : m - 1 + 1 = m := by omega
  rw [e] at h3
  exact eq_of_beq h3
end Go.Proofs.YtehdljcmeimbcaaGreat
