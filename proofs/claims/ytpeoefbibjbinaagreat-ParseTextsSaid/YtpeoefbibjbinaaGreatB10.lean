/- The document's parser, plainly: it goes on behind what is wrong; What a part of the document's parser has done so far; use, typ; typ, Term of the document's parser; sum, product of the document's parser (written by gen_r.py). -/
import Derived.Test.YtpeoefbibjbinaaGreatB09
import Derived.Deep.RegionHeld3
import Derived.Deep.DeepCutAuto
import Derived.Deep.CutBlock
import Derived.Deep.LoopGhost
namespace Go.Proofs.YtpeoefbibjbinaaGreat
open Go.RowKit

def tq (d : Nd) (l : List (List Tw)) (σ : Sg) : Option (List Tw × Sg) := if (twL d l).length ≤ 100000000 ∧ l.length ≤ 100000000 then some (twL d l, σ) else none
def sgn (T : List Tok) (s : List UInt8) (σ : Sg) : Tok × Sg := takeS T (isT T s σ) σ
def knd (T : List Tok) (k : Int) (σ : Sg) : Tok × Sg := takeS T (isKd T k σ) σ
def oneS (T : List Tok) (l : List (List UInt8)) (σ : Sg) : Tok × Sg := takeS T (isIn T l σ) σ
def skp (σ : Sg) : Sg := ⟨σ.k + 1, σ.er, σ.wh⟩
def useQ (T : List Tok) (σ : Sg) : List Tw × Sg := (twL (at_ (knd T 1 σ).1 29 (knd T 1 σ).1.text 0) [], (knd T 1 σ).2)
def typQ (T : List Tok) (σ : Sg) : List Tw × Sg :=
  if isKd T 1 σ = true then (twL (at_ (hd (rest T σ)) 5 (hd (rest T σ)).text 0) [], skp σ)
  else (twL (at_ (oneS T tyWords σ).1 5 (oneS T tyWords σ).1.text 0) [], (oneS T tyWords σ).2)
def zeroT : Tw := ⟨0, [], 0, 0, 0, []⟩
def lifeN (s : List UInt8) : Int := if s = [115, 116, 97, 114, 116] then 1 else if s = [115, 116, 111, 112] then 2 else if s = [100, 101, 115, 116, 114, 111, 121] then 3 else 0
def declWords : List (List UInt8) := [[108, 111, 111, 112, 101, 114], [99, 108, 97, 115, 115], [118, 97, 114], [102, 110], [99, 111, 109, 112], [101, 118, 101, 110, 116], [109, 97, 105, 110]]
def postA (T : List Tok) (σ : Sg) : Int × Sg :=
  if isT T [97, 102, 116, 101, 114] σ = true then ((knd T 3 (skp σ)).1.n, (knd T 3 (skp σ)).2) else if isT T [102, 114, 111, 110, 116] σ = true then (-1, skp σ) else (0, σ)
def varS (x : List Tw × Sg) : List Tw × Sg := (x.1, if x.2.er = 0 ∧ isVarK ((x.1.headD zeroT).kind) = false then wrong 4 x.2 else x.2)

/-- The parts of the grammar, and the loops in them with what they have so far. -/
inductive Gq where
  | decl | members (t : Tok) (s : List UInt8) (l : List (List Tw)) | lives (t : Tok) (s : List UInt8) (l : List (List Tw))
  | block | stmts (t : Tok) (l : List (List Tw)) | stmt | set (t : Tok) | branch | post | var
  | term | sum | sumL (x : List Tw) | product | prodL (x : List Tw) | unary | tight | tightL (x : List Tw) | first | blockIf | termIf | unaryIf

def Q (T : List Tok) : Nat → Gq → Nat → Sg → Option (List Tw × Sg)
  | 0, _, _, _ => none
  | n + 1, q, m, σ => match q with
    | .decl =>
      if (oneS T declWords σ).1.text = [109, 97, 105, 110] then (Q T n .block m (oneS T declWords σ).2).bind fun x => tq (at_ (oneS T declWords σ).1 11 [] 0) [x.1] x.2
      else if (oneS T declWords σ).1.text = [108, 111, 111, 112, 101, 114] then tq (at_ (oneS T declWords σ).1 2 (knd T 1 (oneS T declWords σ).2).1.text 0) [] (sgn T [59] (knd T 1 (oneS T declWords σ).2).2).2
      else if (oneS T declWords σ).1.text = [118, 97, 114] then tq (at_ (oneS T declWords σ).1 6 (knd T 1 (oneS T declWords σ).2).1.text 0) [(typQ T (knd T 1 (oneS T declWords σ).2).2).1] (sgn T [59] (typQ T (knd T 1 (oneS T declWords σ).2).2).2).2
      else if (oneS T declWords σ).1.text = [102, 110] then (Q T n .block m (knd T 1 (oneS T declWords σ).2).2).bind fun x => tq (at_ (oneS T declWords σ).1 7 (knd T 1 (oneS T declWords σ).2).1.text 0) [x.1] x.2
      else if (oneS T declWords σ).1.text = [99, 108, 97, 115, 115] then Q T n (.members (oneS T declWords σ).1 (knd T 1 (oneS T declWords σ).2).1.text []) m (sgn T [123] (knd T 1 (oneS T declWords σ).2).2).2
      else if (oneS T declWords σ).1.text = [101, 118, 101, 110, 116] then
        (Q T n .block m (oneS T [[111, 110], [111, 102, 102]] (useQ T (sgn T [111, 110] (knd T 1 (oneS T declWords σ).2).2).2).2).2).bind fun x =>
          tq (at_ (oneS T declWords σ).1 10 (knd T 1 (oneS T declWords σ).2).1.text (if (oneS T [[111, 110], [111, 102, 102]] (useQ T (sgn T [111, 110] (knd T 1 (oneS T declWords σ).2).2).2).2).1.text = [111, 110] then 1 else 0)) [(useQ T (sgn T [111, 110] (knd T 1 (oneS T declWords σ).2).2).2).1, x.1] x.2
      else Q T n (.lives (oneS T declWords σ).1 (knd T 1 (oneS T declWords σ).2).1.text [(useQ T (sgn T [111, 110] (knd T 1 (oneS T declWords σ).2).2).2).1]) m (sgn T [123] (useQ T (sgn T [111, 110] (knd T 1 (oneS T declWords σ).2).2).2).2).2
    | .members t s l =>
      if σ.er = 0 ∧ isT T [125] σ = false then
        (tq (at_ (knd T 1 σ).1 4 (knd T 1 σ).1.text 0) [(typQ T (knd T 1 σ).2).1] (sgn T [59] (typQ T (knd T 1 σ).2).2).2).bind fun x => Q T n (.members t s (l ++ [x.1])) m x.2
      else tq (at_ t 3 s 0) l (sgn T [125] σ).2
    | .lives t s l =>
      if σ.er = 0 ∧ isT T [125] σ = false then
        (Q T n .block m (oneS T lifeWords σ).2).bind fun x => (tq (at_ (oneS T lifeWords σ).1 9 [] (lifeN (oneS T lifeWords σ).1.text)) [x.1] x.2).bind fun y => Q T n (.lives t s (l ++ [y.1])) m y.2
      else tq (at_ t 8 s 0) l (sgn T [125] σ).2
    | .block => if m ≤ 1000 then Q T n (.stmts (openS T m [123] σ).1 []) (m + 1) (openS T m [123] σ).2 else none
    | .stmts t l =>
      if σ.er = 0 ∧ isT T [125] σ = false then (Q T n .stmt m σ).bind fun x => Q T n (.stmts t (l ++ [x.1])) m x.2
      else tq (at_ t 12 [] 0) l (sgn T [125] σ).2
    | .stmt =>
      if isKd T 2 σ = false then Q T n (.set (hd (rest T σ))) m σ
      else if (hd (rest T σ)).text = [105, 102] ∨ (hd (rest T σ)).text = [119, 104, 105, 108, 101] then Q T n .branch m σ
      else if (hd (rest T σ)).text = [118, 97, 114] then
        (Q T n .term m (sgn T [61] (typQ T (knd T 1 (skp σ)).2).2).2).bind fun x =>
          tq (at_ (hd (rest T σ)) 13 (knd T 1 (skp σ)).1.text 0) [(typQ T (knd T 1 (skp σ)).2).1, x.1] (sgn T [59] x.2).2
      else if (hd (rest T σ)).text = [99, 97, 108, 108] then (Q T n .term m (skp σ)).bind fun x => tq (at_ (hd (rest T σ)) 15 [] 0) [x.1] (sgn T [59] x.2).2
      else if (hd (rest T σ)).text = [99, 97, 110, 99, 101, 108] then (Q T n .term m (skp σ)).bind fun x => tq (at_ (hd (rest T σ)) 16 [] 0) [x.1] (sgn T [59] x.2).2
      else if (hd (rest T σ)).text = [106, 111, 105, 110] then (Q T n .term m (skp σ)).bind fun x => tq (at_ (hd (rest T σ)) 17 [] 0) [x.1] (sgn T [59] x.2).2
      else if (hd (rest T σ)).text = [108, 111, 103] then (Q T n .term m (skp σ)).bind fun x => tq (at_ (hd (rest T σ)) 18 [] 0) [x.1] (sgn T [59] x.2).2
      else if (hd (rest T σ)).text = [112, 111, 115, 116] ∨ (hd (rest T σ)).text = [115, 112, 97, 119, 110] then (Q T n .post m σ).bind fun x => some (x.1, (sgn T [59] x.2).2)
      else if (hd (rest T σ)).text = [101, 110, 97, 98, 108, 101] then tq (at_ (hd (rest T σ)) 21 (knd T 1 (skp σ)).1.text 0) [] (sgn T [59] (knd T 1 (skp σ)).2).2
      else if (hd (rest T σ)).text = [100, 105, 115, 97, 98, 108, 101] then tq (at_ (hd (rest T σ)) 22 (knd T 1 (skp σ)).1.text 0) [] (sgn T [59] (knd T 1 (skp σ)).2).2
      else if (hd (rest T σ)).text = [114, 101, 116, 117, 114, 110] then tq (at_ (hd (rest T σ)) 25 [] 0) [] (sgn T [59] (skp σ)).2
      else Q T n (.set (hd (rest T σ))) m σ
    | .set t => (Q T n .var m σ).bind fun v => (Q T n .term m (sgn T [61] v.2).2).bind fun x => tq (at_ t 14 [] 0) [v.1, x.1] (sgn T [59] x.2).2
    | .branch => if isKd T 2 σ = false then none else
      (Q T n .term m (skp σ)).bind fun x => (Q T n .block m x.2).bind fun y =>
        if (hd (rest T σ)).text = [119, 104, 105, 108, 101] then tq (at_ (hd (rest T σ)) 24 [] 0) [x.1, y.1] y.2
        else if isT T [101, 108, 115, 101] y.2 = true then (Q T n .block m (skp y.2)).bind fun z => tq (at_ (hd (rest T σ)) 23 [] 0) [x.1, y.1, z.1] z.2
        else tq (at_ (hd (rest T σ)) 23 [] 0) [x.1, y.1, twL (at_ (hd (rest T σ)) 12 [] 0) []] y.2
    | .post => if isKd T 2 σ = false then none else
      if (hd (rest T σ)).text = [112, 111, 115, 116] then
        (Q T n .term m (knd T 1 (skp σ)).2).bind fun x =>
          if isT T [116, 111] (postA T x.2).2 = true then (Q T n .var m (skp (postA T x.2).2)).bind fun v => tq (at_ (hd (rest T σ)) 19 (knd T 1 (skp σ)).1.text (postA T x.2).1) [x.1, v.1] v.2
          else tq (at_ (hd (rest T σ)) 19 (knd T 1 (skp σ)).1.text (postA T x.2).1) [x.1] (postA T x.2).2
      else
        (Q T n .term m (skp σ)).bind fun x =>
          if isT T [116, 111] x.2 = true then (Q T n .var m (skp x.2)).bind fun v => tq (at_ (hd (rest T σ)) 20 [] 0) [x.1, v.1] v.2
          else tq (at_ (hd (rest T σ)) 20 [] 0) [x.1] x.2
    | .var => (Q T n .tight m σ).bind fun x => some (varS x)
    | .term =>
      (Q T n .sum m σ).bind fun x =>
        if (isT T [60] x.2 || isT T [61, 61] x.2) = true then (Q T n .sum m (skp x.2)).bind fun y => tq (at_ (hd (rest T x.2)) 32 (hd (rest T x.2)).text 0) [x.1, y.1] y.2
        else some x
    | .sum => (Q T n .product m σ).bind fun x => Q T n (.sumL x.1) m x.2
    | .sumL x =>
      if (isT T [43] σ || isT T [45] σ) = true then
        (Q T n .product m (skp σ)).bind fun y => (tq (at_ (hd (rest T σ)) 32 (hd (rest T σ)).text 0) [x, y.1] y.2).bind fun z => Q T n (.sumL z.1) m z.2
      else some (x, σ)
    | .product => (Q T n .unary m σ).bind fun x => Q T n (.prodL x.1) m x.2
    | .prodL x =>
      if isT T [42] σ = true then
        (Q T n .unary m (skp σ)).bind fun y => (tq (at_ (hd (rest T σ)) 32 (hd (rest T σ)).text 0) [x, y.1] y.2).bind fun z => Q T n (.prodL z.1) m z.2
      else some (x, σ)
    | .unary =>
      if isT T [108, 101, 110] σ = true then (if m ≤ 1000 then (Q T n .unaryIf (m + 1) (openS T m [108, 101, 110] σ).2).bind fun x => tq (at_ (openS T m [108, 101, 110] σ).1 35 [] 0) [x.1] x.2 else none)
      else if isT T [97, 114, 114] σ = true then (if m ≤ 1000 then (Q T n .unaryIf (m + 1) (openS T m [97, 114, 114] σ).2).bind fun x => tq (at_ (openS T m [97, 114, 114] σ).1 34 [] 0) [x.1] x.2 else none)
      else Q T n .tight m σ
    | .unaryIf => if σ.er = 0 then Q T n .unary m σ else some ([zeroT], σ)
    | .tight => (Q T n .first m σ).bind fun x => Q T n (.tightL x.1) m x.2
    | .tightL x =>
      if isT T [46] σ = true then (tq (at_ (hd (rest T σ)) 30 (knd T 1 (skp σ)).1.text 0) [x] (knd T 1 (skp σ)).2).bind fun z => Q T n (.tightL z.1) m z.2
      else if isT T [91] σ = true then (if m ≤ 1000 then
        (Q T n .termIf (m + 1) (openS T m [91] σ).2).bind fun y => (tq (at_ (openS T m [91] σ).1 31 [] 0) [x, y.1] (sgn T [93] y.2).2).bind fun z => Q T n (.tightL z.1) m z.2 else none)
      else some (x, σ)
    | .termIf => if σ.er = 0 then Q T n .term m σ else some ([zeroT], σ)
    | .first =>
      if isKd T 3 σ = true then tq (at_ (hd (rest T σ)) 26 [] (hd (rest T σ)).n) [] (skp σ)
      else if isT T [110, 117, 108, 108] σ = true then tq (at_ (hd (rest T σ)) 27 [] 0) [] (skp σ)
      else if isT T [105, 116] σ = true then tq (at_ (hd (rest T σ)) 28 [] 0) [] (skp σ)
      else if isT T [110, 101, 119] σ = true then tq (at_ (hd (rest T σ)) 33 (knd T 1 (skp σ)).1.text 0) [] (knd T 1 (skp σ)).2
      else if isT T [102, 110] σ = true then (Q T n .blockIf m (skp σ)).bind fun x => tq (at_ (hd (rest T σ)) 36 [] 0) [x.1] x.2
      else if isT T [40] σ = true then (if m ≤ 1000 then (Q T n .termIf (m + 1) (openS T m [40] σ).2).bind fun x => some (x.1, (sgn T [41] x.2).2) else none)
      else some (useQ T σ)
    | .blockIf => if σ.er = 0 then Q T n .block m σ else some ([zeroT], σ)

theorem tq_some {d : Nd} {l : List (List Tw)} {σ : Sg} {x : List Tw × Sg} (h : tq d l σ = some x) : (twL d l).length ≤ 100000000 ∧ x = (twL d l, σ) := by
  unfold tq at h
  split at h
  · next h1 => exact ⟨h1.1, (Option.some.inj h).symm⟩
  · cases h
theorem tq_len {d : Nd} {l : List (List Tw)} {σ : Sg} {x : List Tw × Sg} (h : tq d l σ = some x) : l.length ≤ 100000000 := by
  unfold tq at h
  split at h
  · next h1 => exact h1.2
  · cases h
theorem stmts_len (T : List Tok) (t : Tok) (m : Nat) (x : List Tw × Sg) : ∀ (n : Nat) (l : List (List Tw)) (σ : Sg), Q T n (.stmts t l) m σ = some x → l.length ≤ 100000000
  | 0, _, _, h => by rw [Q] at h; cases h
  | n + 1, l, σ, h => by
    rw [Q] at h
    split at h
    · obtain ⟨y, _, h2⟩ := Option.bind_eq_some_iff.1 h
      have := stmts_len T t m x n _ _ h2
      simp at this
      omega
    · exact tq_len h
theorem members_len (T : List Tok) (t : Tok) (s : List UInt8) (m : Nat) (x : List Tw × Sg) : ∀ (n : Nat) (l : List (List Tw)) (σ : Sg), Q T n (.members t s l) m σ = some x → l.length ≤ 100000000
  | 0, _, _, h => by rw [Q] at h; cases h
  | n + 1, l, σ, h => by
    rw [Q] at h
    split at h
    · obtain ⟨y, _, h2⟩ := Option.bind_eq_some_iff.1 h
      have := members_len T t s m x n _ _ h2
      simp at this
      omega
    · exact tq_len h
theorem lives_len (T : List Tok) (t : Tok) (s : List UInt8) (m : Nat) (x : List Tw × Sg) : ∀ (n : Nat) (l : List (List Tw)) (σ : Sg), Q T n (.lives t s l) m σ = some x → l.length ≤ 100000000
  | 0, _, _, h => by rw [Q] at h; cases h
  | n + 1, l, σ, h => by
    rw [Q] at h
    split at h
    · obtain ⟨y, _, h2⟩ := Option.bind_eq_some_iff.1 h
      obtain ⟨z, _, h3⟩ := Option.bind_eq_some_iff.1 h2
      have := lives_len T t s m x n _ _ h3
      simp at this
      omega
    · exact tq_len h
end Go.Proofs.YtpeoefbibjbinaaGreat

namespace Go.Proofs.YtpeoefbibjbinaaGreat
open Go.RowKit

/-- What is known between two steps of a part: the parser, the call's own blocks, the rows that it has. -/
structure S3 (C : Rx) (w0 w : World) (m : Nat) (σ : Sg) (L : List (Nat × Obj)) (V : List (Value × List Tw)) : Prop where
  rs : RS w C m σ
  kr : KR C.p w0 w
  loc : ∀ x ∈ L, w.heap[x.1]? = some x.2 ∧ C.p < x.1
  row : ∀ x ∈ V, R3 w x.1 x.2
variable {C : Rx} {w0 w : World} {m : Nat} {σ : Sg} {L : List (Nat × Obj)} {V : List (Value × List Tw)}
theorem S3.start (h : RS w C m σ) : S3 C w w m σ [] [] := ⟨h, .refl _ _, by simp, by simp⟩
theorem S3.below (h : S3 C w0 w m σ L V) {w' : World} (hb : Below w.heap.size w w') : S3 C w0 w' m σ L V :=
  ⟨h.rs.after hb, h.kr.trans (.of hb), fun x hx => ⟨(hb.block _ (lt_of_block (h.loc x hx).1)).trans (h.loc x hx).1, (h.loc x hx).2⟩, fun x hx => (h.row x hx).after hb⟩
theorem S3.al (h : S3 C w0 w m σ L V) (o : Obj) : S3 C w0 (w.alloc o) m σ L V := h.below ((Below.refl _ _).alloc (Nat.le_refl _) o)
theorem S3.drew (h : S3 C w0 w m σ L V) : S3 C w0 w.drew m σ L V := h.below ((Below.refl _ _).drew)
theorem S3.var (h : S3 C w0 w m σ L V) (b : Nat) (hb : b = w.heap.size) (o : Obj) : S3 C w0 (w.alloc o) m σ ((b, o) :: L) V := by
  subst hb
  have ha := h.al o
  refine ⟨ha.rs, ha.kr, fun x hx => ?_, ha.row⟩
  rcases List.mem_cons.1 hx with rfl | hx
  · exact ⟨heap_alloc_new w o, h.rs.lt⟩
  · exact ha.loc x hx
theorem S3.call (h : S3 C w0 w m σ L V) {w' : World} {m' : Nat} {σ' : Sg} (hs : RS w' C m' σ') (hk : KR C.p w w') : S3 C w0 w' m' σ' L V :=
  ⟨hs, h.kr.trans hk, fun x hx => ⟨(hk.block _ (lt_of_block (h.loc x hx).1) (by have := (h.loc x hx).2; omega)).trans (h.loc x hx).1, (h.loc x hx).2⟩, fun x hx => (h.row x hx).kr h.rs hk⟩
theorem S3.add (h : S3 C w0 w m σ L V) {v : Value} {R : List Tw} (hr : R3 w v R) : S3 C w0 w m σ L ((v, R) :: V) :=
  ⟨h.rs, h.kr, h.loc, fun x hx => by rcases List.mem_cons.1 hx with rfl | hx; exact hr; exact h.row x hx⟩
theorem S3.skip (h : S3 C w0 w m σ L V) (hk : σ.k < C.T.length) : S3 C w0 (w.setCell ⟨C.p, 1, none⟩ (.int .i64 ((σ.k : Int) + 1))) m (skp σ) L V :=
  h.call (h.rs.setP 1 _ m (skp σ) (by simp [skp]) (by simp [skp]; omega) h.rs.nest) (.set _ _ _ _)
theorem S3.down (h : S3 C w0 w (m + 1) σ L V) : S3 C w0 (w.setCell ⟨C.p, 2, none⟩ (.int .i64 (m : Int))) m σ L V :=
  h.call (h.rs.setP 2 _ m σ (by simp) h.rs.kle (by have := h.rs.nest; omega)) (.set _ _ _ _)
theorem S3.head {x : Nat × Obj} (h : S3 C w0 w m σ (x :: L) V) : w.heap[x.1]? = some x.2 := (h.loc x (.head _)).1
/-- A store into a variable of the call's own. -/
theorem S3.set (h : S3 C w0 w m σ L V) {b : Nat} {cs : Array Value} {t : TypeId} (hc : w.heap[b]? = some (.cells cs t (0, 0))) (hge : w0.heap.size ≤ b) (hp0 : C.p < w0.heap.size) (ht : t ≠ 39 ∧ t ≠ 3) (i : Nat) (u : Value) (hn : ∀ x ∈ L, x.1 ≠ b) :
    S3 C w0 (w.setCell ⟨b, i, none⟩ u) m σ L V := by
  have hbe : ∀ k, k ≠ b → (w.setCell ⟨b, i, none⟩ u).heap[k]? = w.heap[k]? := fun k hk => set_other _ _ _ _ _ hk
  have hbl : Below b w (w.setCell ⟨b, i, none⟩ u) := (Below.refl b w).setCell (p := ⟨b, i, none⟩) (Nat.le_refl _) u
  refine ⟨⟨(hbe _ (by omega)).trans h.rs.par, h.rs.toks.below hbl (by omega), h.rs.kle, h.rs.big, h.rs.nest⟩, ⟨hbl.os.trans h.kr.os, hbl.tape.trans h.kr.tape, hbl.output.trans h.kr.output, Nat.le_trans h.kr.size hbl.size, fun k hk hp => (hbe k (by omega)).trans (h.kr.block k hk hp)⟩, fun x hx => ⟨(hbe _ (hn x hx)).trans (h.loc x hx).1, (h.loc x hx).2⟩, fun x hx => (h.row x hx).keep fun g cs' t' m' hi hty => hbe g ?_⟩
  rintro rfl
  rw [hc] at hi
  injection hi with hi
  injection hi with _ e _
  rcases hty with rfl | rfl
  · exact ht.2 e
  · exact ht.1 e
theorem S3.drop {x : Nat × Obj} (h : S3 C w0 w m σ (x :: L) V) : S3 C w0 w m σ L V := ⟨h.rs, h.kr, fun y hy => h.loc y (List.mem_cons_of_mem _ hy), h.row⟩
theorem S3.dropV {x : Value × List Tw} (h : S3 C w0 w m σ L (x :: V)) : S3 C w0 w m σ L V := ⟨h.rs, h.kr, h.loc, fun y hy => h.row y (List.mem_cons_of_mem _ hy)⟩

/-- What a part answers. -/
def Ret3 (C : Rx) (w0 : World) (m : Nat) (x : List Tw × Sg) (e : Ending) (w' : World) : Prop := ∃ g c, e = .returned (.slice (some ⟨g, 0, none⟩) x.1.length c) ∧ R3 w' (.slice (some ⟨g, 0, none⟩) x.1.length c) x.1 ∧ RS w' C m x.2 ∧ KR C.p w0 w'
theorem S3.ret (h : S3 C w0 w m σ L V) {v : Value} {R : List Tw} (hr : R3 w v R) : Ret3 C w0 m (R, σ) (.returned v) w := by
  obtain ⟨g, c, rfl, _⟩ := hr.form
  exact ⟨g, c, rfl, hr, h.rs, h.kr⟩
/-- What twig answers. -/
def Ret3T (w : World) (R : List Tw) (e : Ending) (w' : World) : Prop := ∃ g c, e = .returned (.slice (some ⟨g, 0, none⟩) R.length c) ∧ R3 w' (.slice (some ⟨g, 0, none⟩) R.length c) R ∧ Below w.heap.size w w'
/-- The contract of a part. -/
def Ct3 (f n : Nat) (q : Gq) : Prop := ∀ (C : Rx) (w : World) (m : Nat) (σ : Sg) (x : List Tw × Sg), RS w C m σ → Q C.T n q m σ = some x → Calls Tryz.prog f #[C.ptr] w (Ret3 C w m x)

def tokO (t : Tok) : Obj := .cells #[.int .i64 t.kind, .string ⟨t.text.toArray⟩, .int .i64 t.n, .int .i64 t.line, .int .i64 t.col] 61
/-- twig, of kids that have just been laid into a block. -/
theorem twig_new (kd : Int) (s : List UInt8) (n : Int) (t : Tok) (vs : List Value) (cs : Array Value) (hcs : cs = vs.toArray) (g k : Nat) (Rs : List (List Tw)) (w : World) (hg : g = w.heap.size) (hk : k = vs.length) (hl : vs.length = Rs.length) (hr : ∀ (i : Nat) (v : Value) (R : List Tw), vs[i]? = some v → Rs[i]? = some R → R3 w v R) (hsz : (twL (at_ t kd s n) Rs).length ≤ 100000000) :
    Calls Tryz.prog 35 #[.int .i64 kd, .string ⟨s.toArray⟩, .int .i64 n, tokV t, .slice (some ⟨g, 0, none⟩) k k] (w.alloc (.cells cs 76)) (Ret3T w (twL (at_ t kd s n) Rs)) := by
  subst hg hk hcs
  refine (twig_ok kd s n t (some ⟨w.heap.size, 0, none⟩) vs.length vs Rs _ (fun i v hi => ⟨_, _, rfl, ?_⟩) hl (fun i v R h1 h2 => (hr i v R h1 h2).after ((Below.refl _ _).alloc (Nat.le_refl _) _)) hsz).mono fun e w' h => ?_
  · rw [Nat.zero_add, World.cell?_alloc_mark]
    simp [hi]
  · obtain ⟨v, rfl, h2, h3⟩ := h
    obtain ⟨g, c, rfl, _⟩ := h2.form
    exact ⟨g, c, rfl, h2, ((Below.refl _ _).alloc (Nat.le_refl _) _).trans (h3.mono (by simp))⟩
theorem twig_nil (kd : Int) (s : List UInt8) (n : Int) (t : Tok) (w : World) :
    Calls Tryz.prog 35 #[.int .i64 kd, .string ⟨s.toArray⟩, .int .i64 n, tokV t, .slice none 0 0] w (Ret3T w (twL (at_ t kd s n) [])) := by
  refine (twig_ok kd s n t none 0 [] [] w (by simp) rfl (by simp) (by simp [twL, twF])).mono ?_
  rintro e w' ⟨v, rfl, h2, h3⟩
  obtain ⟨g, c, rfl, _⟩ := h2.form
  exact ⟨g, c, rfl, h2, h3⟩

set_option maxRecDepth 100000 in
set_option maxHeartbeats 1000000 in
theorem use3_ok (C : Rx) (w : World) (m : Nat) (σ : Sg) (h : RS w C m σ) : Calls Tryz.prog 63 #[C.ptr] w (Ret3 C w m (useQ C.T σ)) := by
  have HS0 := Lib.hid (S3.start h)
  have HC := Lib.hid (kind3_ok C w m σ 1 h (by decide))
  clear h
  unfold useQ knd Rx.ptr at *
  generalize takeS C.T (isKd C.T 1 σ) σ = x at *
  obtain ⟨t, σ'⟩ := x
  go_enter Tryz.func63, Tryz.ntmps63
  go_wp2_with fail
  refine HC.out.mono ?_
  rintro e w1 ⟨rfl, hs, hk⟩
  dsimp only at hs ⊢
  have HS1 := Lib.hid ((HS0.out.call hs hk).var w1.heap.size rfl (tokO t))
  clear hs hk HS0 HC
  unfold tokV
  go_wp2_with fail
  refine (twig_nil 29 t.text 0 t _).mono ?_
  rintro e w2 ⟨g2, c2, rfl, hr, hb⟩
  have HR := Lib.hid ((HS1.out.below hb).ret hr)
  clear hr hb HS1
  go_wp2_with fail
  go_ret
  exact HR.out

end Go.Proofs.YtpeoefbibjbinaaGreat

namespace Go.Proofs.YtpeoefbibjbinaaGreat
open Go.RowKit

variable {C : Rx} {w0 w : World} {m : Nat} {σ : Sg} {L : List (Nat × Obj)} {V : List (Value × List Tw)}
theorem S3.st5 (h : S3 C w0 w m σ L V) {b : Nat} {a0 a1 a2 a3 a4 : Value} (hc : w.heap[b]? = some (.cells #[a0, a1, a2, a3, a4] 61 (0, 0))) (hge : w0.heap.size ≤ b) (hp0 : C.p < w0.heap.size) (t : Tok) (hn : ∀ x ∈ L, x.1 ≠ b) : S3 C w0 (st5 w b t) m σ ((b, tokO t) :: L) V := by
  have hty : 61 ≠ 39 ∧ 61 ≠ 3 := by decide
  have h5 := fin5 hc t
  unfold Go.Proofs.YtpeoefbibjbinaaGreat.st5 at h5 ⊢
  have h' := ((((h.set hc hge hp0 hty 0 (.int .i64 t.kind) hn).set (rowset hc 0 _) hge hp0 hty 1 (.string ⟨t.text.toArray⟩) hn).set (rowset (rowset hc 0 _) 1 _) hge hp0 hty 2 (.int .i64 t.n) hn).set (rowset (rowset (rowset hc 0 _) 1 _) 2 _) hge hp0 hty 3 (.int .i64 t.line) hn).set (rowset (rowset (rowset (rowset hc 0 _) 1 _) 2 _) 3 _) hge hp0 hty 4 (.int .i64 t.col) hn
  exact ⟨h'.rs, h'.kr, fun x hx => by
    rcases List.mem_cons.1 hx with rfl | hx
    · exact ⟨h5, by show C.p < b; omega⟩
    · exact h'.loc x hx, h'.row⟩
theorem S3.tok {b : Nat} {t : Tok} (h : S3 C w0 w m σ L V) (hm : (b, tokO t) ∈ L) :
    w.cell? ⟨b, 0, none⟩ = some (.int .i64 t.kind) ∧ w.cell? ⟨b, 1, none⟩ = some (.string ⟨t.text.toArray⟩) ∧ w.cell? ⟨b, 2, none⟩ = some (.int .i64 t.n) ∧ w.cell? ⟨b, 3, none⟩ = some (.int .i64 t.line) ∧ w.cell? ⟨b, 4, none⟩ = some (.int .i64 t.col) := by
  obtain ⟨a0, a1, a2, a3, a4, _⟩ := tok5 (h.loc _ hm).1
  exact ⟨a0, a1, a2, a3, a4⟩
theorem isKd_hd {T : List Tok} {k : Int} {σ : Sg} : isKd T k σ = ((hd (rest T σ)).kind == k) := rfl

set_option maxRecDepth 100000 in
set_option maxHeartbeats 1000000 in
theorem typ3_ok (C : Rx) (w : World) (m : Nat) (σ : Sg) (h : RS w C m σ) : Calls Tryz.prog 61 #[C.ptr] w (Ret3 C w m (typQ C.T σ)) := by
  have HS0 := Lib.hid (S3.start h)
  have hpw := h.lt
  have HC := Lib.hid (ahead_ok C w m σ h)
  clear h
  unfold typQ
  rw [isKd_hd]
  by_cases hk : (hd (rest C.T σ)).kind = 1
  · rw [if_pos (by simp [hk])]
    have hlt := (rest_lt (by decide) hk).2
    generalize hd (rest C.T σ) = t at *
    unfold Rx.ptr at *
    have hk1 : (t.kind != 1) = false := by simp [hk]
    clear hk
    go_enter Tryz.func61, Tryz.ntmps61
    go_wp2_with fail
    refine HC.out.mono ?_
    rintro e w1 ⟨rfl, hb⟩
    have hS1 := (HS0.out.below hb).var w1.heap.size rfl (tokO t)
    obtain ⟨_, c1, _, _, _⟩ := (HS0.out.below hb).rs.cells
    have f1 := (HS0.out.below hb).rs.free 1
    have hp1 := (HS0.out.below hb).rs.lt
    have hbig := hS1.rs.big
    have hS2 := ((HS0.out.below hb).skip hlt).var w1.heap.size (by simp [World.setCell]) (tokO t)
    have HS2 := Lib.hid hS2
    clear hb HS0 HC hS1 hS2
    unfold tokV
    go_wp2_with fail
    refine (twig_nil 5 t.text 0 t _).mono ?_
    rintro e w2 ⟨g2, c2, rfl, hr, hb⟩
    have HR := Lib.hid ((HS2.out.below hb).ret hr)
    clear hr hb HS2 c1 f1
    go_wp2_with fail
    go_ret
    exact HR.out
  · rw [if_neg (by simp [hk])]
    unfold oneS
    have hk1 : ((hd (rest C.T σ)).kind != 1) = true := by simp [hk]
    have HO := Lib.hid fun (w1 : World) (g c : Nat) (h1 : RS w1 C m σ) (h2 : Strs w1 g tyWords) (h3 : g < w1.heap.size) => one3_ok C w1 m σ tyWords g c h1 h2 h3 (by decide) (by decide)
    generalize takeS C.T (isIn C.T tyWords σ) σ = x at *
    obtain ⟨t', σ'⟩ := x
    generalize hd (rest C.T σ) = t at *
    unfold Rx.ptr at *
    clear hk
    go_enter Tryz.func61, Tryz.ntmps61
    go_wp2_with fail
    refine HC.out.mono ?_
    rintro e w1 ⟨rfl, hb⟩
    have hS1 := (HS0.out.below hb).var w1.heap.size rfl (tokO t)
    have HS1 := Lib.hid hS1
    have hsz1 := hb.size
    clear hb HS0 HC hS1
    unfold tokV
    go_wp2_with fail
    refine (HO.out _ _ _ (HS1.out.al _).rs (strs_new _ tyWords _ rfl _ (by simp [tokO])) (by simp [tokO])).mono ?_
    rintro e w2 ⟨rfl, hs, hk⟩
    dsimp only at hs ⊢
    have hS2 := (HS1.out.al _).call hs hk
    have HS3 := Lib.hid ((S3.drop hS2).st5 hS2.head hsz1 hpw t' (by simp))
    obtain ⟨a0, a1, a2, a3, a4, a5⟩ := tok5 hS2.head
    have hlt2 := lt_of_block hS2.head
    clear hs hk HS1 HO hS2
    unfold tokV
    go_wp2_with fail
    refine (twig_nil 5 t'.text 0 t' _).mono ?_
    rintro e w3 ⟨g3, c3, rfl, hr, hb⟩
    have HR := Lib.hid ((HS3.out.below hb).ret hr)
    clear hr hb HS3
    go_wp2_with fail
    go_ret
    exact HR.out

/-- Two rows. -/
theorem row2 {w : World} {v1 v2 : Value} {X1 X2 : List Tw} (h1 : R3 w v1 X1) (h2 : R3 w v2 X2) : ∀ (i : Nat) (v : Value) (R : List Tw), [v1, v2][i]? = some v → [X1, X2][i]? = some R → R3 w v R
  | 0, v, R, a, b => by cases a; cases b; exact h1
  | 1, v, R, a, b => by cases a; cases b; exact h2
theorem row1 {w : World} {v1 : Value} {X1 : List Tw} (h1 : R3 w v1 X1) : ∀ (i : Nat) (v : Value) (R : List Tw), [v1][i]? = some v → [X1][i]? = some R → R3 w v R
  | 0, v, R, a, b => by cases a; cases b; exact h1

set_option maxRecDepth 100000 in
set_option maxHeartbeats 1000000 in
theorem term3_ok (n : Nat) (HSUM : Hid (Ct3 115 n .sum)) : Ct3 98 (n + 1) .term := by
  intro C w m σ x h hQ
  rw [Q] at hQ
  obtain ⟨⟨X1, σ1⟩, q1, hQ1⟩ := Option.bind_eq_some_iff.1 hQ
  clear hQ
  have hQ := hQ1
  clear hQ1
  have HS0 := Lib.hid (S3.start h)
  have HC := Lib.hid (HSUM.out C w m σ _ h q1)
  clear h q1
  dsimp only at hQ
  unfold Rx.ptr at *
  go_enter Tryz.func98, Tryz.ntmps98
  go_wp2_with fail
  refine HC.out.mono ?_
  rintro e w1 ⟨g1, n1, rfl, hr, hs, hk⟩
  have HS1 := Lib.hid ((HS0.out.call hs hk).add hr)
  clear hr hs hk HS0 HC
  have HI1 := Lib.hid (is3_ok C w1 m σ1 60 [] HS1.out.rs)
  have HI2 := Lib.hid fun (w2 : World) (h : RS w2 C m σ1) => is3_ok C w2 m σ1 61 [61] h
  unfold Rx.ptr at *
  go_upto_region 2 with (fail)
  go_cut [12] (fun v12 wx => v12 = .bool (isT C.T [60] σ1 || isT C.T [61, 61] σ1) ∧ S3 C w wx m σ1 [] [(.slice (some ⟨g1, 0, none⟩) X1.length n1, X1)])
  case first =>
    generalize isT C.T [60] σ1 = b1 at *
    generalize isT C.T [61, 61] σ1 = b2 at *
    go_wp2_with fail
    refine HI1.out.mono ?_
    rintro e w2 ⟨rfl, hb⟩
    have HS2 := Lib.hid (HS1.out.below hb)
    clear hb HI1 HS1
    cases b1 with
    | true =>
      go_wp2_with fail
      go_meet
      exact ⟨rfl, HS2.out⟩
    | false =>
      go_wp2_with fail
      refine (HI2.out _ HS2.out.rs).mono ?_
      rintro e w3 ⟨rfl, hb⟩
      have HS3 := Lib.hid (HS2.out.below hb)
      clear hb HI2 HS2
      go_wp2_with fail
      go_meet
      exact ⟨by simp, HS3.out⟩
  case rest =>
    obtain ⟨rfl, hS2⟩ := hcut
    have HS2 := Lib.hid hS2
    clear hS2 HI1 HI2 HS1
    cases hop : (isT C.T [60] σ1 || isT C.T [61, 61] σ1)
    · rw [hop, if_neg (by decide)] at hQ
      have hx := Option.some.inj hQ
      subst hx
      have HR := Lib.hid (HS2.out.ret (HS2.out.row _ (.head _)))
      clear hQ hop HS2
      go_wp2_with fail
      go_ret
      exact HR.out
    · rw [hop, if_pos rfl] at hQ
      obtain ⟨⟨X2, σ2⟩, q2, hQ2⟩ := Option.bind_eq_some_iff.1 hQ
      obtain ⟨hsz, rfl⟩ := tq_some hQ2
      dsimp only at hsz
      have hlt : σ1.er = 0 ∧ σ1.k < C.T.length := by
        rw [Bool.or_eq_true] at hop
        exact hop.elim isT_lt isT_lt
      have HQ2 := Lib.hid q2
      have HSZ := Lib.hid hsz
      have HLT := Lib.hid hlt
      have HAH := Lib.hid (ahead_ok C wc m σ1 HS2.out.rs)
      clear hQ hQ2 q2 hsz hlt hop
      unfold Rx.ptr at HAH
      generalize hd (rest C.T σ1) = t at *
      go_wp2_with fail
      refine HAH.out.mono ?_
      rintro e w3 ⟨rfl, hb⟩
      have hS3 := HS2.out.below hb
      obtain ⟨_, c1, _, _, _⟩ := hS3.rs.cells
      have f1 := hS3.rs.free 1
      have hp1 := hS3.rs.lt
      have hbig := hS3.rs.big
      have hlt' := HLT.out.2
      have HS3 := Lib.hid ((hS3.skip HLT.out.2).var w3.heap.size (by simp [World.setCell]) (tokO t))
      clear hb HS2 HAH hS3
      unfold tokV
      go_wp2_with fail
      generalize hW : (w3.setCell ⟨C.p, 1, none⟩ (.int .i64 ((σ1.k : Int) + 1))).alloc (tokO t) = W at HS3
      unfold tokO at hW
      rw [hW]
      obtain ⟨a0, a1, a2, a3, a4⟩ := HS3.out.tok (.head _)
      have HSD := Lib.hid HS3.out.drew
      clear hW c1 f1 HS3 hlt' hp1
      generalize w3.heap.size = b at *
      go_region_held3 (fun w' => w'.cell? ⟨b, 0, none⟩ = some (.int .i64 t.kind) ∧ w'.cell? ⟨b, 1, none⟩ = some (.string ⟨t.text.toArray⟩) ∧ w'.cell? ⟨b, 2, none⟩ = some (.int .i64 t.n) ∧ w'.cell? ⟨b, 3, none⟩ = some (.int .i64 t.line) ∧ w'.cell? ⟨b, 4, none⟩ = some (.int .i64 t.col)) (first | go_keep | exact HS5.out.tok (.head _) | exact HS6.out.tok (.head _)) (first | (go_at_call 115; refine (HSUM.out C _ m _ _ HSD.out.rs HQ2.out).mono ?_; rintro e w5 ⟨g2, n2, rfl, hr, hs, hk⟩; have HS5 := Lib.hid ((HSD.out.call hs hk).add hr); clear hr hs hk) | (go_at_call 35; refine (twig_new 32 t.text 0 t [.slice (some ⟨g1, 0, none⟩) X1.length n1, .slice (some ⟨g2, 0, none⟩) X2.length n2] _ rfl _ _ [X1, X2] _ rfl rfl rfl (row2 (HS5.out.row _ (.tail _ (.head _))) (HS5.out.row _ (.head _))) HSZ.out).mono ?_; rintro e w6 ⟨g3, n3, rfl, hr, hb⟩; have HS6 := Lib.hid ((HS5.out.below hb).add hr); clear hr hb))
      have HR := Lib.hid (HS6.out.ret (HS6.out.row _ (.head _)))
      clear HS5 HS6 HSD
      go_wp2_with fail
      go_ret
      exact HR.out
end Go.Proofs.YtpeoefbibjbinaaGreat

namespace Go.Proofs.YtpeoefbibjbinaaGreat
open Go.RowKit

theorem S3.only {C : Rx} {w0 w : World} {m : Nat} {σ : Sg} {L : List (Nat × Obj)} {V : List (Value × List Tw)} {x : Value × List Tw} (h : S3 C w0 w m σ L (x :: V)) : S3 C w0 w m σ [] [x] :=
  ⟨h.rs, h.kr, by simp, fun y hy => h.row y (by simp at hy; subst hy; exact .head _)⟩

set_option maxRecDepth 100000 in
set_option maxHeartbeats 2000000 in
theorem sum3_ok (n : Nat) (HPART : Hid (∀ i, i ≤ n → Ct3 129 i .product)) : Ct3 115 (n + 1) .sum := by
  intro C w m σ x h hQ
  rw [Q] at hQ
  obtain ⟨⟨X1, σ1⟩, q1, hQ1⟩ := Option.bind_eq_some_iff.1 hQ
  have HS0 := Lib.hid (S3.start h)
  have HC := Lib.hid (HPART.out n (Nat.le_refl _) C w m σ _ h q1)
  have HQ1 := Lib.hid hQ1
  clear h q1 hQ hQ1
  unfold Rx.ptr at *
  go_enter Tryz.func115, Tryz.ntmps115
  go_wp2_with fail
  refine HC.out.mono ?_
  rintro e w1 ⟨g1, n1, rfl, hr, hs, hk⟩
  have HS1 := Lib.hid ((HS0.out.call hs hk).add hr)
  clear hr hs hk HS0 HC
  go_wp2_with fail
  go_loopg [3] n (fun i v3 wr => ∃ (X : List Tw) (g c : Nat) (σ' : Sg), i ≤ n ∧ v3 = .slice (some ⟨g, 0, none⟩) X.length c ∧ S3 C w wr m σ' [] [(.slice (some ⟨g, 0, none⟩) X.length c, X)] ∧ Q C.T i (.sumL X) m σ' = some x)
  case atStart => exact ⟨X1, g1, n1, σ1, Nat.le_refl _, rfl, HS1.out, HQ1.out⟩
  case round =>
    clear HS1 HQ1
    obtain ⟨X1, g1, n1, σ1, hin, rfl, hS, hQ⟩ := hrel
    have HS1 := Lib.hid hS
    have HQ1 := Lib.hid hQ
    clear hS hQ
    cases gk with
    | zero => have := HQ1.out; rw [Q] at this; cases this
    | succ i =>
    have hQ := HQ1.out
    rw [Q] at hQ
    have HQ := Lib.hid hQ
    clear hQ HQ1
    have HI1 := Lib.hid (is3_ok C wr m σ1 43 [] HS1.out.rs)
    have HI2 := Lib.hid fun (w2 : World) (h : RS w2 C m σ1) => is3_ok C w2 m σ1 45 [] h
    unfold Rx.ptr at *
    go_upto_region 2 with (fail)
    go_cut [12] (fun v12 wx => v12 = .bool (isT C.T [43] σ1 || isT C.T [45] σ1) ∧ S3 C w wx m σ1 [] [(.slice (some ⟨g1, 0, none⟩) X1.length n1, X1)])
    case first =>
      generalize isT C.T [43] σ1 = b1 at *
      generalize isT C.T [45] σ1 = b2 at *
      go_wp2_with fail
      refine HI1.out.mono ?_
      rintro e w2 ⟨rfl, hb⟩
      have HS2 := Lib.hid (HS1.out.below hb)
      clear hb HI1 HS1
      cases b1 with
      | true =>
        go_wp2_with fail
        go_meet
        exact ⟨rfl, HS2.out⟩
      | false =>
        go_wp2_with fail
        refine (HI2.out _ HS2.out.rs).mono ?_
        rintro e w3 ⟨rfl, hb⟩
        have HS3 := Lib.hid (HS2.out.below hb)
        clear hb HI2 HS2
        go_wp2_with fail
        go_meet
        exact ⟨by simp, HS3.out⟩
    case rest =>
      obtain ⟨rfl, hS2⟩ := hcut
      have HS2 := Lib.hid hS2
      clear hS2 HI1 HI2 HS1
      cases hop : (isT C.T [43] σ1 || isT C.T [45] σ1)
      · have hQ := HQ.out
        rw [hop, if_neg (by decide)] at hQ
        have hx := Option.some.inj hQ
        subst hx
        have HR := Lib.hid (HS2.out.ret (HS2.out.row _ (.head _)))
        clear hQ hop HS2
        go_wp2_with fail
        go_ret
        exact HR.out
      · have hQ := HQ.out
        rw [hop, if_pos rfl] at hQ
        obtain ⟨⟨X2, σ2⟩, q2, hQ2⟩ := Option.bind_eq_some_iff.1 hQ
        obtain ⟨⟨X3, σ3⟩, q3, hQ3⟩ := Option.bind_eq_some_iff.1 hQ2
        obtain ⟨hsz, hx3⟩ := tq_some q3
        injection hx3 with hx3 hs3
        subst hx3 hs3
        dsimp only at hsz hQ3
        have hlt : σ1.er = 0 ∧ σ1.k < C.T.length := by
          rw [Bool.or_eq_true] at hop
          exact hop.elim isT_lt isT_lt
        have HQ2 := Lib.hid q2
        have HQ3 := Lib.hid hQ3
        have HSZ := Lib.hid hsz
        have HLT := Lib.hid hlt
        have HAH := Lib.hid (ahead_ok C wc m σ1 HS2.out.rs)
        clear hQ hQ2 hQ3 q2 q3 hsz hlt hop HQ
        unfold Rx.ptr at HAH
        generalize hd (rest C.T σ1) = t at *
        go_wp2_with fail
        refine HAH.out.mono ?_
        rintro e w3 ⟨rfl, hb⟩
        have hS3 := HS2.out.below hb
        obtain ⟨_, c1, _, _, _⟩ := hS3.rs.cells
        have f1 := hS3.rs.free 1
        have hp1 := hS3.rs.lt
        have hbig := hS3.rs.big
        have hlt' := HLT.out.2
        have HS3 := Lib.hid ((hS3.skip HLT.out.2).var w3.heap.size (by simp [World.setCell]) (tokO t))
        clear hb HS2 HAH hS3
        unfold tokV
        go_wp2_with fail
        generalize hW : (w3.setCell ⟨C.p, 1, none⟩ (.int .i64 ((σ1.k : Int) + 1))).alloc (tokO t) = W at HS3
        unfold tokO at hW
        rw [hW]
        obtain ⟨a0, a1, a2, a3, a4⟩ := HS3.out.tok (.head _)
        have HSD := Lib.hid HS3.out.drew
        clear hW c1 f1 HS3 hlt' hp1
        generalize w3.heap.size = b at *
        go_region_held3 (fun w' => w'.cell? ⟨b, 0, none⟩ = some (.int .i64 t.kind) ∧ w'.cell? ⟨b, 1, none⟩ = some (.string ⟨t.text.toArray⟩) ∧ w'.cell? ⟨b, 2, none⟩ = some (.int .i64 t.n) ∧ w'.cell? ⟨b, 3, none⟩ = some (.int .i64 t.line) ∧ w'.cell? ⟨b, 4, none⟩ = some (.int .i64 t.col)) (first | go_keep | exact HS5.out.tok (.head _) | exact HS6.out.tok (.head _)) (first | (go_at_call 129; refine (HPART.out i (by omega) C _ m _ _ HSD.out.rs HQ2.out).mono ?_; rintro e w5 ⟨g2, n2, rfl, hr, hs, hk⟩; have HS5 := Lib.hid ((HSD.out.call hs hk).add hr); clear hr hs hk) | (go_at_call 35; refine (twig_new 32 t.text 0 t [.slice (some ⟨g1, 0, none⟩) X1.length n1, .slice (some ⟨g2, 0, none⟩) X2.length n2] _ rfl _ _ [X1, X2] _ rfl rfl rfl (row2 (HS5.out.row _ (.tail _ (.head _))) (HS5.out.row _ (.head _))) HSZ.out).mono ?_; rintro e w6 ⟨g3, n3, rfl, hr, hb⟩; have HS6 := Lib.hid ((HS5.out.below hb).add hr); clear hr hb))
        go_wp2_with fail
        go_roundg i
        case measure => omega
        case rel => exact ⟨_, g3, n3, _, by omega, rfl, HS6.out.only, HQ3.out⟩

set_option maxRecDepth 100000 in
set_option maxHeartbeats 2000000 in
theorem product3_ok (n : Nat) (HPART : Hid (∀ i, i ≤ n → Ct3 136 i .unary)) : Ct3 129 (n + 1) .product := by
  intro C w m σ x h hQ
  rw [Q] at hQ
  obtain ⟨⟨X1, σ1⟩, q1, hQ1⟩ := Option.bind_eq_some_iff.1 hQ
  have HS0 := Lib.hid (S3.start h)
  have HC := Lib.hid (HPART.out n (Nat.le_refl _) C w m σ _ h q1)
  have HQ1 := Lib.hid hQ1
  clear h q1 hQ hQ1
  unfold Rx.ptr at *
  go_enter Tryz.func129, Tryz.ntmps129
  go_wp2_with fail
  refine HC.out.mono ?_
  rintro e w1 ⟨g1, n1, rfl, hr, hs, hk⟩
  have HS1 := Lib.hid ((HS0.out.call hs hk).add hr)
  clear hr hs hk HS0 HC
  go_wp2_with fail
  go_loopg [3] n (fun i v3 wr => ∃ (X : List Tw) (g c : Nat) (σ' : Sg), i ≤ n ∧ v3 = .slice (some ⟨g, 0, none⟩) X.length c ∧ S3 C w wr m σ' [] [(.slice (some ⟨g, 0, none⟩) X.length c, X)] ∧ Q C.T i (.prodL X) m σ' = some x)
  case atStart => exact ⟨X1, g1, n1, σ1, Nat.le_refl _, rfl, HS1.out, HQ1.out⟩
  case round =>
    clear HS1 HQ1
    obtain ⟨X1, g1, n1, σ1, hin, rfl, hS, hQ⟩ := hrel
    have HS1 := Lib.hid hS
    have HQ1 := Lib.hid hQ
    clear hS hQ
    cases gk with
    | zero => have := HQ1.out; rw [Q] at this; cases this
    | succ i =>
    have hQ := HQ1.out
    rw [Q] at hQ
    have HQ := Lib.hid hQ
    clear hQ HQ1
    have HI1 := Lib.hid (is3_ok C wr m σ1 42 [] HS1.out.rs)
    unfold Rx.ptr at *
    go_upto_region 2 with (fail)
    go_cut [8] (fun v12 wx => v12 = .bool (isT C.T [42] σ1) ∧ S3 C w wx m σ1 [] [(.slice (some ⟨g1, 0, none⟩) X1.length n1, X1)])
    case first =>
      generalize isT C.T [42] σ1 = b1 at *
      go_wp2_with fail
      refine HI1.out.mono ?_
      rintro e w2 ⟨rfl, hb⟩
      have HS2 := Lib.hid (HS1.out.below hb)
      clear hb HI1 HS1
      go_wp2_with fail
      go_meet
      exact ⟨rfl, HS2.out⟩
    case rest =>
      obtain ⟨rfl, hS2⟩ := hcut
      have HS2 := Lib.hid hS2
      clear hS2 HI1 HS1
      cases hop : (isT C.T [42] σ1)
      · have hQ := HQ.out
        rw [hop, if_neg (by decide)] at hQ
        have hx := Option.some.inj hQ
        subst hx
        have HR := Lib.hid (HS2.out.ret (HS2.out.row _ (.head _)))
        clear hQ hop HS2
        go_wp2_with fail
        go_ret
        exact HR.out
      · have hQ := HQ.out
        rw [hop, if_pos rfl] at hQ
        obtain ⟨⟨X2, σ2⟩, q2, hQ2⟩ := Option.bind_eq_some_iff.1 hQ
        obtain ⟨⟨X3, σ3⟩, q3, hQ3⟩ := Option.bind_eq_some_iff.1 hQ2
        obtain ⟨hsz, hx3⟩ := tq_some q3
        injection hx3 with hx3 hs3
        subst hx3 hs3
        dsimp only at hsz hQ3
        have hlt : σ1.er = 0 ∧ σ1.k < C.T.length := by
          exact isT_lt hop
        have HQ2 := Lib.hid q2
        have HQ3 := Lib.hid hQ3
        have HSZ := Lib.hid hsz
        have HLT := Lib.hid hlt
        have HAH := Lib.hid (ahead_ok C wc m σ1 HS2.out.rs)
        clear hQ hQ2 hQ3 q2 q3 hsz hlt hop HQ
        unfold Rx.ptr at HAH
        generalize hd (rest C.T σ1) = t at *
        go_wp2_with fail
        refine HAH.out.mono ?_
        rintro e w3 ⟨rfl, hb⟩
        have hS3 := HS2.out.below hb
        obtain ⟨_, c1, _, _, _⟩ := hS3.rs.cells
        have f1 := hS3.rs.free 1
        have hp1 := hS3.rs.lt
        have hbig := hS3.rs.big
        have hlt' := HLT.out.2
        have HS3 := Lib.hid ((hS3.skip HLT.out.2).var w3.heap.size (by simp [World.setCell]) (tokO t))
        clear hb HS2 HAH hS3
        unfold tokV
        go_wp2_with fail
        generalize hW : (w3.setCell ⟨C.p, 1, none⟩ (.int .i64 ((σ1.k : Int) + 1))).alloc (tokO t) = W at HS3
        unfold tokO at hW
        rw [hW]
        obtain ⟨a0, a1, a2, a3, a4⟩ := HS3.out.tok (.head _)
        have HSD := Lib.hid HS3.out.drew
        clear hW c1 f1 HS3 hlt' hp1
        generalize w3.heap.size = b at *
        go_region_held3 (fun w' => w'.cell? ⟨b, 0, none⟩ = some (.int .i64 t.kind) ∧ w'.cell? ⟨b, 1, none⟩ = some (.string ⟨t.text.toArray⟩) ∧ w'.cell? ⟨b, 2, none⟩ = some (.int .i64 t.n) ∧ w'.cell? ⟨b, 3, none⟩ = some (.int .i64 t.line) ∧ w'.cell? ⟨b, 4, none⟩ = some (.int .i64 t.col)) (first | go_keep | exact HS5.out.tok (.head _) | exact HS6.out.tok (.head _)) (first | (go_at_call 136; refine (HPART.out i (by omega) C _ m _ _ HSD.out.rs HQ2.out).mono ?_; rintro e w5 ⟨g2, n2, rfl, hr, hs, hk⟩; have HS5 := Lib.hid ((HSD.out.call hs hk).add hr); clear hr hs hk) | (go_at_call 35; refine (twig_new 32 t.text 0 t [.slice (some ⟨g1, 0, none⟩) X1.length n1, .slice (some ⟨g2, 0, none⟩) X2.length n2] _ rfl _ _ [X1, X2] _ rfl rfl rfl (row2 (HS5.out.row _ (.tail _ (.head _))) (HS5.out.row _ (.head _))) HSZ.out).mono ?_; rintro e w6 ⟨g3, n3, rfl, hr, hb⟩; have HS6 := Lib.hid ((HS5.out.below hb).add hr); clear hr hb))
        go_wp2_with fail
        go_roundg i
        case measure => omega
        case rel => exact ⟨_, g3, n3, _, by omega, rfl, HS6.out.only, HQ3.out⟩

end Go.Proofs.YtpeoefbibjbinaaGreat
