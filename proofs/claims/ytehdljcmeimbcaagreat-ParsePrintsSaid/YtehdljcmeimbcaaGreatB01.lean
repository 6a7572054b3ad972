/- Trees, plainly: forests, how they lie in a row, which may be; Trees, plainly: the parts of a twig's print, and the text that is made of them; The letters and digits of layer 1, as the Go functions answer them: token.isLetter, isDigit, kindAt, goesOn and the reference's Letter, Digit; token.nextAt and token.endOf: where blanks and comments are over; where a token ends; token.endOf: where a token ends; with bytes.HasPrefix and bytes.Equal at texts in memory; token.endOf, token.isWhole, token.Number. -/
import Derived.Test.YtehdljcmeimbcaaGreatChecked
import Derived.WalkKit
import Derived.Outline
import Derived.Lib.Hide
import Derived.WalkSpells
import Derived.Lib.Bytealg
import Derived.BigQuiet
import Derived.Deep.QuietTactic
import Derived.Lib.SlBytesConst
import Derived.Laws.BytesArg
import Derived.Below
import Derived.Laws.IdiomStrings
namespace Go.Proofs.YtehdljcmeimbcaaGreat

/-- A twig as it lies in a row. -/
structure Tw where
  kind : Int
  text : List UInt8
  n : Int
  line : Int
  col : Int
  kids : List Int
  deriving DecidableEq

/-- A twig without its kids. -/
structure Nd where
  kind : Int
  text : List UInt8
  n : Int
  line : Int
  col : Int
  deriving DecidableEq

def Tw.nd (t : Tw) : Nd := ⟨t.kind, t.text, t.n, t.line, t.col⟩
def Nd.tw (d : Nd) (k : List Int) : Tw := ⟨d.kind, d.text, d.n, d.line, d.col, k⟩
theorem Nd.tw_nd (d : Nd) (k : List Int) : (d.tw k).nd = d := rfl

/-- Forests: a first tree (its data, its kids), and the others. -/
inductive Fo where
  | nil
  | cons (d : Nd) (k : Fo) (r : Fo)

def Fo.size : Fo → Nat
  | .nil => 0
  | .cons _ k r => 1 + k.size + r.size
def Fo.starts : Nat → Fo → List Int
  | _, .nil => []
  | b, .cons _ k r => (b : Int) :: r.starts (b + 1 + k.size)
def Fo.flat : Nat → Fo → List Tw
  | _, .nil => []
  | b, .cons d k r => d.tw (k.starts (b + 1)) :: (k.flat (b + 1) ++ r.flat (b + 1 + k.size))
def Fo.nds : Fo → List Nd
  | .nil => []
  | .cons d _ r => d :: r.nds
def Fo.len (f : Fo) : Nat := f.nds.length
theorem Fo.flat_len : ∀ (f : Fo) (b : Nat), (f.flat b).length = f.size
  | .nil, _ => rfl
  | .cons d k r, b => by simp [flat, size, flat_len k, flat_len r]; omega
theorem Fo.starts_len : ∀ (f : Fo) (b : Nat), (f.starts b).length = f.len
  | .nil, _ => rfl
  | .cons d k r, b => by simp [starts, starts_len r, len, nds]

def isTm (k : Int) : Bool := decide (26 ≤ k) && decide (k ≤ 36)
def isSt (k : Int) : Bool := decide (13 ≤ k) && decide (k ≤ 25)
def isDc (k : Int) : Bool := k == 2 || k == 3 || k == 6 || k == 7 || k == 8 || k == 10 || k == 11
def isVr (k : Int) : Bool := k == 29 || k == 30 || k == 31
def isK (k : Int) (x : Int) : Bool := x == k

/-- Kids: one of each sort ahead, then as many of a sort as one likes. -/
def rowOk : List (Int → Bool) → (Int → Bool) → List Int → Bool
  | [], rest, l => l.all rest
  | _ :: _, _, [] => false
  | a :: zs, rest, x :: l => a x && rowOk zs rest l
def noK : Int → Bool := fun _ => false

def kidsOk (k : Int) (l : List Int) : Bool :=
  if k = 1 then rowOk [] isDc l
  else if k = 3 then rowOk [] (isK 4) l
  else if k = 4 ∨ k = 6 then rowOk [isK 5] noK l
  else if k = 7 ∨ k = 9 ∨ k = 11 ∨ k = 36 then rowOk [isK 12] noK l
  else if k = 8 then rowOk [isK 29] (isK 9) l
  else if k = 10 then rowOk [isK 29, isK 12] noK l
  else if k = 12 then rowOk [] isSt l
  else if k = 13 then rowOk [isK 5, isTm] noK l
  else if k = 14 then rowOk [isVr, isTm] noK l
  else if k = 15 ∨ k = 16 ∨ k = 17 ∨ k = 18 ∨ k = 30 ∨ k = 34 ∨ k = 35 then rowOk [isTm] noK l
  else if k = 19 ∨ k = 20 then rowOk [isTm] noK l || rowOk [isTm, isVr] noK l
  else if k = 23 then rowOk [isTm, isK 12, isK 12] noK l
  else if k = 24 then rowOk [isTm, isK 12] noK l
  else if k = 31 ∨ k = 32 then rowOk [isTm, isTm] noK l
  else rowOk [] noK l

def isTy (nm : List UInt8 → Bool) (s : List UInt8) : Bool := s == [105, 110, 116] || s == [102, 110] || s == [116, 111, 107] || s == [104, 97, 110, 100] || s == [97, 114, 114] || nm s
def isSg (s : List UInt8) : Bool := s == [43] || s == [45] || s == [42] || s == [60] || s == [61, 61]
def named (k : Int) : Bool := k == 2 || k == 3 || k == 4 || k == 6 || k == 7 || k == 8 || k == 10 || k == 13 || k == 19 || k == 21 || k == 22 || k == 29 || k == 30 || k == 33
def textOk (nm : List UInt8 → Bool) (k : Int) (s : List UInt8) : Bool :=
  if k = 5 then isTy nm s else if k = 32 then isSg s else if named k = true then nm s else s == []
def numOk (k n : Int) : Bool :=
  if k = 9 then decide (0 ≤ n) && decide (n ≤ 3)
  else if k = 10 then decide (0 ≤ n) && decide (n ≤ 1)
  else if k = 19 then decide (-1 ≤ n) && decide (n ≤ 2147483647)
  else if k = 26 then decide (0 ≤ n) && decide (n ≤ 2147483647)
  else n == 0
def kindOk (k : Int) : Bool := decide (1 ≤ k) && decide (k ≤ 36)

/-- Has a twig what its kind has? -/
def ndOk (nm : List UInt8 → Bool) (d : Nd) (l : List Int) : Bool := kindOk d.kind && textOk nm d.kind d.text && numOk d.kind d.n && kidsOk d.kind l
def Fo.fit (nm : List UInt8 → Bool) : Fo → Bool
  | .nil => true
  | .cons d k r => ndOk nm d (k.nds.map (·.kind)) && k.fit nm && r.fit nm

/-- How tightly a twig binds. -/
def bnd (k : Int) (s : List UInt8) : Int :=
  if isTm k = false then 0
  else if k = 34 ∨ k = 35 then 4
  else if k = 32 then (if s = [60] ∨ s = [61, 61] then 1 else if s = [43] ∨ s = [45] then 2 else if s = [42] then 3 else 5)
  else 5
/-- How tightly the i-th kid of a twig must bind. -/
def must (d : Nd) (i : Nat) : Int :=
  if d.kind = 32 then (if i = 1 then bnd d.kind d.text + 1 else if bnd d.kind d.text < 2 then 2 else bnd d.kind d.text)
  else if d.kind = 34 ∨ d.kind = 35 then 4
  else if d.kind = 30 ∨ d.kind = 31 then (if i = 0 then 5 else 0)
  else 0
def prn (d : Nd) (i : Nat) (x : Nd) : Bool := decide (bnd x.kind x.text < must d i)
def ins (d : Nd) (i : Nat) : Bool := if d.kind = 31 then i == 1 else d.kind == 34 || d.kind == 35
def dpr (d : Nd) (i : Nat) (x : Nd) : Int := (if x.kind = 12 then 1 else 0) + (if prn d i x = true then 1 else 0) + (if ins d i = true then 1 else 0)

/-- The nests of a forest that are kids of p (of nest m), from its i-th one on. -/
def Fo.deps (m : Int) (p : Nd) : Nat → Fo → List Int
  | _, .nil => []
  | i, .cons d k r => (m + dpr p i d) :: (deps (m + dpr p i d) d 0 k ++ deps m p (i + 1) r)
/-- Whose kid each one is. -/
def Fo.pars (p : Int) : Nat → Fo → List Int
  | _, .nil => []
  | b, .cons _ k r => p :: (pars (b : Int) (b + 1) k ++ pars p (b + 1 + k.size) r)
theorem Fo.deps_len : ∀ (f : Fo) (m : Int) (p : Nd) (i : Nat), (f.deps m p i).length = f.size
  | .nil, _, _, _ => rfl
  | .cons d k r, m, p, i => by simp [deps, size, deps_len k, deps_len r]; omega
theorem Fo.pars_len : ∀ (f : Fo) (p : Int) (b : Nat), (f.pars p b).length = f.size
  | .nil, _, _ => rfl
  | .cons d k r, p, b => by simp [pars, size, pars_len k, pars_len r]; omega

/-- A tree that may be. -/
def MayT (nm : List UInt8 → Bool) (d : Nd) (k : Fo) : Prop := d.kind = 1 ∧ ndOk nm d (k.nds.map (·.kind)) = true ∧ k.fit nm = true ∧ ∀ x ∈ k.deps 0 d 0, x ≤ 64
/-- A row of twigs that may be. -/
def MayL (nm : List UInt8 → Bool) (l : List Tw) : Prop := ∃ d k, l = (Fo.cons d k .nil).flat 0 ∧ MayT nm d k

theorem flat_nil : ∀ {f : Fo} {b : Nat}, f.flat b = [] → f = .nil
  | .nil, _, _ => rfl
  | .cons _ _ _, _, h => by cases h

/-- What lies in a row is one forest: as many trees as there are starts. -/
theorem flat_inj : ∀ (f g : Fo) (b : Nat) (r s : List Tw), f.flat b ++ r = g.flat b ++ s → f.starts b = g.starts b → f = g ∧ r = s
  | .nil, .nil, _, _, _, h, _ => ⟨rfl, h⟩
  | .nil, .cons _ _ _, _, _, _, _, h => by cases h
  | .cons _ _ _, .nil, _, _, _, _, h => by cases h
  | .cons d k r, .cons d' k' r', b, u, v, h, hs => by
    simp only [Fo.flat, List.cons_append, List.cons.injEq, List.append_assoc] at h
    obtain ⟨h1, h2⟩ := h
    have hk : k.starts (b + 1) = k'.starts (b + 1) := congrArg Tw.kids h1
    have hd : d = d' := by have := congrArg Tw.nd h1; exact this
    obtain ⟨rfl, h3⟩ := flat_inj k k' (b + 1) _ _ h2 hk
    simp only [Fo.starts, List.cons.injEq] at hs
    obtain ⟨rfl, h4⟩ := flat_inj r r' _ _ _ h3 hs.2
    exact ⟨by rw [hd], h4⟩

end Go.Proofs.YtehdljcmeimbcaaGreat

namespace Go.Proofs.YtehdljcmeimbcaaGreat

/-- A part of a twig's print: a token, one of its kids, a line's end (with so many blanks more ahead from there on). -/
inductive Pa where
  | tok (s : List UInt8)
  | kid (nth : Nat)
  | line (shift : Int)
  deriving DecidableEq

def digs (n : Nat) : List UInt8 :=
  if h : n < 10 then [UInt8.ofNat (48 + n)] else digs (n / 10) ++ [UInt8.ofNat (48 + n % 10)]
def digT (n : Int) : List UInt8 := if n < 0 then 45 :: digs n.natAbs else digs n.natAbs

def kidLines (len : Nat) : Nat → Nat → List Pa
  | 0, _ => []
  | c + 1, nth => .kid nth :: .line (if nth + 1 = len then -2 else 0) :: kidLines len c (nth + 1)
/-- The kids from one on, in braces. -/
def braced (len start : Nat) : List Pa := if len = start then [.tok [123], .tok [125]] else .tok [123] :: .line 2 :: (kidLines len (len - start) start ++ [.tok [125]])
def lifeT (n : Int) : List UInt8 := if n = 0 then [99, 114, 101, 97, 116, 101] else if n = 1 then [115, 116, 97, 114, 116] else if n = 2 then [115, 116, 111, 112] else [100, 101, 115, 116, 114, 111, 121]
def toV (len : Nat) : List Pa := if 1 < len then [.tok [116, 111], .kid 1] else []
/-- The parts of a twig with so many kids (more: has its third kid kids?). -/
def parts (d : Nd) (len : Nat) (more : Bool) : List Pa :=
  if d.kind = 1 then (List.range len).flatMap fun i => [.kid i, .line 0]
  else if d.kind = 2 then [.tok [108, 111, 111, 112, 101, 114], .tok d.text, .tok [59]]
  else if d.kind = 3 then [.tok [99, 108, 97, 115, 115], .tok d.text, .tok [123]] ++ (List.range len).map .kid ++ [.tok [125]]
  else if d.kind = 4 then [.tok d.text, .kid 0, .tok [59]]
  else if d.kind = 5 then [.tok d.text]
  else if d.kind = 6 then [.tok [118, 97, 114], .tok d.text, .kid 0, .tok [59]]
  else if d.kind = 7 then [.tok [102, 110], .tok d.text, .kid 0]
  else if d.kind = 8 then [.tok [99, 111, 109, 112], .tok d.text, .tok [111, 110], .kid 0] ++ braced len 1
  else if d.kind = 9 then [.tok (lifeT d.n), .kid 0]
  else if d.kind = 10 then [.tok [101, 118, 101, 110, 116], .tok d.text, .tok [111, 110], .kid 0, .tok (if d.n = 0 then [111, 102, 102] else [111, 110]), .kid 1]
  else if d.kind = 11 then [.tok [109, 97, 105, 110], .kid 0]
  else if d.kind = 12 then braced len 0
  else if d.kind = 13 then [.tok [118, 97, 114], .tok d.text, .kid 0, .tok [61], .kid 1, .tok [59]]
  else if d.kind = 14 then [.kid 0, .tok [61], .kid 1, .tok [59]]
  else if d.kind = 15 then [.tok [99, 97, 108, 108], .kid 0, .tok [59]]
  else if d.kind = 16 then [.tok [99, 97, 110, 99, 101, 108], .kid 0, .tok [59]]
  else if d.kind = 17 then [.tok [106, 111, 105, 110], .kid 0, .tok [59]]
  else if d.kind = 18 then [.tok [108, 111, 103], .kid 0, .tok [59]]
  else if d.kind = 19 then [.tok [112, 111, 115, 116], .tok d.text, .kid 0] ++ (if d.n < 0 then [.tok [102, 114, 111, 110, 116]] else if 0 < d.n then [.tok [97, 102, 116, 101, 114], .tok (digT d.n)] else []) ++ toV len ++ [.tok [59]]
  else if d.kind = 20 then [.tok [115, 112, 97, 119, 110], .kid 0] ++ toV len ++ [.tok [59]]
  else if d.kind = 21 then [.tok [101, 110, 97, 98, 108, 101], .tok d.text, .tok [59]]
  else if d.kind = 22 then [.tok [100, 105, 115, 97, 98, 108, 101], .tok d.text, .tok [59]]
  else if d.kind = 23 then [.tok [105, 102], .kid 0, .kid 1] ++ (if more = true then [.tok [101, 108, 115, 101], .kid 2] else [])
  else if d.kind = 24 then [.tok [119, 104, 105, 108, 101], .kid 0, .kid 1]
  else if d.kind = 25 then [.tok [114, 101, 116, 117, 114, 110], .tok [59]]
  else if d.kind = 26 then [.tok (digT d.n)]
  else if d.kind = 27 then [.tok [110, 117, 108, 108]]
  else if d.kind = 28 then [.tok [105, 116]]
  else if d.kind = 29 then [.tok d.text]
  else if d.kind = 30 then [.kid 0, .tok [46], .tok d.text]
  else if d.kind = 31 then [.kid 0, .tok [91], .kid 1, .tok [93]]
  else if d.kind = 32 then [.kid 0, .tok d.text, .kid 1]
  else if d.kind = 33 then [.tok [110, 101, 119], .tok d.text]
  else if d.kind = 34 then [.tok [97, 114, 114], .kid 0]
  else if d.kind = 35 then [.tok [108, 101, 110], .kid 0]
  else if d.kind = 36 then [.tok [102, 110], .kid 0]
  else []

def Fo.more (k : Fo) : Bool := match k with
  | .cons _ _ (.cons _ _ (.cons _ (.cons _ _ _) _)) => true
  | _ => false
def put (K : List (List Pa)) : Pa → List Pa
  | .kid i => K.getD i []
  | x => [x]
def inPar (b : Bool) (l : List Pa) : List Pa := if b = true then .tok [40] :: (l ++ [.tok [41]]) else l
/-- What each tree of a forest (kids of p, from the i-th on) is spelled as. -/
def Fo.seqs (p : Nd) : Nat → Fo → List (List Pa)
  | _, .nil => []
  | i, .cons d k r => inPar (prn p i d) ((parts d k.len k.more).flatMap (put (k.seqs d 0))) :: r.seqs p (i + 1)
def spelled (d : Nd) (k : Fo) : List Pa := (parts d k.len k.more).flatMap (put (k.seqs d 0))

/-- The page: tokens with blanks between them, lines with blanks ahead. -/
def closes (s : List UInt8) : Bool := s == [59] || s == [46] || s == [93] || s == [41] || s == [91]
def opens (s : List UInt8) : Bool := s == [46] || s == [91] || s == [40]
def apart (a b : List UInt8) : Bool := !closes b && !opens a
def blanks (m : Int) : List UInt8 := List.replicate m.toNat 32
def glue (last s : List UInt8) (m : Int) : List UInt8 := if last = [] then blanks m else if apart last s = true then [32] else []
structure Pg where
  text : List UInt8
  last : List UInt8
  margin : Int
def Pg.put (p : Pg) : Pa → Pg
  | .line k => ⟨p.text ++ [10], [], p.margin + k⟩
  | .tok s => ⟨p.text ++ glue p.last s p.margin ++ s, s, p.margin⟩
  | .kid _ => p
def Pg.puts (p : Pg) (l : List Pa) : Pg := l.foldl Pg.put p

/-- The document's text of a twig of its kids' texts. -/
def bracesT (l : List (List UInt8)) (m : Int) : List UInt8 := if l = [] then [123, 32, 125] else [123, 10] ++ l.flatMap (fun x => blanks m ++ [32, 32] ++ x ++ [10]) ++ blanks m ++ [125]
def toT (K : List (List UInt8)) : List UInt8 := if 1 < K.length then [32, 116, 111, 32] ++ K.getD 1 [] else []
def joinT (d : Nd) (m : Int) (more : Bool) (K : List (List UInt8)) : List UInt8 :=
  let k0 := K.getD 0 []
  let k1 := K.getD 1 []
  let k2 := K.getD 2 []
  if d.kind = 1 then K.flatMap fun x => x ++ [10]
  else if d.kind = 2 then [108, 111, 111, 112, 101, 114, 32] ++ d.text ++ [59]
  else if d.kind = 3 then [99, 108, 97, 115, 115, 32] ++ d.text ++ [32, 123] ++ K.flatMap (fun x => [32] ++ x) ++ [32, 125]
  else if d.kind = 4 then d.text ++ [32] ++ k0 ++ [59]
  else if d.kind = 5 then d.text
  else if d.kind = 6 then [118, 97, 114, 32] ++ d.text ++ [32] ++ k0 ++ [59]
  else if d.kind = 7 then [102, 110, 32] ++ d.text ++ [32] ++ k0
  else if d.kind = 8 then [99, 111, 109, 112, 32] ++ d.text ++ [32, 111, 110, 32] ++ k0 ++ [32] ++ bracesT K.tail m
  else if d.kind = 9 then lifeT d.n ++ [32] ++ k0
  else if d.kind = 10 then [101, 118, 101, 110, 116, 32] ++ d.text ++ [32, 111, 110, 32] ++ k0 ++ (if d.n = 0 then [32, 111, 102, 102, 32] else [32, 111, 110, 32]) ++ k1
  else if d.kind = 11 then [109, 97, 105, 110, 32] ++ k0
  else if d.kind = 12 then bracesT K m
  else if d.kind = 13 then [118, 97, 114, 32] ++ d.text ++ [32] ++ k0 ++ [32, 61, 32] ++ k1 ++ [59]
  else if d.kind = 14 then k0 ++ [32, 61, 32] ++ k1 ++ [59]
  else if d.kind = 15 then [99, 97, 108, 108, 32] ++ k0 ++ [59]
  else if d.kind = 16 then [99, 97, 110, 99, 101, 108, 32] ++ k0 ++ [59]
  else if d.kind = 17 then [106, 111, 105, 110, 32] ++ k0 ++ [59]
  else if d.kind = 18 then [108, 111, 103, 32] ++ k0 ++ [59]
  else if d.kind = 19 then [112, 111, 115, 116, 32] ++ d.text ++ [32] ++ k0 ++ (if d.n < 0 then [32, 102, 114, 111, 110, 116] else if 0 < d.n then [32, 97, 102, 116, 101, 114, 32] ++ digT d.n else []) ++ toT K ++ [59]
  else if d.kind = 20 then [115, 112, 97, 119, 110, 32] ++ k0 ++ toT K ++ [59]
  else if d.kind = 21 then [101, 110, 97, 98, 108, 101, 32] ++ d.text ++ [59]
  else if d.kind = 22 then [100, 105, 115, 97, 98, 108, 101, 32] ++ d.text ++ [59]
  else if d.kind = 23 then [105, 102, 32] ++ k0 ++ [32] ++ k1 ++ (if more = true then [32, 101, 108, 115, 101, 32] ++ k2 else [])
  else if d.kind = 24 then [119, 104, 105, 108, 101, 32] ++ k0 ++ [32] ++ k1
  else if d.kind = 25 then [114, 101, 116, 117, 114, 110, 59]
  else if d.kind = 26 then digT d.n
  else if d.kind = 27 then [110, 117, 108, 108]
  else if d.kind = 28 then [105, 116]
  else if d.kind = 29 then d.text
  else if d.kind = 30 then k0 ++ [46] ++ d.text
  else if d.kind = 31 then k0 ++ [91] ++ k1 ++ [93]
  else if d.kind = 32 then k0 ++ [32] ++ d.text ++ [32] ++ k1
  else if d.kind = 33 then [110, 101, 119, 32] ++ d.text
  else if d.kind = 34 then [97, 114, 114, 32] ++ k0
  else if d.kind = 35 then [108, 101, 110, 32] ++ k0
  else [102, 110, 32] ++ k0
/-- How far the i-th kid of p, whose line has so many blanks, stands in. -/
def deepOf (p : Nd) (i : Nat) (m : Int) : Int := if p.kind = 12 ∨ (p.kind = 8 ∧ 0 < i) then m + 2 else m
def parT (b : Bool) (l : List UInt8) : List UInt8 := if b = true then [40] ++ l ++ [41] else l
def Fo.txts (p : Nd) (m : Int) : Nat → Fo → List (List UInt8)
  | _, .nil => []
  | i, .cons d k r => parT (prn p i d) (joinT d (deepOf p i m) k.more (k.txts d (deepOf p i m) 0)) :: r.txts p m (i + 1)
def textT (d : Nd) (k : Fo) : List UInt8 := joinT d 0 k.more (k.txts d 0 0)

end Go.Proofs.YtehdljcmeimbcaaGreat

namespace Go.Proofs.YtehdljcmeimbcaaGreat
open Go.RowKit

def isL (c : Int) : Bool := c == 95 || (decide (97 ≤ c) && decide (c ≤ 122)) || (decide (65 ≤ c) && decide (c ≤ 90))
def isD (c : Int) : Bool := decide (48 ≤ c) && decide (c ≤ 57)

theorem ret_bool {a b : Bool} (h : a = b) : Ending.returned (.bool a) = .returned (.bool b) := by rw [h]
theorem ret_int {k : IntKind} {a b : Int} (h : a = b) : Ending.returned (.int k a) = .returned (.int k b) := by rw [h]

theorem isLetter_ok (c : Int) (w : World) :
    Calls Tryz.prog 48 #[.int .u8 c] w fun e w' => e = .returned (.bool (isL c)) ∧ w = w' := by
  go_enter Tryz.func48, Tryz.ntmps48
  go_wp2
  all_goals go_ret
  all_goals exact ⟨ret_bool (by rw [Bool.eq_iff_iff]; simp [isL]; omega), rfl⟩

theorem isDigit_ok (c : Int) (w : World) :
    Calls Tryz.prog 49 #[.int .u8 c] w fun e w' => e = .returned (.bool (isD c)) ∧ w = w' := by
  go_enter Tryz.func49, Tryz.ntmps49
  go_wp2
  all_goals go_ret
  all_goals exact ⟨ret_bool (by rw [Bool.eq_iff_iff]; simp [isD]; omega), rfl⟩

theorem letter_ok (c : Int) (w : World) :
    Calls Tryz.prog 29 #[.int .u8 c] w fun e w' => e = .returned (.bool (isL c)) ∧ w = w' := by
  go_enter Tryz.func29, Tryz.ntmps29
  go_wp2
  all_goals go_ret
  all_goals exact ⟨ret_bool (by rw [Bool.eq_iff_iff]; simp [isL]; omega), rfl⟩

theorem digit_ok (c : Int) (w : World) :
    Calls Tryz.prog 30 #[.int .u8 c] w fun e w' => e = .returned (.bool (isD c)) ∧ w = w' := by
  go_enter Tryz.func30, Tryz.ntmps30
  go_wp2
  all_goals go_ret
  all_goals exact ⟨ret_bool (by rw [Bool.eq_iff_iff]; simp [isD]; omega), rfl⟩

set_option maxRecDepth 100000 in
theorem indexByte_in (s : ByteArray) (c : Int) (w : World) :
    Calls Tryz.prog 72 #[.string s, .int .u8 c] w fun e w' => e = .returned (.int .i64 (Lib.indexByte s.data.toList (UInt8.ofNat c.toNat))) ∧ w = w' := by
  go_enter Tryz.func72, Tryz.ntmps72
  go_wp2
  rw [run_callFunc_extern Tryz.func85 (by kernel_rfl) (by kernel_rfl) (by kernel_rfl) (e := Extern.BytealgIndexByte.indexByte) (by kernel_rfl), Lib.run_indexByteString]
  simp only [Result.andThen]
  rw [Oper.upon_value]
  go_wp2
  go_ret
  exact ⟨rfl, rfl⟩
theorem indexByte_ok (s : ByteArray) (c : Int) (w : World) :
    Calls Tryz.prog 47 #[.string s, .int .u8 c] w fun e w' => e = .returned (.int .i64 (Lib.indexByte s.data.toList (UInt8.ofNat c.toNat))) ∧ w = w' := by
  go_enter Tryz.func47, Tryz.ntmps47
  go_wp2_with (go_at_call 72; refine (indexByte_in _ _ _).mono ?_; rintro e w' ⟨rfl, rfl⟩)
  go_ret
  exact ⟨rfl, rfl⟩

def marksL : List UInt8 := [123, 125, 40, 41, 91, 93, 59, 46, 61, 43, 45, 42, 60]
def isM (c : Int) : Bool := marksL.contains (UInt8.ofNat c.toNat)
def isB (c : Int) : Bool := [32, 9, 10, 13].contains (UInt8.ofNat c.toNat)

theorem indexByte_nonneg (l : List UInt8) (c : UInt8) : decide (0 ≤ Lib.indexByte l c) = l.contains c := by
  induction l with
  | nil => rfl
  | cons b l ih =>
    unfold Lib.indexByte
    have hge := Lib.indexByte_ge l c
    by_cases hb : b == c
    · have : c = b := by rw [beq_iff_eq] at hb; exact hb.symm
      simp [this]
    · have : (c == b) = false := by
        rw [beq_eq_false_iff_ne]; intro h; exact hb (by rw [h]; exact beq_self_eq_true b)
      rw [if_neg hb, List.contains_cons, this, Bool.false_or, ← ih]
      by_cases hm : Lib.indexByte l c == -1
      · have := beq_iff_eq.1 hm
        rw [if_pos hm, this]
      · have : Lib.indexByte l c ≠ -1 := fun h => hm (by rw [h]; rfl)
        rw [if_neg hm]
        rw [Bool.eq_iff_iff]; simp; omega

def kindI (c : Int) : Int := if isL c = true then 1 else if isD c = true then 3 else if isM c = true then 4 else 0

theorem kindAt_ok (c : Int) (w : World) :
    Calls Tryz.prog 24 #[.int .u8 c] w fun e w' => e = .returned (.int .i64 (kindI c)) ∧ w = w' := by
  have hm : decide (0 ≤ Lib.indexByte [123, 125, 40, 41, 91, 93, 59, 46, 61, 43, 45, 42, 60] (UInt8.ofNat c.toNat)) = isM c := indexByte_nonneg _ _
  have HM := Lib.hid hm
  clear hm
  cases h1 : isL c
  · cases h2 : isD c
    · cases h3 : isM c
      · have h4 : ¬ 0 ≤ Lib.indexByte [123, 125, 40, 41, 91, 93, 59, 46, 61, 43, 45, 42, 60] (UInt8.ofNat c.toNat) := of_decide_eq_false (HM.out.trans h3)
        have HK : kindI c = 0 := by simp [kindI, h1, h2, h3]
        rw [HK]
        clear HK h3 HM
        go_enter Tryz.func24, Tryz.ntmps24
        go_wp2_with (first | (go_at_call 48; refine (isLetter_ok _ _).mono ?_; rintro e w' ⟨rfl, rfl⟩) | (go_at_call 49; refine (isDigit_ok _ _).mono ?_; rintro e w' ⟨rfl, rfl⟩) | (go_at_call 47; refine (indexByte_ok _ _ _).mono ?_; rintro e w' ⟨rfl, rfl⟩))
        all_goals go_ret
        all_goals exact ⟨rfl, rfl⟩
      · have h4 : 0 ≤ Lib.indexByte [123, 125, 40, 41, 91, 93, 59, 46, 61, 43, 45, 42, 60] (UInt8.ofNat c.toNat) := of_decide_eq_true (HM.out.trans h3)
        have HK : kindI c = 4 := by simp [kindI, h1, h2, h3]
        rw [HK]
        clear HK h3 HM
        go_enter Tryz.func24, Tryz.ntmps24
        go_wp2_with (first | (go_at_call 48; refine (isLetter_ok _ _).mono ?_; rintro e w' ⟨rfl, rfl⟩) | (go_at_call 49; refine (isDigit_ok _ _).mono ?_; rintro e w' ⟨rfl, rfl⟩) | (go_at_call 47; refine (indexByte_ok _ _ _).mono ?_; rintro e w' ⟨rfl, rfl⟩))
        all_goals go_ret
        all_goals exact ⟨rfl, rfl⟩
    · have HK : kindI c = 3 := by simp [kindI, h1, h2]
      rw [HK]
      clear HK HM
      go_enter Tryz.func24, Tryz.ntmps24
      go_wp2_with (first | (go_at_call 48; refine (isLetter_ok _ _).mono ?_; rintro e w' ⟨rfl, rfl⟩) | (go_at_call 49; refine (isDigit_ok _ _).mono ?_; rintro e w' ⟨rfl, rfl⟩))
      all_goals go_ret
      all_goals exact ⟨rfl, rfl⟩
  · have HK : kindI c = 1 := by simp [kindI, h1]
    rw [HK]
    clear HK HM
    go_enter Tryz.func24, Tryz.ntmps24
    go_wp2_with (go_at_call 48; refine (isLetter_ok _ _).mono ?_; rintro e w' ⟨rfl, rfl⟩)
    all_goals go_ret
    all_goals exact ⟨rfl, rfl⟩

def goes (k c : Int) : Bool := if k = 1 then isL c || isD c else if k = 3 then isD c else false

theorem goesOn_ok (c k : Int) (w : World) :
    Calls Tryz.prog 51 #[.int .u8 c, .int .i64 k] w fun e w' => e = .returned (.bool (goes k c)) ∧ w = w' := by
  go_enter Tryz.func51, Tryz.ntmps51
  go_wp2_with (first | (go_at_call 48; refine (isLetter_ok _ _).mono ?_; rintro e w' ⟨rfl, rfl⟩) | (go_at_call 49; refine (isDigit_ok _ _).mono ?_; rintro e w' ⟨rfl, rfl⟩))
  all_goals go_ret
  all_goals exact ⟨ret_bool (by simp_all [goes]), rfl⟩
end Go.Proofs.YtehdljcmeimbcaaGreat

namespace Go.Proofs.YtehdljcmeimbcaaGreat
open Go.RowKit

/-- Byte k of a text. -/
def chr (l : List UInt8) (k : Nat) : Int := ((l[k]?.getD 0).toNat : Int)
theorem chr_ge (l : List UInt8) (k : Nat) : 0 ≤ chr l k := by unfold chr; omega
theorem chr_le (l : List UInt8) (k : Nat) : chr l k ≤ 255 := by
  unfold chr
  have := (l[k]?.getD 0).toNat_lt
  omega
theorem drop_chr (l : List UInt8) (k : Nat) (h : k < l.length) : ∃ x, l.drop k = x :: l.drop (k + 1) ∧ chr l k = (x.toNat : Int) := by
  refine ⟨l[k], List.drop_eq_getElem_cons h, ?_⟩
  unfold chr
  rw [List.getElem?_eq_getElem h]; rfl

/-- A text that lies in memory, from a cell on. -/
def Bs (w : World) (b off : Nat) (l : List UInt8) : Prop := ∀ k, k < l.length → w.cell? ⟨b, off + k, none⟩ = some (.int .u8 (chr l k))

/-- How many bytes blanks and comments take (true: inside a comment). -/
def nx : Bool → List UInt8 → Nat
  | _, [] => 0
  | true, x :: r => if (x.toNat : Int) = 10 then nx false r + 1 else nx true r + 1
  | false, x :: r => if (x.toNat : Int) = 35 then nx true r + 1 else if isB x.toNat = true then nx false r + 1 else 0

theorem nx_le : ∀ (t : Bool) (l : List UInt8), nx t l ≤ l.length
  | _, [] => by cases ‹Bool› <;> simp [nx]
  | true, x :: r => by
    have := nx_le true r
    have := nx_le false r
    simp only [nx]; split <;> simp <;> omega
  | false, x :: r => by
    have := nx_le true r
    have := nx_le false r
    simp only [nx]; split
    · simp; omega
    · split <;> simp; omega

def nxt (l : List UInt8) (k : Nat) : Nat := k + nx false (l.drop k)
def nxc (l : List UInt8) (k : Nat) : Nat := k + nx true (l.drop k)

theorem nxt_end (l : List UInt8) (k : Nat) (h : l.length ≤ k) : nxt l k = k := by
  unfold nxt; rw [List.drop_of_length_le h]; simp [nx]
theorem nxc_end (l : List UInt8) (k : Nat) (h : l.length ≤ k) : nxc l k = k := by
  unfold nxc; rw [List.drop_of_length_le h]; simp [nx]
theorem nxt_le (l : List UInt8) (k : Nat) (h : k ≤ l.length) : nxt l k ≤ l.length := by
  unfold nxt
  have := nx_le false (l.drop k)
  simp at this; omega
theorem nxt_hash (l : List UInt8) (k : Nat) (h : k < l.length) (hc : chr l k = 35) : nxt l k = nxc l k := by
  obtain ⟨x, hd, hx⟩ := drop_chr l k h
  have h35 : (x.toNat : Int) = 35 := by omega
  have h10 : ¬ (x.toNat : Int) = 10 := by omega
  unfold nxt nxc; rw [hd]; simp only [nx]; rw [if_pos h35, if_neg h10]
theorem nxt_blank (l : List UInt8) (k : Nat) (h : k < l.length) (hc : ¬ chr l k = 35) (hb : isB (chr l k) = true) : nxt l k = nxt l (k + 1) := by
  obtain ⟨x, hd, hx⟩ := drop_chr l k h
  rw [hx] at hc hb
  unfold nxt; rw [hd]; simp only [nx]; rw [if_neg hc, if_pos hb]; omega
theorem nxt_stop (l : List UInt8) (k : Nat) (h : k < l.length) (hc : ¬ chr l k = 35) (hb : isB (chr l k) = false) : nxt l k = k := by
  obtain ⟨x, hd, hx⟩ := drop_chr l k h
  rw [hx] at hc hb
  unfold nxt; rw [hd]; simp only [nx]; rw [if_neg hc, hb]; simp
theorem nxc_more (l : List UInt8) (k : Nat) (h : k < l.length) (hc : ¬ chr l k = 10) : nxc l k = nxc l (k + 1) := by
  obtain ⟨x, hd, hx⟩ := drop_chr l k h
  rw [hx] at hc
  unfold nxc; rw [hd]; simp only [nx]; rw [if_neg hc]; omega
theorem nxc_line (l : List UInt8) (k : Nat) (h : k < l.length) (hc : chr l k = 10) : nxc l k = nxt l k := by
  obtain ⟨x, hd, hx⟩ := drop_chr l k h
  have h10 : (x.toNat : Int) = 10 := by omega
  have h35 : ¬ (x.toNat : Int) = 35 := by omega
  have hb : isB (x.toNat : Int) = true := by rw [h10]; rfl
  unfold nxc nxt; rw [hd]; simp only [nx]; rw [if_pos h10, if_neg h35, if_pos hb]

set_option maxHeartbeats 1000000 in
theorem nextAt_ok (l : List UInt8) (b off cap : Nat) (at_ : Nat) (w : World) (hb : Bs w b off l) (hn : l.length ≤ 1000000000) (hat : at_ ≤ l.length) :
    Calls Tryz.prog 23 #[.slice (some ⟨b, off, none⟩) l.length cap, .int .i64 at_] w fun e w' => e = .returned (.int .i64 (nxt l at_)) ∧ w = w' := by
  have HB := Lib.hid hb
  clear hb
  go_enter Tryz.func23, Tryz.ntmps23
  go_wp2
  go_loop [1] (fun i => ∃ k : Nat, k ≤ l.length ∧ i = .int .i64 k ∧ Hid (nxt l k = nxt l at_)) (fun i => l.length - (intOf i).toNat)
  case atStart => exact ⟨at_, hat, rfl, Lib.hid rfl⟩
  case round =>
    obtain ⟨k, hk, rfl, HK⟩ := hrel
    by_cases hlt : k < l.length
    · have hcell := HB.out k hlt
      have h0 := chr_ge l k
      have h1 := chr_le l k
      by_cases h35 : chr l k = 35
      · have h35' : (chr l k == 35) = true := by simp [h35]
        have H35 := Lib.hid h35
        clear h35
        go_wp2
        go_loop [1] (fun i => ∃ j : Nat, k ≤ j ∧ j ≤ l.length ∧ i = .int .i64 j ∧ Hid (nxc l j = nxt l at_)) (fun i => l.length - (intOf i).toNat)
        case atStart => exact ⟨k, Nat.le_refl _, hk, rfl, Lib.hid ((nxt_hash l k hlt H35.out).symm.trans HK.out)⟩
        case round =>
          obtain ⟨j, hkj, hj, rfl, HJ⟩ := hrel
          clear hcell h0 h1
          by_cases hlj : j < l.length
          · have hcell := HB.out j hlj
            have h0 := chr_ge l j
            have h1 := chr_le l j
            by_cases h10 : chr l j = 10
            · have h10' : (chr l j != 10) = false := by simp [h10]
              have H10 := Lib.hid h10
              clear h10
              go_wp2
              go_round
              case rel => exact ⟨j, by omega, rfl, Lib.hid ((nxc_line l j hlj H10.out).symm.trans HJ.out)⟩
              case measure =>
                have : j ≠ k := fun e => by have a := H35.out; have b := H10.out; rw [e] at b; omega
                simp [intOf]; omega
            · have h10' : (chr l j != 10) = true := by simp [h10]
              go_wp2
              go_round
              case rel => exact ⟨j + 1, by omega, by omega, by go_num, Lib.hid ((nxc_more l j hlj h10).symm.trans HJ.out)⟩
              case measure => simp [intOf]; omega
          · have : j = l.length := by omega
            subst this
            have hlf : decide (l.length < l.length) = false := by simp
            go_wp2
            go_round
            case rel => exact ⟨l.length, by omega, rfl, Lib.hid (by have := HJ.out; rw [nxc_end l _ (Nat.le_refl _)] at this; rw [nxt_end l _ (Nat.le_refl _)]; exact this)⟩
            case measure => simp [intOf]; omega
      · have h35' : (chr l k == 35) = false := by simp [h35]
        cases hbl : isB (chr l k)
        · have hbl' : ¬ 0 ≤ Lib.indexByte [32, 9, 10, 13] (UInt8.ofNat (chr l k).toNat) := of_decide_eq_false ((indexByte_nonneg _ _).trans hbl)
          have HBL := Lib.hid hbl
          clear hbl
          go_wp2_with (go_at_call 47; refine (indexByte_ok _ _ _).mono ?_; rintro e w' ⟨rfl, rfl⟩)
          go_ret
          exact ⟨ret_int (by rw [← HK.out, nxt_stop l k hlt h35 HBL.out]), rfl⟩
        · have hbl' : 0 ≤ Lib.indexByte [32, 9, 10, 13] (UInt8.ofNat (chr l k).toNat) := of_decide_eq_true ((indexByte_nonneg _ _).trans hbl)
          have HBL := Lib.hid hbl
          clear hbl
          go_wp2_with (go_at_call 47; refine (indexByte_ok _ _ _).mono ?_; rintro e w' ⟨rfl, rfl⟩)
          go_round
          case rel => exact ⟨k + 1, by omega, by go_num, Lib.hid ((nxt_blank l k hlt h35 HBL.out).symm.trans HK.out)⟩
          case measure => simp [intOf]; omega
    · go_wp2
      go_ret
      exact ⟨ret_int (by rw [← HK.out, nxt_end l k (by omega)]), rfl⟩
end Go.Proofs.YtehdljcmeimbcaaGreat

namespace Go.Proofs.YtehdljcmeimbcaaGreat
open Go.RowKit

theorem Bs.cells {w : World} {b off : Nat} {l : List UInt8} (h : Bs w b off l) (k : Nat) (hk : k < l.length) : w.cell? ⟨b, off + k, none⟩ = some (.int .u8 (chr l k)) := h k hk
theorem chr_take (l : List UInt8) (m k : Nat) (h : k < m) : chr (l.take m) k = chr l k := by
  unfold chr; rw [List.getElem?_take, if_pos h]
theorem chr_drop (l : List UInt8) (i k : Nat) : chr (l.drop i) k = chr l (i + k) := by
  unfold chr; rw [List.getElem?_drop]
theorem Bs.part {w : World} {b off : Nat} {l : List UInt8} (h : Bs w b off l) (i m : Nat) : Bs w b (off + i) ((l.drop i).take m) := by
  intro k hk
  have hk' := hk
  rw [List.length_take, List.length_drop] at hk'
  rw [chr_take _ _ _ (by omega), chr_drop, Nat.add_assoc]
  exact h (i + k) (by omega)
theorem Bs.rest {w : World} {b off : Nat} {l : List UInt8} (h : Bs w b off l) (i : Nat) : Bs w b (off + i) (l.drop i) := by
  intro k hk
  rw [List.length_drop] at hk
  rw [chr_drop, Nat.add_assoc]
  exact h (i + k) (by omega)
theorem Bs.keep {w w' : World} {b off : Nat} {l : List UInt8} (h : Bs w b off l) (hk : ∀ k, k < l.length → w'.cell? ⟨b, off + k, none⟩ = w.cell? ⟨b, off + k, none⟩) : Bs w' b off l :=
  fun k hl => (hk k hl).trans (h k hl)
theorem Bs.lt {w : World} {b off : Nat} {l : List UInt8} (h : Bs w b off l) (h0 : 0 < l.length) : b < w.heap.size := World.block_lt_of_cell? w _ (h 0 h0)
theorem Bs.below {w w' : World} {b off B : Nat} {l : List UInt8} (h : Bs w b off l) (hb : Below B w w') (hlt : b < B) : Bs w' b off l :=
  h.keep fun _ _ => hb.cell (by exact hlt)
theorem Bs.alloc {w : World} {b off : Nat} {l : List UInt8} (h : Bs w b off l) (o : Obj) : Bs (w.alloc o) b off l :=
  h.keep fun k hk => World.cell?_alloc_lt w o _ (World.block_lt_of_cell? w _ (h k hk))

set_option maxRecDepth 100000 in
theorem conv_bs {w : World} {b off : Nat} {l : List UInt8} (h : Bs w b off l) (cap : Nat) :
    (convert 22 9 (.slice (some ⟨b, off, none⟩) l.length cap)).run Tryz.prog w = .ok (.string ⟨l.toArray⟩) w := by
  have := run_convert_bytes_arg (P := Tryz.prog) w 22 5 Tryz.underlying22 Tryz.underlying5 b off l.length cap (l.map fun x => (x.toNat : Int)) (by simp) (fun i hi => by
    rw [h i hi]
    unfold chr
    simp [hi]) 9 Tryz.underlying9
  rw [this]
  congr 2
  unfold strOfNums
  rw [List.map_map]
  congr 2
  conv => rhs; rw [← List.map_id l]
  apply List.map_congr_left
  intro x _
  simp

set_option maxRecDepth 100000 in
theorem equal_ok (v1 v2 : Value) (l1 l2 : List UInt8) (w : World) (h1 : (convert 22 9 v1).run Tryz.prog w = .ok (.string ⟨l1.toArray⟩) w) (h2 : (convert 22 9 v2).run Tryz.prog w = .ok (.string ⟨l2.toArray⟩) w) :
    Calls Tryz.prog 73 #[v1, v2] w fun e w' => e = .returned (.bool (l1 == l2)) ∧ w = w' := by
  go_enter Tryz.func73, Tryz.ntmps73
  go_wp2
  go_ret
  exact ⟨rfl, rfl⟩

def pre2 (l : List UInt8) : Bool := l.take 2 == [61, 61]

set_option maxRecDepth 100000 in
theorem hasPrefix_ok (l : List UInt8) (b1 o1 c b2 o2 d : Nat) (w : World) (h1 : Bs w b1 o1 l) (h2 : Bs w b2 o2 [61, 61]) (hc : l.length ≤ c) (hn : l.length ≤ 1000000000) :
    Calls Tryz.prog 50 #[.slice (some ⟨b1, o1, none⟩) l.length c, .slice (some ⟨b2, o2, none⟩) 2 d] w fun e w' => e = .returned (.bool (pre2 l)) ∧ w = w' := by
  have c2 := conv_bs h2 d
  have C2 := Lib.hid c2
  have H1 := Lib.hid h1
  clear c2 h1 h2
  by_cases hl : 2 ≤ l.length
  · have c1 := conv_bs (H1.out.part 0 2) c
    simp only [List.drop_zero, Nat.add_zero, List.length_take, Nat.min_eq_left hl] at c1
    have C1 := Lib.hid c1
    clear c1 H1
    have hcap : 2 ≤ c := by omega
    go_enter Tryz.func50, Tryz.ntmps50
    go_wp2_with (go_at_call 73; refine (equal_ok _ _ _ _ _ C1.out C2.out).mono ?_; rintro e w' ⟨rfl, rfl⟩)
    go_ret
    exact ⟨rfl, rfl⟩
  · have hp : pre2 l = false := by
      unfold pre2
      rw [beq_eq_false_iff_ne]
      intro h
      have := congrArg List.length h
      simp at this
      omega
    rw [hp]
    clear hp
    go_enter Tryz.func50, Tryz.ntmps50
    go_wp2
    go_ret
    exact ⟨rfl, rfl⟩
end Go.Proofs.YtehdljcmeimbcaaGreat

namespace Go.Proofs.YtehdljcmeimbcaaGreat
open Go.RowKit

/-- How many bytes go on as kind k does. -/
def run (k : Int) : List UInt8 → Nat
  | [] => 0
  | x :: r => if goes k x.toNat = true then run k r + 1 else 0
theorem run_le (k : Int) : ∀ l : List UInt8, run k l ≤ l.length
  | [] => by simp [run]
  | x :: r => by
    have := run_le k r
    simp only [run]; split <;> simp; omega
def ends (l : List UInt8) (k : Int) (j : Nat) : Nat := j + run k (l.drop j)
theorem ends_le (l : List UInt8) (k : Int) (j : Nat) (h : j ≤ l.length) : ends l k j ≤ l.length := by
  unfold ends
  have := run_le k (l.drop j)
  simp at this; omega
theorem ends_ge (l : List UInt8) (k : Int) (j : Nat) : j ≤ ends l k j := by unfold ends; omega
theorem ends_end (l : List UInt8) (k : Int) (j : Nat) (h : l.length ≤ j) : ends l k j = j := by
  unfold ends; rw [List.drop_of_length_le h]; simp [run]
theorem ends_more (l : List UInt8) (k : Int) (j : Nat) (h : j < l.length) (hg : goes k (chr l j) = true) : ends l k j = ends l k (j + 1) := by
  obtain ⟨x, hd, hx⟩ := drop_chr l j h
  rw [hx] at hg
  unfold ends; rw [hd]; simp only [run]; rw [if_pos hg]; omega
theorem ends_stop (l : List UInt8) (k : Int) (j : Nat) (h : j < l.length) (hg : goes k (chr l j) = false) : ends l k j = j := by
  obtain ⟨x, hd, hx⟩ := drop_chr l j h
  rw [hx] at hg
  unfold ends; rw [hd]; simp only [run]; rw [hg]; simp

def endT (l : List UInt8) (k : Int) (p : Nat) : Nat := if pre2 (l.drop p) = true then p + 2 else ends l k (p + 1)

theorem pre2_len (l : List UInt8) (h : pre2 l = true) : 2 ≤ l.length := by
  unfold pre2 at h
  rw [beq_iff_eq] at h
  have := congrArg List.length h
  simp at this
  omega

set_option maxRecDepth 100000 in
set_option maxHeartbeats 1000000 in
theorem endOf_ok (l : List UInt8) (b off cap : Nat) (k : Int) (p : Nat) (w : World) (hb : Bs w b off l) (hn : l.length ≤ 1000000000) (hc : l.length ≤ cap) (hp : p < l.length) :
    Calls Tryz.prog 25 #[.slice (some ⟨b, off, none⟩) l.length cap, .int .i64 p, .int .i64 k] w fun e w' => e = .returned (.int .i64 (endT l k p)) ∧ Below w.heap.size w w' := by
  have kc := fun (w : World) (C : Array Value) (n c : Nat) => Lib.run_convert_bytes_const (P := Tryz.prog) w 22 5 C n c Tryz.underlying22 Tryz.underlying5
  have hb1 : Bs (w.alloc (.cells #[.int .u8 61, .int .u8 61] 5 (2, 3))) b (off + p) (l.drop p) := (hb.rest p).alloc _
  have hb2 : Bs (w.alloc (.cells #[.int .u8 61, .int .u8 61] 5 (2, 3))) b off l := hb.alloc _
  have hb3 : Bs (w.alloc (.cells #[.int .u8 61, .int .u8 61] 5 (2, 3))) w.heap.size 0 [61, 61] := fun i hi => by
    simp at hi
    rw [World.cell?_alloc_mark]
    rcases i with _ | _ | i
    · rfl
    · rfl
    · omega
  have hw : Below w.heap.size w (w.alloc (.cells #[.int .u8 61, .int .u8 61] 5 (2, 3))) := (Below.refl _ _).alloc (Nat.le_refl _) _
  have HB1 := Lib.hid hb1
  have HB2 := Lib.hid hb2
  have HB3 := Lib.hid hb3
  have HW := Lib.hid hw
  clear hb hb1 hb2 hb3 hw
  have hd : (l.drop p).length = l.length - p := by simp
  have hcon := hasPrefix_ok (l.drop p) b (off + p) (cap - p) w.heap.size 0 2 _ HB1.out HB3.out (by omega) (by omega)
  rw [hd] at hcon
  have HC := Lib.hid hcon
  clear hcon hd
  have hcap : ¬ cap = p := by omega
  have hcap2 : p ≤ cap := by omega
  cases hpre : pre2 (l.drop p)
  · have HE : Hid (endT l k p = ends l k (p + 1)) := Lib.hid (by simp [endT, hpre])
    rw [hpre] at HC
    clear hpre
    go_enter Tryz.func25, Tryz.ntmps25
    go_wp2_with (go_at_call 50; refine HC.out.mono ?_; rintro e w' ⟨rfl, rfl⟩)
    go_loop [7] (fun i => ∃ j : Nat, p + 1 ≤ j ∧ j ≤ l.length ∧ i = .int .i64 j ∧ Hid (ends l k j = ends l k (p + 1))) (fun i => l.length - (intOf i).toNat)
    case atStart => exact ⟨p + 1, Nat.le_refl _, by omega, by go_num, Lib.hid rfl⟩
    case round =>
      obtain ⟨j, hpj, hj, rfl, HJ⟩ := hrel
      by_cases hlj : j < l.length
      · have hcell := HB2.out j hlj
        cases hg : goes k (chr l j)
        · have HG := Lib.hid hg
          have hcon := goesOn_ok (chr l j) k
          simp only [hg] at hcon
          have HC2 := Lib.hid hcon
          clear hg hcon
          go_wp2_with (go_at_call 51; refine (HC2.out _).mono ?_; rintro e w' ⟨rfl, rfl⟩)
          go_ret
          exact ⟨ret_int (by rw [HE.out, ← HJ.out, ends_stop l k j hlj HG.out]), HW.out⟩
        · have HG := Lib.hid hg
          have hcon := goesOn_ok (chr l j) k
          simp only [hg] at hcon
          have HC2 := Lib.hid hcon
          clear hg hcon
          go_wp2_with (go_at_call 51; refine (HC2.out _).mono ?_; rintro e w' ⟨rfl, rfl⟩)
          go_round
          case rel => exact ⟨j + 1, by omega, by omega, by go_num, Lib.hid ((ends_more l k j hlj HG.out).symm.trans HJ.out)⟩
          case measure => simp [intOf]; omega
      · have hlf : decide (j < l.length) = false := by simp; omega
        go_wp2
        go_ret
        exact ⟨ret_int (by rw [HE.out, ← HJ.out, ends_end l k j (by omega)]), HW.out⟩
  · have HE : Hid (endT l k p = p + 2) := Lib.hid (by simp [endT, hpre])
    rw [hpre] at HC
    clear hpre
    go_enter Tryz.func25, Tryz.ntmps25
    go_wp2_with (go_at_call 50; refine HC.out.mono ?_; rintro e w' ⟨rfl, rfl⟩)
    go_ret
    exact ⟨ret_int (by rw [HE.out]; go_num), HW.out⟩
end Go.Proofs.YtehdljcmeimbcaaGreat
