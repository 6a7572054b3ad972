/- Trees, plainly: forests, how they lie in a row, which may be. -/
namespace Go.Proofs.Ythgpepkcjjimlaa

/-- A twig as it lies in a row. -/
structure Tw where
  kind : Int
  text : List UInt8
  n : Int
  line : Int
  col : Int
  kids : List Int
  deriving DecidableEq

/-- A twig without its kids. -/
structure Nd where
  kind : Int
  text : List UInt8
  n : Int
  line : Int
  col : Int
  deriving DecidableEq

def Tw.nd (t : Tw) : Nd := ⟨t.kind, t.text, t.n, t.line, t.col⟩
def Nd.tw (d : Nd) (k : List Int) : Tw := ⟨d.kind, d.text, d.n, d.line, d.col, k⟩
theorem Nd.tw_nd (d : Nd) (k : List Int) : (d.tw k).nd = d := rfl

/-- Forests: a first tree (its data, its kids), and the others. -/
inductive Fo where
  | nil
  | cons (d : Nd) (k : Fo) (r : Fo)

def Fo.size : Fo → Nat
  | .nil => 0
  | .cons _ k r => 1 + k.size + r.size
def Fo.starts : Nat → Fo → List Int
  | _, .nil => []
  | b, .cons _ k r => (b : Int) :: r.starts (b + 1 + k.size)
def Fo.flat : Nat → Fo → List Tw
  | _, .nil => []
  | b, .cons d k r => d.tw (k.starts (b + 1)) :: (k.flat (b + 1) ++ r.flat (b + 1 + k.size))
def Fo.nds : Fo → List Nd
  | .nil => []
  | .cons d _ r => d :: r.nds
def Fo.len (f : Fo) : Nat := f.nds.length
theorem Fo.flat_len : ∀ (f : Fo) (b : Nat), (f.flat b).length = f.size
  | .nil, _ => rfl
  | .cons d k r, b => by simp [flat, size, flat_len k, flat_len r]; omega
theorem Fo.starts_len : ∀ (f : Fo) (b : Nat), (f.starts b).length = f.len
  | .nil, _ => rfl
  | .cons d k r, b => by simp [starts, starts_len r, len, nds]

def isTm (k : Int) : Bool := decide (26 ≤ k) && decide (k ≤ 36)
def isSt (k : Int) : Bool := decide (13 ≤ k) && decide (k ≤ 25)
def isDc (k : Int) : Bool := k == 2 || k == 3 || k == 6 || k == 7 || k == 8 || k == 10 || k == 11
def isVr (k : Int) : Bool := k == 29 || k == 30 || k == 31
def isK (k : Int) (x : Int) : Bool := x == k

/-- Kids: one of each sort ahead, then as many of a sort as one likes. -/
def rowOk : List (Int → Bool) → (Int → Bool) → List Int → Bool
  | [], rest, l => l.all rest
  | _ :: _, _, [] => false
  | a :: as, rest, x :: l => a x && rowOk as rest l
def noK : Int → Bool := fun _ => false

def kidsOk (k : Int) (l : List Int) : Bool :=
  if k = 1 then rowOk [] isDc l
  else if k = 3 then rowOk [] (isK 4) l
  else if k = 4 ∨ k = 6 then rowOk [isK 5] noK l
  else if k = 7 ∨ k = 9 ∨ k = 11 ∨ k = 36 then rowOk [isK 12] noK l
  else if k = 8 then rowOk [isK 29] (isK 9) l
  else if k = 10 then rowOk [isK 29, isK 12] noK l
  else if k = 12 then rowOk [] isSt l
  else if k = 13 then rowOk [isK 5, isTm] noK l
  else if k = 14 then rowOk [isVr, isTm] noK l
  else if k = 15 ∨ k = 16 ∨ k = 17 ∨ k = 18 ∨ k = 30 ∨ k = 34 ∨ k = 35 then rowOk [isTm] noK l
  else if k = 19 ∨ k = 20 then rowOk [isTm] noK l || rowOk [isTm, isVr] noK l
  else if k = 23 then rowOk [isTm, isK 12, isK 12] noK l
  else if k = 24 then rowOk [isTm, isK 12] noK l
  else if k = 31 ∨ k = 32 then rowOk [isTm, isTm] noK l
  else rowOk [] noK l

def isTy (nm : List UInt8 → Bool) (s : List UInt8) : Bool := s == [105, 110, 116] || s == [102, 110] || s == [116, 111, 107] || s == [104, 97, 110, 100] || s == [97, 114, 114] || nm s
def isSg (s : List UInt8) : Bool := s == [43] || s == [45] || s == [42] || s == [60] || s == [61, 61]
def named (k : Int) : Bool := k == 2 || k == 3 || k == 4 || k == 6 || k == 7 || k == 8 || k == 10 || k == 13 || k == 19 || k == 21 || k == 22 || k == 29 || k == 30 || k == 33
def textOk (nm : List UInt8 → Bool) (k : Int) (s : List UInt8) : Bool :=
  if k = 5 then isTy nm s else if k = 32 then isSg s else if named k = true then nm s else s == []
def numOk (k n : Int) : Bool :=
  if k = 9 then decide (0 ≤ n) && decide (n ≤ 3)
  else if k = 10 then decide (0 ≤ n) && decide (n ≤ 1)
  else if k = 19 then decide (-1 ≤ n) && decide (n ≤ 2147483647)
  else if k = 26 then decide (0 ≤ n) && decide (n ≤ 2147483647)
  else n == 0
def kindOk (k : Int) : Bool := decide (1 ≤ k) && decide (k ≤ 36)

/-- Has a twig what its kind has? -/
def ndOk (nm : List UInt8 → Bool) (d : Nd) (l : List Int) : Bool := kindOk d.kind && textOk nm d.kind d.text && numOk d.kind d.n && kidsOk d.kind l
def Fo.fit (nm : List UInt8 → Bool) : Fo → Bool
  | .nil => true
  | .cons d k r => ndOk nm d (k.nds.map (·.kind)) && k.fit nm && r.fit nm

/-- How tightly a twig binds. -/
def bnd (k : Int) (s : List UInt8) : Int :=
  if isTm k = false then 0
  else if k = 34 ∨ k = 35 then 4
  else if k = 32 then (if s = [60] ∨ s = [61, 61] then 1 else if s = [43] ∨ s = [45] then 2 else if s = [42] then 3 else 5)
  else 5
/-- How tightly the i-th kid of a twig must bind. -/
def must (d : Nd) (i : Nat) : Int :=
  if d.kind = 32 then (if i = 1 then bnd d.kind d.text + 1 else if bnd d.kind d.text < 2 then 2 else bnd d.kind d.text)
  else if d.kind = 34 ∨ d.kind = 35 then 4
  else if d.kind = 30 ∨ d.kind = 31 then (if i = 0 then 5 else 0)
  else 0
def prn (d : Nd) (i : Nat) (x : Nd) : Bool := decide (bnd x.kind x.text < must d i)
def ins (d : Nd) (i : Nat) : Bool := if d.kind = 31 then i == 1 else d.kind == 34 || d.kind == 35
def dpr (d : Nd) (i : Nat) (x : Nd) : Int := (if x.kind = 12 then 1 else 0) + (if prn d i x = true then 1 else 0) + (if ins d i = true then 1 else 0)

/-- The nests of a forest that are kids of p (of nest m), from its i-th one on. -/
def Fo.deps (m : Int) (p : Nd) : Nat → Fo → List Int
  | _, .nil => []
  | i, .cons d k r => (m + dpr p i d) :: (deps (m + dpr p i d) d 0 k ++ deps m p (i + 1) r)
/-- Whose kid each one is. -/
def Fo.pars (p : Int) : Nat → Fo → List Int
  | _, .nil => []
  | b, .cons _ k r => p :: (pars (b : Int) (b + 1) k ++ pars p (b + 1 + k.size) r)
theorem Fo.deps_len : ∀ (f : Fo) (m : Int) (p : Nd) (i : Nat), (f.deps m p i).length = f.size
  | .nil, _, _, _ => rfl
  | .cons d k r, m, p, i => by simp [deps, size, deps_len k, deps_len r]; omega
theorem Fo.pars_len : ∀ (f : Fo) (p : Int) (b : Nat), (f.pars p b).length = f.size
  | .nil, _, _ => rfl
  | .cons d k r, p, b => by simp [pars, size, pars_len k, pars_len r]; omega

/-- A tree that may be. -/
def MayT (nm : List UInt8 → Bool) (d : Nd) (k : Fo) : Prop := d.kind = 1 ∧ ndOk nm d (k.nds.map (·.kind)) = true ∧ k.fit nm = true ∧ ∀ x ∈ k.deps 0 d 0, x ≤ 64
/-- A row of twigs that may be. -/
def MayL (nm : List UInt8 → Bool) (l : List Tw) : Prop := ∃ d k, l = (Fo.cons d k .nil).flat 0 ∧ MayT nm d k

theorem flat_nil : ∀ {f : Fo} {b : Nat}, f.flat b = [] → f = .nil
  | .nil, _, _ => rfl
  | .cons _ _ _, _, h => by cases h

/-- What lies in a row is one forest: as many trees as there are starts. -/
theorem flat_inj : ∀ (f g : Fo) (b : Nat) (r s : List Tw), f.flat b ++ r = g.flat b ++ s → f.starts b = g.starts b → f = g ∧ r = s
  | .nil, .nil, _, _, _, h, _ => ⟨rfl, h⟩
  | .nil, .cons _ _ _, _, _, _, _, h => by cases h
  | .cons _ _ _, .nil, _, _, _, _, h => by cases h
  | .cons d k r, .cons d' k' r', b, u, v, h, hs => by
    simp only [Fo.flat, List.cons_append, List.cons.injEq, List.append_assoc] at h
    obtain ⟨h1, h2⟩ := h
    have hk : k.starts (b + 1) = k'.starts (b + 1) := congrArg Tw.kids h1
    have hd : d = d' := by have := congrArg Tw.nd h1; exact this
    obtain ⟨rfl, h3⟩ := flat_inj k k' (b + 1) _ _ h2 hk
    simp only [Fo.starts, List.cons.injEq] at hs
    obtain ⟨rfl, h4⟩ := flat_inj r r' _ _ _ h3 hs.2
    exact ⟨by rw [hd], h4⟩

end Go.Proofs.Ythgpepkcjjimlaa
