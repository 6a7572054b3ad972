/- The grammar, plainly: a parser of tokens that answers trees. -/
import Derived.Test.YthgpepkcjjimlaaTokI
import Derived.Test.YthgpepkcjjimlaaTreA
namespace Go.Proofs.Ythgpepkcjjimlaa

/-- What a part of the grammar comes to: too few rounds; something wrong, and what stands from there on; a tree, and what stands behind it. -/
inductive Out where
  | dry
  | bad (err : Int) (r : List Tok)
  | ok (d : Nd) (k : Fo) (r : List Tok)

def Out.and (o : Out) (f : Nd → Fo → List Tok → Out) : Out :=
  match o with
  | .dry => .dry
  | .bad e r => .bad e r
  | .ok d k r => f d k r

def Fo.app : Fo → Fo → Fo
  | .nil, g => g
  | .cons d k r, g => .cons d k (r.app g)
def one (d : Nd) (k : Fo) : Fo := .cons d k .nil

def hd (r : List Tok) : Tok := r.headD ⟨0, [], 0, 0, 0⟩
def seesK (k : Int) (r : List Tok) (l : List (List UInt8)) : Bool := (hd r).kind == k && l.contains (hd r).text
def seesW (r : List Tok) (l : List (List UInt8)) : Bool := seesK 2 r l
def seesM (r : List Tok) (l : List (List UInt8)) : Bool := seesK 4 r l
/-- A token that must be. -/
def tk (c : Bool) (r : List Tok) (f : Tok → List Tok → Out) : Out := if c = true then f (hd r) r.tail else .bad 4 r
def tkM (l : List (List UInt8)) (r : List Tok) (f : Tok → List Tok → Out) : Out := tk (seesM r l) r f
def tkW (l : List (List UInt8)) (r : List Tok) (f : Tok → List Tok → Out) : Out := tk (seesW r l) r f
def tkK (k : Int) (r : List Tok) (f : Tok → List Tok → Out) : Out := tk ((hd r).kind == k) r f
/-- A token with which it is one nest deeper. -/
def ent (m : Nat) (r : List Tok) (f : Tok → List Tok → Out) : Out := if m = 64 then .bad 5 r else f (hd r) r.tail
def at_ (t : Tok) (k : Int) (s : List UInt8) (n : Int) : Nd := ⟨k, s, n, t.line, t.col⟩

def tyWords : List (List UInt8) := [[105, 110, 116], [102, 110], [116, 111, 107], [104, 97, 110, 100], [97, 114, 114]]
def isTyT (r : List Tok) : Bool := (hd r).kind == 1 || seesW r tyWords
/-- A type; a name that is used; the looper; a member; a callback. -/
def tyO (r : List Tok) : Out := tk (isTyT r) r fun t r => .ok (at_ t 5 t.text 0) .nil r
def useO (r : List Tok) : Out := tkK 1 r fun t r => .ok (at_ t 29 t.text 0) .nil r
def onO (r : List Tok) : Out := tkW [[111, 110]] r fun _ r => useO r
def memO (r : List Tok) : Out := tkK 1 r fun x r => (tyO r).and fun y yk r => tkM [[59]] r fun _ r => .ok (at_ x 4 x.text 0) (one y yk) r
def lifeWords : List (List UInt8) := [[99, 114, 101, 97, 116, 101], [115, 116, 97, 114, 116], [115, 116, 111, 112], [100, 101, 115, 116, 114, 111, 121]]
def lifeO (b : List Tok → Out) (r : List Tok) : Out := tkW lifeWords r fun x r => (b r).and fun d k r => .ok (at_ x 9 [] (lifeWords.idxOf x.text)) (one d k) r

/-- The parts of the grammar, and the loops in them with what they have so far. -/
inductive Gr where
  | decls (acc : Fo) | decl | members (t nm : Tok) (acc : Fo) | lives (t nm : Tok) (acc : Fo)
  | block | stmts (t : Tok) (acc : Fo) | stmt | to (d : Nd) (acc : Fo) | var
  | term | sum | sumL (d : Nd) (k : Fo) | product | prodL (d : Nd) (k : Fo) | unary | tight | tightL (d : Nd) (k : Fo) | first

def actWords : List (List UInt8) := [[99, 97, 108, 108], [99, 97, 110, 99, 101, 108], [106, 111, 105, 110], [108, 111, 103]]
def actKind (s : List UInt8) : Int := if s = [99, 97, 110, 99, 101, 108] then 16 else if s = [106, 111, 105, 110] then 17 else if s = [108, 111, 103] then 18 else 15
def nameNd : Tok → Int → Tok → Nd := fun t k nm => at_ t k nm.text 0
def isVarK (k : Int) : Bool := k == 29 || k == 30 || k == 31

def P : Nat → Gr → List Tok → Nat → Out
  | 0, _, _, _ => .dry
  | n + 1, q, r, m => match q with
    | .decls acc => if r = [] then .ok ⟨1, [], 0, 1, 1⟩ acc [] else (P n .decl r m).and fun d k r => P n (.decls (acc.app (one d k))) r m
    | .decl =>
      if seesW r [[108, 111, 111, 112, 101, 114]] = true then tkK 1 r.tail fun nm r' => tkM [[59]] r' fun _ r' => .ok (at_ (hd r) 2 nm.text 0) .nil r'
      else if seesW r [[99, 108, 97, 115, 115]] = true then tkK 1 r.tail fun nm r' => tkM [[123]] r' fun _ r' => P n (.members (hd r) nm .nil) r' m
      else if seesW r [[118, 97, 114]] = true then tkK 1 r.tail fun nm r' => (tyO r').and fun y yk r' => tkM [[59]] r' fun _ r' => .ok (at_ (hd r) 6 nm.text 0) (one y yk) r'
      else if seesW r [[102, 110]] = true then tkK 1 r.tail fun nm r' => (P n .block r' m).and fun d k r' => .ok (at_ (hd r) 7 nm.text 0) (one d k) r'
      else if seesW r [[99, 111, 109, 112]] = true then tkK 1 r.tail fun nm r' => (onO r').and fun u uk r' => tkM [[123]] r' fun _ r' => P n (.lives (hd r) nm (one u uk)) r' m
      else if seesW r [[101, 118, 101, 110, 116]] = true then tkK 1 r.tail fun nm r' => (onO r').and fun u uk r' => tkW [[111, 110], [111, 102, 102]] r' fun x r' =>
        (P n .block r' m).and fun d k r' => .ok (at_ (hd r) 10 nm.text (if x.text = [111, 110] then 1 else 0)) ((one u uk).app (one d k)) r'
      else tkW [[109, 97, 105, 110]] r fun t r' => (P n .block r' m).and fun d k r' => .ok (at_ t 11 [] 0) (one d k) r'
    | .members t nm acc =>
      if seesM r [[125]] = true then .ok (at_ t 3 nm.text 0) acc r.tail
      else (memO r).and fun d k r' => P n (.members t nm (acc.app (one d k))) r' m
    | .lives t nm acc =>
      if seesM r [[125]] = true then .ok (at_ t 8 nm.text 0) acc r.tail
      else (lifeO (fun r => P n .block r m) r).and fun d k r' => P n (.lives t nm (acc.app (one d k))) r' m
    | .block => if seesM r [[123]] = true then ent m r fun t r' => P n (.stmts t .nil) r' (m + 1) else .bad 4 r
    | .stmts t acc =>
      if seesM r [[125]] = true then .ok (at_ t 12 [] 0) acc r.tail
      else (P n .stmt r m).and fun d k r' => P n (.stmts t (acc.app (one d k))) r' m
    | .stmt =>
      if seesW r [[118, 97, 114]] = true then tkK 1 r.tail fun nm r' => (tyO r').and fun y yk r' => tkM [[61]] r' fun _ r' => (P n .term r' m).and fun d k r' => tkM [[59]] r' fun _ r' => .ok (at_ (hd r) 13 nm.text 0) ((one y yk).app (one d k)) r'
      else if seesW r actWords = true then (P n .term r.tail m).and fun d k r' => tkM [[59]] r' fun _ r' => .ok (at_ (hd r) (actKind (hd r).text) [] 0) (one d k) r'
      else if seesW r [[112, 111, 115, 116]] = true then tkK 1 r.tail fun nm r' => (P n .term r' m).and fun d k r' =>
        if seesW r' [[97, 102, 116, 101, 114]] = true then tkK 3 r'.tail fun x r' => P n (.to (at_ (hd r) 19 nm.text x.n) (one d k)) r' m
        else if seesW r' [[102, 114, 111, 110, 116]] = true then P n (.to (at_ (hd r) 19 nm.text (-1)) (one d k)) r'.tail m
        else P n (.to (at_ (hd r) 19 nm.text 0) (one d k)) r' m
      else if seesW r [[115, 112, 97, 119, 110]] = true then (P n .term r.tail m).and fun d k r' => P n (.to (at_ (hd r) 20 [] 0) (one d k)) r' m
      else if seesW r [[101, 110, 97, 98, 108, 101], [100, 105, 115, 97, 98, 108, 101]] = true then tkK 1 r.tail fun nm r' => tkM [[59]] r' fun _ r' => .ok (at_ (hd r) (if (hd r).text = [100, 105, 115, 97, 98, 108, 101] then 22 else 21) nm.text 0) .nil r'
      else if seesW r [[105, 102]] = true then (P n .term r.tail m).and fun d k r' => (P n .block r' m).and fun d' k' r' =>
        if seesW r' [[101, 108, 115, 101]] = true then (P n .block r'.tail m).and fun d'' k'' r' => .ok (at_ (hd r) 23 [] 0) ((one d k).app ((one d' k').app (one d'' k''))) r'
        else .ok (at_ (hd r) 23 [] 0) ((one d k).app ((one d' k').app (one (at_ (hd r) 12 [] 0) .nil))) r'
      else if seesW r [[119, 104, 105, 108, 101]] = true then (P n .term r.tail m).and fun d k r' => (P n .block r' m).and fun d' k' r' => .ok (at_ (hd r) 24 [] 0) ((one d k).app (one d' k')) r'
      else if seesW r [[114, 101, 116, 117, 114, 110]] = true then tkM [[59]] r.tail fun _ r' => .ok (at_ (hd r) 25 [] 0) .nil r'
      else (P n .var r m).and fun d k r' => tkM [[61]] r' fun _ r' => (P n .term r' m).and fun d' k' r' => tkM [[59]] r' fun _ r' => .ok (at_ (hd r) 14 [] 0) ((one d k).app (one d' k')) r'
    | .to d acc =>
      if seesW r [[116, 111]] = true then (P n .var r.tail m).and fun d' k' r' => tkM [[59]] r' fun _ r' => .ok d (acc.app (one d' k')) r'
      else tkM [[59]] r fun _ r' => .ok d acc r'
    | .var => (P n .tight r m).and fun d k r' => if isVarK d.kind = true then .ok d k r' else .bad 4 r'
    | .term => (P n .sum r m).and fun d k r' =>
      if seesM r' [[60], [61, 61]] = true then (P n .sum r'.tail m).and fun d' k' r'' => .ok (at_ (hd r') 32 (hd r').text 0) ((one d k).app (one d' k')) r''
      else .ok d k r'
    | .sum => (P n .product r m).and fun d k r' => P n (.sumL d k) r' m
    | .sumL d k =>
      if seesM r [[43], [45]] = true then (P n .product r.tail m).and fun d' k' r' => P n (.sumL (at_ (hd r) 32 (hd r).text 0) ((one d k).app (one d' k'))) r' m
      else .ok d k r
    | .product => (P n .unary r m).and fun d k r' => P n (.prodL d k) r' m
    | .prodL d k =>
      if seesM r [[42]] = true then (P n .unary r.tail m).and fun d' k' r' => P n (.prodL (at_ (hd r) 32 (hd r).text 0) ((one d k).app (one d' k'))) r' m
      else .ok d k r
    | .unary =>
      if seesW r [[97, 114, 114], [108, 101, 110]] = true then ent m r fun t r' => (P n .unary r' (m + 1)).and fun d k r' => .ok (at_ t (if t.text = [108, 101, 110] then 35 else 34) [] 0) (one d k) r'
      else P n .tight r m
    | .tight => (P n .first r m).and fun d k r' => P n (.tightL d k) r' m
    | .tightL d k =>
      if seesM r [[46]] = true then tkK 1 r.tail fun nm r' => P n (.tightL (at_ (hd r) 30 nm.text 0) (one d k)) r' m
      else if seesM r [[91]] = true then ent m r fun t r' => (P n .term r' (m + 1)).and fun d' k' r' => tkM [[93]] r' fun _ r' => P n (.tightL (at_ t 31 [] 0) ((one d k).app (one d' k'))) r' m
      else .ok d k r
    | .first =>
      if ((hd r).kind == 3) = true then .ok (at_ (hd r) 26 [] (hd r).n) .nil r.tail
      else if seesW r [[110, 117, 108, 108]] = true then .ok (at_ (hd r) 27 [] 0) .nil r.tail
      else if seesW r [[105, 116]] = true then .ok (at_ (hd r) 28 [] 0) .nil r.tail
      else if seesW r [[110, 101, 119]] = true then tkK 1 r.tail fun nm r' => .ok (at_ (hd r) 33 nm.text 0) .nil r'
      else if seesW r [[102, 110]] = true then (P n .block r.tail m).and fun d k r' => .ok (at_ (hd r) 36 [] 0) (one d k) r'
      else if seesM r [[40]] = true then ent m r fun _ r' => (P n .term r' (m + 1)).and fun d k r' => tkM [[41]] r' fun _ r' => .ok d k r'
      else useO r

/-- The numbers of a forest's trees, and the forest itself, each twig behind its kids, from number b on. -/
def Fo.ids : Nat → Fo → List Int
  | _, .nil => []
  | b, .cons _ k r => ((b + k.size : Nat) : Int) :: r.ids (b + k.size + 1)
def Fo.post : Nat → Fo → List Tw
  | _, .nil => []
  | b, .cons d k r => k.post b ++ d.tw (k.ids b) :: r.post (b + k.size + 1)

theorem Fo.size_app : ∀ f g : Fo, (f.app g).size = f.size + g.size
  | .nil, g => by simp [app, size]
  | .cons d k r, g => by simp [app, size, size_app r g]; omega
theorem Fo.post_len : ∀ (f : Fo) (b : Nat), (f.post b).length = f.size
  | .nil, _ => rfl
  | .cons d k r, b => by simp [post, size, post_len k, post_len r]; omega
theorem Fo.post_app : ∀ (f g : Fo) (b : Nat), (f.app g).post b = f.post b ++ g.post (b + f.size)
  | .nil, g, b => by simp [app, post, size]
  | .cons d k r, g, b => by
    simp only [app, post, size, post_app r g, List.append_assoc, List.cons_append]
    congr 4; omega
theorem Fo.ids_app : ∀ (f g : Fo) (b : Nat), (f.app g).ids b = f.ids b ++ g.ids (b + f.size)
  | .nil, g, b => by simp [app, ids, size]
  | .cons d k r, g, b => by
    simp only [app, ids, size, ids_app r g, List.cons_append]
    congr 3; omega
theorem Fo.app_nil : ∀ f : Fo, f.app .nil = f
  | .nil => rfl
  | .cons d k r => by simp [app, app_nil r]
theorem one_size (d : Nd) (k : Fo) : (one d k).size = k.size + 1 := by simp [one, Fo.size]; omega
theorem one_ids (d : Nd) (k : Fo) (b : Nat) : (one d k).ids b = [((b + k.size : Nat) : Int)] := rfl
theorem one_post (d : Nd) (k : Fo) (b : Nat) : (one d k).post b = k.post b ++ [d.tw (k.ids b)] := rfl

end Go.Proofs.Ythgpepkcjjimlaa
