/- The two small programs that are run may be. -/
import Derived.Test.YtiabhahmippiaaaGreatDoorSwA
namespace Go.Proofs.YtiabhahmippiaaaGreatDoor
open Go.RowKit Go.Shelf
def iJoin : Ins := ⟨29, 0, 0, 0, 0, none, 0, [], 0, 0⟩
def iConst : Ins := ⟨1, 0, 0, 0, 7, none, 0, [], 0, 0⟩
def iAdd : Ins := ⟨3, 0, 0, 0, 0, none, 0, [], 0, 0⟩
def iGet : Ins := ⟨12, 1, 0, 0, 0, none, 0, [], 0, 0⟩
theorem rg3 {x : Ins} {r : Int} (h : namedO x.op ≤ 3) (h0 : inI x.a r = true) (h1 : inI x.b r = true) (h2 : inI x.c r = true) : ∀ i : Nat, (i : Int) < namedO x.op → inI (rgA x i) r = true := by
  intro i hi
  match i, hi with
  | 0, _ => exact h0
  | 1, _ => exact h1
  | 2, _ => exact h2
  | i + 3, hi => exact absurd hi (by omega)
section
variable {b1 b2 b3 b4 b5 bF be : Nat} {As : Option Addr} {cs : Nat} {Ac : Option Addr} {cc : Nat}
theorem partsS_ok {S : List Sit} {C : List Ins} : PartsOk (P2 b1 b2 b3 b4 b5 bF be As cs S (F0 Ac cc C)) where
  n0 := ⟨Nat.le_refl 1, by show 1 ≤ 8; omega⟩
  n1 := by show 1 ≤ 16; omega
  n2 := by show 1 ≤ 32; omega
  n3 := by show 0 ≤ 8; omega
  n4 := by show 1 ≤ 8; omega
  n5 := ⟨Nat.le_refl 1, by show 1 ≤ 64; omega⟩
  mn := rfl
  cls := fun i h => by
    match i, h with
    | 0, _ => exact ⟨by show 2 ≤ 8; omega, rfl⟩
    | i + 1, h => exact absurd h (by show ¬ i + 1 < 1; omega)
  cmp := fun i h => absurd h (Nat.not_lt_zero _)
  evt := fun i h => by
    match i, h with
    | 0, _ => exact ⟨rfl, rfl⟩
    | i + 1, h => exact absurd h (by show ¬ i + 1 < 1; omega)
theorem good_of {S : List Sit} {C : List Ins} (hc : 1 ≤ C.length ∧ C.length ≤ 512) (hi : ∀ (k : Nat) (h : k < C.length), InsOk (P2 b1 b2 b3 b4 b5 bF be As cs S (F0 Ac cc C)) (F0 Ac cc C) C[k] ∧ placeP (P2 b1 b2 b3 b4 b5 bF be As cs S (F0 Ac cc C)) 0 (F0 Ac cc C) k C[k])
    (hl : ∀ (h : C.length - 1 < C.length), C[C.length - 1].op = 33 ∨ C[C.length - 1].op = 31) (hs : cntS C = S.length ∧ S.length ≤ 512) (hn : ∀ (k : Nat) (h : k < C.length), C[k].op ≠ 11) : GoodP (P2 b1 b2 b3 b4 b5 bF be As cs S (F0 Ac cc C)) where
  may := ⟨partsS_ok, fun i h => by
    match i, h with
    | 0, _ => exact ⟨⟨by show (0 : Int) ≤ 4; omega, by show (4 : Int) ≤ 256; omega⟩, ⟨by show (0 : Int) ≤ 0; omega, by show (0 : Int) ≤ 4; omega⟩, hc, hi, hl⟩
    | i + 1, h => exact absurd h (by show ¬ i + 1 < 1; omega), ⟨by have := hs.1; show cntS C + 0 = S.length; omega, hs.2⟩⟩
  glb := fun i h => by
    match i, h with
    | 0, _ => rfl
    | i + 1, h => exact absurd h (by show ¬ i + 1 < 1; omega)
  fld := fun i h k hk => by
    match i, h with
    | 0, _ =>
      match k, hk with
      | 0, _ => rfl
      | 1, _ => rfl
      | k + 2, hk => exact absurd hk (by show ¬ k + 2 < 2; omega)
    | i + 1, h => exact absurd h (by show ¬ i + 1 < 1; omega)
  cel := fun i h k hk => by
    match i, h with
    | 0, _ => exact fun e => absurd e (hn k hk)
    | i + 1, h => exact absurd h (by show ¬ i + 1 < 1; omega)
theorem nol_of {S : List Sit} {C : List Ins} (hi : ∀ (k : Nat) (h : k < C.length), C[k].l = []) : NoL (P2 b1 b2 b3 b4 b5 bF be As cs S (F0 Ac cc C)) := fun i h k hk => by
  match i, h with
  | 0, _ => exact hi k hk
  | i + 1, h => exact absurd h (by show ¬ i + 1 < 1; omega)
theorem codJ : codN [iJoin] 1 ++ [retI] = [⟨29, 0, 0, 0, 0, none, 0, [], 0, 0⟩, retI] := rfl
theorem sitJ : sitN [iJoin] 1 = [⟨0, 0⟩] := rfl
theorem codK : codN [iConst, iAdd, iGet] 3 ++ [retI] = [⟨1, 0, 0, 0, 7, none, 0, [], -1, 0⟩, ⟨3, 0, 0, 0, 0, none, 0, [], -1, 0⟩, ⟨12, 1, 0, 0, 0, none, 0, [], 0, 0⟩, retI] := rfl
theorem sitK : sitN [iConst, iAdd, iGet] 3 = [⟨0, 2⟩] := rfl
theorem goodJ : GoodP (P2 b1 b2 b3 b4 b5 bF be As cs (sitN [iJoin] 1) (F0 Ac cc (codN [iJoin] 1 ++ [retI]))) ∧ NoL (P2 b1 b2 b3 b4 b5 bF be As cs (sitN [iJoin] 1) (F0 Ac cc (codN [iJoin] 1 ++ [retI]))) := by
  rw [codJ, sitJ]
  refine ⟨good_of ⟨by decide, by decide⟩ ?_ (fun _ => Or.inl rfl) ⟨rfl, by decide⟩ ?_, nol_of ?_⟩
  · intro k hk
    match k, hk with
    | 0, _ => exact ⟨⟨of_decide_eq_true rfl, of_decide_eq_true rfl, rg3 (of_decide_eq_true rfl) rfl rfl rfl, fun i h => absurd h (Nat.not_lt_zero _), rfl⟩, ⟨fun h => absurd h (of_decide_eq_true rfl), fun _ => ⟨rfl, _, rfl, rfl, rfl⟩⟩⟩
    | 1, _ => exact ⟨⟨of_decide_eq_true rfl, of_decide_eq_true rfl, rg3 (of_decide_eq_true rfl) rfl rfl rfl, fun i h => absurd h (Nat.not_lt_zero _), rfl⟩, ⟨fun _ => rfl, fun h => absurd h (of_decide_eq_true rfl)⟩⟩
    | k + 2, hk => exact absurd hk (by show ¬ k + 2 < 2; omega)
  · intro k hk
    match k, hk with
    | 0, _ => exact (by decide : ¬ (29 : Int) = 11)
    | 1, _ => exact (by decide : ¬ (33 : Int) = 11)
    | k + 2, hk => exact absurd hk (by show ¬ k + 2 < 2; omega)
  · intro k hk
    match k, hk with
    | 0, _ => rfl
    | 1, _ => rfl
    | k + 2, hk => exact absurd hk (by show ¬ k + 2 < 2; omega)
theorem goodK : GoodP (P2 b1 b2 b3 b4 b5 bF be As cs (sitN [iConst, iAdd, iGet] 3) (F0 Ac cc (codN [iConst, iAdd, iGet] 3 ++ [retI]))) ∧ NoL (P2 b1 b2 b3 b4 b5 bF be As cs (sitN [iConst, iAdd, iGet] 3) (F0 Ac cc (codN [iConst, iAdd, iGet] 3 ++ [retI]))) := by
  rw [codK, sitK]
  refine ⟨good_of ⟨by decide, by decide⟩ ?_ (fun _ => Or.inl rfl) ⟨rfl, by decide⟩ ?_, nol_of ?_⟩
  · intro k hk
    match k, hk with
    | 0, _ => exact ⟨⟨of_decide_eq_true rfl, of_decide_eq_true rfl, rg3 (of_decide_eq_true rfl) rfl rfl rfl, fun i h => absurd h (Nat.not_lt_zero _), rfl⟩, ⟨fun _ => rfl, fun h => absurd h (of_decide_eq_true rfl)⟩⟩
    | 1, _ => exact ⟨⟨of_decide_eq_true rfl, of_decide_eq_true rfl, rg3 (of_decide_eq_true rfl) rfl rfl rfl, fun i h => absurd h (Nat.not_lt_zero _), rfl⟩, ⟨fun _ => rfl, fun h => absurd h (of_decide_eq_true rfl)⟩⟩
    | 2, _ => exact ⟨⟨of_decide_eq_true rfl, of_decide_eq_true rfl, rg3 (of_decide_eq_true rfl) rfl rfl rfl, fun i h => absurd h (Nat.not_lt_zero _), rfl⟩, ⟨fun h => absurd h (of_decide_eq_true rfl), fun _ => ⟨rfl, _, rfl, rfl, rfl⟩⟩⟩
    | 3, _ => exact ⟨⟨of_decide_eq_true rfl, of_decide_eq_true rfl, rg3 (of_decide_eq_true rfl) rfl rfl rfl, fun i h => absurd h (Nat.not_lt_zero _), rfl⟩, ⟨fun _ => rfl, fun h => absurd h (of_decide_eq_true rfl)⟩⟩
    | k + 4, hk => exact absurd hk (by show ¬ k + 4 < 4; omega)
  · intro k hk
    match k, hk with
    | 0, _ => exact (by decide : ¬ (1 : Int) = 11)
    | 1, _ => exact (by decide : ¬ (3 : Int) = 11)
    | 2, _ => exact (by decide : ¬ (12 : Int) = 11)
    | 3, _ => exact (by decide : ¬ (33 : Int) = 11)
    | k + 4, hk => exact absurd hk (by show ¬ k + 4 < 4; omega)
  · intro k hk
    match k, hk with
    | 0, _ => rfl
    | 1, _ => rfl
    | 2, _ => rfl
    | 3, _ => rfl
    | k + 4, hk => exact absurd hk (by show ¬ k + 4 < 4; omega)
end
end Go.Proofs.YtiabhahmippiaaaGreatDoor
