/- token.isWhole, token.Number; token.wordSet: the set of the words, as a map; token.IsWord, token.IsName, token.tokenOf; token.placesOf and the closure that it answers. -/
import Derived.Test.YtehdljcmeimbcaaGreatB01
import Derived.Lib.ConvBytes
import Derived.Maps.Own
import Derived.Maps.OwnSet
import Derived.OneCell
import Derived.Deep.LoopGhost
namespace Go.Proofs.YtehdljcmeimbcaaGreat
open Go.RowKit

theorem conv_str (l : List UInt8) (w : World) :
    (convert 9 22 (.string ⟨l.toArray⟩)).run Tryz.prog w = .ok (.slice (some ⟨w.heap.size, 0, none⟩) l.length (grownCap w l.length 0 5)) (Lib.bytesWorld w 5 ⟨l.toArray⟩) := by
  have h := Lib.run_convert_string_bytes (P := Tryz.prog) w 9 22 5 ⟨l.toArray⟩ Tryz.underlying9 Tryz.underlying22 Tryz.underlying5
  have hs : ByteArray.size ⟨l.toArray⟩ = l.length := by simp [ByteArray.size]
  rw [hs] at h
  exact h
theorem bs_str (l : List UInt8) (w : World) : Bs (Lib.bytesWorld w 5 ⟨l.toArray⟩) w.heap.size 0 l := by
  intro k hk
  rw [Nat.zero_add, Lib.bytesWorld_cell w 5 ⟨l.toArray⟩ k (by simp [ByteArray.size]; exact hk)]
  unfold chr
  rw [List.getD_eq_getElem?_getD]
theorem below_str (s : ByteArray) (w : World) : Below w.heap.size w (Lib.bytesWorld w 5 s) :=
  ⟨rfl, rfl, rfl, by rw [Lib.bytesWorld_size]; omega, fun i hi => Lib.bytesWorld_at_old w _ s i hi⟩

theorem str_at (l : List UInt8) (k : Nat) (h : k < ByteArray.size ⟨l.toArray⟩) : (((⟨l.toArray⟩ : ByteArray)[k]'h).toNat : Int) = chr l k := by
  unfold chr
  have hk : k < l.length := by simpa [ByteArray.size] using h
  rw [List.getElem?_eq_getElem hk]
  rfl
attribute [local go_sem] str_at

def whole (l : List UInt8) (k : Int) : Bool := !l.isEmpty && (kindI (chr l 0) == k) && decide (endT l k 0 = l.length)

set_option maxRecDepth 100000 in
set_option maxHeartbeats 1000000 in
theorem isWhole_ok (l : List UInt8) (k : Int) (w : World) (hn : l.length ≤ 1000000000) :
    Calls Tryz.prog 74 #[.string ⟨l.toArray⟩, .int .i64 k] w fun e w' => e = .returned (.bool (whole l k)) ∧ Below w.heap.size w w' := by
  by_cases h0 : l.length = 0
  · have hs : l = [] := List.eq_nil_of_length_eq_zero h0
    subst hs
    go_enter Tryz.func74, Tryz.ntmps74
    go_wp2_with fail
    go_ret
    exact ⟨rfl, Below.refl _ _⟩
  · have h1 : 0 < l.length := by omega
    have hne : l.isEmpty = false := by cases l <;> simp_all
    go_enter Tryz.func74, Tryz.ntmps74
    have hcs := conv_str l w
    have hk := kindAt_ok (chr l 0)
    have he := endOf_ok l w.heap.size 0 (grownCap w l.length 0 5) k 0 _ (bs_str l w) hn (grownCap_ge w _ _ _) h1
    have HE := Lib.hid he
    have HK := Lib.hid hk
    clear hk he
    by_cases hkk : kindI (chr l 0) = k
    · have hkb : (kindI (chr l 0) == k) = true := by simp [hkk]
      have HKK := Lib.hid hkk
      clear hkk
      go_wp2_with (first | (go_at_call 24; refine (HK.out _).mono ?_; rintro e w' ⟨rfl, rfl⟩) | (go_at_call 25; refine HE.out.mono ?_; rintro e w' ⟨rfl, hbl⟩))
      go_ret
      exact ⟨ret_bool (by rw [whole, hne, hkb, Bool.eq_iff_iff]; simp; omega), (below_str _ _).trans (hbl.mono (below_str _ _).size)⟩
    · have hkb : (kindI (chr l 0) == k) = false := by simp [hkk]
      go_wp2_with (go_at_call 24; refine (HK.out _).mono ?_; rintro e w' ⟨rfl, rfl⟩)
      go_ret
      exact ⟨ret_bool (by simp [whole, hkb]), Below.refl _ _⟩

theorem run_all (k : Int) : ∀ l : List UInt8, run k l = l.length → ∀ j, j < l.length → goes k (chr l j) = true
  | [], _, j, hj => by simp at hj
  | x :: r, h, j, hj => by
    simp only [run] at h
    split at h
    · rename_i hx
      rcases j with _ | j
      · simpa [chr] using hx
      · have := run_all k r (by simpa using h) j (by simpa using hj)
        simpa [chr] using this
    · simp at h

theorem chr_pre2 (l : List UInt8) (h : pre2 l = true) : chr l 0 = 61 ∧ chr l 1 = 61 := by
  unfold pre2 at h
  rw [beq_iff_eq] at h
  rcases l with _ | ⟨x, _ | ⟨y, r⟩⟩
  · simp at h
  · simp at h
  · simp at h
    obtain ⟨rfl, rfl⟩ := h
    exact ⟨rfl, rfl⟩

theorem whole_digits (l : List UInt8) (h : whole l 3 = true) : ∀ j, j < l.length → isD (chr l j) = true := by
  unfold whole at h
  simp only [Bool.and_eq_true, beq_iff_eq, decide_eq_true_eq] at h
  obtain ⟨⟨h0, hk⟩, he⟩ := h
  have hd0 : isD (chr l 0) = true := by
    unfold kindI at hk
    split at hk
    · omega
    · split at hk
      · assumption
      · split at hk <;> omega
  unfold endT at he
  split at he
  · rename_i hp
    rw [List.drop_zero] at hp
    have := (chr_pre2 l hp).1
    rw [this] at hd0
    exact absurd hd0 (by decide)
  · unfold ends at he
    rw [Nat.zero_add] at he
    have hr : run 3 (l.drop 1) = (l.drop 1).length := by
      rw [List.length_drop]; omega
    intro j hj
    rcases j with _ | j
    · exact hd0
    · have := run_all 3 (l.drop 1) hr j (by rw [List.length_drop]; omega)
      rw [chr_drop] at this
      rw [Nat.add_comm] at this
      simpa [goes] using this

def numF : Int → List UInt8 → Option Int
  | n, [] => some n
  | n, x :: r => if 2147483647 < n * 10 + ((x.toNat : Int) - 48) then none else numF (n * 10 + ((x.toNat : Int) - 48)) r
def numA (l : List UInt8) (n : Int) (j : Nat) : Option Int := numF n (l.drop j)
theorem numA_end (l : List UInt8) (n : Int) (j : Nat) (h : l.length ≤ j) : numA l n j = some n := by
  unfold numA; rw [List.drop_of_length_le h]; rfl
theorem numA_big (l : List UInt8) (n : Int) (j : Nat) (h : j < l.length) (hb : 2147483647 < n * 10 + (chr l j - 48)) : numA l n j = none := by
  obtain ⟨x, hd, hx⟩ := drop_chr l j h
  rw [hx] at hb
  unfold numA; rw [hd]; simp only [numF]; rw [if_pos hb]
theorem numA_more (l : List UInt8) (n : Int) (j : Nat) (h : j < l.length) (hb : ¬ 2147483647 < n * 10 + (chr l j - 48)) : numA l n j = numA l (n * 10 + (chr l j - 48)) (j + 1) := by
  obtain ⟨x, hd, hx⟩ := drop_chr l j h
  rw [hx] at hb ⊢
  unfold numA; rw [hd]; simp only [numF]; rw [if_neg hb]
def numT (l : List UInt8) : Int × Bool := if whole l 3 = true then (match numA l 0 0 with | some n => (n, true) | none => (0, false)) else (0, false)

theorem ret_pair {k : IntKind} {a b : Int} {c d : Bool} (h : a = b) (h' : c = d) : Ending.returned (.tuple #[.int k a, .bool c]) = .returned (.tuple #[.int k b, .bool d]) := by rw [h, h']

set_option maxRecDepth 100000 in
set_option maxHeartbeats 1000000 in
theorem number_ok (l : List UInt8) (w : World) (hn : l.length ≤ 1000000000) :
    Calls Tryz.prog 52 #[.string ⟨l.toArray⟩] w fun e w' => e = .returned (.tuple #[.int .i64 (numT l).1, .bool (numT l).2]) ∧ Below w.heap.size w w' := by
  have hw := isWhole_ok l 3 w hn
  cases hwh : whole l 3
  · have HN : Hid (numT l = (0, false)) := Lib.hid (by simp [numT, hwh])
    rw [hwh] at hw
    have HW := Lib.hid hw
    clear hw hwh
    go_enter Tryz.func52, Tryz.ntmps52
    go_wp2_with (go_at_call 74; refine HW.out.mono ?_; rintro e w' ⟨rfl, hbl⟩)
    go_ret2
    exact ⟨by rw [HN.out]; rfl, hbl⟩
  · have HD := Lib.hid (whole_digits l hwh)
    have HN : Hid (numT l = match numA l 0 0 with | some n => (n, true) | none => (0, false)) := Lib.hid (by simp [numT, hwh])
    rw [hwh] at hw
    have HW := Lib.hid hw
    clear hw hwh
    go_enter Tryz.func52, Tryz.ntmps52
    go_wp2_with (go_at_call 74; refine HW.out.mono ?_; rintro e w' ⟨rfl, hbl⟩)
    have HBL := Lib.hid hbl
    clear hbl
    go_loop [4, 11] (fun n i => ∃ (m : Int) (j : Nat), 0 ≤ m ∧ m ≤ 2147483647 ∧ j ≤ l.length ∧ n = .int .i64 m ∧ i = .int .i64 j ∧ Hid (numA l m j = numA l 0 0)) (fun _ i => l.length - (intOf i).toNat)
    case atStart => exact ⟨0, 0, by omega, by omega, by omega, rfl, rfl, Lib.hid rfl⟩
    case round =>
      obtain ⟨m, j, hm0, hm1, hj, rfl, rfl, HJ⟩ := hrel
      by_cases hlj : j < l.length
      · have hd := HD.out j hlj
        have hd1 : 48 ≤ chr l j := by simp [isD] at hd; omega
        have hd2 : chr l j ≤ 57 := by simp [isD] at hd; omega
        clear hd
        by_cases hbig : 2147483647 < m * 10 + (chr l j - 48)
        · go_wp2
          go_ret2
          exact ⟨ret_pair (by rw [HN.out, ← HJ.out, numA_big l m j hlj hbig]) (by rw [HN.out, ← HJ.out, numA_big l m j hlj hbig]), HBL.out⟩
        · go_wp2
          go_round
          case rel => exact ⟨m * 10 + (chr l j - 48), j + 1, by omega, by omega, by omega, rfl, by go_num, Lib.hid ((numA_more l m j hlj hbig).symm.trans HJ.out)⟩
          case measure => simp [intOf]; omega
      · go_wp2
        go_ret2
        exact ⟨ret_pair (by rw [HN.out, ← HJ.out, numA_end l m j (by omega)]) (by rw [HN.out, ← HJ.out, numA_end l m j (by omega)]), HBL.out⟩
end Go.Proofs.YtehdljcmeimbcaaGreat

namespace Go.Proofs.YtehdljcmeimbcaaGreat
open Go.RowKit Go.Maps Go.ChangeMaps

/-- The entries of a set of texts that were put in one behind the other. -/
def ents : Nat → List (List UInt8) → List MapEntry
  | _, [] => []
  | n, s :: r => ⟨.string ⟨s.toArray⟩, .agg #[], n⟩ :: ents (n + 1) r

theorem ents_snoc : ∀ (ws : List (List UInt8)) (n : Nat) (s : List UInt8), ents n (ws ++ [s]) = ents n ws ++ [⟨.string ⟨s.toArray⟩, .agg #[], n + ws.length⟩]
  | [], n, s => by simp [ents]
  | x :: r, n, s => by
    simp only [List.cons_append, ents, ents_snoc r (n + 1) s, List.length_cons]
    congr 4
    omega

theorem bytes_beq (a b : List UInt8) : ((⟨a.toArray⟩ : ByteArray) == ⟨b.toArray⟩) = (a == b) := by
  rw [Bool.eq_iff_iff, MapKept.bytes_beq]
  simp

theorem find_ents (l : List UInt8) : ∀ (ws : List (List UInt8)) (n i : Nat),
    ∃ j, Instr.findNow .string (.string ⟨l.toArray⟩) (ents n ws) i = some (if ws.contains l = true then some (j, .agg #[]) else none)
  | [], n, i => ⟨0, by simp [ents, Instr.findNow]⟩
  | s :: r, n, i => by
    obtain ⟨j, ih⟩ := find_ents l r (n + 1) (i + 1)
    simp only [ents, Instr.findNow, Instr.sameNow, bytes_beq]
    by_cases h : l = s
    · subst h; exact ⟨i, by simp⟩
    · have h1 : (l == s) = false := by simpa using h
      refine ⟨j, ?_⟩
      rw [h1]
      simp only [ih, List.contains_cons, h1, Bool.false_or]

theorem push_set (a : Array Obj) (x y : Obj) : (a.push x).setIfInBounds a.size y = a.push y := by
  apply Array.ext_getElem?
  intro i
  rw [Array.getElem?_setIfInBounds, Array.getElem?_push, Array.getElem?_push]
  by_cases h : a.size = i
  · subst h; simp
  · have : ¬ i = a.size := fun e => h e.symm
    simp [h, this]

theorem upd_run (w : World) (es : Array MapEntry) (n : Nat) (s : ByteArray) (v : Value) (h : Instr.findNow .string (.string s) es.toList 0 = some none) :
    (Instr.mapUpdate 51 (.map (some w.heap.size)) (.string s) v).run Tryz.prog (w.alloc (.map es n)) = .ok () (w.alloc (.map (es.push ⟨.string s, v, n⟩) (n + 1))) := by
  have hb : (w.alloc (.map es n)).heap[w.heap.size]? = some (.map es n) := heap_alloc_new w _
  have hc : ∀ m W, (Instr.checkKey false (m + 1) 9 (.string s)).run Tryz.prog W = .ok () W := fun m W => MapKept.run_checkKey (k := .string s) Tryz.underlying9 trivial false m
  have hset : ∀ o, (setObj w.heap.size o).run Tryz.prog (w.alloc (.map es n)) = .ok () (w.alloc o) := fun o => by
    rw [MapKept.run_setObj_map o hb]
    simp [World.alloc, -World.alloc_eq, push_set]
  simp [Instr.mapUpdate, run_underlying Tryz.underlying51, MapKept.run_getObj_map hb, hc, Instr.findKey, run_underlying Tryz.underlying9, h, Result.andThen, hset]

def wordsL : List (List UInt8) := [[97, 102, 116, 101, 114], [97, 114, 114], [99, 97, 108, 108], [99, 97, 110, 99, 101, 108], [99, 108, 97, 115, 115], [99, 111, 109, 112], [99, 114, 101, 97, 116, 101], [100, 101, 115, 116, 114, 111, 121], [100, 105, 115, 97, 98, 108, 101], [101, 108, 115, 101], [101, 110, 97, 98, 108, 101], [101, 118, 101, 110, 116], [102, 110], [102, 114, 111, 110, 116], [104, 97, 110, 100], [105, 102], [105, 110, 116], [105, 116], [106, 111, 105, 110], [108, 101, 110], [108, 111, 103], [108, 111, 111, 112, 101, 114], [109, 97, 105, 110], [110, 101, 119], [110, 117, 108, 108], [111, 102, 102], [111, 110], [112, 111, 115, 116], [114, 101, 116, 117, 114, 110], [115, 112, 97, 119, 110], [115, 116, 97, 114, 116], [115, 116, 111, 112], [116, 111], [116, 111, 107], [118, 97, 114], [119, 104, 105, 108, 101]]
def isW (l : List UInt8) : Bool := wordsL.contains l
def wobj (ws : List (List UInt8)) : Obj := .map (ents 0 ws).toArray ws.length

theorem ins_run (w : World) (ws : List (List UInt8)) (s : List UInt8) (h : ws.contains s = false) :
    (Instr.mapUpdate 51 (.map (some w.heap.size)) (.string ⟨s.toArray⟩) (.agg #[])).run Tryz.prog (w.alloc (wobj ws)) = .ok () (w.alloc (wobj (ws ++ [s]))) := by
  obtain ⟨j, hj⟩ := find_ents s ws 0 0
  rw [h] at hj
  have := upd_run w (ents 0 ws).toArray ws.length ⟨s.toArray⟩ (.agg #[]) (by simpa using hj)
  unfold wobj
  rw [this, ents_snoc, List.length_append]
  simp

def wk (i : Nat) : List (List UInt8) := wordsL.take i

theorem ins_wk (w : World) (i j : Nat) (s : List UInt8) (hs : wordsL[i]? = some s) (h : (wordsL.take i).contains s = false) (hj : j = i + 1) :
    (Instr.mapUpdate 51 (.map (some w.heap.size)) (.string ⟨s.toArray⟩) (.agg #[])).run Tryz.prog (w.alloc (wobj (wk i))) = .ok () (w.alloc (wobj (wk j))) := by
  subst hj
  have hr := ins_run w (wk i) s h
  rw [hr]
  unfold wk
  rw [List.take_add_one, hs]
  rfl

set_option maxRecDepth 100000 in
set_option maxHeartbeats 4000000 in
theorem wordSet_ok (w : World) :
    Calls Tryz.prog 21 #[] w fun e w' => e = .returned (.map (some w.heap.size)) ∧ w' = w.alloc (wobj (wk 36)) := by
  have hmm : ∀ u : World, (Instr.makeMap 51 none).run Tryz.prog u = .ok (.map (some u.heap.size)) (u.alloc (wobj (wk 0))) := fun u => rfl
  have i0 := ins_wk w 0 1 [97, 102, 116, 101, 114] rfl (by decide) rfl
  have i1 := ins_wk w 1 2 [97, 114, 114] rfl (by decide) rfl
  have i2 := ins_wk w 2 3 [99, 97, 108, 108] rfl (by decide) rfl
  have i3 := ins_wk w 3 4 [99, 97, 110, 99, 101, 108] rfl (by decide) rfl
  have i4 := ins_wk w 4 5 [99, 108, 97, 115, 115] rfl (by decide) rfl
  have i5 := ins_wk w 5 6 [99, 111, 109, 112] rfl (by decide) rfl
  have i6 := ins_wk w 6 7 [99, 114, 101, 97, 116, 101] rfl (by decide) rfl
  have i7 := ins_wk w 7 8 [100, 101, 115, 116, 114, 111, 121] rfl (by decide) rfl
  have i8 := ins_wk w 8 9 [100, 105, 115, 97, 98, 108, 101] rfl (by decide) rfl
  have i9 := ins_wk w 9 10 [101, 108, 115, 101] rfl (by decide) rfl
  have i10 := ins_wk w 10 11 [101, 110, 97, 98, 108, 101] rfl (by decide) rfl
  have i11 := ins_wk w 11 12 [101, 118, 101, 110, 116] rfl (by decide) rfl
  have i12 := ins_wk w 12 13 [102, 110] rfl (by decide) rfl
  have i13 := ins_wk w 13 14 [102, 114, 111, 110, 116] rfl (by decide) rfl
  have i14 := ins_wk w 14 15 [104, 97, 110, 100] rfl (by decide) rfl
  have i15 := ins_wk w 15 16 [105, 102] rfl (by decide) rfl
  have i16 := ins_wk w 16 17 [105, 110, 116] rfl (by decide) rfl
  have i17 := ins_wk w 17 18 [105, 116] rfl (by decide) rfl
  have i18 := ins_wk w 18 19 [106, 111, 105, 110] rfl (by decide) rfl
  have i19 := ins_wk w 19 20 [108, 101, 110] rfl (by decide) rfl
  have i20 := ins_wk w 20 21 [108, 111, 103] rfl (by decide) rfl
  have i21 := ins_wk w 21 22 [108, 111, 111, 112, 101, 114] rfl (by decide) rfl
  have i22 := ins_wk w 22 23 [109, 97, 105, 110] rfl (by decide) rfl
  have i23 := ins_wk w 23 24 [110, 101, 119] rfl (by decide) rfl
  have i24 := ins_wk w 24 25 [110, 117, 108, 108] rfl (by decide) rfl
  have i25 := ins_wk w 25 26 [111, 102, 102] rfl (by decide) rfl
  have i26 := ins_wk w 26 27 [111, 110] rfl (by decide) rfl
  have i27 := ins_wk w 27 28 [112, 111, 115, 116] rfl (by decide) rfl
  have i28 := ins_wk w 28 29 [114, 101, 116, 117, 114, 110] rfl (by decide) rfl
  have i29 := ins_wk w 29 30 [115, 112, 97, 119, 110] rfl (by decide) rfl
  have i30 := ins_wk w 30 31 [115, 116, 97, 114, 116] rfl (by decide) rfl
  have i31 := ins_wk w 31 32 [115, 116, 111, 112] rfl (by decide) rfl
  have i32 := ins_wk w 32 33 [116, 111] rfl (by decide) rfl
  have i33 := ins_wk w 33 34 [116, 111, 107] rfl (by decide) rfl
  have i34 := ins_wk w 34 35 [118, 97, 114] rfl (by decide) rfl
  have i35 := ins_wk w 35 36 [119, 104, 105, 108, 101] rfl (by decide) rfl
  go_enter Tryz.func21, Tryz.ntmps21
  go_wp2
  go_ret
  exact ⟨rfl, rfl⟩

theorem look_run (w : World) (b : Nat) (l : List UInt8) (hb : w.heap[b]? = some (wobj (wk 36))) :
    (Instr.lookup 51 (.map (some b)) (.string ⟨l.toArray⟩) true).run Tryz.prog w = .ok (.tuple #[.agg #[], .bool (isW l)]) w := by
  have hc : ∀ e m W, (Instr.checkKey e (m + 1) 9 (.string ⟨l.toArray⟩)).run Tryz.prog W = .ok () W := fun e m W => MapKept.run_checkKey (k := .string ⟨l.toArray⟩) Tryz.underlying9 trivial e m
  have hz : ∀ W, (zeroValue 89).run Tryz.prog W = .ok (.agg #[]) W := fun W => by kernel_rfl
  obtain ⟨j, hj⟩ := find_ents l (wk 36) 0 0
  have hwk : (wk 36).contains l = isW l := rfl
  rw [hwk] at hj
  unfold wobj at hb
  cases hw : isW l
  · rw [hw] at hj
    simp [Instr.lookup, run_underlying Tryz.underlying51, MapKept.run_getObj_map hb, hc, Instr.findKey, run_underlying Tryz.underlying9, hj, Result.andThen, hz]
  · rw [hw] at hj
    simp [Instr.lookup, run_underlying Tryz.underlying51, MapKept.run_getObj_map hb, hc, Instr.findKey, run_underlying Tryz.underlying9, hj, Result.andThen]
end Go.Proofs.YtehdljcmeimbcaaGreat

namespace Go.Proofs.YtehdljcmeimbcaaGreat
open Go.RowKit

theorem heap_below {B : Nat} {w w' : World} (h : Below B w w') {b : Nat} {o : Obj} (hb : b < B) (ho : w.heap[b]? = some o) : w'.heap[b]? = some o := (h.block b hb).trans ho

/-- All that lay below a bound lies there as before. -/
theorem below_cells {W w1 : World} {B : Nat} (hb : Below B W w1) : (∀ b o, b < B → w1.cell? ⟨b, o, none⟩ = W.cell? ⟨b, o, none⟩) ∧ (∀ b o, b < B → w1.frozen? ⟨b, o, none⟩ = W.frozen? ⟨b, o, none⟩) :=
  ⟨fun b o h => hb.cell (p := ⟨b, o, none⟩) h, fun b o h => hb.frozen (p := ⟨b, o, none⟩) h⟩

/-- A token without its place. -/
def tkind (k : Int) (l : List UInt8) : Int := if k = 1 ∧ isW l = true then 2 else k
def tnum (k : Int) (l : List UInt8) : Int := if k = 3 then (numT l).1 else 0
def terr (k : Int) (l : List UInt8) : Int := if k = 1 then (if 32 < l.length then 9 else 0) else if k = 3 then (if (numT l).2 = true then 0 else 9) else 0

set_option maxRecDepth 100000 in
set_option maxHeartbeats 1000000 in
theorem tokenOf_mark (l : List UInt8) (v : Value) (w : World) :
    Calls Tryz.prog 26 #[.string ⟨l.toArray⟩, .int .i64 4, v] w fun e w' => e = .returned (.tuple #[.agg #[.int .i64 4, .string ⟨l.toArray⟩, .int .i64 0, .int .i64 0, .int .i64 0], .int .i64 0]) ∧ Below w.heap.size w w' := by
  go_enter Tryz.func26, Tryz.ntmps26
  go_wp2
  exact bodyPost_ret (v := .tuple #[.agg #[.int .i64 4, .string ⟨l.toArray⟩, .int .i64 0, .int .i64 0, .int .i64 0], .int .i64 0]) (by simp [results, Tryz.results26, go_sem]) rfl ⟨rfl, ((Below.refl _ _).alloc (Nat.le_refl _) _).alloc (by simp) _⟩

set_option maxRecDepth 100000 in
set_option maxHeartbeats 1000000 in
theorem tokenOf_name (l : List UInt8) (mb : Nat) (w : World) (hm : w.heap[mb]? = some (wobj (wk 36))) (hn : l.length ≤ 1000000000) :
    Calls Tryz.prog 26 #[.string ⟨l.toArray⟩, .int .i64 1, .map (some mb)] w fun e w' => e = .returned (.tuple #[.agg #[.int .i64 (tkind 1 l), .string ⟨l.toArray⟩, .int .i64 0, .int .i64 0, .int .i64 0], .int .i64 (terr 1 l)]) ∧ Below w.heap.size w w' := by
  have hlt : mb < w.heap.size := (Array.getElem?_eq_some_iff.1 hm).1
  have hl := fun o1 o2 => look_run ((w.alloc o1).alloc o2) mb l (by rw [Below.heap_alloc _ _ _ (by simp; omega), Below.heap_alloc _ _ _ hlt]; exact hm)
  clear hm
  cases hw : isW l
  · have hk : tkind 1 l = 1 := by simp [tkind, hw]
    rw [hk]
    simp only [hw] at hl
    clear hk hw
    by_cases h32 : 32 < l.length
    · have he : terr 1 l = 9 := by simp [terr, h32]
      rw [he]
      clear he
      go_enter Tryz.func26, Tryz.ntmps26
      go_wp2
      exact bodyPost_ret (v := .tuple #[.agg #[.int .i64 1, .string ⟨l.toArray⟩, .int .i64 0, .int .i64 0, .int .i64 0], .int .i64 9]) (by simp [results, Tryz.results26, go_sem]) rfl ⟨rfl, (((Below.refl _ _).alloc (Nat.le_refl _) _).alloc (by simp) _).alloc (by simp; omega) _⟩
    · have he : terr 1 l = 0 := by simp [terr, h32]
      rw [he]
      clear he
      go_enter Tryz.func26, Tryz.ntmps26
      go_wp2
      exact bodyPost_ret (v := .tuple #[.agg #[.int .i64 1, .string ⟨l.toArray⟩, .int .i64 0, .int .i64 0, .int .i64 0], .int .i64 0]) (by simp [results, Tryz.results26, go_sem]) rfl ⟨rfl, (((Below.refl _ _).alloc (Nat.le_refl _) _).alloc (by simp) _).alloc (by simp; omega) _⟩
  · have hk : tkind 1 l = 2 := by simp [tkind, hw]
    rw [hk]
    simp only [hw] at hl
    clear hk hw
    by_cases h32 : 32 < l.length
    · have he : terr 1 l = 9 := by simp [terr, h32]
      rw [he]
      clear he
      go_enter Tryz.func26, Tryz.ntmps26
      go_wp2
      exact bodyPost_ret (v := .tuple #[.agg #[.int .i64 2, .string ⟨l.toArray⟩, .int .i64 0, .int .i64 0, .int .i64 0], .int .i64 9]) (by simp [results, Tryz.results26, go_sem]) rfl ⟨rfl, (((Below.refl _ _).alloc (Nat.le_refl _) _).alloc (by simp) _).alloc (by simp; omega) _⟩
    · have he : terr 1 l = 0 := by simp [terr, h32]
      rw [he]
      clear he
      go_enter Tryz.func26, Tryz.ntmps26
      go_wp2
      exact bodyPost_ret (v := .tuple #[.agg #[.int .i64 2, .string ⟨l.toArray⟩, .int .i64 0, .int .i64 0, .int .i64 0], .int .i64 0]) (by simp [results, Tryz.results26, go_sem]) rfl ⟨rfl, (((Below.refl _ _).alloc (Nat.le_refl _) _).alloc (by simp) _).alloc (by simp; omega) _⟩

set_option maxRecDepth 100000 in
set_option maxHeartbeats 1000000 in
theorem tokenOf_num (l : List UInt8) (v : Value) (w : World) (hn : l.length ≤ 1000000000) :
    Calls Tryz.prog 26 #[.string ⟨l.toArray⟩, .int .i64 3, v] w fun e w' => e = .returned (.tuple #[.agg #[.int .i64 3, .string ⟨l.toArray⟩, .int .i64 (tnum 3 l), .int .i64 0, .int .i64 0], .int .i64 (terr 3 l)]) ∧ Below w.heap.size w w' := by
  have hnum := fun w => number_ok l w hn
  have ht : tnum 3 l = (numT l).1 := by simp [tnum]
  rw [ht]
  clear ht
  generalize hq : numT l = q at hnum ⊢
  obtain ⟨q1, q2⟩ := q
  cases q2
  · have he : terr 3 l = 9 := by simp [terr, hq]
    have h1 : q1 = 0 := by
      unfold numT at hq
      split at hq
      · split at hq <;> simp_all
      · simp_all
    subst h1
    rw [he]
    clear he hq
    have HN := Lib.hid hnum
    clear hnum
    go_enter Tryz.func26, Tryz.ntmps26
    go_wp2_with (go_at_call 52; refine (HN.out _).mono ?_; rintro e w' ⟨rfl, hbl⟩; have hz := hbl.size; obtain ⟨hc', hf'⟩ := below_cells hbl)
    obtain ⟨hc, hf⟩ := below_cells hbl
    have c0 : w'.cell? ⟨w.heap.size, 0, none⟩ = some (.int .i64 0) := by rw [hc _ _ (by simp; omega)]; simp [go_sem]
    have c1 : w'.cell? ⟨w.heap.size, 1, none⟩ = some (.string ⟨#[]⟩) := by rw [hc _ _ (by simp; omega)]; simp [go_sem]
    have c2 : w'.cell? ⟨w.heap.size, 2, none⟩ = some (.int .i64 0) := by rw [hc _ _ (by simp; omega)]; simp [go_sem]
    have c3 : w'.cell? ⟨w.heap.size, 3, none⟩ = some (.int .i64 0) := by rw [hc _ _ (by simp; omega)]; simp [go_sem]
    have c4 : w'.cell? ⟨w.heap.size, 4, none⟩ = some (.int .i64 0) := by rw [hc _ _ (by simp; omega)]; simp [go_sem]
    clear hc hf hz hc' hf'
    have hb0 : Below w.heap.size w w' := (((Below.refl _ _).alloc (Nat.le_refl _) _).alloc (by simp) _).trans (hbl.mono (by simp; omega))
    refine bodyPost_ret (v := .tuple #[.agg #[.int .i64 3, .string ⟨l.toArray⟩, .int .i64 0, .int .i64 0, .int .i64 0], .int .i64 9]) (by simp [results, Tryz.results26, go_sem, c0, c1, c2, c3, c4]) rfl ⟨rfl, ?_⟩
    exact ((((hb0.setCell (Nat.le_refl _) _).setCell (Nat.le_refl _) _).setCell (Nat.le_refl _) _).setCell (Nat.le_refl _) _).setCell (Nat.le_refl _) _
  · have he : terr 3 l = 0 := by simp [terr, hq]
    rw [he]
    clear he hq
    have HN := Lib.hid hnum
    clear hnum
    go_enter Tryz.func26, Tryz.ntmps26
    go_wp2_with (go_at_call 52; refine (HN.out _).mono ?_; rintro e w' ⟨rfl, hbl⟩; have hz := hbl.size; obtain ⟨hc', hf'⟩ := below_cells hbl)
    obtain ⟨hc, hf⟩ := below_cells hbl
    have c0 : w'.cell? ⟨w.heap.size, 0, none⟩ = some (.int .i64 0) := by rw [hc _ _ (by simp; omega)]; simp [go_sem]
    have c1 : w'.cell? ⟨w.heap.size, 1, none⟩ = some (.string ⟨#[]⟩) := by rw [hc _ _ (by simp; omega)]; simp [go_sem]
    have c2 : w'.cell? ⟨w.heap.size, 2, none⟩ = some (.int .i64 0) := by rw [hc _ _ (by simp; omega)]; simp [go_sem]
    have c3 : w'.cell? ⟨w.heap.size, 3, none⟩ = some (.int .i64 0) := by rw [hc _ _ (by simp; omega)]; simp [go_sem]
    have c4 : w'.cell? ⟨w.heap.size, 4, none⟩ = some (.int .i64 0) := by rw [hc _ _ (by simp; omega)]; simp [go_sem]
    clear hc hf hz hc' hf'
    have hb0 : Below w.heap.size w w' := (((Below.refl _ _).alloc (Nat.le_refl _) _).alloc (by simp) _).trans (hbl.mono (by simp; omega))
    refine bodyPost_ret (v := .tuple #[.agg #[.int .i64 3, .string ⟨l.toArray⟩, .int .i64 q1, .int .i64 0, .int .i64 0], .int .i64 0]) (by simp [results, Tryz.results26, go_sem, c0, c1, c2, c3, c4]) rfl ⟨rfl, ?_⟩
    exact (((((hb0.setCell (p := ⟨w.heap.size + 1, 2, none⟩) (by simp) _).setCell (Nat.le_refl _) _).setCell (Nat.le_refl _) _).setCell (Nat.le_refl _) _).setCell (Nat.le_refl _) _).setCell (Nat.le_refl _) _

theorem kind_cases (c : Int) : kindI c = 0 ∨ kindI c = 1 ∨ kindI c = 3 ∨ kindI c = 4 := by
  unfold kindI
  split
  · exact .inr (.inl rfl)
  · split
    · exact .inr (.inr (.inl rfl))
    · split
      · exact .inr (.inr (.inr rfl))
      · exact .inl rfl

theorem tokenOf_ok (l : List UInt8) (k : Int) (mb : Nat) (w : World) (hk : k = 1 ∨ k = 3 ∨ k = 4) (hm : w.heap[mb]? = some (wobj (wk 36))) (hn : l.length ≤ 1000000000) :
    Calls Tryz.prog 26 #[.string ⟨l.toArray⟩, .int .i64 k, .map (some mb)] w fun e w' => e = .returned (.tuple #[.agg #[.int .i64 (tkind k l), .string ⟨l.toArray⟩, .int .i64 (tnum k l), .int .i64 0, .int .i64 0], .int .i64 (terr k l)]) ∧ Below w.heap.size w w' := by
  rcases hk with rfl | rfl | rfl
  · exact tokenOf_name l mb w hm hn
  · exact tokenOf_num l _ w hn
  · exact tokenOf_mark l _ w
end Go.Proofs.YtehdljcmeimbcaaGreat

namespace Go.Proofs.YtehdljcmeimbcaaGreat
open Go.RowKit

/-- The line of a place, and where that line begins. -/
def lineOf (l : List UInt8) : Nat → Nat
  | 0 => 1
  | p + 1 => if chr l p = 10 then lineOf l p + 1 else lineOf l p
def fromOf (l : List UInt8) : Nat → Nat
  | 0 => 0
  | p + 1 => if chr l p = 10 then p + 1 else fromOf l p
theorem fromOf_le (l : List UInt8) : ∀ p, fromOf l p ≤ p
  | 0 => Nat.le_refl _
  | p + 1 => by
    have := fromOf_le l p
    simp only [fromOf]; split <;> omega
theorem lineOf_le (l : List UInt8) : ∀ p, lineOf l p ≤ p + 1
  | 0 => Nat.le_refl _
  | p + 1 => by
    have := lineOf_le l p
    simp only [lineOf]; split <;> omega

/-- The closure's four variables: the text, its line, its line's beginning, how far it has come. -/
structure Pl (w : World) (g : Nat) (v : Value) (a b c : Nat) : Prop where
  text : w.heap[g]? = some (.cells #[v] 22 (0, 0))
  line : w.heap[g + 1]? = some (.cells #[.int .i64 a] 3 (0, 0))
  first : w.heap[g + 2]? = some (.cells #[.int .i64 b] 3 (0, 0))
  seen : w.heap[g + 3]? = some (.cells #[.int .i64 c] 3 (0, 0))

/-- Only the closure's three numbers have turned. -/
structure Pt (g : Nat) (w w' : World) : Prop where
  os : w'.os = w.os
  tape : w'.tape = w.tape
  output : w'.output = w.output
  size : w'.heap.size = w.heap.size
  block : ∀ k, k < g + 1 ∨ g + 3 < k → w'.heap[k]? = w.heap[k]?

theorem Pt.refl (g : Nat) (w : World) : Pt g w w := ⟨rfl, rfl, rfl, rfl, fun _ _ => rfl⟩
theorem Pt.set {g : Nat} {w w' : World} (h : Pt g w w') (p : Addr) (hp : g + 1 ≤ p.block ∧ p.block ≤ g + 3) (u : Value) : Pt g w (w'.setCell p u) :=
  ⟨h.os, h.tape, h.output, by simpa [World.setCell] using h.size, fun k hk => (Below.heap_setCell w' p u k (by omega)).trans (h.block k hk)⟩
theorem Pt.trans {g : Nat} {a b c : World} (h : Pt g a b) (k : Pt g b c) : Pt g a c :=
  ⟨k.os.trans h.os, k.tape.trans h.tape, k.output.trans h.output, k.size.trans h.size, fun i hi => (k.block i hi).trans (h.block i hi)⟩
theorem Pt.drewN {g : Nat} {w w' : World} (h : Pt g w w') (n : Nat) : Pt g w (w'.drewN n) := ⟨h.os, h.tape, h.output, h.size, h.block⟩
theorem Pt.drew {g : Nat} {w w' : World} (h : Pt g w w') : Pt g w w'.drew := ⟨h.os, h.tape, h.output, h.size, h.block⟩

theorem Pl.setLine {w : World} {g : Nat} {v : Value} {a b c : Nat} (h : Pl w g v a b c) (n : Nat) : Pl (w.setCell ⟨g + 1, 0, none⟩ (.int .i64 n)) g v n b c :=
  ⟨(Below.heap_setCell _ _ _ _ (by simp)).trans h.text, one_setCell h.line, (Below.heap_setCell _ _ _ _ (by simp)).trans h.first, (Below.heap_setCell _ _ _ _ (by simp)).trans h.seen⟩
theorem Pl.setFirst {w : World} {g : Nat} {v : Value} {a b c : Nat} (h : Pl w g v a b c) (n : Nat) : Pl (w.setCell ⟨g + 2, 0, none⟩ (.int .i64 n)) g v a n c :=
  ⟨(Below.heap_setCell _ _ _ _ (by simp)).trans h.text, (Below.heap_setCell _ _ _ _ (by simp)).trans h.line, one_setCell h.first, (Below.heap_setCell _ _ _ _ (by simp)).trans h.seen⟩
theorem Pl.setSeen {w : World} {g : Nat} {v : Value} {a b c : Nat} (h : Pl w g v a b c) (n : Nat) : Pl (w.setCell ⟨g + 3, 0, none⟩ (.int .i64 n)) g v a b n :=
  ⟨(Below.heap_setCell _ _ _ _ (by simp)).trans h.text, (Below.heap_setCell _ _ _ _ (by simp)).trans h.line, (Below.heap_setCell _ _ _ _ (by simp)).trans h.first, one_setCell h.seen⟩

def plv (g : Nat) : Value := .func (.func 46) #[] #[.pointer (some ⟨g + 3, 0, none⟩), .pointer (some ⟨g, 0, none⟩), .pointer (some ⟨g + 1, 0, none⟩), .pointer (some ⟨g + 2, 0, none⟩)]

set_option maxRecDepth 100000 in
set_option maxHeartbeats 1000000 in
theorem placesOf_ok (A : Option Addr) (n cap : Nat) (w : World) :
    Calls Tryz.prog 22 #[.slice A n cap] w fun e w' => e = .returned (plv w.heap.size) ∧ Below w.heap.size w w' ∧ Pl w' w.heap.size (.slice A n cap) 1 0 0 ∧ w'.heap.size = w.heap.size + 4 := by
  go_enter Tryz.func22, Tryz.ntmps22
  go_wp2
  go_ret
  refine ⟨rfl, ((((Below.refl _ _).alloc (Nat.le_refl _) _).alloc (by simp) _).alloc (by simp; omega) _).alloc (by simp; omega) _, ⟨?_, ?_, ?_, ?_⟩, by simp⟩
  · rw [Below.heap_alloc _ _ _ (by simp; omega), Below.heap_alloc _ _ _ (by simp; omega), Below.heap_alloc _ _ _ (by simp)]
    exact heap_alloc_new w _
  · rw [Below.heap_alloc _ _ _ (by simp), Below.heap_alloc _ _ _ (by simp)]
    have := heap_alloc_new (w.alloc (.cells #[.slice A n cap] 22)) (.cells #[.int .i64 1] 3)
    simpa using this
  · rw [Below.heap_alloc _ _ _ (by simp)]
    have := heap_alloc_new ((w.alloc (.cells #[.slice A n cap] 22)).alloc (.cells #[.int .i64 1] 3)) (.cells #[.int .i64 0] 3)
    simpa using this
  · have := heap_alloc_new (((w.alloc (.cells #[.slice A n cap] 22)).alloc (.cells #[.int .i64 1] 3)).alloc (.cells #[.int .i64 0] 3)) (.cells #[.int .i64 0] 3)
    simpa using this

def PlR (l : List UInt8) (g : Nat) (v : Value) (w : World) (q : Nat) (k : Nat) (wr : World) : Prop :=
  ∃ j : Nat, j + k = q ∧ Pl wr g v (lineOf l j) (fromOf l j) j ∧ Pt g w wr

set_option maxRecDepth 100000 in
set_option maxHeartbeats 1000000 in
theorem place_ok (l : List UInt8) (b off cap g s q : Nat) (w : World) (hb : Bs w b off l) (hn : l.length ≤ 1000000000) (hq : q ≤ l.length) (hs : s ≤ q) (hg : b < g)
    (hp : Pl w g (.slice (some ⟨b, off, none⟩) l.length cap) (lineOf l s) (fromOf l s) s) :
    Calls Tryz.prog 46 #[.int .i64 q, .pointer (some ⟨g + 3, 0, none⟩), .pointer (some ⟨g, 0, none⟩), .pointer (some ⟨g + 1, 0, none⟩), .pointer (some ⟨g + 2, 0, none⟩)] w
      fun e w' => e = .returned (.tuple #[.int .i64 (lineOf l q), .int .i64 ((q : Int) - fromOf l q + 1)]) ∧ Pl w' g (.slice (some ⟨b, off, none⟩) l.length cap) (lineOf l q) (fromOf l q) q ∧ Pt g w w' := by
  have HB := Lib.hid hb
  clear hb
  go_enter Tryz.func46, Tryz.ntmps46
  go_wp2
  go_loopg [8] (q - s) (fun k x wr => PlR l g (.slice (some ⟨b, off, none⟩) l.length cap) w q k wr)
  case atStart => exact ⟨s, by omega, hp, Pt.refl _ _⟩
  case round =>
    obtain ⟨j, hjk, hpl, hpt⟩ := hrel
    have c0 := cell_of_one hpl.text
    have c1 := cell_of_one hpl.line
    have c2 := cell_of_one hpl.first
    have c3 := cell_of_one hpl.seen
    have f1 := free_of_one hpl.line
    have f2 := free_of_one hpl.first
    have f3 := free_of_one hpl.seen
    have HPL := Lib.hid hpl
    have HPT := Lib.hid hpt
    have HJ := Lib.hid hjk
    have hl1 := lineOf_le l j
    have hf1 := fromOf_le l j
    clear hpl hpt hp
    by_cases hlt : j < q
    · have hcell : wr.cell? ⟨b, off + j, none⟩ = some (.int .u8 (chr l j)) := (World.cell?_of_block (HPT.out.block b (by omega))).trans (HB.out j (by omega))
      clear hjk
      by_cases h10 : chr l j = 10
      · have h10' : (chr l j == 10) = true := by simp [h10]
        have H10 := Lib.hid h10
        clear h10
        go_wp2
        go_roundg (gk - 1)
        case measure => have := HJ.out; omega
        case rel =>
          refine ⟨j + 1, by have := HJ.out; omega, ?_, ((HPT.out.set _ (by simp) _).set _ (by simp) _).set _ (by simp) _⟩
          have e1 : lineOf l (j + 1) = lineOf l j + 1 := by simp [lineOf, H10.out]
          have e2 : fromOf l (j + 1) = j + 1 := by simp [fromOf, H10.out]
          rw [e1, e2]
          have := ((HPL.out.setLine (lineOf l j + 1)).setFirst (j + 1)).setSeen (j + 1)
          simpa using this
      · have h10' : (chr l j == 10) = false := by simp [h10]
        go_wp2
        go_roundg (gk - 1)
        case measure => have := HJ.out; omega
        case rel =>
          refine ⟨j + 1, by have := HJ.out; omega, ?_, HPT.out.set _ (by simp) _⟩
          have e1 : lineOf l (j + 1) = lineOf l j := by simp [lineOf, h10]
          have e2 : fromOf l (j + 1) = fromOf l j := by simp [fromOf, h10]
          rw [e1, e2]
          have := HPL.out.setSeen (j + 1)
          simpa using this
    · obtain rfl : j = q := by have := HJ.out; omega
      clear hjk
      go_wp2
      go_quiet (fail)
      go_wp2
      go_ret2
      exact ⟨rfl, ⟨HPL.out.text, HPL.out.line, HPL.out.first, HPL.out.seen⟩, HPT.out.drewN nq⟩
end Go.Proofs.YtehdljcmeimbcaaGreat
