/- The document's printer in memory: term, declaration, statement, of any kind; The document's text of a tree: how long it is; its kids' texts, one by one; A region that draws its order, each of whose operations, what it hangs on being good, gives what is good and only makes memory: each operation is looked at once, not each order. -/
import Derived.Test.YtehdljcmeimbcaaGreatB23
import Derived.Test.YtehdljcmeimbcaaGreatB24
import Derived.Test.YtehdljcmeimbcaaGreatB25
import Derived.Test.YtehdljcmeimbcaaGreatB22
import Derived.RegionTactic
namespace Go.Proofs.YtehdljcmeimbcaaGreat
open Go.RowKit
set_option linter.unusedVariables false
set_option linter.unusedSimpArgs false

theorem len0 {K : List (List UInt8)} (h : K.length = 0) : K = [] := List.eq_nil_of_length_eq_zero h
theorem len1 {K : List (List UInt8)} (h : K.length = 1) : ∃ x0, K = [x0] := by
  match K, h with
  | [x0], _ => exact ⟨x0, rfl⟩
theorem len2 {K : List (List UInt8)} (h : K.length = 2) : ∃ x0 x1, K = [x0, x1] := by
  match K, h with
  | [x0, x1], _ => exact ⟨x0, x1, rfl⟩
theorem len3 {K : List (List UInt8)} (h : K.length = 3) : ∃ x0 x1 x2, K = [x0, x1, x2] := by
  match K, h with
  | [x0, x1, x2], _ => exact ⟨x0, x1, x2, rfl⟩
theorem ret_txt {a b : List UInt8} {w w' : World} {e : Ending} (h : a = b) (hx : e = .returned (.string ⟨a.toArray⟩) ∧ Below w.heap.size w w') : e = .returned (.string ⟨b.toArray⟩) ∧ Below w.heap.size w w' := by
  rw [← h]
  exact hx
theorem kndP {nm : List UInt8 → Bool} {d : Nd} {L : List Int} (h : ndOk nm d L = true) : kidsOk d.kind L = true ∧ numOk d.kind d.n = true := by
  simp only [ndOk, Bool.and_eq_true] at h
  exact ⟨h.2, h.1.2⟩

/-- What the printer's parts want of a twig and of its kids' texts. -/
structure PwH_ (d : Nd) (L : List Int) (K : List (List UInt8)) (v : Value) (w : World) : Prop where
  ok : ndOk isNm d L = true
  len : K.length = L.length
  sr : SR w v K
  txt : d.text.length ≤ 1000
  kids : ∀ x ∈ K, x.length ≤ 1000000
  many : K.length ≤ 1000

theorem termP_ok {d : Nd} {L : List Int} {K : List (List UInt8)} {v : Value} {w : World} (h : PwH_ d L K v w) (ht : isTm d.kind = true) (ks : List Int) (kv : Value) (m : Int) (more : Bool) :
    Calls Tryz.prog 42 #[twA (d.tw ks) kv, v] w fun e w' => e = .returned (.string ⟨(joinT d m more K).toArray⟩) ∧ Below w.heap.size w w' := by
  obtain ⟨hc, hn⟩ := kndP h.ok
  have hl := h.len
  have hx := h.kids
  have hs := h.sr
  have htx : (d.tw ks).text.length ≤ 1000 := h.txt
  have hk : d.kind = 26 ∨ d.kind = 27 ∨ d.kind = 28 ∨ d.kind = 29 ∨ d.kind = 30 ∨ d.kind = 31 ∨ d.kind = 32 ∨ d.kind = 33 ∨ d.kind = 34 ∨ d.kind = 35 ∨ d.kind = 36 := by
    simp [isTm] at ht
    omega
  rcases hk with hk | hk | hk | hk | hk | hk | hk | hk | hk | hk | hk <;> rw [hk] at hc hn
  · have e := rowOk_lenP _ _ (show rowOk [] noK L = true from hc)
    obtain rfl := len0 (hl.trans e)
    have hn' : 0 ≤ d.n ∧ d.n ≤ 2147483647 := by simpa [numOk] using hn
    refine (term_26 (d.tw ks) kv v w hk hs htx hn'.1 hn'.2).mono fun e w' h => ret_txt ?_ h
    simp [joinT, hk, digT, Nd.tw, show ¬ d.n < 0 by omega, show d.n.natAbs = d.n.toNat by omega]
  · have e := rowOk_lenP _ _ (show rowOk [] noK L = true from hc)
    obtain rfl := len0 (hl.trans e)
    exact (term_27 (d.tw ks) kv v w hk hs htx).mono fun e w' h => ret_txt (by simp [joinT, hk]) h
  · have e := rowOk_lenP _ _ (show rowOk [] noK L = true from hc)
    obtain rfl := len0 (hl.trans e)
    exact (term_28 (d.tw ks) kv v w hk hs htx).mono fun e w' h => ret_txt (by simp [joinT, hk]) h
  · have e := rowOk_lenP _ _ (show rowOk [] noK L = true from hc)
    obtain rfl := len0 (hl.trans e)
    exact (term_29 (d.tw ks) kv v w hk hs htx).mono fun e w' h => ret_txt (by simp [joinT, hk, Nd.tw]) h
  · have e := rowOk_lenP _ _ (show rowOk [isTm] noK L = true from hc)
    obtain ⟨x0, rfl⟩ := len1 (hl.trans e)
    exact (term_30 (d.tw ks) kv x0 v w hk hs htx (hx x0 (by simp))).mono fun e w' h => ret_txt (by simp [joinT, hk, Nd.tw]) h
  · have e := rowOk_lenP _ _ (show rowOk [isTm, isTm] noK L = true from hc)
    obtain ⟨x0, x1, rfl⟩ := len2 (hl.trans e)
    exact (term_31 (d.tw ks) kv x0 x1 v w hk hs htx (hx x0 (by simp)) (hx x1 (by simp))).mono fun e w' h => ret_txt (by simp [joinT, hk, Nd.tw]) h
  · have e := rowOk_lenP _ _ (show rowOk [isTm, isTm] noK L = true from hc)
    obtain ⟨x0, x1, rfl⟩ := len2 (hl.trans e)
    exact (term_32 (d.tw ks) kv x0 x1 v w hk hs htx (hx x0 (by simp)) (hx x1 (by simp))).mono fun e w' h => ret_txt (by simp [joinT, hk, Nd.tw]) h
  · have e := rowOk_lenP _ _ (show rowOk [] noK L = true from hc)
    obtain rfl := len0 (hl.trans e)
    exact (term_33 (d.tw ks) kv v w hk hs htx).mono fun e w' h => ret_txt (by simp [joinT, hk, Nd.tw]) h
  · have e := rowOk_lenP _ _ (show rowOk [isTm] noK L = true from hc)
    obtain ⟨x0, rfl⟩ := len1 (hl.trans e)
    exact (term_34 (d.tw ks) kv x0 v w hk hs htx (hx x0 (by simp))).mono fun e w' h => ret_txt (by simp [joinT, hk, Nd.tw]) h
  · have e := rowOk_lenP _ _ (show rowOk [isTm] noK L = true from hc)
    obtain ⟨x0, rfl⟩ := len1 (hl.trans e)
    exact (term_35 (d.tw ks) kv x0 v w hk hs htx (hx x0 (by simp))).mono fun e w' h => ret_txt (by simp [joinT, hk, Nd.tw]) h
  · have e := rowOk_lenP _ _ (show rowOk [isK 12] noK L = true from hc)
    obtain ⟨x0, rfl⟩ := len1 (hl.trans e)
    exact (term_36 (d.tw ks) kv x0 v w hk hs htx (hx x0 (by simp))).mono fun e w' h => ret_txt (by simp [joinT, hk, Nd.tw]) h

theorem declP_ok {d : Nd} {L : List Int} {K : List (List UInt8)} {v : Value} {w : World} (h : PwH_ d L K v w) (ht : isTm d.kind = false) (hst : isSt d.kind = false) (h1 : d.kind ≠ 1) (h8 : d.kind ≠ 8) (h12 : d.kind ≠ 12) (ks : List Int) (kv : Value) (m : Int) (more : Bool) :
    Calls Tryz.prog 45 #[twA (d.tw ks) kv, v] w fun e w' => e = .returned (.string ⟨(joinT d m more K).toArray⟩) ∧ Below w.heap.size w w' := by
  obtain ⟨hc, hn⟩ := kndP h.ok
  have hl := h.len
  have hx := h.kids
  have hs := h.sr
  have htx : (d.tw ks).text.length ≤ 1000 := h.txt
  have hko : kindOk d.kind = true := by
    have := h.ok
    simp only [ndOk, Bool.and_eq_true] at this
    exact this.1.1.1
  have hk : d.kind = 2 ∨ d.kind = 3 ∨ d.kind = 4 ∨ d.kind = 5 ∨ d.kind = 6 ∨ d.kind = 7 ∨ d.kind = 9 ∨ d.kind = 10 ∨ d.kind = 11 := by
    simp [isTm] at ht
    simp [isSt] at hst
    simp [kindOk] at hko
    omega
  rcases hk with hk | hk | hk | hk | hk | hk | hk | hk | hk <;> rw [hk] at hc hn
  · have e := rowOk_lenP _ _ (show rowOk [] noK L = true from hc)
    obtain rfl := len0 (hl.trans e)
    exact (decl_2 (d.tw ks) kv v w hk hs htx).mono fun e w' h => ret_txt (by simp [joinT, hk, Nd.tw]) h
  · exact (decl_3 (d.tw ks) kv K v w hk hs htx hx h.many).mono fun e w' h => ret_txt (by simp [joinT, hk, Nd.tw, spaced]) h
  · have e := rowOk_lenP _ _ (show rowOk [isK 5] noK L = true from hc)
    obtain ⟨x0, rfl⟩ := len1 (hl.trans e)
    exact (decl_4 (d.tw ks) kv x0 v w hk hs htx (hx x0 (by simp))).mono fun e w' h => ret_txt (by simp [joinT, hk, Nd.tw]) h
  · have e := rowOk_lenP _ _ (show rowOk [] noK L = true from hc)
    obtain rfl := len0 (hl.trans e)
    exact (decl_5 (d.tw ks) kv v w hk hs htx).mono fun e w' h => ret_txt (by simp [joinT, hk, Nd.tw]) h
  · have e := rowOk_lenP _ _ (show rowOk [isK 5] noK L = true from hc)
    obtain ⟨x0, rfl⟩ := len1 (hl.trans e)
    exact (decl_6 (d.tw ks) kv x0 v w hk hs htx (hx x0 (by simp))).mono fun e w' h => ret_txt (by simp [joinT, hk, Nd.tw]) h
  · have e := rowOk_lenP _ _ (show rowOk [isK 12] noK L = true from hc)
    obtain ⟨x0, rfl⟩ := len1 (hl.trans e)
    exact (decl_7 (d.tw ks) kv x0 v w hk hs htx (hx x0 (by simp))).mono fun e w' h => ret_txt (by simp [joinT, hk, Nd.tw]) h
  · have e := rowOk_lenP _ _ (show rowOk [isK 12] noK L = true from hc)
    obtain ⟨x0, rfl⟩ := len1 (hl.trans e)
    have hn' : d.n = 0 ∨ d.n = 1 ∨ d.n = 2 ∨ d.n = 3 := by
      simp [numOk] at hn
      omega
    rcases hn' with hn | hn | hn | hn
    · exact (decl_9_0 (d.tw ks) kv x0 v w hk hs htx (hx x0 (by simp)) hn).mono fun e w' h => ret_txt (by simp [joinT, hk, Nd.tw, lifeT, hn]) h
    · exact (decl_9_1 (d.tw ks) kv x0 v w hk hs htx (hx x0 (by simp)) hn).mono fun e w' h => ret_txt (by simp [joinT, hk, Nd.tw, lifeT, hn]) h
    · exact (decl_9_2 (d.tw ks) kv x0 v w hk hs htx (hx x0 (by simp)) hn).mono fun e w' h => ret_txt (by simp [joinT, hk, Nd.tw, lifeT, hn]) h
    · exact (decl_9_3 (d.tw ks) kv x0 v w hk hs htx (hx x0 (by simp)) hn).mono fun e w' h => ret_txt (by simp [joinT, hk, Nd.tw, lifeT, hn]) h
  · have e := rowOk_lenP _ _ (show rowOk [isK 29, isK 12] noK L = true from hc)
    obtain ⟨x0, x1, rfl⟩ := len2 (hl.trans e)
    have hn' : d.n = 0 ∨ d.n = 1 := by
      simp [numOk] at hn
      omega
    rcases hn' with hn | hn
    · exact (decl_10_0 (d.tw ks) kv x0 x1 v w hk hs htx (hx x0 (by simp)) (hx x1 (by simp)) hn).mono fun e w' h => ret_txt (by simp [joinT, hk, Nd.tw, hn]) h
    · exact (decl_10_1 (d.tw ks) kv x0 x1 v w hk hs htx (hx x0 (by simp)) (hx x1 (by simp)) hn).mono fun e w' h => ret_txt (by simp [joinT, hk, Nd.tw, hn]) h
  · have e := rowOk_lenP _ _ (show rowOk [isK 12] noK L = true from hc)
    obtain ⟨x0, rfl⟩ := len1 (hl.trans e)
    exact (decl_11 (d.tw ks) kv x0 v w hk hs htx (hx x0 (by simp))).mono fun e w' h => ret_txt (by simp [joinT, hk, Nd.tw]) h

theorem statP_ok {d : Nd} {L : List Int} {K : List (List UInt8)} {v : Value} {w : World} (h : PwH_ d L K v w) (ht : isSt d.kind = true) (ks : List Int) (kv : Value) (m : Int) (more : Bool) (R : List Tw) (tr : Value) (hR : RdO w tr R) (hkd : KidO w kv ks)
    (h23 : d.kind = 23 → ∃ (k2 : Nat) (y : Tw), ks[2]? = some (k2 : Int) ∧ R[k2]? = some y ∧ (more = true → 0 < y.kids.length) ∧ (more = false → y.kids.length = 0)) :
    Calls Tryz.prog 44 #[.agg #[tr], twA (d.tw ks) kv, v] w fun e w' => e = .returned (.string ⟨(joinT d m more K).toArray⟩) ∧ Below w.heap.size w w' := by
  obtain ⟨hc, hn⟩ := kndP h.ok
  have hl := h.len
  have hx := h.kids
  have hs := h.sr
  have htx : (d.tw ks).text.length ≤ 1000 := h.txt
  have hk : d.kind = 13 ∨ d.kind = 14 ∨ d.kind = 15 ∨ d.kind = 16 ∨ d.kind = 17 ∨ d.kind = 18 ∨ d.kind = 19 ∨ d.kind = 20 ∨ d.kind = 21 ∨ d.kind = 22 ∨ d.kind = 23 ∨ d.kind = 24 ∨ d.kind = 25 := by
    simp [isSt] at ht
    omega
  have to12 : kidsOk 19 L = true → K.length = 1 ∨ K.length = 2 := fun hc => by
    have hc' : (rowOk [isTm] noK L || rowOk [isTm, isVr] noK L) = true := hc
    rw [Bool.or_eq_true] at hc'
    rcases hc' with hc' | hc'
    · exact .inl (hl.trans (rowOk_lenP _ _ hc'))
    · exact .inr (hl.trans (rowOk_lenP _ _ hc'))
  rcases hk with hk | hk | hk | hk | hk | hk | hk | hk | hk | hk | hk | hk | hk <;> rw [hk] at hc hn
  · have e := rowOk_lenP _ _ (show rowOk [isK 5, isTm] noK L = true from hc)
    obtain ⟨x0, x1, rfl⟩ := len2 (hl.trans e)
    exact (stat_13 (d.tw ks) kv x0 x1 v w tr hk hs htx (hx x0 (by simp)) (hx x1 (by simp))).mono fun e w' h => ret_txt (by simp [joinT, hk, Nd.tw]) h
  · have e := rowOk_lenP _ _ (show rowOk [isVr, isTm] noK L = true from hc)
    obtain ⟨x0, x1, rfl⟩ := len2 (hl.trans e)
    exact (stat_14 (d.tw ks) kv x0 x1 v w tr hk hs htx (hx x0 (by simp)) (hx x1 (by simp))).mono fun e w' h => ret_txt (by simp [joinT, hk, Nd.tw]) h
  · have e := rowOk_lenP _ _ (show rowOk [isTm] noK L = true from hc)
    obtain ⟨x0, rfl⟩ := len1 (hl.trans e)
    exact (stat_15 (d.tw ks) kv x0 v w tr hk hs htx (hx x0 (by simp))).mono fun e w' h => ret_txt (by simp [joinT, hk, Nd.tw]) h
  · have e := rowOk_lenP _ _ (show rowOk [isTm] noK L = true from hc)
    obtain ⟨x0, rfl⟩ := len1 (hl.trans e)
    exact (stat_16 (d.tw ks) kv x0 v w tr hk hs htx (hx x0 (by simp))).mono fun e w' h => ret_txt (by simp [joinT, hk, Nd.tw]) h
  · have e := rowOk_lenP _ _ (show rowOk [isTm] noK L = true from hc)
    obtain ⟨x0, rfl⟩ := len1 (hl.trans e)
    exact (stat_17 (d.tw ks) kv x0 v w tr hk hs htx (hx x0 (by simp))).mono fun e w' h => ret_txt (by simp [joinT, hk, Nd.tw]) h
  · have e := rowOk_lenP _ _ (show rowOk [isTm] noK L = true from hc)
    obtain ⟨x0, rfl⟩ := len1 (hl.trans e)
    exact (stat_18 (d.tw ks) kv x0 v w tr hk hs htx (hx x0 (by simp))).mono fun e w' h => ret_txt (by simp [joinT, hk, Nd.tw]) h
  · have hn' : -1 ≤ d.n ∧ d.n ≤ 2147483647 := by simpa [numOk] using hn
    have hdt : 0 < d.n → digT d.n = digs d.n.toNat := fun h0 => by
      unfold digT
      rw [if_neg (by omega), show d.n.natAbs = d.n.toNat by omega]
    rcases to12 hc with e | e
    · obtain ⟨x0, rfl⟩ := len1 e
      by_cases hneg : d.n < 0
      · exact (stat_19_m1 (d.tw ks) kv x0 v w tr hk hs htx (hx x0 (by simp)) hneg).mono fun e w' h => ret_txt (by simp [joinT, hk, Nd.tw, toT, hneg]) h
      · by_cases hpos : 0 < d.n
        · exact (stat_19_p1 (d.tw ks) kv x0 v w tr hk hs htx (hx x0 (by simp)) hpos hn'.2).mono fun e w' h => ret_txt (by simp [joinT, hk, Nd.tw, toT, hneg, hpos, hdt hpos]) h
        · exact (stat_19_z1 (d.tw ks) kv x0 v w tr hk hs htx (hx x0 (by simp)) (show d.n = 0 by omega)).mono fun e w' h => ret_txt (by simp [joinT, hk, Nd.tw, toT, hneg, hpos]) h
    · obtain ⟨x0, x1, rfl⟩ := len2 e
      by_cases hneg : d.n < 0
      · exact (stat_19_m2 (d.tw ks) kv x0 x1 v w tr hk hs htx (hx x0 (by simp)) (hx x1 (by simp)) hneg).mono fun e w' h => ret_txt (by simp [joinT, hk, Nd.tw, toT, hneg]) h
      · by_cases hpos : 0 < d.n
        · exact (stat_19_p2 (d.tw ks) kv x0 x1 v w tr hk hs htx (hx x0 (by simp)) (hx x1 (by simp)) hpos hn'.2).mono fun e w' h => ret_txt (by simp [joinT, hk, Nd.tw, toT, hneg, hpos, hdt hpos]) h
        · exact (stat_19_z2 (d.tw ks) kv x0 x1 v w tr hk hs htx (hx x0 (by simp)) (hx x1 (by simp)) (show d.n = 0 by omega)).mono fun e w' h => ret_txt (by simp [joinT, hk, Nd.tw, toT, hneg, hpos]) h
  · rcases to12 hc with e | e
    · obtain ⟨x0, rfl⟩ := len1 e
      exact (stat_20_1 (d.tw ks) kv x0 v w tr hk hs htx (hx x0 (by simp))).mono fun e w' h => ret_txt (by simp [joinT, hk, Nd.tw, toT]) h
    · obtain ⟨x0, x1, rfl⟩ := len2 e
      exact (stat_20_2 (d.tw ks) kv x0 x1 v w tr hk hs htx (hx x0 (by simp)) (hx x1 (by simp))).mono fun e w' h => ret_txt (by simp [joinT, hk, Nd.tw, toT]) h
  · have e := rowOk_lenP _ _ (show rowOk [] noK L = true from hc)
    obtain rfl := len0 (hl.trans e)
    exact (stat_21 (d.tw ks) kv v w tr hk hs htx).mono fun e w' h => ret_txt (by simp [joinT, hk, Nd.tw]) h
  · have e := rowOk_lenP _ _ (show rowOk [] noK L = true from hc)
    obtain rfl := len0 (hl.trans e)
    exact (stat_22 (d.tw ks) kv v w tr hk hs htx).mono fun e w' h => ret_txt (by simp [joinT, hk, Nd.tw]) h
  · have e := rowOk_lenP _ _ (show rowOk [isTm, isK 12, isK 12] noK L = true from hc)
    obtain ⟨x0, x1, x2, rfl⟩ := len3 (hl.trans e)
    obtain ⟨k2, y, hk2, hy, ha, hb⟩ := h23 hk
    cases more with
    | true => exact (stat_23a (d.tw ks) kv x0 x1 x2 v w R tr k2 y hk hs htx (hx x0 (by simp)) (hx x1 (by simp)) (hx x2 (by simp)) hR hkd hk2 hy (ha rfl)).mono fun e w' h => ret_txt (by simp [joinT, hk, Nd.tw]) h
    | false => exact (stat_23b (d.tw ks) kv x0 x1 x2 v w R tr k2 y hk hs htx (hx x0 (by simp)) (hx x1 (by simp)) (hx x2 (by simp)) hR hkd hk2 hy (hb rfl)).mono fun e w' h => ret_txt (by simp [joinT, hk, Nd.tw]) h
  · have e := rowOk_lenP _ _ (show rowOk [isTm, isK 12] noK L = true from hc)
    obtain ⟨x0, x1, rfl⟩ := len2 (hl.trans e)
    exact (stat_24 (d.tw ks) kv x0 x1 v w tr hk hs htx (hx x0 (by simp)) (hx x1 (by simp))).mono fun e w' h => ret_txt (by simp [joinT, hk, Nd.tw]) h
  · have e := rowOk_lenP _ _ (show rowOk [] noK L = true from hc)
    obtain rfl := len0 (hl.trans e)
    exact (stat_25 (d.tw ks) kv v w tr hk hs htx).mono fun e w' h => ret_txt (by simp [joinT, hk, Nd.tw]) h
end Go.Proofs.YtehdljcmeimbcaaGreat

namespace Go.Proofs.YtehdljcmeimbcaaGreat
open Go.RowKit
set_option linter.unusedVariables false
set_option linter.unusedSimpArgs false

theorem nd_text {d : Nd} {L : List Int} (h : ndOk isNm d L = true) : d.text.length ≤ 32 := by
  simp only [ndOk, Bool.and_eq_true] at h
  have ht := h.1.1.2
  have hnm : ∀ s, isNm s = true → s.length ≤ 32 := fun s hs => by
    unfold isNm at hs
    simp only [Bool.and_eq_true, decide_eq_true_eq] at hs
    exact hs.1.1
  unfold textOk at ht
  split at ht
  · simp only [isTy, Bool.or_eq_true, beq_iff_eq] at ht
    rcases ht with ((((e | e) | e) | e) | e) | e
    · rw [e]; decide
    · rw [e]; decide
    · rw [e]; decide
    · rw [e]; decide
    · rw [e]; decide
    · exact hnm _ e
  · split at ht
    · simp only [isSg, Bool.or_eq_true, beq_iff_eq] at ht
      rcases ht with (((e | e) | e) | e) | e <;> (rw [e]; decide)
    · split at ht
      · exact hnm _ ht
      · have : d.text = [] := by simpa using ht
        rw [this]; decide
def lenS (X : Nat) (K : List (List UInt8)) : Nat := (K.map fun s => s.length + X + 3).sum
theorem lenS_cons (X : Nat) (x : List UInt8) (K : List (List UInt8)) : lenS X (x :: K) = x.length + X + 3 + lenS X K := by simp [lenS]
theorem lenS_mem (X : Nat) : ∀ (K : List (List UInt8)) (x : List UInt8), x ∈ K → x.length ≤ lenS X K
  | y :: K, x, h => by
    rw [lenS_cons]
    rcases List.mem_cons.1 h with rfl | h
    · omega
    · have := lenS_mem X K x h
      omega
theorem get3 (X : Nat) (K : List (List UInt8)) : (K.getD 0 []).length + (K.getD 1 []).length + (K.getD 2 []).length ≤ lenS X K := by
  rcases K with _ | ⟨a, _ | ⟨b, _ | ⟨c, K⟩⟩⟩
  · simp
  · rw [lenS_cons]; simp; omega
  · rw [lenS_cons, lenS_cons]; simp; omega
  · rw [lenS_cons, lenS_cons, lenS_cons]; simp; omega
theorem flat1 (X : Nat) : ∀ K : List (List UInt8), (K.flatMap fun x => x ++ [10]).length ≤ lenS X K
  | [] => by simp
  | x :: K => by
    have := flat1 X K
    rw [lenS_cons, List.flatMap_cons, List.length_append]
    simp only [List.length_append, List.length_cons, List.length_nil]
    omega
theorem flat2 (X : Nat) : ∀ K : List (List UInt8), (K.flatMap fun x => [32] ++ x).length ≤ lenS X K
  | [] => by simp
  | x :: K => by
    have := flat2 X K
    rw [lenS_cons, List.flatMap_cons, List.length_append]
    simp only [List.length_append, List.length_cons, List.length_nil]
    omega
theorem flat3 (X : Nat) (m : Int) (hm : m.toNat ≤ X) : ∀ K : List (List UInt8), (K.flatMap fun x => blanks m ++ [32, 32] ++ x ++ [10]).length ≤ lenS X K
  | [] => by simp
  | x :: K => by
    have := flat3 X m hm K
    rw [lenS_cons, List.flatMap_cons, List.length_append]
    simp only [List.length_append, List.length_cons, List.length_nil, blanks, List.length_replicate] at this ⊢
    omega
theorem braces_len (X : Nat) (m : Int) (hm : m.toNat ≤ X) (K : List (List UInt8)) : (bracesT K m).length ≤ lenS X K + X + 4 := by
  unfold bracesT
  have := flat3 X m hm K
  split
  · simp
  · simp only [List.length_append, List.length_cons, List.length_nil, blanks, List.length_replicate] at this ⊢
    omega
theorem lenS_tail (X : Nat) (K : List (List UInt8)) : (K.getD 0 []).length + lenS X K.tail ≤ lenS X K := by
  cases K with
  | nil => simp
  | cons x K => rw [lenS_cons]; simp; omega
theorem joinT_len (d : Nd) (L : List Int) (hok : ndOk isNm d L = true) (X : Nat) (m : Int) (hm : m.toNat ≤ X) (more : Bool) (K : List (List UInt8)) : (joinT d m more K).length ≤ lenS X K + X + 80 := by
  have ht := nd_text hok
  have g3 := get3 X K
  have hnum := (kndP hok).2
  have hko : 1 ≤ d.kind ∧ d.kind ≤ 36 := by
    simp only [ndOk, Bool.and_eq_true, kindOk, decide_eq_true_eq] at hok
    exact hok.1.1.1
  have hto : (toT K).length ≤ 4 + (K.getD 1 []).length := by
    unfold toT
    split
    · simp
      omega
    · simp
  have hdg : 0 ≤ d.n → d.n ≤ 2147483647 → (digT d.n).length ≤ 10 := fun h0 h1 => by
    unfold digT
    rw [if_neg (by omega)]
    exact digs_len 9 _ (by omega)
  generalize hk : d.kind = kd at *
  have hc : kd = 1 ∨ kd = 2 ∨ kd = 3 ∨ kd = 4 ∨ kd = 5 ∨ kd = 6 ∨ kd = 7 ∨ kd = 8 ∨ kd = 9 ∨ kd = 10 ∨ kd = 11 ∨ kd = 12 ∨ kd = 13 ∨ kd = 14 ∨ kd = 15 ∨ kd = 16 ∨ kd = 17 ∨ kd = 18 ∨ kd = 19 ∨ kd = 20 ∨ kd = 21 ∨ kd = 22 ∨ kd = 23 ∨ kd = 24 ∨ kd = 25 ∨ kd = 26 ∨ kd = 27 ∨ kd = 28 ∨ kd = 29 ∨ kd = 30 ∨ kd = 31 ∨ kd = 32 ∨ kd = 33 ∨ kd = 34 ∨ kd = 35 ∨ kd = 36 := by omega
  by_cases e1 : kd = 1
  · subst e1
    have := flat1 X K
    simp only [joinT, hk, reduceIte]
    omega
  by_cases e3 : kd = 3
  · subst e3
    have := flat2 X K
    simp only [joinT, hk, reduceIte, Int.reduceEq, List.length_append, List.length_cons, List.length_nil] at this ⊢
    omega
  by_cases e8 : kd = 8
  · subst e8
    have h1 := braces_len X m hm K.tail
    have h2 := lenS_tail X K
    simp only [joinT, hk, reduceIte, Int.reduceEq, List.length_append, List.length_cons, List.length_nil]
    omega
  by_cases e12 : kd = 12
  · subst e12
    have h1 := braces_len X m hm K
    simp only [joinT, hk, reduceIte, Int.reduceEq]
    omega
  by_cases e9 : kd = 9
  · subst e9
    have : (lifeT d.n).length ≤ 7 := by
      unfold lifeT
      split
      · decide
      · split
        · decide
        · split <;> decide
    simp only [joinT, hk, reduceIte, Int.reduceEq, List.length_append, List.length_cons, List.length_nil]
    omega
  by_cases e10 : kd = 10
  · subst e10
    simp only [joinT, hk, reduceIte, Int.reduceEq, List.length_append, List.length_cons, List.length_nil]
    split <;> (simp only [List.length_cons, List.length_nil]; omega)
  by_cases e19 : kd = 19
  · subst e19
    have hn : -1 ≤ d.n ∧ d.n ≤ 2147483647 := by simpa [numOk] using hnum
    simp only [joinT, hk, reduceIte, Int.reduceEq, List.length_append, List.length_cons, List.length_nil]
    split
    · simp only [List.length_cons, List.length_nil]
      omega
    · split
      · have := hdg (by omega) hn.2
        simp only [List.length_append, List.length_cons, List.length_nil]
        omega
      · simp only [List.length_nil]
        omega
  by_cases e23 : kd = 23
  · subst e23
    simp only [joinT, hk, reduceIte, Int.reduceEq, List.length_append, List.length_cons, List.length_nil]
    split
    · simp only [List.length_append, List.length_cons, List.length_nil]
      omega
    · simp only [List.length_nil]
      omega
  by_cases e26 : kd = 26
  · subst e26
    have hn : 0 ≤ d.n ∧ d.n ≤ 2147483647 := by simpa [numOk] using hnum
    have := hdg hn.1 hn.2
    simp only [joinT, hk, reduceIte, Int.reduceEq]
    omega
  clear hnum hdg hok
  rcases hc with h | h | h | h | h | h | h | h | h | h | h | h | h | h | h | h | h | h | h | h | h | h | h | h | h | h | h | h | h | h | h | h | h | h | h | h <;>
    first
    | exact absurd h ‹_›
    | (subst h
       simp only [joinT, hk, reduceIte, Int.reduceEq, List.length_append, List.length_cons, List.length_nil]
       omega)
theorem txts_len (X : Nat) : ∀ (f : Fo) (p : Nd) (m : Int) (i : Nat), f.fit isNm = true → 0 ≤ m → m + 2 * f.size ≤ X → lenS X (f.txts p m i) ≤ f.size * (2 * X + 200)
  | .nil, _, _, _, _, _, _ => by simp [Fo.txts, lenS]
  | .cons d k r, p, m, i, hf, hm, hX => by
    simp only [Fo.fit, Bool.and_eq_true] at hf
    simp only [Fo.size] at hX
    have hdp : m ≤ deepOf p i m ∧ deepOf p i m ≤ m + 2 := by
      unfold deepOf
      split <;> omega
    have h1 := txts_len X k d (deepOf p i m) 0 hf.1.2 (by omega) (by push_cast at hX ⊢; omega)
    have h2 := txts_len X r p m (i + 1) hf.2 hm (by push_cast at hX ⊢; omega)
    have h3 := joinT_len d _ hf.1.1 X (deepOf p i m) (by push_cast at hX; omega) k.more (k.txts d (deepOf p i m) 0)
    have h4 : (parT (prn p i d) (joinT d (deepOf p i m) k.more (k.txts d (deepOf p i m) 0))).length ≤ (joinT d (deepOf p i m) k.more (k.txts d (deepOf p i m) 0)).length + 2 := by
      unfold parT
      split
      · simp
      · omega
    rw [Fo.txts, lenS_cons, Fo.size]
    have e : (1 + k.size + r.size) * (2 * X + 200) = (2 * X + 200) + k.size * (2 * X + 200) + r.size * (2 * X + 200) := by
      rw [Nat.add_mul, Nat.add_mul, Nat.one_mul]
    rw [e]
    omega
theorem txts_le (f : Fo) (p : Nd) (m : Int) (i : Nat) (hf : f.fit isNm = true) (hm : 0 ≤ m) (hX : m + 2 * f.size ≤ 700) (hs : f.size ≤ 300) : ∀ x ∈ f.txts p m i, x.length ≤ 500000 := fun x hx => by
  have h1 := lenS_mem 700 _ x hx
  have h2 := txts_len 700 f p m i hf hm hX
  have : f.size * (2 * 700 + 200) ≤ 300 * (2 * 700 + 200) := Nat.mul_le_mul_right _ hs
  omega

theorem prn_same {d x : Nd} {L : List Int} (h : ndOk isNm d L = true) {i : Nat} (hi : L[i]? = some x.kind) (hx : textOk isNm x.kind x.text = true) : prnR d i x = prn d i x := by
  have := dpr_eq isNm d L h i x hi hx
  unfold dprR dpr at this
  generalize prnR d i x = a at *
  generalize prn d i x = b at *
  cases a <;> cases b <;> simp at this ⊢
  all_goals omega
end Go.Proofs.YtehdljcmeimbcaaGreat

namespace Go.Proofs.YtehdljcmeimbcaaGreat
open Go.RowKit

section
variable {P : Program} {ops : Array Oper} {Q : Exit → Act → World → Prop}

/-- What no operation writes is as it was. -/
def Fr (ops : Array Oper) (fr : Array Value) (a : Act) : Prop := a.defers = [] ∧ a.tmps.size = fr.size ∧ ∀ k, (ops.all fun o => o.dst != some k) = true → a.tmps.getD k undef = fr.getD k undef
/-- What an operation has given is good. -/
def Got (ops : Array Oper) (G : Nat → Value → World → Prop) (j : Nat) (a : Act) (w : World) : Prop := ∃ d, (ops[j]?).bind (·.dst) = some d ∧ G j (a.tmps.getD d undef) w
def RgInv (ops : Array Oper) (fr : Array Value) (G : Nat → Value → World → Prop) (W : World) (listed : Array Bool) (a : Act) (w : World) : Prop := listed.size = ops.size ∧ Below W.heap.size W w ∧ Fr ops fr a ∧ ∀ j, listed.getD j false = true → Got ops G j a w

theorem all_listed {listed : Array Bool} (hs : listed.size = ops.size) (hlex : ∀ (i : Nat) (o : Oper), ops[i]? = some o → ∀ e ∈ o.after, e.on < i) (hr : Region.ready .any ops listed = []) : ∀ j, j < ops.size → listed.getD j false = true := by
  intro j
  induction j using Nat.strongRecOn with
  | ind j ih =>
    intro hj
    cases h : listed.getD j true with
    | true =>
      have hl : j < listed.size := by omega
      simp [Array.getElem?_eq_getElem hl] at h ⊢
      exact h
    | false =>
      exfalso
      have ho : ops[j]? = some ops[j] := Array.getElem?_eq_getElem hj
      have hm : j ∈ Region.ready .any ops listed := mem_ready.2 ⟨h, ops[j], ho, fun e he _ => by
        have hlt := hlex j _ ho e he
        exact ih e.on hlt (by omega)⟩
      rw [hr] at hm
      cases hm

theorem count_set_true {l : List Bool} {i n : Nat} (hi : l[i]? = some false) (h : l.count false ≤ n + 1) : (l.set i true).count false ≤ n := by
  induction l generalizing i n with
  | nil => simp at hi
  | cons x r ih =>
    cases i with
    | zero =>
      simp at hi
      subst hi
      simp at h ⊢
      exact h
    | succ i =>
      simp at hi
      rw [List.set_cons_succ, List.count_cons]
      rw [List.count_cons] at h
      have hpos : 0 < r.count false := List.count_pos_iff.2 (List.mem_of_getElem? hi)
      cases x with
      | true =>
        simp at h ⊢
        exact ih hi h
      | false =>
        simp at h ⊢
        cases n with
        | zero => omega
        | succ n =>
          have := ih (n := n) hi (by omega)
          omega

theorem wpAny_grow (fr : Array Value) (G : Nat → Value → World → Prop) (W : World) (hguard : ∀ (i : Nat) (o : Oper), ops[i]? = some o → o.guard = none) (hdst : ∀ (i : Nat) (o : Oper), ops[i]? = some o → ∃ d, o.dst = some d ∧ d < fr.size)
    (hnd : ∀ (i j : Nat) (o o' : Oper), ops[i]? = some o → ops[j]? = some o' → i ≠ j → o.dst ≠ o'.dst) (hlex : ∀ (i : Nat) (o : Oper), ops[i]? = some o → ∀ e ∈ o.after, e.on < i)
    (hmono : ∀ j v w w', G j v w → Below w.heap.size w w' → G j v w')
    (hop : ∀ (i : Nat) (o : Oper), ops[i]? = some o → ∀ a w, Fr ops fr a → Below W.heap.size W w → (∀ e ∈ o.after, Region.binds .any e = true → Got ops G e.on a w) → ∀ K : Act → World → Prop, (∀ v w', G i v w' → Below w.heap.size w w' → K (a.put o.dst v) w') → Oper.wp P o a w K Q)
    (hfin : ∀ a w, Fr ops fr a → Below W.heap.size W w → (∀ j, j < ops.size → Got ops G j a w) → Q .normal a w) :
    ∀ (fuel : Nat) (listed : Array Bool) (a : Act) (w : World), RgInv ops fr G W listed a w → listed.toList.count false ≤ fuel → wpAny P .any ops Q fuel listed a w
  | 0, listed, a, w, ⟨h1, h2, h3, h4⟩, hc => by
    have hno : ∀ j, listed.getD j true = false → False := fun j hj => by
      have hlt : j < listed.size := by
        rcases Nat.lt_or_ge j listed.size with h | h
        · exact h
        · simp [Array.getElem?_eq_none h] at hj
      have hm : false ∈ listed.toList := by
        simp [Array.getElem?_eq_getElem hlt] at hj
        rw [← hj]
        simp
      have := List.count_pos_iff.2 hm
      omega
    have hr : Region.ready .any ops listed = [] := by
      rw [List.eq_nil_iff_forall_not_mem]
      intro j hj
      exact hno j (mem_ready.1 hj).1
    exact ⟨hr, hfin a w h3 h2 fun j hj => h4 j (all_listed h1 hlex hr j hj)⟩
  | fuel + 1, listed, a, w, ⟨h1, h2, h3, h4⟩, hc => by
    refine ⟨fun hr => hfin a w h3 h2 fun j hj => h4 j (all_listed h1 hlex hr j hj), fun i hi => ?_⟩
    obtain ⟨h0, o, ho, hall⟩ := mem_ready.1 hi
    obtain ⟨d, hd, hds⟩ := hdst i o ho
    have hg := hguard i o ho
    refine wpOp_step ho fun K' hK => ?_
    rw [if_pos (by simp [Region.wanted, hg])]
    refine hop i o ho a w h3 h2 (fun e he hb => h4 _ (hall e he hb)) K' fun v w' hG hb => hK _ _ ?_
    have hlt : i < listed.size := by
      rcases Nat.lt_or_ge i listed.size with h | h
      · exact h
      · simp [Array.getElem?_eq_none h] at h0
    have hput : a.put o.dst v = { a with tmps := a.tmps.setIfInBounds d v } := by rw [hd]; rfl
    refine wpAny_grow fr G W hguard hdst hnd hlex hmono hop hfin fuel _ _ _ ⟨by simp [h1], h2.trans (hb.mono h2.size), ?_, fun j hj => ?_⟩ ?_
    · rw [hput]
      refine ⟨h3.1, by simp [h3.2.1], fun k hk => ?_⟩
      have hne : d ≠ k := fun e => by
        have := Array.all_eq_true_iff_forall_mem.1 hk o (Array.mem_of_getElem? ho)
        rw [hd, e] at this
        simp at this
      rw [← h3.2.2 k hk]
      simp [Array.getElem?_setIfInBounds_ne hne]
    · by_cases hji : j = i
      · subst hji
        refine ⟨d, by rw [ho]; exact hd, ?_⟩
        rw [hput]
        have hsz : d < a.tmps.size := by rw [h3.2.1]; exact hds
        simpa [hsz] using hG
      · rw [getD_set_ne false (Ne.symm hji)] at hj
        obtain ⟨d', hd', hG'⟩ := h4 j hj
        refine ⟨d', hd', ?_⟩
        have hne : d ≠ d' := fun e => by
          cases hoj : ops[j]? with
          | none => rw [hoj] at hd'; cases hd'
          | some o' =>
            rw [hoj] at hd'
            exact hnd i j o o' ho hoj (Ne.symm hji) (by rw [hd, e]; exact hd'.symm)
        rw [hput]
        have : (a.tmps.setIfInBounds d v).getD d' undef = a.tmps.getD d' undef := by simp [Array.getElem?_setIfInBounds_ne hne]
        show G j ((a.tmps.setIfInBounds d v).getD d' undef) w'
        rw [this]
        exact hmono j _ _ _ hG' hb
    · rw [Array.toList_setIfInBounds]
      refine count_set_true ?_ hc
      simp [Array.getElem?_eq_getElem hlt] at h0
      simp [hlt, h0]
/-- The region itself, from a world and a frame on. -/
theorem region_grow {id : Nat} {a : Act} {w : World} (hm : P.follows .mixedOrders = true) (G : Nat → Value → World → Prop) (hdf : a.defers = []) (hguard : ∀ (i : Nat) (o : Oper), ops[i]? = some o → o.guard = none) (hdst : ∀ (i : Nat) (o : Oper), ops[i]? = some o → ∃ d, o.dst = some d ∧ d < a.tmps.size)
    (hnd : ∀ (i j : Nat) (o o' : Oper), ops[i]? = some o → ops[j]? = some o' → i ≠ j → o.dst ≠ o'.dst) (hlex : ∀ (i : Nat) (o : Oper), ops[i]? = some o → ∀ e ∈ o.after, e.on < i)
    (hmono : ∀ j v w w', G j v w → Below w.heap.size w w' → G j v w')
    (hop : ∀ (i : Nat) (o : Oper), ops[i]? = some o → ∀ a' w', Fr ops a.tmps a' → Below w.heap.size w w' → (∀ e ∈ o.after, Region.binds .any e = true → Got ops G e.on a' w') → ∀ K : Act → World → Prop, (∀ v w'', G i v w'' → Below w'.heap.size w' w'' → K (a'.put o.dst v) w'') → Oper.wp P o a' w' K Q)
    (hfin : ∀ a' w', Fr ops a.tmps a' → Below w.heap.size w w' → (∀ j, j < ops.size → Got ops G j a' w') → Q .normal a' w') : (Code.region id ops true).wp P Q a w :=
  wp_region_any hm (wpAny_grow a.tmps G w hguard hdst hnd hlex hmono hop hfin ops.size _ _ _ ⟨by simp, ⟨rfl, rfl, rfl, Nat.le_refl _, fun _ _ => rfl⟩, ⟨hdf, rfl, fun _ _ => rfl⟩, fun j hj => by
    exfalso
    rcases Nat.lt_or_ge j ops.size with h | h
    · simp [h] at hj
    · simp [Nat.not_lt.2 h] at hj⟩ (by simp))
theorem nodup_dst {l : List Oper} : ∀ {i j : Nat} {o o' : Oper}, (l.map (·.dst)).Nodup → l[i]? = some o → l[j]? = some o' → i ≠ j → o.dst ≠ o'.dst := by
  intro i j o o' h hi hj hne e
  have h1 : (l.map (·.dst))[i]? = some o.dst := by rw [List.getElem?_map, hi]; rfl
  have h2 : (l.map (·.dst))[j]? = some o.dst := by rw [List.getElem?_map, hj, e]; rfl
  obtain ⟨l1, e1⟩ := List.getElem?_eq_some_iff.1 h1
  obtain ⟨l2, e2⟩ := List.getElem?_eq_some_iff.1 h2
  rcases Nat.lt_or_ge i j with hlt | hge
  · exact (List.pairwise_iff_getElem.1 h i j l1 l2 hlt) (by rw [e1, e2])
  · exact (List.pairwise_iff_getElem.1 h j i l2 l1 (by omega)) (by rw [e1, e2])
/-- The same, what is asked of a written-out region being reckoned. -/
theorem region_grow_lit {id : Nat} {a : Act} {w : World} (hm : P.follows .mixedOrders = true) (G : Nat → Value → World → Prop) (hdf : a.defers = [])
    (hg : (ops.all fun o => o.guard.isNone) = true) (hd : (ops.all fun o => match o.dst with | some d => decide (d < a.tmps.size) | none => false) = true) (hn : decide (ops.toList.map (·.dst)).Nodup = true)
    (hl : ((List.range ops.size).all fun i => ((ops[i]?).map fun o => o.after.all fun e => decide (e.on < i)).getD true) = true)
    (hmono : ∀ j v w w', G j v w → Below w.heap.size w w' → G j v w')
    (hop : ∀ (i : Nat) (o : Oper), ops[i]? = some o → ∀ a' w', Fr ops a.tmps a' → Below w.heap.size w w' → (∀ e ∈ o.after, Region.binds .any e = true → Got ops G e.on a' w') → ∀ K : Act → World → Prop, (∀ v w'', G i v w'' → Below w'.heap.size w' w'' → K (a'.put o.dst v) w'') → Oper.wp P o a' w' K Q)
    (hfin : ∀ a' w', Fr ops a.tmps a' → Below w.heap.size w w' → (∀ j, j < ops.size → Got ops G j a' w') → Q .normal a' w') : (Code.region id ops true).wp P Q a w := by
  refine region_grow hm G hdf (fun i o ho => ?_) (fun i o ho => ?_) (fun i j o o' hi hj hne => ?_) (fun i o ho e he => ?_) hmono hop hfin
  · have := Array.all_eq_true_iff_forall_mem.1 hg o (Array.mem_of_getElem? ho)
    simpa using this
  · have := Array.all_eq_true_iff_forall_mem.1 hd o (Array.mem_of_getElem? ho)
    cases hod : o.dst with
    | none => rw [hod] at this; cases this
    | some d =>
      rw [hod] at this
      exact ⟨d, rfl, by simpa using this⟩
  · exact nodup_dst (of_decide_eq_true hn) (by simpa using hi) (by simpa using hj) hne
  · have hi := (Array.getElem?_eq_some_iff.1 ho).1
    have := List.all_eq_true.1 hl i (List.mem_range.2 hi)
    rw [ho] at this
    have h1 : (o.after.all fun e => decide (e.on < i)) = true := this
    exact of_decide_eq_true (Array.all_eq_true_iff_forall_mem.1 h1 e he)
end
end Go.Proofs.YtehdljcmeimbcaaGreat
