/- The grammar's trees may be: declarations, whole texts; The grammar's trees may be: all parts; The tokens of a text with which nothing is wrong are as the grammar's trees want them; Trees, plainly: the document's way to tell which trees may be (as in tree/TreH, for this seat); The document's trees in memory: Binds, Must, Paren. -/
import Derived.Test.YtpeoefbibjbinaaGreatB36
import Derived.Test.YtpeoefbibjbinaaGreatB04
import Derived.Test.YtpeoefbibjbinaaGreatB29
import Derived.Deep.RegionHeld3
import Derived.Deep.RegionWith
import Derived.BigRegion
namespace Go.Proofs.YtpeoefbibjbinaaGreat

theorem rowOk_nil (p : Int → Bool) (l : List Int) : rowOk [] p l = l.all p := by cases l <;> rfl
theorem rowOk_snoc (p : Int → Bool) (x : Int) (hx : p x = true) : ∀ (a : List (Int → Bool)) (l : List Int), rowOk a p l = true → rowOk a p (l ++ [x]) = true
  | [], l, h => by rw [rowOk_nil] at h ⊢; rw [List.all_append, h]; simp [hx]
  | a :: b, [], h => by cases h
  | a :: b, y :: l, h => by
    simp only [rowOk, Bool.and_eq_true, List.cons_append] at h ⊢
    exact ⟨h.1, rowOk_snoc p x hx b l h.2⟩
theorem onO_ok {nm : List UInt8 → Bool} {r : List Tok} {d : Nd} {k : Fo} {r' : List Tok} (ho : OkT nm r) (h : onO r = .ok d k r') : d.kind = 29 ∧ bnd d.kind d.text = 5 ∧ k = .nil ∧ r' = r.tail.tail ∧ ndOk nm d [] = true := by
  unfold onO tkW at h
  obtain ⟨_, h⟩ := tk_ok h
  unfold useO at h
  obtain ⟨c1, h⟩ := tkK_ok h
  have hn := (ho.tail.hd (by rw [c1]; decide)).1 c1
  injection h with e1 e2 e3
  subst e1 e2 e3
  exact ⟨rfl, by simp [bnd, at_, isTm], rfl, rfl, by simp [ndOk, at_, kindOk, textOk, numOk, kidsOk, named, rowOk, hn]⟩
theorem dc_tm {k : Int} (h : isDc k = true) : isTm k = false ∧ k ≠ 12 := by
  simp only [isDc, isTm, Bool.or_eq_true, beq_iff_eq, Bool.and_eq_false_iff, decide_eq_false_iff_not] at *
  omega
theorem memO_may {nm : List UInt8 → Bool} {m : Int} {r : List Tok} {d : Nd} {k : Fo} {r' : List Tok} (hm : m ≤ 64) (ho : OkT nm r) (h : memO r = .ok d k r') : d.kind = 4 ∧ Tr nm m d k ∧ r' <:+ r := by
  obtain ⟨c1, h⟩ := tkK_ok h
  have hn := (ho.hd (by rw [c1]; decide)).1 c1
  obtain ⟨d1, k1, r1, h1, h2⟩ := andO_ok h
  obtain ⟨y1, rfl, rfl, y2⟩ := tyO_ok ho.tail h1
  have h5 := tkM_ok h2
  injection h5 with e1 e2 e3
  subst e1 e2 e3
  refine ⟨rfl, ⟨hm, ?_, kid_plain (tr_leaf hm y2) (by rw [y1]; rfl) (by rw [y1]; decide) (by simp [must, at_]) (by simp [ins, at_])⟩, ((List.tail_suffix _).trans (List.tail_suffix _)).trans (List.tail_suffix _)⟩
  rw [one_nds]
  simp [ndOk, at_, kindOk, textOk, numOk, kidsOk, named, rowOk, hn, y1, isK]
theorem may_members (nm : List UInt8 → Bool) (n : Nat) (HL : ∀ t x acc, May nm n (.members t x acc)) (t x : Tok) (acc : Fo) : May nm (n + 1) (.members t x acc) := by
  intro r m d k r' ho hm hp h
  obtain ⟨p0, p1, p2⟩ : nm x.text = true ∧ Ks nm m (at_ t 3 x.text 0) 0 acc ∧ (acc.nds.map (·.kind)).all (isK 4) = true := hp
  rw [P] at h
  split at h
  · injection h with e1 e2 e3
    subst e1 e2
    refine ⟨rfl, by omega, ?_, p1⟩
    show (kindOk 3 && nm x.text && numOk 3 0 && rowOk [] (isK 4) _) = true
    rw [rowOk_nil, p0, p2]
    rfl
  · obtain ⟨d1, k1, r1, h1, h2⟩ := andO_ok h
    obtain ⟨s1, s2, s3⟩ := memO_may (m := m) (by omega) ho h1
    refine HL t x (acc.app (one d1 k1)) r1 m d k r' (ho.suf s3) hm ⟨p0, ks_app p1 (kid_plain s2 (by rw [s1]; rfl) (by rw [s1]; decide) (by simp [must, at_]) (by simp [ins, at_])), ?_⟩ h2
    rw [nds_app, one_nds, List.map_append, List.all_append, p2]
    simp [s1, isK]
theorem idx_3 (s : List UInt8) (h : lifeWords.contains s = true) : lifeWords.idxOf s ≤ 3 := by
  have h' : s ∈ lifeWords := by simpa using h
  simp only [lifeWords, List.mem_cons, List.not_mem_nil, or_false] at h'
  rcases h' with rfl | rfl | rfl | rfl <;> decide
theorem may_lives (nm : List UInt8 → Bool) (n : Nat) (HB : May nm n .block) (HL : ∀ t x acc, May nm n (.lives t x acc)) (t x : Tok) (acc : Fo) : May nm (n + 1) (.lives t x acc) := by
  intro r m d k r' ho hm hp h
  obtain ⟨p0, p1, p2⟩ : nm x.text = true ∧ Ks nm m (at_ t 8 x.text 0) 0 acc ∧ rowOk [isK 29] (isK 9) (acc.nds.map (·.kind)) = true := hp
  rw [P] at h
  split at h
  · injection h with e1 e2 e3
    subst e1 e2
    refine ⟨rfl, by omega, ?_, p1⟩
    show (kindOk 8 && nm x.text && numOk 8 0 && rowOk [isK 29] (isK 9) _) = true
    rw [p0, p2]
    rfl
  · obtain ⟨d1, k1, r1, h1, h2⟩ := andO_ok h
    unfold lifeO tkW at h1
    obtain ⟨c, h1⟩ := tk_ok h1
    obtain ⟨d2, k2, r2, h3, h4⟩ := andO_ok h1
    have o2 := ho.tail.suf (P_suf h3)
    obtain ⟨b1, b2⟩ : d2.kind = 12 ∧ Tr nm ((m : Int) + 1) d2 k2 := HB _ _ _ _ _ ho.tail hm trivial h3
    injection h4 with e1 e2 e3
    subst e1 e2 e3
    have hi := idx_3 (hd r).text (by unfold seesW seesK at c; exact (Bool.and_eq_true_iff.1 c).2)
    have s2 : Tr nm m (at_ (hd r) 9 [] (lifeWords.idxOf (hd r).text)) (one d2 k2) := by
      refine ⟨by omega, ?_, kid_block b2 b1 (by simp [must, at_]) (by simp [ins, at_])⟩
      rw [one_nds]
      have hnum : numOk 9 ((lifeWords.idxOf (hd r).text : Nat) : Int) = true := by
        show (decide (0 ≤ ((lifeWords.idxOf (hd r).text : Nat) : Int)) && decide (((lifeWords.idxOf (hd r).text : Nat) : Int) ≤ 3)) = true
        rw [Bool.and_eq_true, decide_eq_true_eq, decide_eq_true_eq]
        omega
      have hk : kidsOk 9 [d2.kind] = true := by simp [kidsOk, rowOk, b1, isK]
      show (kindOk 9 && textOk nm 9 [] && numOk 9 ((lifeWords.idxOf (hd r).text : Nat) : Int) && kidsOk 9 [d2.kind]) = true
      rw [hnum, hk]
      rfl
    refine HL t x (acc.app (one _ _)) r2 m d k r' o2 hm ⟨p0, ks_app p1 (kid_plain s2 rfl (by show (9 : Int) ≠ 12; decide) (by simp [must, at_]) (by simp [ins, at_])), ?_⟩ h2
    rw [nds_app, one_nds, List.map_append]
    exact rowOk_snoc _ _ rfl _ _ p2
theorem may_decls (nm : List UInt8 → Bool) (n : Nat) (HD : May nm n .decl) (HL : ∀ acc, May nm n (.decls acc)) (acc : Fo) : May nm (n + 1) (.decls acc) := by
  intro r m d k r' ho hm hp h
  obtain ⟨p1, p2⟩ : Ks nm m ⟨1, [], 0, 1, 1⟩ 0 acc ∧ (acc.nds.map (·.kind)).all isDc = true := hp
  rw [P] at h
  split at h
  · injection h with e1 e2 e3
    subst e1 e2
    refine ⟨rfl, by omega, ?_, p1⟩
    show (kindOk 1 && textOk nm 1 [] && numOk 1 0 && rowOk [] isDc _) = true
    rw [rowOk_nil, p2]
    rfl
  · obtain ⟨d1, k1, r1, h1, h2⟩ := andO_ok h
    obtain ⟨s1, s2⟩ : isDc d1.kind = true ∧ Tr nm m d1 k1 := HD _ _ _ _ _ ho hm trivial h1
    refine HL (acc.app (one d1 k1)) r1 m d k r' (ho.suf (P_suf h1)) hm ⟨ks_app p1 (kid_plain s2 (dc_tm s1).1 (dc_tm s1).2 (by simp [must]) (by simp [ins])), ?_⟩ h2
    rw [nds_app, one_nds, List.map_append, List.all_append, p2]
    simp [s1]
end Go.Proofs.YtpeoefbibjbinaaGreat

namespace Go.Proofs.YtpeoefbibjbinaaGreat

theorem use_te {nm : List UInt8 → Bool} {m : Int} {u : Nd} (hm : m ≤ 64) (u1 : u.kind = 29) (u2 : bnd u.kind u.text = 5) (u3 : ndOk nm u [] = true) : Te nm m 5 u .nil := te_5 (tr_leaf hm u3) (by rw [u1]; rfl) u2 (by decide)
theorem may_decl (nm : List UInt8 → Bool) (n : Nat) (HB : May nm n .block) (HM : ∀ t x acc, May nm n (.members t x acc)) (HL : ∀ t x acc, May nm n (.lives t x acc)) : May nm (n + 1) .decl := by
  intro r m d k r' ho hm _ h
  have hm64 : (m : Int) ≤ 64 := by omega
  rw [P] at h
  split at h
  · obtain ⟨c1, h⟩ := tkK_ok h
    have hn := (ho.tail.hd (by rw [c1]; decide)).1 c1
    have h3 := tkM_ok h
    injection h3 with e1 e2 e3
    subst e1 e2
    exact ⟨rfl, tr_leaf hm64 (by simp [ndOk, at_, kindOk, textOk, numOk, kidsOk, named, rowOk, hn])⟩
  split at h
  · obtain ⟨c1, h⟩ := tkK_ok h
    have hn := (ho.tail.hd (by rw [c1]; decide)).1 c1
    have h3 := tkM_ok h
    exact HM _ _ _ _ _ _ _ _ ho.tail.tail.tail hm ⟨hn, ks_nil _ _ _ _, rfl⟩ h3
  split at h
  · obtain ⟨c1, h⟩ := tkK_ok h
    have hn := (ho.tail.hd (by rw [c1]; decide)).1 c1
    obtain ⟨d1, k1, r1, h1, h2⟩ := andO_ok h
    obtain ⟨y1, rfl, rfl, y2⟩ := tyO_ok ho.tail.tail h1
    have h5 := tkM_ok h2
    injection h5 with e1 e2 e3
    subst e1 e2
    refine ⟨rfl, hm64, ?_, kid_plain (tr_leaf hm64 y2) (by rw [y1]; rfl) (by rw [y1]; decide) (by simp [must, at_]) (by simp [ins, at_])⟩
    rw [one_nds]
    simp [ndOk, at_, kindOk, textOk, numOk, kidsOk, named, rowOk, hn, y1, isK]
  split at h
  · obtain ⟨c1, h⟩ := tkK_ok h
    have hn := (ho.tail.hd (by rw [c1]; decide)).1 c1
    obtain ⟨d1, k1, r1, h1, h2⟩ := andO_ok h
    obtain ⟨b1, b2⟩ : d1.kind = 12 ∧ Tr nm ((m : Int) + 1) d1 k1 := HB _ _ _ _ _ ho.tail.tail hm trivial h1
    injection h2 with e1 e2 e3
    subst e1 e2
    refine ⟨rfl, hm64, ?_, kid_block b2 b1 (by simp [must, at_]) (by simp [ins, at_])⟩
    rw [one_nds]
    simp [ndOk, at_, kindOk, textOk, numOk, kidsOk, named, rowOk, hn, b1, isK]
  split at h
  · obtain ⟨c1, h⟩ := tkK_ok h
    have hn := (ho.tail.hd (by rw [c1]; decide)).1 c1
    obtain ⟨u, uk, r1, h1, h2⟩ := andO_ok h
    obtain ⟨u1, u2, rfl, rfl, u3⟩ := onO_ok ho.tail.tail h1
    have h5 := tkM_ok h2
    exact HL _ _ _ _ _ _ _ _ ho.tail.tail.tail.tail.tail hm ⟨hn, (use_te hm64 u1 u2 u3).kid (by simp [must, at_]) (by simp [ins, at_]), by rw [one_nds]; simp [rowOk, u1, isK]⟩ h5
  split at h
  · obtain ⟨c1, h⟩ := tkK_ok h
    have hn := (ho.tail.hd (by rw [c1]; decide)).1 c1
    obtain ⟨u, uk, r1, h1, h2⟩ := andO_ok h
    obtain ⟨u1, u2, rfl, rfl, u3⟩ := onO_ok ho.tail.tail h1
    unfold tkW at h2
    obtain ⟨_, h2⟩ := tk_ok h2
    obtain ⟨d1, k1, r1, h3, h4⟩ := andO_ok h2
    obtain ⟨b1, b2⟩ : d1.kind = 12 ∧ Tr nm ((m : Int) + 1) d1 k1 := HB _ _ _ _ _ ho.tail.tail.tail.tail.tail hm trivial h3
    injection h4 with e1 e2 e3
    subst e1 e2
    have hev : ∀ x : Int, x = 1 ∨ x = 0 → isDc 10 = true ∧ Tr nm m (at_ (hd r) 10 (hd r.tail).text x) ((one u .nil).app (one d1 k1)) := fun x hx => by
      refine ⟨rfl, hm64, ?_, ks_app ((use_te hm64 u1 u2 u3).kid (by simp [must, at_]) (by simp [ins, at_])) (kid_block b2 b1 (by simp [must, at_]) (by simp [ins, at_]))⟩
      rw [nds_app, one_nds, one_nds]
      rcases hx with rfl | rfl <;> simp [ndOk, at_, kindOk, textOk, numOk, kidsOk, named, rowOk, hn, u1, b1, isK]
    exact hev (if (hd r.tail.tail.tail.tail).text = [111, 110] then 1 else 0) (by split <;> simp)
  · unfold tkW at h
    obtain ⟨_, h⟩ := tk_ok h
    obtain ⟨d1, k1, r1, h1, h2⟩ := andO_ok h
    obtain ⟨b1, b2⟩ : d1.kind = 12 ∧ Tr nm ((m : Int) + 1) d1 k1 := HB _ _ _ _ _ ho.tail hm trivial h1
    injection h2 with e1 e2 e3
    subst e1 e2
    refine ⟨rfl, hm64, ?_, kid_block b2 b1 (by simp [must, at_]) (by simp [ins, at_])⟩
    rw [one_nds]
    simp [ndOk, at_, kindOk, textOk, numOk, kidsOk, named, rowOk, b1, isK]
theorem may_all (nm : List UInt8 → Bool) : ∀ n g, May nm n g
  | 0, g => fun r m d k r' _ _ _ h => by cases h
  | n + 1, g => by
    have ih := may_all nm n
    cases g with
    | decls acc => exact may_decls nm n (ih _) (fun _ => ih _) acc
    | decl => exact may_decl nm n (ih _) (fun _ _ _ => ih _) (fun _ _ _ => ih _)
    | members t x acc => exact may_members nm n (fun _ _ _ => ih _) t x acc
    | lives t x acc => exact may_lives nm n (ih _) (fun _ _ _ => ih _) t x acc
    | block => exact may_block nm n (fun _ _ => ih _)
    | stmts t acc => exact may_stmts nm n (ih _) (fun _ _ => ih _) t acc
    | stmt => exact may_stmt nm n (ih _) (ih _) (ih _) (fun _ _ => ih _)
    | var => exact may_var nm n (ih _)
    | term => exact may_term nm n (ih _)
    | sum => exact may_sum nm n (ih _) (fun _ _ => ih _)
    | sumL d k => exact may_sumL nm n (ih _) (fun _ _ => ih _) d k
    | product => exact may_product nm n (ih _) (fun _ _ => ih _)
    | prodL d k => exact may_prodL nm n (ih _) (fun _ _ => ih _) d k
    | unary => exact may_unary nm n (ih _) (ih _)
    | tight => exact may_tight nm n (ih _) (fun _ _ => ih _)
    | tightL d k => exact may_tightL nm n (ih _) (fun _ _ => ih _) d k
    | first => exact may_first nm n (ih _) (ih _)
    | _ =>
      rename_i d acc
      exact may_to nm n (ih _) d acc
/-- The tree of a text may be. -/
theorem may_PT {nm : List UInt8 → Bool} {T : List Tok} (ho : OkT nm T) {d : Nd} {k : Fo} {r : List Tok} (h : PT T = .ok d k r) : MayT nm d k := by
  obtain ⟨h1, h2⟩ : d.kind = 1 ∧ Tr nm ((0 : Nat) : Int) d k := may_all nm _ (.decls .nil) T 0 d k r ho (by decide) ⟨ks_nil _ _ _ _, rfl⟩ h
  exact h2.may h1
end Go.Proofs.YtpeoefbibjbinaaGreat

namespace Go.Proofs.YtpeoefbibjbinaaGreat

theorem run_one (k : Int) : ∀ (l : List UInt8) (j : Nat), j < run k l → goes k (chr l j) = true
  | [], j, h => by simp [run] at h
  | x :: r, j, h => by
    simp only [run] at h
    split at h
    · rename_i hg
      cases j with
      | zero => simpa [chr] using hg
      | succ j =>
        have := run_one k r j (by omega)
        simpa [chr] using this
    · omega
theorem chr_textA (l : List UInt8) (a j : Nat) (h : j < endA l a - a) : chr (textA l a) j = chr l (a + j) := by
  unfold textA
  rw [chr_take _ _ _ h, chr_drop]
theorem kind1_L {c : Int} (h : kindI c = 1) : isL c = true := by
  unfold kindI at h
  split at h
  · assumption
  · split at h
    · omega
    · split at h <;> omega
theorem name_textA (l : List UInt8) (a : Nat) (h : a < l.length) (hk : kindA l a = 1) : whole (textA l a) 1 = true := by
  have hL : isL (chr l a) = true := kind1_L hk
  have he : endA l a = a + 1 + run 1 (l.drop (a + 1)) := by
    unfold endA
    rw [hk, if_neg (by decide)]
    unfold endT
    rw [if_neg (fun hp => by
      have := (chr_pre2 _ hp).1
      rw [chr_drop, Nat.add_zero] at this
      rw [this] at hL
      exact absurd hL (by decide))]
    rfl
  have hlen := textA_len l a h
  refine whole_name _ (fun e => ?_) (fun j hj => ?_)
  · rw [e] at hlen
    simp at hlen
    omega
  · rw [hlen] at hj
    unfold nameC
    rw [chr_textA l a j hj]
    cases j with
    | zero => simp [hL]
    | succ j =>
      have := run_one 1 (l.drop (a + 1)) j (by omega)
      rw [chr_drop, show a + 1 + j = a + (j + 1) by omega] at this
      unfold goes at this
      rw [if_pos rfl, Bool.or_eq_true] at this
      rcases this with h1 | h1 <;> simp [h1]
theorem numF_le : ∀ (l : List UInt8) (n m : Int), 0 ≤ n → n ≤ 2147483647 → (∀ x ∈ l, isD (x.toNat : Int) = true) → numF n l = some m → 0 ≤ m ∧ m ≤ 2147483647
  | [], n, m, h0, h1, _, h => by
    simp only [numF, Option.some.injEq] at h
    omega
  | x :: r, n, m, h0, h1, hd, h => by
    simp only [numF] at h
    split at h
    · cases h
    · have hx := hd x (List.mem_cons_self ..)
      have : 48 ≤ (x.toNat : Int) := by
        simp [isD] at hx
        omega
      exact numF_le r _ m (by omega) (by omega) (fun y hy => hd y (List.mem_cons_of_mem _ hy)) h
theorem numT_le (s : List UInt8) (h : (numT s).2 = true) : 0 ≤ (numT s).1 ∧ (numT s).1 ≤ 2147483647 := by
  unfold numT at h ⊢
  split at h
  · rename_i hw
    rw [if_pos hw]
    have hd := whole_digits s hw
    cases hn : numA s 0 0 with
    | none => simp
    | some m =>
      simp only
      unfold numA at hn
      rw [List.drop_zero] at hn
      exact numF_le s 0 m (by decide) (by decide) (fun x hx => by
        obtain ⟨j, hj, e⟩ := mem_chr s x hx
        rw [← e]
        exact hd j hj) hn
  · cases h
theorem tok_ok (l : List UInt8) (a : Nat) (h : a < l.length) (hk : ¬ kindA l a = 0) (he : errA l a = 0) : ((tokA l a).kind = 1 → isNm (tokA l a).text = true) ∧ ((tokA l a).kind = 3 → 0 ≤ (tokA l a).n ∧ (tokA l a).n ≤ 2147483647) := by
  unfold errA at he
  rw [if_neg hk] at he
  constructor
  · intro h1
    have h2 : tkind (kindA l a) (textA l a) = 1 := h1
    unfold tkind at h2
    split at h2
    · omega
    · rename_i hn
      have hw := name_textA l a h h2
      rw [h2] at he
      unfold terr at he
      rw [if_pos rfl] at he
      split at he
      · omega
      · rename_i h32
        show isNm (textA l a) = true
        have : isW (textA l a) = false := by simpa [h2] using hn
        simp [isNm, hw, this]
        omega
  · intro h1
    have h2 : tkind (kindA l a) (textA l a) = 3 := h1
    unfold tkind at h2
    split at h2
    · omega
    · rw [h2] at he
      unfold terr at he
      rw [if_neg (by decide), if_pos rfl] at he
      split at he
      · rename_i h4
        have e : (tokA l a).n = (numT (textA l a)).1 := by
          show tnum (kindA l a) (textA l a) = _
          unfold tnum
          rw [h2, if_pos rfl]
        rw [e]
        exact numT_le _ h4
      · omega
theorem okT_dgs : ∀ (n : Nat) (l : List UInt8) (a : Nat), l.length - a ≤ n → dgs l a = [] → OkT isNm (toks l a)
  | 0, l, a, h, _ => by
    rw [toks_end l a (by omega)]
    intro t ht
    cases ht
  | n + 1, l, a, h, hd => by
    by_cases ha : a < l.length
    · have hg := endA_gt l a
      have hx := nxt_ge l (endA l a)
      by_cases he : errA l a = 0
      · rw [dgs_skip l a ha he] at hd
        have ih := okT_dgs n l (nxt l (endA l a)) (by omega) hd
        by_cases hk : kindA l a = 0
        · rw [toks_skip l a ha hk]
          exact ih
        · rw [toks_one l a ha hk]
          intro t ht
          rcases List.mem_cons.1 ht with rfl | ht
          · exact tok_ok l a ha hk he
          · exact ih t ht
      · rw [dgs_one l a ha he] at hd
        cases hd
    · rw [toks_end l a ha]
      intro t ht
      cases ht
/-- A text's tree may be. -/
theorem may_text (l : List UInt8) (hd : dgs l (nxt l 0) = []) {d : Nd} {k : Fo} {r : List Tok} (h : PT (toks l (nxt l 0)) = .ok d k r) : MayT isNm d k := may_PT (okT_dgs _ l _ (Nat.le_refl _) hd) h
end Go.Proofs.YtpeoefbibjbinaaGreat

namespace Go.Proofs.YtpeoefbibjbinaaGreat
set_option linter.unusedSimpArgs false

def kindsOf (l : List Tw) (ks : List Int) : List Int := ks.map fun k => ((l[k.toNat]?).map (·.kind)).getD 0
theorem kinds_starts (l : List Tw) : ∀ (f : Fo) (b : Nat), (∀ q x, (f.flat b)[q]? = some x → l[b + q]? = some x) → kindsOf l (f.starts b) = f.nds.map (·.kind)
  | .nil, _, _ => rfl
  | .cons d k r, b, h => by
    have h0 := h 0 _ rfl
    have ih := kinds_starts l r (b + 1 + k.size) (fun q x hq => by
      have := h (k.size + q + 1) x (by rw [Fo.flat, List.getElem?_cons_succ, List.getElem?_append_right (by rw [Fo.flat_len]; omega), Fo.flat_len, show k.size + q - k.size = q by omega]; exact hq)
      rw [← this]; congr 1; omega)
    simp only [Fo.starts, kindsOf, List.map_cons, Fo.nds]
    unfold kindsOf at ih
    rw [ih]
    simp at h0
    simp [h0, Nd.tw]
theorem rowOk_len : ∀ (zs : List (Int → Bool)) (l : List Int), rowOk zs noK l = true → l.length = zs.length
  | [], l, h => by
    cases l with
    | nil => rfl
    | cons x r => simp [rowOk, noK] at h
  | a :: zs, [], h => by simp [rowOk] at h
  | a :: zs, x :: l, h => by
    simp only [rowOk, Bool.and_eq_true] at h
    simp [rowOk_len zs l h.2]

def bndR (k : Int) (s : List UInt8) : Int :=
  if isTm k = false then 0
  else if k = 32 then (if s = [60] ∨ s = [61, 61] then 1 else if s = [43] ∨ s = [45] then 2 else 3)
  else if k = 34 ∨ k = 35 then 4 else 5
def mustR (d : Nd) (i : Nat) : Int :=
  if d.kind = 32 then (if bndR d.kind d.text = 1 then 2 else bndR d.kind d.text + i)
  else if d.kind = 34 ∨ d.kind = 35 then 4
  else if d.kind = 30 then 5
  else if d.kind = 31 then 5 - 5 * i
  else 0
def prnR (d : Nd) (i : Nat) (x : Nd) : Bool := decide (0 < bndR x.kind x.text) && decide (bndR x.kind x.text < mustR d i)
def dprR (d : Nd) (i : Nat) (x : Nd) : Int := (if x.kind = 12 then 1 else 0) + (if prnR d i x = true then 1 else 0) + (if ins d i = true then 1 else 0)
def Fo.depsR (m : Int) (p : Nd) : Nat → Fo → List Int
  | _, .nil => []
  | i, .cons d k r => (m + dprR p i d) :: (depsR (m + dprR p i d) d 0 k ++ depsR m p (i + 1) r)

def goesK (g : Nat → Int → Nat) (l : List Tw) (w : Nd) (nest : Int) : Nat → Nat → List Int → Nat
  | _, next, [] => next
  | i, next, k :: ks =>
    if k ≠ next then 0 else match l[next]? with
    | none => 0
    | some x => if g next (nest + dprR w i x.nd) = 0 then 0 else goesK g l w nest (i + 1) (g next (nest + dprR w i x.nd)) ks
def goesR (nm : List UInt8 → Bool) (l : List Tw) : Nat → Nat → Int → Nat
  | 0, _, _ => 0
  | f + 1, at_, nest => match l[at_]? with
    | none => 0
    | some t =>
      if 64 < nest then 0
      else if kindOk t.kind = false ∨ textOk nm t.kind t.text = false ∨ numOk t.kind t.n = false then 0
      else if goesK (goesR nm l f) l t.nd nest 0 (at_ + 1) t.kids = 0 then 0
      else if kidsOk t.kind (kindsOf l t.kids) = true then goesK (goesR nm l f) l t.nd nest 0 (at_ + 1) t.kids else 0

theorem bnd_fit (nm : List UInt8 → Bool) (x : Nd) (h : textOk nm x.kind x.text = true) : bndR x.kind x.text = bnd x.kind x.text := by
  unfold bndR bnd
  by_cases h0 : isTm x.kind = false
  · rw [if_pos h0, if_pos h0]
  · rw [if_neg h0, if_neg h0]
    by_cases h32 : x.kind = 32
    · rw [if_pos h32, if_neg (show ¬ (x.kind = 34 ∨ x.kind = 35) by omega), if_pos h32]
      have hs : isSg x.text = true := by simpa [textOk, h32] using h
      simp only [isSg, Bool.or_eq_true, beq_iff_eq] at hs
      rcases hs with (((e | e) | e) | e) | e <;> (rw [e]; decide)
    · rw [if_neg h32, if_neg h32]

theorem must_eq (nm : List UInt8 → Bool) (d : Nd) (L : List Int) (h : ndOk nm d L = true) (i : Nat) (hi : i < L.length) : mustR d i = must d i := by
  simp only [ndOk, Bool.and_eq_true] at h
  obtain ⟨⟨⟨_, ht⟩, _⟩, hc⟩ := h
  unfold mustR must
  by_cases h32 : d.kind = 32
  · have hl : L.length = 2 := by have := rowOk_len _ _ (show rowOk _ noK _ = true from by simpa [kidsOk, h32] using hc); simpa using this
    have hs : isSg d.text = true := by simpa [textOk, h32] using ht
    simp only [isSg, Bool.or_eq_true, beq_iff_eq] at hs
    rw [if_pos h32, if_pos h32]
    have hi2 : i = 0 ∨ i = 1 := by omega
    rcases hs with (((e | e) | e) | e) | e <;> rcases hi2 with rfl | rfl <;> simp [h32, e, bndR, bnd, isTm]
  · rw [if_neg h32, if_neg h32]
    by_cases h34 : d.kind = 34 ∨ d.kind = 35
    · rw [if_pos h34, if_pos h34]
    · rw [if_neg h34, if_neg h34]
      by_cases h30 : d.kind = 30
      · have hl : L.length = 1 := by have := rowOk_len _ _ (show rowOk _ noK _ = true from by simpa [kidsOk, h30] using hc); simpa using this
        have : i = 0 := by omega
        simp [h30, this]
      · by_cases h31 : d.kind = 31
        · have hl : L.length = 2 := by have := rowOk_len _ _ (show rowOk _ noK _ = true from by simpa [kidsOk, h31] using hc); simpa using this
          have hi2 : i = 0 ∨ i = 1 := by omega
          rcases hi2 with rfl | rfl <;> simp [h31]
        · simp [h30, h31]

theorem rowOk_at : ∀ (zs : List (Int → Bool)) (rest : Int → Bool) (l : List Int) (i : Nat) (a : Int → Bool) (x : Int), rowOk zs rest l = true → zs[i]? = some a → l[i]? = some x → a x = true
  | [], _, _, _, _, _, _, h, _ => by simp at h
  | a :: zs, rest, [], i, _, _, _, _, h => by simp at h
  | a :: zs, rest, y :: l, 0, b, x, h, h1, h2 => by
    simp only [rowOk, Bool.and_eq_true] at h
    simp at h1 h2
    rw [← h1, ← h2]; exact h.1
  | a :: zs, rest, y :: l, i + 1, b, x, h, h1, h2 => by
    simp only [rowOk, Bool.and_eq_true] at h
    exact rowOk_at zs rest l i b x h.2 (by simpa using h1) (by simpa using h2)

theorem bnd_pos {x : Nd} (h : isTm x.kind = true) : 0 < bnd x.kind x.text := by
  unfold bnd
  rw [if_neg (by simp [h])]
  repeat' split
  all_goals decide
theorem bnd_nonneg (k : Int) (s : List UInt8) : 0 ≤ bnd k s := by
  unfold bnd
  repeat' split
  all_goals decide

theorem dpr_eq (nm : List UInt8 → Bool) (d : Nd) (L : List Int) (h : ndOk nm d L = true) (i : Nat) (x : Nd) (hi : L[i]? = some x.kind) (hx : textOk nm x.kind x.text = true) : dprR d i x = dpr d i x := by
  have hlt : i < L.length := (List.getElem?_eq_some_iff.1 hi).1
  have hm := must_eq nm d L h i hlt
  have hb := bnd_fit nm x hx
  have key : prnR d i x = prn d i x := by
    unfold prnR prn
    rw [hm, hb]
    have hn := bnd_nonneg x.kind x.text
    by_cases h0 : must d i ≤ 0
    · have : ¬ bnd x.kind x.text < must d i := by omega
      simp [this]
    · have ht : isTm x.kind = true := by
        simp only [ndOk, Bool.and_eq_true] at h
        obtain ⟨⟨⟨_, _⟩, _⟩, hc⟩ := h
        unfold must at h0
        by_cases h32 : d.kind = 32
        · have hr : rowOk [isTm, isTm] noK L = true := by simpa [kidsOk, h32] using hc
          have hl := rowOk_len _ _ hr
          have hi2 : i = 0 ∨ i = 1 := by simp at hl; omega
          rcases hi2 with rfl | rfl
          · exact rowOk_at _ _ _ 0 isTm _ hr rfl hi
          · exact rowOk_at _ _ _ 1 isTm _ hr rfl hi
        · rw [if_neg h32] at h0
          by_cases h34 : d.kind = 34 ∨ d.kind = 35
          · have hr : rowOk [isTm] noK L = true := by rcases h34 with e | e <;> simpa [kidsOk, e] using hc
            have hl := rowOk_len _ _ hr
            have hi2 : i = 0 := by simp at hl; omega
            subst hi2
            exact rowOk_at _ _ _ 0 isTm _ hr rfl hi
          · rw [if_neg h34] at h0
            by_cases h30 : d.kind = 30
            · have hr : rowOk [isTm] noK L = true := by simpa [kidsOk, h30] using hc
              have hl := rowOk_len _ _ hr
              have hi2 : i = 0 := by simp at hl; omega
              subst hi2
              exact rowOk_at _ _ _ 0 isTm _ hr rfl hi
            · by_cases h31 : d.kind = 31
              · have hr : rowOk [isTm, isTm] noK L = true := by simpa [kidsOk, h31] using hc
                have hl := rowOk_len _ _ hr
                have hi2 : i = 0 ∨ i = 1 := by simp at hl; omega
                rcases hi2 with rfl | rfl
                · exact rowOk_at _ _ _ 0 isTm _ hr rfl hi
                · exact rowOk_at _ _ _ 1 isTm _ hr rfl hi
              · simp [h30, h31] at h0
      have := bnd_pos ht
      simp [this]
  unfold dprR dpr
  rw [key]

theorem text_fit {nm : List UInt8 → Bool} {F : Fo} (h : F.fit nm = true) : ∀ x ∈ F.nds, textOk nm x.kind x.text = true := by
  induction F with
  | nil => intro x hx; simp [Fo.nds] at hx
  | cons d k r _ ih =>
    simp only [Fo.fit, Bool.and_eq_true] at h
    intro x hx
    simp only [Fo.nds, List.mem_cons] at hx
    rcases hx with rfl | hx
    · have := h.1.1
      simp only [ndOk, Bool.and_eq_true] at this
      exact this.1.1.2
    · exact ih h.2 x hx

theorem deps_eq (nm : List UInt8 → Bool) : ∀ (F : Fo) (p : Nd) (i : Nat) (m : Int), F.fit nm = true → (∀ j x, F.nds[j]? = some x → dprR p (i + j) x = dpr p (i + j) x) → F.depsR m p i = F.deps m p i
  | .nil, _, _, _, _, _ => rfl
  | .cons d k r, p, i, m, hf, hp => by
    simp only [Fo.fit, Bool.and_eq_true] at hf
    have h0 := hp 0 d rfl
    rw [Nat.add_zero] at h0
    have hk : ∀ j x, k.nds[j]? = some x → dprR d (0 + j) x = dpr d (0 + j) x := fun j x hj => by
      rw [Nat.zero_add]
      exact dpr_eq nm d _ hf.1.1 j x (by simp [hj]) (text_fit hf.1.2 x (List.mem_of_getElem? hj))
    simp only [Fo.depsR, Fo.deps, h0]
    rw [deps_eq nm k d 0 _ hf.1.2 hk, deps_eq nm r p (i + 1) m hf.2 (fun j x hj => by rw [show i + 1 + j = i + (j + 1) by omega]; exact hp (j + 1) x (by simpa [Fo.nds] using hj))]
theorem deps_tree (nm : List UInt8 → Bool) (d : Nd) (k : Fo) (m : Int) (h : ndOk nm d (k.nds.map (·.kind)) = true) (hf : k.fit nm = true) : k.depsR m d 0 = k.deps m d 0 :=
  deps_eq nm k d 0 m hf (fun j x hj => by rw [Nat.zero_add]; exact dpr_eq nm d _ h j x (by simp [hj]) (text_fit hf x (List.mem_of_getElem? hj)))

/-- A tree that stands at a place, of a nest, and may stand there. -/
def Stands (nm : List UInt8 → Bool) (l : List Tw) (at_ : Nat) (nest : Int) (d : Nd) (k : Fo) : Prop :=
  (∃ rest, l.drop at_ = (Fo.cons d k .nil).flat at_ ++ rest) ∧ (Fo.cons d k .nil).fit nm = true ∧ nest ≤ 64 ∧ ∀ x ∈ k.deps nest d 0, x ≤ 64

theorem drop_head {l : List Tw} {n : Nat} {t : Tw} {r : List Tw} (h : l.drop n = t :: r) : l[n]? = some t ∧ l.drop (n + 1) = r := by
  constructor
  · have := congrArg (·[0]?) h
    simpa using this
  · rw [← List.drop_drop, h]; rfl
theorem head_drop {l : List Tw} {n : Nat} {t : Tw} (h : l[n]? = some t) : l.drop n = t :: l.drop (n + 1) := by
  obtain ⟨h1, h2⟩ := List.getElem?_eq_some_iff.1 h
  rw [List.drop_eq_getElem_cons h1, h2]
theorem flat_sub {l : List Tw} {F : Fo} {b : Nat} {rest : List Tw} (h : l.drop b = F.flat b ++ rest) : ∀ q x, (F.flat b)[q]? = some x → l[b + q]? = some x := by
  intro q x hq
  have hlt := (List.getElem?_eq_some_iff.1 hq).1
  have : (l.drop b)[q]? = some x := by rw [h, List.getElem?_append_left hlt]; exact hq
  simpa using this

theorem goesK_forest (nm : List UInt8 → Bool) (l : List Tw) (w : Nd) (nest : Int) (g : Nat → Int → Nat) (hg : ∀ at_ m, ¬ g at_ m = 0 → ∃ d k, Stands nm l at_ m d k ∧ g at_ m = at_ + 1 + k.size) :
    ∀ (ks : List Int) (i next r : Nat), goesK g l w nest i next ks = r → ¬ r = 0 → ∃ (F : Fo) (rest : List Tw), l.drop next = F.flat next ++ rest ∧ ks = F.starts next ∧ r = next + F.size ∧ F.fit nm = true ∧ ∀ x ∈ F.depsR nest w i, x ≤ 64
  | [], i, next, r, h, h0 => ⟨.nil, l.drop next, rfl, rfl, by simpa [goesK, Fo.size] using h.symm, rfl, by simp [Fo.depsR]⟩
  | k :: ks, i, next, r, h, h0 => by
    unfold goesK at h
    by_cases hk : k = (next : Int)
    · rw [if_neg (by simpa using hk)] at h
      cases hx : l[next]? with
      | none => rw [hx] at h; exact absurd h.symm h0
      | some x =>
        rw [hx] at h
        simp only at h
        by_cases hz : g next (nest + dprR w i x.nd) = 0
        · rw [if_pos hz] at h; exact absurd h.symm h0
        · rw [if_neg hz] at h
          obtain ⟨d, kk, ⟨⟨rest, s1⟩, s2, s3, s4⟩, s5⟩ := hg _ _ hz
          obtain ⟨F, rest', f1, f2, f3, f4, f5⟩ := goesK_forest nm l w nest g hg ks (i + 1) _ r h h0
          have hd : x.nd = d := by
            have := (drop_head (by simpa [Fo.flat] using s1)).1
            rw [hx] at this
            injection this with this
            rw [this]; rfl
          rw [s5] at f1 f2 f3
          have hrest : l.drop (next + 1 + kk.size) = rest := by
            have e5 : next + 1 + kk.size = next + (1 + kk.size) := by omega
            rw [e5, ← List.drop_drop, s1]
            simp only [Fo.flat, List.append_nil]
            rw [List.drop_append_of_le_length (by simp [Fo.flat_len]; omega), List.drop_of_length_le (by simp [Fo.flat_len]; omega), List.nil_append]
          simp only [Fo.fit, Bool.and_true, Bool.and_eq_true] at s2
          refine ⟨.cons d kk F, rest', ?_, ?_, ?_, ?_, ?_⟩
          · rw [s1, ← hrest, f1]; simp [Fo.flat]
          · rw [hk, f2]; rfl
          · rw [f3]; simp [Fo.size]; omega
          · simp [Fo.fit, s2.1, s2.2, f4]
          · intro y hy
            rw [hd] at s3 s4
            simp only [Fo.depsR, List.mem_cons, List.mem_append] at hy
            rcases hy with rfl | hy | hy
            · exact s3
            · rw [deps_tree nm d kk _ s2.1 s2.2] at hy
              exact s4 y hy
            · exact f5 y hy
    · rw [if_pos (by simpa using hk)] at h
      exact absurd h.symm h0

theorem goesR_some (nm : List UInt8 → Bool) (l : List Tw) : ∀ (f at_ : Nat) (m : Int), ¬ goesR nm l f at_ m = 0 → ∃ d k, Stands nm l at_ m d k ∧ goesR nm l f at_ m = at_ + 1 + k.size
  | 0, _, _, h => absurd rfl h
  | f + 1, at_, m, h => by
    unfold goesR at h ⊢
    cases ht : l[at_]? with
    | none => rw [ht] at h; exact absurd rfl h
    | some t =>
      rw [ht] at h
      simp only at h ⊢
      by_cases hm : 64 < m
      · rw [if_pos hm] at h; exact absurd rfl h
      · rw [if_neg hm] at h ⊢
        by_cases hc : kindOk t.kind = false ∨ textOk nm t.kind t.text = false ∨ numOk t.kind t.n = false
        · rw [if_pos hc] at h; exact absurd rfl h
        · rw [if_neg hc] at h ⊢
          by_cases hz : goesK (goesR nm l f) l t.nd m 0 (at_ + 1) t.kids = 0
          · rw [if_pos hz] at h; exact absurd rfl h
          · rw [if_neg hz] at h ⊢
            by_cases hk : kidsOk t.kind (kindsOf l t.kids) = true
            · rw [if_pos hk]
              obtain ⟨F, rest, f1, f2, f3, f4, f5⟩ := goesK_forest nm l t.nd m (goesR nm l f) (goesR_some nm l f) t.kids 0 (at_ + 1) _ rfl hz
              have hkk : kindsOf l t.kids = F.nds.map (·.kind) := by rw [f2]; exact kinds_starts l F (at_ + 1) (flat_sub f1)
              have hnd : ndOk nm t.nd (F.nds.map (·.kind)) = true := by
                rw [← hkk]
                simp only [not_or, Bool.not_eq_false] at hc
                simp [ndOk, Tw.nd, hc.1, hc.2.1, hc.2.2, hk]
              refine ⟨t.nd, F, ⟨⟨rest, ?_⟩, ?_, by omega, ?_⟩, f3⟩
              · rw [head_drop ht, f1]
                simp only [Fo.flat, List.append_nil, List.cons_append, Nd.tw, Tw.nd, ← f2]
              · simp [Fo.fit, hnd, f4]
              · rw [← deps_tree nm t.nd F m hnd f4]
                exact f5
            · rw [if_neg hk] at h; exact absurd rfl h

theorem goesK_stands (nm : List UInt8 → Bool) (l : List Tw) (w : Nd) (nest : Int) (g : Nat → Int → Nat) (lo : Nat) (hg : ∀ at_ m d k, lo ≤ at_ → Stands nm l at_ m d k → g at_ m = at_ + 1 + k.size) :
    ∀ (F : Fo) (i next : Nat) (rest : List Tw), lo ≤ next → l.drop next = F.flat next ++ rest → F.fit nm = true → (∀ x ∈ F.depsR nest w i, x ≤ 64) → goesK g l w nest i next (F.starts next) = next + F.size
  | .nil, i, next, rest, _, _, _, _ => by simp [Fo.starts, goesK, Fo.size]
  | .cons d k r, i, next, rest, hlo, hl, hf, hd => by
    simp only [Fo.fit, Bool.and_eq_true] at hf
    have h1 : l[next]? = some (d.tw (k.starts (next + 1))) := (drop_head (by simpa [Fo.flat] using hl)).1
    have hS : Stands nm l next (nest + dprR w i d) d k := by
      refine ⟨⟨r.flat (next + 1 + k.size) ++ rest, ?_⟩, ?_, hd _ (by simp [Fo.depsR]), ?_⟩
      · rw [hl]; simp [Fo.flat]
      · simp [Fo.fit, hf.1.1, hf.1.2]
      · rw [← deps_tree nm d k _ hf.1.1 hf.1.2]
        intro x hx
        exact hd x (by simp [Fo.depsR, hx])
    have hgg := hg next (nest + dprR w i d) d k hlo hS
    have hrest : l.drop (next + 1 + k.size) = r.flat (next + 1 + k.size) ++ rest := by
      have e5 : next + 1 + k.size = next + (1 + k.size) := by omega
      rw [e5, ← List.drop_drop, hl]
      have : (Fo.cons d k r).flat next ++ rest = (d.tw (k.starts (next + 1)) :: k.flat (next + 1)) ++ (r.flat (next + 1 + k.size) ++ rest) := by simp [Fo.flat]
      rw [this, List.drop_append_of_le_length (by simp [Fo.flat_len]; omega), List.drop_of_length_le (by simp [Fo.flat_len]; omega), List.nil_append, e5]
    have ih := goesK_stands nm l w nest g lo hg r (i + 1) (next + 1 + k.size) rest (by omega) hrest hf.2 (fun x hx => hd x (by simp [Fo.depsR, hx]))
    simp only [Fo.starts]
    unfold goesK
    rw [if_neg (by simp), h1]
    have hgg' : g next (nest + dprR w i (d.tw (k.starts (next + 1))).nd) = next + 1 + k.size := hgg
    simp only
    rw [hgg', if_neg (by omega), ih]
    simp [Fo.size]; omega

theorem goesR_stands (nm : List UInt8 → Bool) (l : List Tw) : ∀ (f at_ : Nat) (m : Int) (d : Nd) (k : Fo), l.length ≤ f + at_ → Stands nm l at_ m d k → goesR nm l f at_ m = at_ + 1 + k.size
  | 0, at_, m, d, k, hf, ⟨⟨rest, h1⟩, _⟩ => by
    exfalso
    rw [List.drop_of_length_le (by omega)] at h1
    simp [Fo.flat] at h1
  | f + 1, at_, m, d, k, hf, ⟨⟨rest, h1⟩, h2, h3, h4⟩ => by
    have hh := drop_head (t := d.tw (k.starts (at_ + 1))) (r := k.flat (at_ + 1) ++ rest) (by simpa [Fo.flat] using h1)
    simp only [Fo.fit, Bool.and_true, Bool.and_eq_true] at h2
    have hok := h2.1
    simp only [ndOk, Bool.and_eq_true] at hok
    have hK := goesK_stands nm l d m (goesR nm l f) (at_ + 1) (fun a n d' k' ha hs => goesR_stands nm l f a n d' k' (by omega) hs) k 0 (at_ + 1) rest (Nat.le_refl _) hh.2 h2.2 (by rw [deps_tree nm d k m h2.1 h2.2]; exact h4)
    have hkk : kindsOf l (d.tw (k.starts (at_ + 1))).kids = k.nds.map (·.kind) := kinds_starts l k (at_ + 1) (flat_sub hh.2)
    unfold goesR
    rw [hh.1]
    simp only
    rw [if_neg (by omega), if_neg (by simp [Nd.tw, hok.1.1.1, hok.1.1.2, hok.1.2]), hkk]
    have hK' : goesK (goesR nm l f) l (d.tw (k.starts (at_ + 1))).nd m 0 (at_ + 1) (d.tw (k.starts (at_ + 1))).kids = at_ + 1 + k.size := hK
    rw [hK', if_neg (by omega), if_pos (by simpa [Nd.tw] using hok.2)]

/-- The document's May. -/
def mayR (nm : List UInt8 → Bool) (l : List Tw) : Bool := match l[0]? with
  | none => false
  | some t => t.kind == 1 && (goesR nm l l.length 0 0 == l.length)
theorem mayR_iff (nm : List UInt8 → Bool) (l : List Tw) : mayR nm l = true ↔ MayL nm l := by
  constructor
  · intro h
    unfold mayR at h
    cases h0 : l[0]? with
    | none => rw [h0] at h; cases h
    | some t =>
      rw [h0] at h
      simp only [Bool.and_eq_true, beq_iff_eq] at h
      have hlt : 0 < l.length := (List.getElem?_eq_some_iff.1 h0).1
      obtain ⟨d, k, ⟨⟨rest, s1⟩, s2, s3, s4⟩, s5⟩ := goesR_some nm l l.length 0 0 (by omega)
      rw [h.2] at s5
      rw [List.drop_zero] at s1
      have hr : rest = [] := by
        have := congrArg List.length s1
        simp [Fo.flat, Fo.flat_len] at this
        exact List.eq_nil_of_length_eq_zero (by omega)
      subst hr
      rw [List.append_nil] at s1
      have hk : t.nd = d := by
        rw [s1] at h0
        injection h0 with h0
        rw [← h0]; rfl
      simp only [Fo.fit, Bool.and_true, Bool.and_eq_true] at s2
      exact ⟨d, k, s1, by rw [← hk]; exact h.1, s2.1, s2.2, s4⟩
  · rintro ⟨d, k, rfl, h1, h2, h3, h4⟩
    have hs : Stands nm ((Fo.cons d k .nil).flat 0) 0 0 d k := ⟨⟨[], by simp⟩, by simp [Fo.fit, h2, h3], by omega, h4⟩
    have := goesR_stands nm _ ((Fo.cons d k .nil).flat 0).length 0 0 d k (by omega) hs
    unfold mayR
    have h0 : ((Fo.cons d k .nil).flat 0)[0]? = some (d.tw (k.starts 1)) := rfl
    rw [h0]
    simp only [this, Bool.and_eq_true, beq_iff_eq]
    exact ⟨h1, by simp [Fo.flat_len, Fo.size]⟩

end Go.Proofs.YtpeoefbibjbinaaGreat

namespace Go.Proofs.YtpeoefbibjbinaaGreat
set_option linter.unusedSimpArgs false
open Go.RowKit

def twA (t : Tw) (kv : Value) : Value := .agg #[.int .i64 t.kind, .string ⟨t.text.toArray⟩, .int .i64 t.n, .int .i64 t.line, .int .i64 t.col, kv]

set_option maxRecDepth 100000 in
set_option maxHeartbeats 2000000 in
theorem binds2_ok (t : Tw) (kv : Value) (w : World) :
    Calls Tryz.prog 67 #[twA t kv] w fun e w' => e = .returned (.int .i64 (bndR t.kind t.text)) ∧ w' = w.alloc (twO t kv) := by
  unfold twA
  go_enter Tryz.func67, Tryz.ntmps67
  go_wp2_with (go_at_call 41; refine (term2_ok t.kind _).mono ?_; rintro e w1 ⟨rfl, rfl⟩)
  all_goals go_ret
  all_goals refine ⟨ret_int ?_, rfl⟩
  all_goals (simp only [beq_iff_eq, beq_eq_false_iff_ne, ne_eq, Bool.not_eq_true', Bool.not_eq_false'] at *)
  all_goals first
    | contradiction
    | (simp [bndR, show isTm 32 = true from rfl, show isTm 34 = true from rfl, show isTm 35 = true from rfl, *]; done)

theorem tw_cells {w : World} {g : Nat} {t : Tw} {kv : Value} (h : w.heap[g]? = some (twO t kv)) : w.cell? ⟨g, 0, none⟩ = some (.int .i64 t.kind) ∧ w.cell? ⟨g, 1, none⟩ = some (.string ⟨t.text.toArray⟩) ∧ w.cell? ⟨g, 2, none⟩ = some (.int .i64 t.n) ∧ w.cell? ⟨g, 3, none⟩ = some (.int .i64 t.line) ∧ w.cell? ⟨g, 4, none⟩ = some (.int .i64 t.col) ∧ w.cell? ⟨g, 5, none⟩ = some kv := by
  refine ⟨?_, ?_, ?_, ?_, ?_, ?_⟩ <;> simp [World.cell?, h, twO]
theorem below_al {W w' : World} (h : Below W.heap.size W w') {o : Obj} : Below W.heap.size W (w'.alloc o) := h.alloc h.size o
theorem below_dr {n : Nat} {W w' : World} (h : Below n W w') : Below n W w'.drew := ⟨h.os, h.tape, h.output, h.size, h.block⟩
theorem keep6 {W w' : World} {b : Nat} {v0 v1 v2 v3 v4 v5 : Value} (h : W.cell? ⟨b, 0, none⟩ = some v0 ∧ W.cell? ⟨b, 1, none⟩ = some v1 ∧ W.cell? ⟨b, 2, none⟩ = some v2 ∧ W.cell? ⟨b, 3, none⟩ = some v3 ∧ W.cell? ⟨b, 4, none⟩ = some v4 ∧ W.cell? ⟨b, 5, none⟩ = some v5) (hb : Below W.heap.size W w') (hlt : b < W.heap.size) :
    w'.cell? ⟨b, 0, none⟩ = some v0 ∧ w'.cell? ⟨b, 1, none⟩ = some v1 ∧ w'.cell? ⟨b, 2, none⟩ = some v2 ∧ w'.cell? ⟨b, 3, none⟩ = some v3 ∧ w'.cell? ⟨b, 4, none⟩ = some v4 ∧ w'.cell? ⟨b, 5, none⟩ = some v5 :=
  ⟨(hb.cell (p := ⟨b, 0, none⟩) hlt).trans h.1, (hb.cell (p := ⟨b, 1, none⟩) hlt).trans h.2.1, (hb.cell (p := ⟨b, 2, none⟩) hlt).trans h.2.2.1, (hb.cell (p := ⟨b, 3, none⟩) hlt).trans h.2.2.2.1, (hb.cell (p := ⟨b, 4, none⟩) hlt).trans h.2.2.2.2.1, (hb.cell (p := ⟨b, 5, none⟩) hlt).trans h.2.2.2.2.2⟩
end Go.Proofs.YtpeoefbibjbinaaGreat
