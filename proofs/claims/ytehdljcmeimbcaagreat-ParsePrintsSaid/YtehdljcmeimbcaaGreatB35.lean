/- Trees, plainly: the text of a twig of each kind. -/
import Derived.Test.YtehdljcmeimbcaaGreatB25
namespace Go.Proofs.YtehdljcmeimbcaaGreat
set_option linter.unusedVariables false
set_option linter.unusedSimpArgs false

theorem Gp.cast {q q' : List Pa} {t t' : Int → List UInt8} (h : Gp q t) (e : q' = q) (e2 : ∀ m, t' m = t m) : Gp q' t' := by
  have : t' = t := funext e2
  rw [e, this]; exact h
theorem gp_tok {s : List UInt8} (h : Ok1 s) : Gp [.tok s] (fun _ => s) :=
  ⟨s, s, h.1, h.2.1, h.2.2, fun x l m hm => by rw [Pg.puts_tok, Pg.puts_nil]⟩
theorem gp_seq {q q' : List Pa} {t t' : Int → List UInt8} (h : Gp q t) (h' : Gp q' t') : Gp (q ++ q') (fun m => t m ++ [32] ++ t' m) := by
  obtain ⟨a, z, h1, h2, h3, h4⟩ := h
  obtain ⟨a', z', g1, g2, g3, g4⟩ := h'
  refine ⟨a, z', h1, g2, g3, fun x l m hm => ?_⟩
  rw [Pg.puts_app, h4 _ _ _ hm, g4 _ _ _ hm, glue_ap h3 h2 g1]
  simp
theorem gp_cl {q : List Pa} {t : Int → List UInt8} {s : List UInt8} (h : Gp q t) (hs : closes s = true) (ho : opens s = false) (hn : s ≠ []) : Gp (q ++ [.tok s]) (fun m => t m ++ s) := by
  obtain ⟨a, z, h1, h2, h3, h4⟩ := h
  refine ⟨a, s, h1, ho, hn, fun x l m hm => ?_⟩
  rw [Pg.puts_app, h4 _ _ _ hm, Pg.puts_tok, Pg.puts_nil, glue_cl h3 hs]
  simp
theorem gp_semi {q : List Pa} {t : Int → List UInt8} (h : Gp q t) : Gp (q ++ [.tok [59]]) (fun m => t m ++ [59]) := gp_cl h (by decide) (by decide) (by decide)
theorem gp_dot {q : List Pa} {t : Int → List UInt8} {s : List UInt8} (h : Gp q t) (hs : Ok1 s) : Gp (q ++ [.tok [46], .tok s]) (fun m => t m ++ [46] ++ s) := by
  obtain ⟨a, z, h1, h2, h3, h4⟩ := h
  refine ⟨a, s, h1, hs.2.1, hs.2.2, fun x l m hm => ?_⟩
  rw [Pg.puts_app, h4 _ _ _ hm, Pg.puts_tok, Pg.puts_tok, Pg.puts_nil, glue_cl h3 (by decide), glue_op (a := [46]) (by decide) (by decide)]
  simp
theorem gp_idx {q q' : List Pa} {t t' : Int → List UInt8} (h : Gp q t) (h' : Gp q' t') : Gp (q ++ (.tok [91] :: (q' ++ [.tok [93]]))) (fun m => t m ++ [91] ++ t' m ++ [93]) := by
  obtain ⟨a, z, h1, h2, h3, h4⟩ := h
  obtain ⟨a', z', g1, g2, g3, g4⟩ := h'
  refine ⟨a, [93], h1, by decide, by decide, fun x l m hm => ?_⟩
  rw [Pg.puts_app, h4 _ _ _ hm, Pg.puts_tok, Pg.puts_app, g4 _ _ _ hm, Pg.puts_tok, Pg.puts_nil, glue_cl h3 (by decide), glue_op (a := [91]) (by decide) (by decide), glue_cl g3 (by decide)]
  simp
theorem gp_many {q : List Pa} {t : Int → List UInt8} (h : Gp q t) {Q : List (List Pa)} {T : List (Int → List UInt8)} (H : GpAll Q T) : Gp (q ++ Q.flatten) (fun m => t m ++ T.flatMap (fun t => [32] ++ t m)) := by
  induction H generalizing q t with
  | nil => exact h.cast (by simp) (by simp)
  | cons hq _ ih => exact (ih (gp_seq h hq)).cast (by simp) (by simp)

theorem digs_all (n : Nat) : ∀ b ∈ digs n, 48 ≤ b ∧ b ≤ 57 := by
  induction n using Nat.strongRecOn with
  | ind n ih =>
    unfold digs
    have hd : ∀ k : Nat, k < 10 → (48 : UInt8) ≤ UInt8.ofNat (48 + k) ∧ UInt8.ofNat (48 + k) ≤ 57 := by decide
    split
    · rename_i h
      intro b hb
      rw [List.mem_singleton.1 hb]
      exact hd n h
    · rename_i h
      intro b hb
      rcases List.mem_append.1 hb with hb | hb
      · exact ih (n / 10) (by omega) b hb
      · rw [List.mem_singleton.1 hb]
        exact hd (n % 10) (by omega)
theorem digs_ne (n : Nat) : digs n ≠ [] := by
  unfold digs
  split <;> simp
theorem ok1_of {s : List UInt8} (h0 : s ≠ []) (h : ∀ b ∈ s, b ≠ 59 ∧ b ≠ 46 ∧ b ≠ 93 ∧ b ≠ 41 ∧ b ≠ 91 ∧ b ≠ 40) : Ok1 s := by
  cases s with
  | nil => exact absurd rfl h0
  | cons b r =>
    obtain ⟨h1, h2, h3, h4, h5, h6⟩ := h b (List.mem_cons_self ..)
    refine ⟨?_, ?_, by simp⟩
    · simp [closes, h1, h2, h3, h4, h5]
    · simp [opens, h2, h5, h6]
theorem ok1_num (n : Int) (h : 0 ≤ n) : Ok1 (digT n) := by
  unfold digT
  rw [if_neg (by omega)]
  refine ok1_of (digs_ne _) (fun b hb => ?_)
  have := digs_all _ b hb
  have h1 : (48 : Nat) ≤ b.toNat := by simpa [UInt8.le_iff_toNat_le] using this.1
  have h2 : b.toNat ≤ 57 := by simpa [UInt8.le_iff_toNat_le] using this.2
  refine ⟨?_, ?_, ?_, ?_, ?_, ?_⟩ <;> (intro e; subst e; revert h1 h2; decide)
theorem ok1_life (n : Int) : Ok1 (lifeT n) := by
  unfold lifeT
  split
  · exact ⟨by decide, by decide, by decide⟩
  · split
    · exact ⟨by decide, by decide, by decide⟩
    · split <;> exact ⟨by decide, by decide, by decide⟩
theorem ok1_sg {s : List UInt8} (h : isSg s = true) : Ok1 s := by
  simp only [isSg, Bool.or_eq_true, beq_iff_eq] at h
  rcases h with (((rfl | rfl) | rfl) | rfl) | rfl <;> exact ⟨by decide, by decide, by decide⟩
theorem ok1_ty {nm : List UInt8 → Bool} (hnm : ∀ s, nm s = true → Ok1 s) {s : List UInt8} (h : isTy nm s = true) : Ok1 s := by
  simp only [isTy, Bool.or_eq_true, beq_iff_eq] at h
  rcases h with ((((rfl | rfl) | rfl) | rfl) | rfl) | h
  · exact ⟨by decide, by decide, by decide⟩
  · exact ⟨by decide, by decide, by decide⟩
  · exact ⟨by decide, by decide, by decide⟩
  · exact ⟨by decide, by decide, by decide⟩
  · exact ⟨by decide, by decide, by decide⟩
  · exact hnm s h

theorem gpAll_nil {Q T} (h : GpAll Q T) (hl : Q.length = 0) : Q = [] ∧ T = [] := by
  cases h with
  | nil => exact ⟨rfl, rfl⟩
  | cons _ _ => simp at hl
theorem gpAll_one {Q T} (h : GpAll Q T) (hl : Q.length = 1) : ∃ q t, Q = [q] ∧ T = [t] ∧ Gp q t := by
  cases h with
  | nil => simp at hl
  | cons h1 h2 =>
    obtain ⟨rfl, rfl⟩ := gpAll_nil h2 (by simpa using hl)
    exact ⟨_, _, rfl, rfl, h1⟩
theorem gpAll_two {Q T} (h : GpAll Q T) (hl : Q.length = 2) : ∃ q t q' t', Q = [q, q'] ∧ T = [t, t'] ∧ Gp q t ∧ Gp q' t' := by
  cases h with
  | nil => simp at hl
  | cons h1 h2 =>
    obtain ⟨q, t, rfl, rfl, h3⟩ := gpAll_one h2 (by simpa using hl)
    exact ⟨_, _, _, _, rfl, rfl, h1, h3⟩
theorem gpAll_three {Q T} (h : GpAll Q T) (hl : Q.length = 3) : ∃ q t q' t' q'' t'', Q = [q, q', q''] ∧ T = [t, t', t''] ∧ Gp q t ∧ Gp q' t' ∧ Gp q'' t'' := by
  cases h with
  | nil => simp at hl
  | cons h1 h2 =>
    obtain ⟨q, t, q', t', rfl, rfl, h3, h4⟩ := gpAll_two h2 (by simpa using hl)
    exact ⟨_, _, _, _, _, _, rfl, rfl, h1, h3, h4⟩
theorem flat_kidsP (Q1 : List (List Pa)) : ∀ (Q : List (List Pa)), ((List.range' Q1.length Q.length).map Pa.kid).flatMap (put (Q1 ++ Q)) = Q.flatten
  | [] => by simp
  | q :: Q => by
    have ih := flat_kidsP (Q1 ++ [q]) Q
    simp only [List.length_append, List.length_cons, List.length_nil, List.append_assoc, List.cons_append, List.nil_append, Nat.zero_add] at ih
    simp only [List.length_cons, List.range'_succ, List.map_cons, List.flatMap_cons, put, getD_mid, ih, List.flatten_cons]
theorem gp_2 {nm : List UInt8 → Bool} (hnm : ∀ s, nm s = true → Ok1 s) (d : Nd) (hk : d.kind = 2) (L : List Int) (ht : textOk nm d.kind d.text = true) (hm : numOk d.kind d.n = true) (hc : kidsOk d.kind L = true) (Q : List (List Pa)) (T : List (Int → List UInt8)) (H : GpAll Q T) (hQ : Q.length = L.length) (b : Bool) :
    Gp ((parts d Q.length b).flatMap (put Q)) (fun m => joinT d m b (T.map (· m))) := by
  have hx : Ok1 d.text := hnm _ (by simpa [textOk, hk, named] using ht)
  have hl : Q.length = 0 := by rw [hQ]; have := rowOk_lenP _ _ (show rowOk _ noK _ = true from by simpa [kidsOk, hk] using hc); simpa using this
  obtain ⟨rfl, rfl⟩ := gpAll_nil H hl
  exact Gp.cast (gp_semi (gp_seq (gp_tok (s := [108, 111, 111, 112, 101, 114]) ⟨by decide, by decide, by decide⟩) (gp_tok hx))) (by simp [parts, hk, put]) (by intro m; simp [joinT, hk])
theorem gp_4 {nm : List UInt8 → Bool} (hnm : ∀ s, nm s = true → Ok1 s) (d : Nd) (hk : d.kind = 4) (L : List Int) (ht : textOk nm d.kind d.text = true) (hm : numOk d.kind d.n = true) (hc : kidsOk d.kind L = true) (Q : List (List Pa)) (T : List (Int → List UInt8)) (H : GpAll Q T) (hQ : Q.length = L.length) (b : Bool) :
    Gp ((parts d Q.length b).flatMap (put Q)) (fun m => joinT d m b (T.map (· m))) := by
  have hx : Ok1 d.text := hnm _ (by simpa [textOk, hk, named] using ht)
  have hl : Q.length = 1 := by rw [hQ]; have := rowOk_lenP _ _ (show rowOk _ noK _ = true from by simpa [kidsOk, hk] using hc); simpa using this
  obtain ⟨q0, t0, rfl, rfl, g0⟩ := gpAll_one H hl
  exact Gp.cast (gp_semi (gp_seq (gp_tok hx) g0)) (by simp [parts, hk, put]) (by intro m; simp [joinT, hk])
theorem gp_5 {nm : List UInt8 → Bool} (hnm : ∀ s, nm s = true → Ok1 s) (d : Nd) (hk : d.kind = 5) (L : List Int) (ht : textOk nm d.kind d.text = true) (hm : numOk d.kind d.n = true) (hc : kidsOk d.kind L = true) (Q : List (List Pa)) (T : List (Int → List UInt8)) (H : GpAll Q T) (hQ : Q.length = L.length) (b : Bool) :
    Gp ((parts d Q.length b).flatMap (put Q)) (fun m => joinT d m b (T.map (· m))) := by
  have hx : Ok1 d.text := ok1_ty hnm (by simpa [textOk, hk] using ht)
  have hl : Q.length = 0 := by rw [hQ]; have := rowOk_lenP _ _ (show rowOk _ noK _ = true from by simpa [kidsOk, hk] using hc); simpa using this
  obtain ⟨rfl, rfl⟩ := gpAll_nil H hl
  exact Gp.cast (gp_tok hx) (by simp [parts, hk, put]) (by intro m; simp [joinT, hk])
theorem gp_6 {nm : List UInt8 → Bool} (hnm : ∀ s, nm s = true → Ok1 s) (d : Nd) (hk : d.kind = 6) (L : List Int) (ht : textOk nm d.kind d.text = true) (hm : numOk d.kind d.n = true) (hc : kidsOk d.kind L = true) (Q : List (List Pa)) (T : List (Int → List UInt8)) (H : GpAll Q T) (hQ : Q.length = L.length) (b : Bool) :
    Gp ((parts d Q.length b).flatMap (put Q)) (fun m => joinT d m b (T.map (· m))) := by
  have hx : Ok1 d.text := hnm _ (by simpa [textOk, hk, named] using ht)
  have hl : Q.length = 1 := by rw [hQ]; have := rowOk_lenP _ _ (show rowOk _ noK _ = true from by simpa [kidsOk, hk] using hc); simpa using this
  obtain ⟨q0, t0, rfl, rfl, g0⟩ := gpAll_one H hl
  exact Gp.cast (gp_semi (gp_seq (gp_seq (gp_tok (s := [118, 97, 114]) ⟨by decide, by decide, by decide⟩) (gp_tok hx)) g0)) (by simp [parts, hk, put]) (by intro m; simp [joinT, hk])
theorem gp_7 {nm : List UInt8 → Bool} (hnm : ∀ s, nm s = true → Ok1 s) (d : Nd) (hk : d.kind = 7) (L : List Int) (ht : textOk nm d.kind d.text = true) (hm : numOk d.kind d.n = true) (hc : kidsOk d.kind L = true) (Q : List (List Pa)) (T : List (Int → List UInt8)) (H : GpAll Q T) (hQ : Q.length = L.length) (b : Bool) :
    Gp ((parts d Q.length b).flatMap (put Q)) (fun m => joinT d m b (T.map (· m))) := by
  have hx : Ok1 d.text := hnm _ (by simpa [textOk, hk, named] using ht)
  have hl : Q.length = 1 := by rw [hQ]; have := rowOk_lenP _ _ (show rowOk _ noK _ = true from by simpa [kidsOk, hk] using hc); simpa using this
  obtain ⟨q0, t0, rfl, rfl, g0⟩ := gpAll_one H hl
  exact Gp.cast (gp_seq (gp_seq (gp_tok (s := [102, 110]) ⟨by decide, by decide, by decide⟩) (gp_tok hx)) g0) (by simp [parts, hk, put]) (by intro m; simp [joinT, hk])
theorem gp_9 {nm : List UInt8 → Bool} (hnm : ∀ s, nm s = true → Ok1 s) (d : Nd) (hk : d.kind = 9) (L : List Int) (ht : textOk nm d.kind d.text = true) (hm : numOk d.kind d.n = true) (hc : kidsOk d.kind L = true) (Q : List (List Pa)) (T : List (Int → List UInt8)) (H : GpAll Q T) (hQ : Q.length = L.length) (b : Bool) :
    Gp ((parts d Q.length b).flatMap (put Q)) (fun m => joinT d m b (T.map (· m))) := by
  have hl : Q.length = 1 := by rw [hQ]; have := rowOk_lenP _ _ (show rowOk _ noK _ = true from by simpa [kidsOk, hk] using hc); simpa using this
  obtain ⟨q0, t0, rfl, rfl, g0⟩ := gpAll_one H hl
  exact Gp.cast (gp_seq (gp_tok (ok1_life d.n)) g0) (by simp [parts, hk, put]) (by intro m; simp [joinT, hk])
theorem gp_11 {nm : List UInt8 → Bool} (hnm : ∀ s, nm s = true → Ok1 s) (d : Nd) (hk : d.kind = 11) (L : List Int) (ht : textOk nm d.kind d.text = true) (hm : numOk d.kind d.n = true) (hc : kidsOk d.kind L = true) (Q : List (List Pa)) (T : List (Int → List UInt8)) (H : GpAll Q T) (hQ : Q.length = L.length) (b : Bool) :
    Gp ((parts d Q.length b).flatMap (put Q)) (fun m => joinT d m b (T.map (· m))) := by
  have hl : Q.length = 1 := by rw [hQ]; have := rowOk_lenP _ _ (show rowOk _ noK _ = true from by simpa [kidsOk, hk] using hc); simpa using this
  obtain ⟨q0, t0, rfl, rfl, g0⟩ := gpAll_one H hl
  exact Gp.cast (gp_seq (gp_tok (s := [109, 97, 105, 110]) ⟨by decide, by decide, by decide⟩) g0) (by simp [parts, hk, put]) (by intro m; simp [joinT, hk])
theorem gp_13 {nm : List UInt8 → Bool} (hnm : ∀ s, nm s = true → Ok1 s) (d : Nd) (hk : d.kind = 13) (L : List Int) (ht : textOk nm d.kind d.text = true) (hm : numOk d.kind d.n = true) (hc : kidsOk d.kind L = true) (Q : List (List Pa)) (T : List (Int → List UInt8)) (H : GpAll Q T) (hQ : Q.length = L.length) (b : Bool) :
    Gp ((parts d Q.length b).flatMap (put Q)) (fun m => joinT d m b (T.map (· m))) := by
  have hx : Ok1 d.text := hnm _ (by simpa [textOk, hk, named] using ht)
  have hl : Q.length = 2 := by rw [hQ]; have := rowOk_lenP _ _ (show rowOk _ noK _ = true from by simpa [kidsOk, hk] using hc); simpa using this
  obtain ⟨q0, t0, q1, t1, rfl, rfl, g0, g1⟩ := gpAll_two H hl
  exact Gp.cast (gp_semi (gp_seq (gp_seq (gp_seq (gp_seq (gp_tok (s := [118, 97, 114]) ⟨by decide, by decide, by decide⟩) (gp_tok hx)) g0) (gp_tok (s := [61]) ⟨by decide, by decide, by decide⟩)) g1)) (by simp [parts, hk, put]) (by intro m; simp [joinT, hk])
theorem gp_14 {nm : List UInt8 → Bool} (hnm : ∀ s, nm s = true → Ok1 s) (d : Nd) (hk : d.kind = 14) (L : List Int) (ht : textOk nm d.kind d.text = true) (hm : numOk d.kind d.n = true) (hc : kidsOk d.kind L = true) (Q : List (List Pa)) (T : List (Int → List UInt8)) (H : GpAll Q T) (hQ : Q.length = L.length) (b : Bool) :
    Gp ((parts d Q.length b).flatMap (put Q)) (fun m => joinT d m b (T.map (· m))) := by
  have hl : Q.length = 2 := by rw [hQ]; have := rowOk_lenP _ _ (show rowOk _ noK _ = true from by simpa [kidsOk, hk] using hc); simpa using this
  obtain ⟨q0, t0, q1, t1, rfl, rfl, g0, g1⟩ := gpAll_two H hl
  exact Gp.cast (gp_semi (gp_seq (gp_seq g0 (gp_tok (s := [61]) ⟨by decide, by decide, by decide⟩)) g1)) (by simp [parts, hk, put]) (by intro m; simp [joinT, hk])
theorem gp_15 {nm : List UInt8 → Bool} (hnm : ∀ s, nm s = true → Ok1 s) (d : Nd) (hk : d.kind = 15) (L : List Int) (ht : textOk nm d.kind d.text = true) (hm : numOk d.kind d.n = true) (hc : kidsOk d.kind L = true) (Q : List (List Pa)) (T : List (Int → List UInt8)) (H : GpAll Q T) (hQ : Q.length = L.length) (b : Bool) :
    Gp ((parts d Q.length b).flatMap (put Q)) (fun m => joinT d m b (T.map (· m))) := by
  have hl : Q.length = 1 := by rw [hQ]; have := rowOk_lenP _ _ (show rowOk _ noK _ = true from by simpa [kidsOk, hk] using hc); simpa using this
  obtain ⟨q0, t0, rfl, rfl, g0⟩ := gpAll_one H hl
  exact Gp.cast (gp_semi (gp_seq (gp_tok (s := [99, 97, 108, 108]) ⟨by decide, by decide, by decide⟩) g0)) (by simp [parts, hk, put]) (by intro m; simp [joinT, hk])
theorem gp_16 {nm : List UInt8 → Bool} (hnm : ∀ s, nm s = true → Ok1 s) (d : Nd) (hk : d.kind = 16) (L : List Int) (ht : textOk nm d.kind d.text = true) (hm : numOk d.kind d.n = true) (hc : kidsOk d.kind L = true) (Q : List (List Pa)) (T : List (Int → List UInt8)) (H : GpAll Q T) (hQ : Q.length = L.length) (b : Bool) :
    Gp ((parts d Q.length b).flatMap (put Q)) (fun m => joinT d m b (T.map (· m))) := by
  have hl : Q.length = 1 := by rw [hQ]; have := rowOk_lenP _ _ (show rowOk _ noK _ = true from by simpa [kidsOk, hk] using hc); simpa using this
  obtain ⟨q0, t0, rfl, rfl, g0⟩ := gpAll_one H hl
  exact Gp.cast (gp_semi (gp_seq (gp_tok (s := [99, 97, 110, 99, 101, 108]) ⟨by decide, by decide, by decide⟩) g0)) (by simp [parts, hk, put]) (by intro m; simp [joinT, hk])
theorem gp_17 {nm : List UInt8 → Bool} (hnm : ∀ s, nm s = true → Ok1 s) (d : Nd) (hk : d.kind = 17) (L : List Int) (ht : textOk nm d.kind d.text = true) (hm : numOk d.kind d.n = true) (hc : kidsOk d.kind L = true) (Q : List (List Pa)) (T : List (Int → List UInt8)) (H : GpAll Q T) (hQ : Q.length = L.length) (b : Bool) :
    Gp ((parts d Q.length b).flatMap (put Q)) (fun m => joinT d m b (T.map (· m))) := by
  have hl : Q.length = 1 := by rw [hQ]; have := rowOk_lenP _ _ (show rowOk _ noK _ = true from by simpa [kidsOk, hk] using hc); simpa using this
  obtain ⟨q0, t0, rfl, rfl, g0⟩ := gpAll_one H hl
  exact Gp.cast (gp_semi (gp_seq (gp_tok (s := [106, 111, 105, 110]) ⟨by decide, by decide, by decide⟩) g0)) (by simp [parts, hk, put]) (by intro m; simp [joinT, hk])
theorem gp_18 {nm : List UInt8 → Bool} (hnm : ∀ s, nm s = true → Ok1 s) (d : Nd) (hk : d.kind = 18) (L : List Int) (ht : textOk nm d.kind d.text = true) (hm : numOk d.kind d.n = true) (hc : kidsOk d.kind L = true) (Q : List (List Pa)) (T : List (Int → List UInt8)) (H : GpAll Q T) (hQ : Q.length = L.length) (b : Bool) :
    Gp ((parts d Q.length b).flatMap (put Q)) (fun m => joinT d m b (T.map (· m))) := by
  have hl : Q.length = 1 := by rw [hQ]; have := rowOk_lenP _ _ (show rowOk _ noK _ = true from by simpa [kidsOk, hk] using hc); simpa using this
  obtain ⟨q0, t0, rfl, rfl, g0⟩ := gpAll_one H hl
  exact Gp.cast (gp_semi (gp_seq (gp_tok (s := [108, 111, 103]) ⟨by decide, by decide, by decide⟩) g0)) (by simp [parts, hk, put]) (by intro m; simp [joinT, hk])
theorem gp_21 {nm : List UInt8 → Bool} (hnm : ∀ s, nm s = true → Ok1 s) (d : Nd) (hk : d.kind = 21) (L : List Int) (ht : textOk nm d.kind d.text = true) (hm : numOk d.kind d.n = true) (hc : kidsOk d.kind L = true) (Q : List (List Pa)) (T : List (Int → List UInt8)) (H : GpAll Q T) (hQ : Q.length = L.length) (b : Bool) :
    Gp ((parts d Q.length b).flatMap (put Q)) (fun m => joinT d m b (T.map (· m))) := by
  have hx : Ok1 d.text := hnm _ (by simpa [textOk, hk, named] using ht)
  have hl : Q.length = 0 := by rw [hQ]; have := rowOk_lenP _ _ (show rowOk _ noK _ = true from by simpa [kidsOk, hk] using hc); simpa using this
  obtain ⟨rfl, rfl⟩ := gpAll_nil H hl
  exact Gp.cast (gp_semi (gp_seq (gp_tok (s := [101, 110, 97, 98, 108, 101]) ⟨by decide, by decide, by decide⟩) (gp_tok hx))) (by simp [parts, hk, put]) (by intro m; simp [joinT, hk])
theorem gp_22 {nm : List UInt8 → Bool} (hnm : ∀ s, nm s = true → Ok1 s) (d : Nd) (hk : d.kind = 22) (L : List Int) (ht : textOk nm d.kind d.text = true) (hm : numOk d.kind d.n = true) (hc : kidsOk d.kind L = true) (Q : List (List Pa)) (T : List (Int → List UInt8)) (H : GpAll Q T) (hQ : Q.length = L.length) (b : Bool) :
    Gp ((parts d Q.length b).flatMap (put Q)) (fun m => joinT d m b (T.map (· m))) := by
  have hx : Ok1 d.text := hnm _ (by simpa [textOk, hk, named] using ht)
  have hl : Q.length = 0 := by rw [hQ]; have := rowOk_lenP _ _ (show rowOk _ noK _ = true from by simpa [kidsOk, hk] using hc); simpa using this
  obtain ⟨rfl, rfl⟩ := gpAll_nil H hl
  exact Gp.cast (gp_semi (gp_seq (gp_tok (s := [100, 105, 115, 97, 98, 108, 101]) ⟨by decide, by decide, by decide⟩) (gp_tok hx))) (by simp [parts, hk, put]) (by intro m; simp [joinT, hk])
theorem gp_24 {nm : List UInt8 → Bool} (hnm : ∀ s, nm s = true → Ok1 s) (d : Nd) (hk : d.kind = 24) (L : List Int) (ht : textOk nm d.kind d.text = true) (hm : numOk d.kind d.n = true) (hc : kidsOk d.kind L = true) (Q : List (List Pa)) (T : List (Int → List UInt8)) (H : GpAll Q T) (hQ : Q.length = L.length) (b : Bool) :
    Gp ((parts d Q.length b).flatMap (put Q)) (fun m => joinT d m b (T.map (· m))) := by
  have hl : Q.length = 2 := by rw [hQ]; have := rowOk_lenP _ _ (show rowOk _ noK _ = true from by simpa [kidsOk, hk] using hc); simpa using this
  obtain ⟨q0, t0, q1, t1, rfl, rfl, g0, g1⟩ := gpAll_two H hl
  exact Gp.cast (gp_seq (gp_seq (gp_tok (s := [119, 104, 105, 108, 101]) ⟨by decide, by decide, by decide⟩) g0) g1) (by simp [parts, hk, put]) (by intro m; simp [joinT, hk])
theorem gp_25 {nm : List UInt8 → Bool} (hnm : ∀ s, nm s = true → Ok1 s) (d : Nd) (hk : d.kind = 25) (L : List Int) (ht : textOk nm d.kind d.text = true) (hm : numOk d.kind d.n = true) (hc : kidsOk d.kind L = true) (Q : List (List Pa)) (T : List (Int → List UInt8)) (H : GpAll Q T) (hQ : Q.length = L.length) (b : Bool) :
    Gp ((parts d Q.length b).flatMap (put Q)) (fun m => joinT d m b (T.map (· m))) := by
  have hl : Q.length = 0 := by rw [hQ]; have := rowOk_lenP _ _ (show rowOk _ noK _ = true from by simpa [kidsOk, hk] using hc); simpa using this
  obtain ⟨rfl, rfl⟩ := gpAll_nil H hl
  exact Gp.cast (gp_semi (gp_tok (s := [114, 101, 116, 117, 114, 110]) ⟨by decide, by decide, by decide⟩)) (by simp [parts, hk, put]) (by intro m; simp [joinT, hk])
theorem gp_26 {nm : List UInt8 → Bool} (hnm : ∀ s, nm s = true → Ok1 s) (d : Nd) (hk : d.kind = 26) (L : List Int) (ht : textOk nm d.kind d.text = true) (hm : numOk d.kind d.n = true) (hc : kidsOk d.kind L = true) (Q : List (List Pa)) (T : List (Int → List UInt8)) (H : GpAll Q T) (hQ : Q.length = L.length) (b : Bool) :
    Gp ((parts d Q.length b).flatMap (put Q)) (fun m => joinT d m b (T.map (· m))) := by
  have hn : 0 ≤ d.n := by simp [numOk, hk] at hm; omega
  have hl : Q.length = 0 := by rw [hQ]; have := rowOk_lenP _ _ (show rowOk _ noK _ = true from by simpa [kidsOk, hk] using hc); simpa using this
  obtain ⟨rfl, rfl⟩ := gpAll_nil H hl
  exact Gp.cast (gp_tok (ok1_num d.n hn)) (by simp [parts, hk, put]) (by intro m; simp [joinT, hk])
theorem gp_27 {nm : List UInt8 → Bool} (hnm : ∀ s, nm s = true → Ok1 s) (d : Nd) (hk : d.kind = 27) (L : List Int) (ht : textOk nm d.kind d.text = true) (hm : numOk d.kind d.n = true) (hc : kidsOk d.kind L = true) (Q : List (List Pa)) (T : List (Int → List UInt8)) (H : GpAll Q T) (hQ : Q.length = L.length) (b : Bool) :
    Gp ((parts d Q.length b).flatMap (put Q)) (fun m => joinT d m b (T.map (· m))) := by
  have hl : Q.length = 0 := by rw [hQ]; have := rowOk_lenP _ _ (show rowOk _ noK _ = true from by simpa [kidsOk, hk] using hc); simpa using this
  obtain ⟨rfl, rfl⟩ := gpAll_nil H hl
  exact Gp.cast ((gp_tok (s := [110, 117, 108, 108]) ⟨by decide, by decide, by decide⟩)) (by simp [parts, hk, put]) (by intro m; simp [joinT, hk])
theorem gp_28 {nm : List UInt8 → Bool} (hnm : ∀ s, nm s = true → Ok1 s) (d : Nd) (hk : d.kind = 28) (L : List Int) (ht : textOk nm d.kind d.text = true) (hm : numOk d.kind d.n = true) (hc : kidsOk d.kind L = true) (Q : List (List Pa)) (T : List (Int → List UInt8)) (H : GpAll Q T) (hQ : Q.length = L.length) (b : Bool) :
    Gp ((parts d Q.length b).flatMap (put Q)) (fun m => joinT d m b (T.map (· m))) := by
  have hl : Q.length = 0 := by rw [hQ]; have := rowOk_lenP _ _ (show rowOk _ noK _ = true from by simpa [kidsOk, hk] using hc); simpa using this
  obtain ⟨rfl, rfl⟩ := gpAll_nil H hl
  exact Gp.cast ((gp_tok (s := [105, 116]) ⟨by decide, by decide, by decide⟩)) (by simp [parts, hk, put]) (by intro m; simp [joinT, hk])
theorem gp_29 {nm : List UInt8 → Bool} (hnm : ∀ s, nm s = true → Ok1 s) (d : Nd) (hk : d.kind = 29) (L : List Int) (ht : textOk nm d.kind d.text = true) (hm : numOk d.kind d.n = true) (hc : kidsOk d.kind L = true) (Q : List (List Pa)) (T : List (Int → List UInt8)) (H : GpAll Q T) (hQ : Q.length = L.length) (b : Bool) :
    Gp ((parts d Q.length b).flatMap (put Q)) (fun m => joinT d m b (T.map (· m))) := by
  have hx : Ok1 d.text := hnm _ (by simpa [textOk, hk, named] using ht)
  have hl : Q.length = 0 := by rw [hQ]; have := rowOk_lenP _ _ (show rowOk _ noK _ = true from by simpa [kidsOk, hk] using hc); simpa using this
  obtain ⟨rfl, rfl⟩ := gpAll_nil H hl
  exact Gp.cast (gp_tok hx) (by simp [parts, hk, put]) (by intro m; simp [joinT, hk])
theorem gp_30 {nm : List UInt8 → Bool} (hnm : ∀ s, nm s = true → Ok1 s) (d : Nd) (hk : d.kind = 30) (L : List Int) (ht : textOk nm d.kind d.text = true) (hm : numOk d.kind d.n = true) (hc : kidsOk d.kind L = true) (Q : List (List Pa)) (T : List (Int → List UInt8)) (H : GpAll Q T) (hQ : Q.length = L.length) (b : Bool) :
    Gp ((parts d Q.length b).flatMap (put Q)) (fun m => joinT d m b (T.map (· m))) := by
  have hx : Ok1 d.text := hnm _ (by simpa [textOk, hk, named] using ht)
  have hl : Q.length = 1 := by rw [hQ]; have := rowOk_lenP _ _ (show rowOk _ noK _ = true from by simpa [kidsOk, hk] using hc); simpa using this
  obtain ⟨q0, t0, rfl, rfl, g0⟩ := gpAll_one H hl
  exact Gp.cast (gp_dot g0 hx) (by simp [parts, hk, put]) (by intro m; simp [joinT, hk])
theorem gp_31 {nm : List UInt8 → Bool} (hnm : ∀ s, nm s = true → Ok1 s) (d : Nd) (hk : d.kind = 31) (L : List Int) (ht : textOk nm d.kind d.text = true) (hm : numOk d.kind d.n = true) (hc : kidsOk d.kind L = true) (Q : List (List Pa)) (T : List (Int → List UInt8)) (H : GpAll Q T) (hQ : Q.length = L.length) (b : Bool) :
    Gp ((parts d Q.length b).flatMap (put Q)) (fun m => joinT d m b (T.map (· m))) := by
  have hl : Q.length = 2 := by rw [hQ]; have := rowOk_lenP _ _ (show rowOk _ noK _ = true from by simpa [kidsOk, hk] using hc); simpa using this
  obtain ⟨q0, t0, q1, t1, rfl, rfl, g0, g1⟩ := gpAll_two H hl
  exact Gp.cast (gp_idx g0 g1) (by simp [parts, hk, put]) (by intro m; simp [joinT, hk])
theorem gp_32 {nm : List UInt8 → Bool} (hnm : ∀ s, nm s = true → Ok1 s) (d : Nd) (hk : d.kind = 32) (L : List Int) (ht : textOk nm d.kind d.text = true) (hm : numOk d.kind d.n = true) (hc : kidsOk d.kind L = true) (Q : List (List Pa)) (T : List (Int → List UInt8)) (H : GpAll Q T) (hQ : Q.length = L.length) (b : Bool) :
    Gp ((parts d Q.length b).flatMap (put Q)) (fun m => joinT d m b (T.map (· m))) := by
  have hx : Ok1 d.text := ok1_sg (by simpa [textOk, hk] using ht)
  have hl : Q.length = 2 := by rw [hQ]; have := rowOk_lenP _ _ (show rowOk _ noK _ = true from by simpa [kidsOk, hk] using hc); simpa using this
  obtain ⟨q0, t0, q1, t1, rfl, rfl, g0, g1⟩ := gpAll_two H hl
  exact Gp.cast (gp_seq (gp_seq g0 (gp_tok hx)) g1) (by simp [parts, hk, put]) (by intro m; simp [joinT, hk])
theorem gp_33 {nm : List UInt8 → Bool} (hnm : ∀ s, nm s = true → Ok1 s) (d : Nd) (hk : d.kind = 33) (L : List Int) (ht : textOk nm d.kind d.text = true) (hm : numOk d.kind d.n = true) (hc : kidsOk d.kind L = true) (Q : List (List Pa)) (T : List (Int → List UInt8)) (H : GpAll Q T) (hQ : Q.length = L.length) (b : Bool) :
    Gp ((parts d Q.length b).flatMap (put Q)) (fun m => joinT d m b (T.map (· m))) := by
  have hx : Ok1 d.text := hnm _ (by simpa [textOk, hk, named] using ht)
  have hl : Q.length = 0 := by rw [hQ]; have := rowOk_lenP _ _ (show rowOk _ noK _ = true from by simpa [kidsOk, hk] using hc); simpa using this
  obtain ⟨rfl, rfl⟩ := gpAll_nil H hl
  exact Gp.cast (gp_seq (gp_tok (s := [110, 101, 119]) ⟨by decide, by decide, by decide⟩) (gp_tok hx)) (by simp [parts, hk, put]) (by intro m; simp [joinT, hk])
theorem gp_34 {nm : List UInt8 → Bool} (hnm : ∀ s, nm s = true → Ok1 s) (d : Nd) (hk : d.kind = 34) (L : List Int) (ht : textOk nm d.kind d.text = true) (hm : numOk d.kind d.n = true) (hc : kidsOk d.kind L = true) (Q : List (List Pa)) (T : List (Int → List UInt8)) (H : GpAll Q T) (hQ : Q.length = L.length) (b : Bool) :
    Gp ((parts d Q.length b).flatMap (put Q)) (fun m => joinT d m b (T.map (· m))) := by
  have hl : Q.length = 1 := by rw [hQ]; have := rowOk_lenP _ _ (show rowOk _ noK _ = true from by simpa [kidsOk, hk] using hc); simpa using this
  obtain ⟨q0, t0, rfl, rfl, g0⟩ := gpAll_one H hl
  exact Gp.cast (gp_seq (gp_tok (s := [97, 114, 114]) ⟨by decide, by decide, by decide⟩) g0) (by simp [parts, hk, put]) (by intro m; simp [joinT, hk])
theorem gp_35 {nm : List UInt8 → Bool} (hnm : ∀ s, nm s = true → Ok1 s) (d : Nd) (hk : d.kind = 35) (L : List Int) (ht : textOk nm d.kind d.text = true) (hm : numOk d.kind d.n = true) (hc : kidsOk d.kind L = true) (Q : List (List Pa)) (T : List (Int → List UInt8)) (H : GpAll Q T) (hQ : Q.length = L.length) (b : Bool) :
    Gp ((parts d Q.length b).flatMap (put Q)) (fun m => joinT d m b (T.map (· m))) := by
  have hl : Q.length = 1 := by rw [hQ]; have := rowOk_lenP _ _ (show rowOk _ noK _ = true from by simpa [kidsOk, hk] using hc); simpa using this
  obtain ⟨q0, t0, rfl, rfl, g0⟩ := gpAll_one H hl
  exact Gp.cast (gp_seq (gp_tok (s := [108, 101, 110]) ⟨by decide, by decide, by decide⟩) g0) (by simp [parts, hk, put]) (by intro m; simp [joinT, hk])
theorem gp_36 {nm : List UInt8 → Bool} (hnm : ∀ s, nm s = true → Ok1 s) (d : Nd) (hk : d.kind = 36) (L : List Int) (ht : textOk nm d.kind d.text = true) (hm : numOk d.kind d.n = true) (hc : kidsOk d.kind L = true) (Q : List (List Pa)) (T : List (Int → List UInt8)) (H : GpAll Q T) (hQ : Q.length = L.length) (b : Bool) :
    Gp ((parts d Q.length b).flatMap (put Q)) (fun m => joinT d m b (T.map (· m))) := by
  have hl : Q.length = 1 := by rw [hQ]; have := rowOk_lenP _ _ (show rowOk _ noK _ = true from by simpa [kidsOk, hk] using hc); simpa using this
  obtain ⟨q0, t0, rfl, rfl, g0⟩ := gpAll_one H hl
  exact Gp.cast (gp_seq (gp_tok (s := [102, 110]) ⟨by decide, by decide, by decide⟩) g0) (by simp [parts, hk, put]) (by intro m; simp [joinT, hk])
theorem gp_3 {nm : List UInt8 → Bool} (hnm : ∀ s, nm s = true → Ok1 s) (d : Nd) (hk : d.kind = 3) (L : List Int) (ht : textOk nm d.kind d.text = true) (hm : numOk d.kind d.n = true) (hc : kidsOk d.kind L = true) (Q : List (List Pa)) (T : List (Int → List UInt8)) (H : GpAll Q T) (hQ : Q.length = L.length) (b : Bool) :
    Gp ((parts d Q.length b).flatMap (put Q)) (fun m => joinT d m b (T.map (· m))) := by
  have hx : Ok1 d.text := hnm _ (by simpa [textOk, hk, named] using ht)
  have hr := flat_kidsP [] Q
  simp only [List.length_nil, List.nil_append] at hr
  rw [← List.range_eq_range'] at hr
  exact Gp.cast (gp_seq (gp_many (gp_seq (gp_seq (gp_tok (s := [99, 108, 97, 115, 115]) ⟨by decide, by decide, by decide⟩) (gp_tok hx)) (gp_tok (s := [123]) ⟨by decide, by decide, by decide⟩)) H) (gp_tok (s := [125]) ⟨by decide, by decide, by decide⟩)) (by simp [parts, hk, put, List.flatMap_append, ← hr]) (by intro m; simp [joinT, hk, List.flatMap_map])
theorem gp_10 {nm : List UInt8 → Bool} (hnm : ∀ s, nm s = true → Ok1 s) (d : Nd) (hk : d.kind = 10) (L : List Int) (ht : textOk nm d.kind d.text = true) (hm : numOk d.kind d.n = true) (hc : kidsOk d.kind L = true) (Q : List (List Pa)) (T : List (Int → List UInt8)) (H : GpAll Q T) (hQ : Q.length = L.length) (b : Bool) :
    Gp ((parts d Q.length b).flatMap (put Q)) (fun m => joinT d m b (T.map (· m))) := by
  have hx : Ok1 d.text := hnm _ (by simpa [textOk, hk, named] using ht)
  have hl : Q.length = 2 := by rw [hQ]; have := rowOk_lenP _ _ (show rowOk _ noK _ = true from by simpa [kidsOk, hk] using hc); simpa using this
  obtain ⟨q0, t0, q1, t1, rfl, rfl, g0, g1⟩ := gpAll_two H hl
  by_cases h0 : d.n = 0
  · exact Gp.cast (gp_seq (gp_seq (gp_seq (gp_seq (gp_seq (gp_tok (s := [101, 118, 101, 110, 116]) ⟨by decide, by decide, by decide⟩) (gp_tok hx)) (gp_tok (s := [111, 110]) ⟨by decide, by decide, by decide⟩)) g0) (gp_tok (s := [111, 102, 102]) ⟨by decide, by decide, by decide⟩)) g1) (by simp [parts, hk, put, h0]) (by intro m; simp [joinT, hk, h0])
  · exact Gp.cast (gp_seq (gp_seq (gp_seq (gp_seq (gp_seq (gp_tok (s := [101, 118, 101, 110, 116]) ⟨by decide, by decide, by decide⟩) (gp_tok hx)) (gp_tok (s := [111, 110]) ⟨by decide, by decide, by decide⟩)) g0) (gp_tok (s := [111, 110]) ⟨by decide, by decide, by decide⟩)) g1) (by simp [parts, hk, put, h0]) (by intro m; simp [joinT, hk, h0])
theorem gp_23 {nm : List UInt8 → Bool} (hnm : ∀ s, nm s = true → Ok1 s) (d : Nd) (hk : d.kind = 23) (L : List Int) (ht : textOk nm d.kind d.text = true) (hm : numOk d.kind d.n = true) (hc : kidsOk d.kind L = true) (Q : List (List Pa)) (T : List (Int → List UInt8)) (H : GpAll Q T) (hQ : Q.length = L.length) (b : Bool) :
    Gp ((parts d Q.length b).flatMap (put Q)) (fun m => joinT d m b (T.map (· m))) := by
  have hl : Q.length = 3 := by rw [hQ]; have := rowOk_lenP _ _ (show rowOk _ noK _ = true from by simpa [kidsOk, hk] using hc); simpa using this
  obtain ⟨q0, t0, q1, t1, q2, t2, rfl, rfl, g0, g1, g2⟩ := gpAll_three H hl
  cases b with
  | false => exact Gp.cast (gp_seq (gp_seq (gp_tok (s := [105, 102]) ⟨by decide, by decide, by decide⟩) g0) g1) (by simp [parts, hk, put]) (by intro m; simp [joinT, hk])
  | true => exact Gp.cast (gp_seq (gp_seq (gp_seq (gp_seq (gp_tok (s := [105, 102]) ⟨by decide, by decide, by decide⟩) g0) g1) (gp_tok (s := [101, 108, 115, 101]) ⟨by decide, by decide, by decide⟩)) g2) (by simp [parts, hk, put]) (by intro m; simp [joinT, hk])
theorem gp_20 {nm : List UInt8 → Bool} (hnm : ∀ s, nm s = true → Ok1 s) (d : Nd) (hk : d.kind = 20) (L : List Int) (ht : textOk nm d.kind d.text = true) (hm : numOk d.kind d.n = true) (hc : kidsOk d.kind L = true) (Q : List (List Pa)) (T : List (Int → List UInt8)) (H : GpAll Q T) (hQ : Q.length = L.length) (b : Bool) :
    Gp ((parts d Q.length b).flatMap (put Q)) (fun m => joinT d m b (T.map (· m))) := by
  have hl : Q.length = 1 ∨ Q.length = 2 := by
    have h : rowOk [isTm] noK L = true ∨ rowOk [isTm, isVr] noK L = true := by simpa [kidsOk, hk] using hc
    rw [hQ]
    exact h.imp (rowOk_lenP _ _) (rowOk_lenP _ _)
  rcases hl with hl | hl
  · obtain ⟨q0, t0, rfl, rfl, g0⟩ := gpAll_one H hl
    exact Gp.cast (gp_semi (gp_seq (gp_tok (s := [115, 112, 97, 119, 110]) ⟨by decide, by decide, by decide⟩) g0)) (by simp [parts, hk, put, toV]) (by intro m; simp [joinT, hk, toT])
  · obtain ⟨q0, t0, q1, t1, rfl, rfl, g0, g1⟩ := gpAll_two H hl
    exact Gp.cast (gp_semi (gp_seq (gp_seq (gp_seq (gp_tok (s := [115, 112, 97, 119, 110]) ⟨by decide, by decide, by decide⟩) g0) (gp_tok (s := [116, 111]) ⟨by decide, by decide, by decide⟩)) g1)) (by simp [parts, hk, put, toV]) (by intro m; simp [joinT, hk, toT])
theorem gp_19 {nm : List UInt8 → Bool} (hnm : ∀ s, nm s = true → Ok1 s) (d : Nd) (hk : d.kind = 19) (L : List Int) (ht : textOk nm d.kind d.text = true) (hm : numOk d.kind d.n = true) (hc : kidsOk d.kind L = true) (Q : List (List Pa)) (T : List (Int → List UInt8)) (H : GpAll Q T) (hQ : Q.length = L.length) (b : Bool) :
    Gp ((parts d Q.length b).flatMap (put Q)) (fun m => joinT d m b (T.map (· m))) := by
  have hx : Ok1 d.text := hnm _ (by simpa [textOk, hk, named] using ht)
  have hl : Q.length = 1 ∨ Q.length = 2 := by
    have h : rowOk [isTm] noK L = true ∨ rowOk [isTm, isVr] noK L = true := by simpa [kidsOk, hk] using hc
    rw [hQ]
    exact h.imp (rowOk_lenP _ _) (rowOk_lenP _ _)
  by_cases hlt : d.n < 0
  · rcases hl with hl | hl
    · obtain ⟨q0, t0, rfl, rfl, g0⟩ := gpAll_one H hl
      exact Gp.cast (gp_semi (gp_seq (gp_seq (gp_seq (gp_tok (s := [112, 111, 115, 116]) ⟨by decide, by decide, by decide⟩) (gp_tok hx)) g0) (gp_tok (s := [102, 114, 111, 110, 116]) ⟨by decide, by decide, by decide⟩))) (by simp [parts, hk, put, toV, hlt]) (by intro m; simp [joinT, hk, toT, hlt])
    · obtain ⟨q0, t0, q1, t1, rfl, rfl, g0, g1⟩ := gpAll_two H hl
      exact Gp.cast (gp_semi (gp_seq (gp_seq (gp_seq (gp_seq (gp_seq (gp_tok (s := [112, 111, 115, 116]) ⟨by decide, by decide, by decide⟩) (gp_tok hx)) g0) (gp_tok (s := [102, 114, 111, 110, 116]) ⟨by decide, by decide, by decide⟩)) (gp_tok (s := [116, 111]) ⟨by decide, by decide, by decide⟩)) g1)) (by simp [parts, hk, put, toV, hlt]) (by intro m; simp [joinT, hk, toT, hlt])
  · by_cases hgt : 0 < d.n
    · rcases hl with hl | hl
      · obtain ⟨q0, t0, rfl, rfl, g0⟩ := gpAll_one H hl
        exact Gp.cast (gp_semi (gp_seq (gp_seq (gp_seq (gp_seq (gp_tok (s := [112, 111, 115, 116]) ⟨by decide, by decide, by decide⟩) (gp_tok hx)) g0) (gp_tok (s := [97, 102, 116, 101, 114]) ⟨by decide, by decide, by decide⟩)) (gp_tok (ok1_num d.n (by omega))))) (by simp [parts, hk, put, toV, hgt, show ¬ d.n < 0 from by omega]) (by intro m; simp [joinT, hk, toT, hgt, show ¬ d.n < 0 from by omega])
      · obtain ⟨q0, t0, q1, t1, rfl, rfl, g0, g1⟩ := gpAll_two H hl
        exact Gp.cast (gp_semi (gp_seq (gp_seq (gp_seq (gp_seq (gp_seq (gp_seq (gp_tok (s := [112, 111, 115, 116]) ⟨by decide, by decide, by decide⟩) (gp_tok hx)) g0) (gp_tok (s := [97, 102, 116, 101, 114]) ⟨by decide, by decide, by decide⟩)) (gp_tok (ok1_num d.n (by omega)))) (gp_tok (s := [116, 111]) ⟨by decide, by decide, by decide⟩)) g1)) (by simp [parts, hk, put, toV, hgt, show ¬ d.n < 0 from by omega]) (by intro m; simp [joinT, hk, toT, hgt, show ¬ d.n < 0 from by omega])
    · rcases hl with hl | hl
      · obtain ⟨q0, t0, rfl, rfl, g0⟩ := gpAll_one H hl
        exact Gp.cast (gp_semi (gp_seq (gp_seq (gp_tok (s := [112, 111, 115, 116]) ⟨by decide, by decide, by decide⟩) (gp_tok hx)) g0)) (by simp [parts, hk, put, toV, hlt, hgt]) (by intro m; simp [joinT, hk, toT, hlt, hgt])
      · obtain ⟨q0, t0, q1, t1, rfl, rfl, g0, g1⟩ := gpAll_two H hl
        exact Gp.cast (gp_semi (gp_seq (gp_seq (gp_seq (gp_seq (gp_tok (s := [112, 111, 115, 116]) ⟨by decide, by decide, by decide⟩) (gp_tok hx)) g0) (gp_tok (s := [116, 111]) ⟨by decide, by decide, by decide⟩)) g1)) (by simp [parts, hk, put, toV, hlt, hgt]) (by intro m; simp [joinT, hk, toT, hlt, hgt])
/-- The text of a twig, of its kids'. -/
theorem gp_node {nm : List UInt8 → Bool} (hnm : ∀ s, nm s = true → Ok1 s) (d : Nd) (k : Fo) (hok : ndOk nm d (k.nds.map (·.kind)) = true) (h1 : ¬ d.kind = 1) (H : GpAll (k.seqs d 0) (k.fts d 0)) :
    Gp ((parts d k.len k.more).flatMap (put (k.seqs d 0))) (fun m => joinT d m k.more (k.txts d m 0)) := by
  simp only [ndOk, Bool.and_eq_true] at hok
  obtain ⟨⟨⟨hk0, ht⟩, hn⟩, hc⟩ := hok
  have hQ : (k.seqs d 0).length = (k.nds.map (·.kind)).length := by rw [Fo.seqs_len]; simp [Fo.len]
  have hlen : k.len = (k.seqs d 0).length := (Fo.seqs_len d k 0).symm
  by_cases h12 : d.kind = 12
  · have := gp_braced [] _ _ H
    refine Gp.cast this ?_ ?_
    · rw [hlen]; simp [parts, h12]
    · intro m
      rw [txts_deep d m k 0 (.inl h12)]
      simp [joinT, h12]
  · by_cases h8 : d.kind = 8
    · have hx : Ok1 d.text := hnm _ (by simpa [textOk, h8, named] using ht)
      rw [h8] at hc
      cases k with
      | nil => simp [kidsOk, Fo.nds, rowOk] at hc
      | cons d0 k0 r =>
        simp only [Fo.seqs, Fo.fts] at H
        cases H with
        | cons g0 HR =>
          have hb := gp_braced [inPar (prn d 0 d0) ((parts d0 k0.len k0.more).flatMap (put (k0.seqs d0 0)))] _ _ HR
          refine Gp.cast (gp_seq (gp_seq (gp_seq (gp_seq (gp_tok (s := [99, 111, 109, 112]) ⟨by decide, by decide, by decide⟩) (gp_tok hx)) (gp_tok (s := [111, 110]) ⟨by decide, by decide, by decide⟩)) g0) hb) ?_ ?_
          · rw [hlen]
            simp [parts, h8, put, Fo.seqs]
          · intro m
            have e1 : r.txts d m (0 + 1) = (r.fts d (0 + 1)).map (· (m + 2)) := txts_deep d m r (0 + 1) (.inr ⟨h8, by omega⟩)
            have e2 : deepOf d 0 m = m := by simp [deepOf, h8]
            simp only [Fo.txts, e2]
            simp only [joinT, h8]
            rw [e1]
            simp
    · have ht2 : (fun m => joinT d m k.more (k.txts d m 0)) = fun m => joinT d m k.more ((k.fts d 0).map (· m)) := by
        funext m
        rw [txts_plain d h12 h8 m k 0]
      rw [ht2, hlen]
      simp only [kindOk, Bool.and_eq_true, decide_eq_true_eq] at hk0
      have hcases : d.kind = 2 ∨ d.kind = 3 ∨ d.kind = 4 ∨ d.kind = 5 ∨ d.kind = 6 ∨ d.kind = 7 ∨ d.kind = 9 ∨ d.kind = 10 ∨ d.kind = 11 ∨ d.kind = 13 ∨ d.kind = 14 ∨ d.kind = 15 ∨ d.kind = 16 ∨ d.kind = 17 ∨ d.kind = 18 ∨ d.kind = 19 ∨ d.kind = 20 ∨ d.kind = 21 ∨ d.kind = 22 ∨ d.kind = 23 ∨ d.kind = 24 ∨ d.kind = 25 ∨ d.kind = 26 ∨ d.kind = 27 ∨ d.kind = 28 ∨ d.kind = 29 ∨ d.kind = 30 ∨ d.kind = 31 ∨ d.kind = 32 ∨ d.kind = 33 ∨ d.kind = 34 ∨ d.kind = 35 ∨ d.kind = 36 := by omega
      rcases hcases with hk | hk | hk | hk | hk | hk | hk | hk | hk | hk | hk | hk | hk | hk | hk | hk | hk | hk | hk | hk | hk | hk | hk | hk | hk | hk | hk | hk | hk | hk | hk | hk | hk
      · exact gp_2 hnm d hk _ ht hn hc _ _ H hQ k.more
      · exact gp_3 hnm d hk _ ht hn hc _ _ H hQ k.more
      · exact gp_4 hnm d hk _ ht hn hc _ _ H hQ k.more
      · exact gp_5 hnm d hk _ ht hn hc _ _ H hQ k.more
      · exact gp_6 hnm d hk _ ht hn hc _ _ H hQ k.more
      · exact gp_7 hnm d hk _ ht hn hc _ _ H hQ k.more
      · exact gp_9 hnm d hk _ ht hn hc _ _ H hQ k.more
      · exact gp_10 hnm d hk _ ht hn hc _ _ H hQ k.more
      · exact gp_11 hnm d hk _ ht hn hc _ _ H hQ k.more
      · exact gp_13 hnm d hk _ ht hn hc _ _ H hQ k.more
      · exact gp_14 hnm d hk _ ht hn hc _ _ H hQ k.more
      · exact gp_15 hnm d hk _ ht hn hc _ _ H hQ k.more
      · exact gp_16 hnm d hk _ ht hn hc _ _ H hQ k.more
      · exact gp_17 hnm d hk _ ht hn hc _ _ H hQ k.more
      · exact gp_18 hnm d hk _ ht hn hc _ _ H hQ k.more
      · exact gp_19 hnm d hk _ ht hn hc _ _ H hQ k.more
      · exact gp_20 hnm d hk _ ht hn hc _ _ H hQ k.more
      · exact gp_21 hnm d hk _ ht hn hc _ _ H hQ k.more
      · exact gp_22 hnm d hk _ ht hn hc _ _ H hQ k.more
      · exact gp_23 hnm d hk _ ht hn hc _ _ H hQ k.more
      · exact gp_24 hnm d hk _ ht hn hc _ _ H hQ k.more
      · exact gp_25 hnm d hk _ ht hn hc _ _ H hQ k.more
      · exact gp_26 hnm d hk _ ht hn hc _ _ H hQ k.more
      · exact gp_27 hnm d hk _ ht hn hc _ _ H hQ k.more
      · exact gp_28 hnm d hk _ ht hn hc _ _ H hQ k.more
      · exact gp_29 hnm d hk _ ht hn hc _ _ H hQ k.more
      · exact gp_30 hnm d hk _ ht hn hc _ _ H hQ k.more
      · exact gp_31 hnm d hk _ ht hn hc _ _ H hQ k.more
      · exact gp_32 hnm d hk _ ht hn hc _ _ H hQ k.more
      · exact gp_33 hnm d hk _ ht hn hc _ _ H hQ k.more
      · exact gp_34 hnm d hk _ ht hn hc _ _ H hQ k.more
      · exact gp_35 hnm d hk _ ht hn hc _ _ H hQ k.more
      · exact gp_36 hnm d hk _ ht hn hc _ _ H hQ k.more
theorem rowOk_ne (P : Int → Prop) : ∀ (aq : List (Int → Bool)) (rest : Int → Bool) (l : List Int), (∀ a ∈ aq, ∀ x, a x = true → P x) → (∀ x, rest x = true → P x) → rowOk aq rest l = true → ∀ x ∈ l, P x
  | [], rest, l, _, hr, h, x, hx => hr x (List.all_eq_true.1 h x hx)
  | a :: aq, rest, [], _, _, h, _, _ => by simp [rowOk] at h
  | a :: aq, rest, y :: l, ha, hr, h, x, hx => by
    simp only [rowOk, Bool.and_eq_true] at h
    rcases List.mem_cons.1 hx with rfl | hx
    · exact ha a (List.mem_cons_self ..) _ h.1
    · exact rowOk_ne P aq rest l (fun b hb => ha b (List.mem_cons_of_mem _ hb)) hr h.2 x hx
theorem kids_one (k : Int) (l : List Int) (h : kidsOk k l = true) : ∀ x ∈ l, ¬ x = 1 := by
  have key : ∀ (aq : List (Int → Bool)) (rest : Int → Bool), (∀ a ∈ aq, ∀ x, a x = true → ¬ x = 1) → (∀ x, rest x = true → ¬ x = 1) → rowOk aq rest l = true → ∀ x ∈ l, ¬ x = 1 := fun aq rest h1 h2 h3 => rowOk_ne _ aq rest l h1 h2 h3
  have n1 : ∀ x, isTm x = true → ¬ x = 1 := fun x h => by simp [isTm] at h; omega
  have n2 : ∀ x, isSt x = true → ¬ x = 1 := fun x h => by simp [isSt] at h; omega
  have n3 : ∀ x, isDc x = true → ¬ x = 1 := fun x h => by simp [isDc] at h; omega
  have n4 : ∀ x, isVr x = true → ¬ x = 1 := fun x h => by simp [isVr] at h; omega
  have n5 : ∀ c x : Int, ¬ c = 1 → isK c x = true → ¬ x = 1 := fun c x hc h => by simp [isK] at h; omega
  have n6 : ∀ x, noK x = true → ¬ x = 1 := fun x h => by simp [noK] at h
  unfold kidsOk at h
  have m5 := fun x => n5 5 x (by decide)
  have m12 := fun x => n5 12 x (by decide)
  have m29 := fun x => n5 29 x (by decide)
  by_cases c : k = 1
  · rw [if_pos c] at h
    refine key [] isDc ?_ n3 h
    first | (intro a ha; exact absurd ha List.not_mem_nil) | (simp only [List.mem_cons, List.not_mem_nil, or_false, forall_eq_or_imp, forall_eq]; first | exact n1 | exact m5 | exact m12 | exact m29 | exact ⟨n1, n4⟩ | exact ⟨m29, m12⟩ | exact ⟨m5, n1⟩ | exact ⟨n4, n1⟩ | exact ⟨n1, m12, m12⟩ | exact ⟨n1, m12⟩ | exact ⟨n1, n1⟩)
  rw [if_neg c] at h
  clear c
  by_cases c : k = 3
  · rw [if_pos c] at h
    refine key [] (isK 4) ?_ (fun x => n5 4 x (by decide)) h
    first | (intro a ha; exact absurd ha List.not_mem_nil) | (simp only [List.mem_cons, List.not_mem_nil, or_false, forall_eq_or_imp, forall_eq]; first | exact n1 | exact m5 | exact m12 | exact m29 | exact ⟨n1, n4⟩ | exact ⟨m29, m12⟩ | exact ⟨m5, n1⟩ | exact ⟨n4, n1⟩ | exact ⟨n1, m12, m12⟩ | exact ⟨n1, m12⟩ | exact ⟨n1, n1⟩)
  rw [if_neg c] at h
  clear c
  by_cases c : k = 4 ∨ k = 6
  · rw [if_pos c] at h
    refine key [isK 5] noK ?_ n6 h
    first | (intro a ha; exact absurd ha List.not_mem_nil) | (simp only [List.mem_cons, List.not_mem_nil, or_false, forall_eq_or_imp, forall_eq]; first | exact n1 | exact m5 | exact m12 | exact m29 | exact ⟨n1, n4⟩ | exact ⟨m29, m12⟩ | exact ⟨m5, n1⟩ | exact ⟨n4, n1⟩ | exact ⟨n1, m12, m12⟩ | exact ⟨n1, m12⟩ | exact ⟨n1, n1⟩)
  rw [if_neg c] at h
  clear c
  by_cases c : k = 7 ∨ k = 9 ∨ k = 11 ∨ k = 36
  · rw [if_pos c] at h
    refine key [isK 12] noK ?_ n6 h
    first | (intro a ha; exact absurd ha List.not_mem_nil) | (simp only [List.mem_cons, List.not_mem_nil, or_false, forall_eq_or_imp, forall_eq]; first | exact n1 | exact m5 | exact m12 | exact m29 | exact ⟨n1, n4⟩ | exact ⟨m29, m12⟩ | exact ⟨m5, n1⟩ | exact ⟨n4, n1⟩ | exact ⟨n1, m12, m12⟩ | exact ⟨n1, m12⟩ | exact ⟨n1, n1⟩)
  rw [if_neg c] at h
  clear c
  by_cases c : k = 8
  · rw [if_pos c] at h
    refine key [isK 29] (isK 9) ?_ (fun x => n5 9 x (by decide)) h
    first | (intro a ha; exact absurd ha List.not_mem_nil) | (simp only [List.mem_cons, List.not_mem_nil, or_false, forall_eq_or_imp, forall_eq]; first | exact n1 | exact m5 | exact m12 | exact m29 | exact ⟨n1, n4⟩ | exact ⟨m29, m12⟩ | exact ⟨m5, n1⟩ | exact ⟨n4, n1⟩ | exact ⟨n1, m12, m12⟩ | exact ⟨n1, m12⟩ | exact ⟨n1, n1⟩)
  rw [if_neg c] at h
  clear c
  by_cases c : k = 10
  · rw [if_pos c] at h
    refine key [isK 29, isK 12] noK ?_ n6 h
    first | (intro a ha; exact absurd ha List.not_mem_nil) | (simp only [List.mem_cons, List.not_mem_nil, or_false, forall_eq_or_imp, forall_eq]; first | exact n1 | exact m5 | exact m12 | exact m29 | exact ⟨n1, n4⟩ | exact ⟨m29, m12⟩ | exact ⟨m5, n1⟩ | exact ⟨n4, n1⟩ | exact ⟨n1, m12, m12⟩ | exact ⟨n1, m12⟩ | exact ⟨n1, n1⟩)
  rw [if_neg c] at h
  clear c
  by_cases c : k = 12
  · rw [if_pos c] at h
    refine key [] isSt ?_ n2 h
    first | (intro a ha; exact absurd ha List.not_mem_nil) | (simp only [List.mem_cons, List.not_mem_nil, or_false, forall_eq_or_imp, forall_eq]; first | exact n1 | exact m5 | exact m12 | exact m29 | exact ⟨n1, n4⟩ | exact ⟨m29, m12⟩ | exact ⟨m5, n1⟩ | exact ⟨n4, n1⟩ | exact ⟨n1, m12, m12⟩ | exact ⟨n1, m12⟩ | exact ⟨n1, n1⟩)
  rw [if_neg c] at h
  clear c
  by_cases c : k = 13
  · rw [if_pos c] at h
    refine key [isK 5, isTm] noK ?_ n6 h
    first | (intro a ha; exact absurd ha List.not_mem_nil) | (simp only [List.mem_cons, List.not_mem_nil, or_false, forall_eq_or_imp, forall_eq]; first | exact n1 | exact m5 | exact m12 | exact m29 | exact ⟨n1, n4⟩ | exact ⟨m29, m12⟩ | exact ⟨m5, n1⟩ | exact ⟨n4, n1⟩ | exact ⟨n1, m12, m12⟩ | exact ⟨n1, m12⟩ | exact ⟨n1, n1⟩)
  rw [if_neg c] at h
  clear c
  by_cases c : k = 14
  · rw [if_pos c] at h
    refine key [isVr, isTm] noK ?_ n6 h
    first | (intro a ha; exact absurd ha List.not_mem_nil) | (simp only [List.mem_cons, List.not_mem_nil, or_false, forall_eq_or_imp, forall_eq]; first | exact n1 | exact m5 | exact m12 | exact m29 | exact ⟨n1, n4⟩ | exact ⟨m29, m12⟩ | exact ⟨m5, n1⟩ | exact ⟨n4, n1⟩ | exact ⟨n1, m12, m12⟩ | exact ⟨n1, m12⟩ | exact ⟨n1, n1⟩)
  rw [if_neg c] at h
  clear c
  by_cases c : k = 15 ∨ k = 16 ∨ k = 17 ∨ k = 18 ∨ k = 30 ∨ k = 34 ∨ k = 35
  · rw [if_pos c] at h
    refine key [isTm] noK ?_ n6 h
    first | (intro a ha; exact absurd ha List.not_mem_nil) | (simp only [List.mem_cons, List.not_mem_nil, or_false, forall_eq_or_imp, forall_eq]; first | exact n1 | exact m5 | exact m12 | exact m29 | exact ⟨n1, n4⟩ | exact ⟨m29, m12⟩ | exact ⟨m5, n1⟩ | exact ⟨n4, n1⟩ | exact ⟨n1, m12, m12⟩ | exact ⟨n1, m12⟩ | exact ⟨n1, n1⟩)
  rw [if_neg c] at h
  clear c
  by_cases c : k = 19 ∨ k = 20
  · rw [if_pos c, Bool.or_eq_true] at h
    rcases h with h | h
    · refine key [isTm] noK ?_ n6 h
      first | (intro a ha; exact absurd ha List.not_mem_nil) | (simp only [List.mem_cons, List.not_mem_nil, or_false, forall_eq_or_imp, forall_eq]; first | exact n1 | exact m5 | exact m12 | exact m29 | exact ⟨n1, n4⟩ | exact ⟨m29, m12⟩ | exact ⟨m5, n1⟩ | exact ⟨n4, n1⟩ | exact ⟨n1, m12, m12⟩ | exact ⟨n1, m12⟩ | exact ⟨n1, n1⟩)
    · refine key [isTm, isVr] noK ?_ n6 h
      first | (intro a ha; exact absurd ha List.not_mem_nil) | (simp only [List.mem_cons, List.not_mem_nil, or_false, forall_eq_or_imp, forall_eq]; first | exact n1 | exact m5 | exact m12 | exact m29 | exact ⟨n1, n4⟩ | exact ⟨m29, m12⟩ | exact ⟨m5, n1⟩ | exact ⟨n4, n1⟩ | exact ⟨n1, m12, m12⟩ | exact ⟨n1, m12⟩ | exact ⟨n1, n1⟩)
  rw [if_neg c] at h
  clear c
  by_cases c : k = 23
  · rw [if_pos c] at h
    refine key [isTm, isK 12, isK 12] noK ?_ n6 h
    first | (intro a ha; exact absurd ha List.not_mem_nil) | (simp only [List.mem_cons, List.not_mem_nil, or_false, forall_eq_or_imp, forall_eq]; first | exact n1 | exact m5 | exact m12 | exact m29 | exact ⟨n1, n4⟩ | exact ⟨m29, m12⟩ | exact ⟨m5, n1⟩ | exact ⟨n4, n1⟩ | exact ⟨n1, m12, m12⟩ | exact ⟨n1, m12⟩ | exact ⟨n1, n1⟩)
  rw [if_neg c] at h
  clear c
  by_cases c : k = 24
  · rw [if_pos c] at h
    refine key [isTm, isK 12] noK ?_ n6 h
    first | (intro a ha; exact absurd ha List.not_mem_nil) | (simp only [List.mem_cons, List.not_mem_nil, or_false, forall_eq_or_imp, forall_eq]; first | exact n1 | exact m5 | exact m12 | exact m29 | exact ⟨n1, n4⟩ | exact ⟨m29, m12⟩ | exact ⟨m5, n1⟩ | exact ⟨n4, n1⟩ | exact ⟨n1, m12, m12⟩ | exact ⟨n1, m12⟩ | exact ⟨n1, n1⟩)
  rw [if_neg c] at h
  clear c
  by_cases c : k = 31 ∨ k = 32
  · rw [if_pos c] at h
    refine key [isTm, isTm] noK ?_ n6 h
    first | (intro a ha; exact absurd ha List.not_mem_nil) | (simp only [List.mem_cons, List.not_mem_nil, or_false, forall_eq_or_imp, forall_eq]; first | exact n1 | exact m5 | exact m12 | exact m29 | exact ⟨n1, n4⟩ | exact ⟨m29, m12⟩ | exact ⟨m5, n1⟩ | exact ⟨n4, n1⟩ | exact ⟨n1, m12, m12⟩ | exact ⟨n1, m12⟩ | exact ⟨n1, n1⟩)
  rw [if_neg c] at h
  clear c
  refine key [] noK ?_ n6 h
  first | (intro a ha; exact absurd ha List.not_mem_nil) | (simp only [List.mem_cons, List.not_mem_nil, or_false, forall_eq_or_imp, forall_eq]; first | exact n1 | exact m5 | exact m12 | exact m29 | exact ⟨n1, n4⟩ | exact ⟨m29, m12⟩ | exact ⟨m5, n1⟩ | exact ⟨n4, n1⟩ | exact ⟨n1, m12, m12⟩ | exact ⟨n1, m12⟩ | exact ⟨n1, n1⟩)
theorem kids_ne (nm : List UInt8 → Bool) (d : Nd) (k : Fo) (h : ndOk nm d (k.nds.map (·.kind)) = true) : ∀ x ∈ k.nds, ¬ x.kind = 1 := by
  simp only [ndOk, Bool.and_eq_true] at h
  intro x hx
  exact kids_one d.kind _ h.2 x.kind (List.mem_map_of_mem hx)

/-- All trees of a forest that fits are put as the document's texts. -/
theorem gp_forest {nm : List UInt8 → Bool} (hnm : ∀ s, nm s = true → Ok1 s) : ∀ (f : Fo) (p : Nd) (i : Nat), f.fit nm = true → (∀ d ∈ f.nds, ¬ d.kind = 1) → GpAll (f.seqs p i) (f.fts p i)
  | .nil, _, _, _, _ => .nil
  | .cons d k r, p, i, hf, hp => by
    simp only [Fo.fit, Bool.and_eq_true] at hf
    obtain ⟨⟨h1, h2⟩, h3⟩ := hf
    have hk1 : ∀ x ∈ k.nds, ¬ x.kind = 1 := kids_ne nm d k h1
    exact .cons (gp_par _ (gp_node hnm d k h1 (hp d (by simp [Fo.nds])) (gp_forest hnm k d 0 h2 hk1))) (gp_forest hnm r p (i + 1) h3 (fun x hx => hp x (by simp [Fo.nds, hx])))
/-- What is put of a tree that may be is its text. -/
theorem puts_spelled {nm : List UInt8 → Bool} (hnm : ∀ s, nm s = true → Ok1 s) (d : Nd) (k : Fo) (h : d.kind = 1) (hok : ndOk nm d (k.nds.map (·.kind)) = true) (hf : k.fit nm = true) : ((Pg.mk [] [] 0).puts (spelled d k)).text = textT d k := by
  have H := gp_forest hnm k d 0 hf (kids_ne nm d k hok)
  unfold spelled textT
  rw [txts_plain d (by omega) (by omega)]
  have hlen : k.len = (k.seqs d 0).length := (Fo.seqs_len d k 0).symm
  have key : ∀ (Q : List (List Pa)) (T : List (Int → List UInt8)), GpAll Q T → ∀ (Q1 : List (List Pa)) (x : List UInt8), (Pg.mk x [] 0).puts (((List.range' Q1.length Q.length).flatMap fun i => [Pa.kid i, Pa.line 0]).flatMap (put (Q1 ++ Q))) = ⟨x ++ T.flatMap (fun t => t 0 ++ [10]), [], 0⟩ := by
    intro Q T H
    induction H with
    | nil => intro Q1 x; simp [Pg.puts_nil]
    | cons hq _ ih =>
      rename_i q t Q T _
      intro Q1 x
      obtain ⟨a, z, h1, h2, h3, h4⟩ := hq
      have := ih (Q1 ++ [q]) (x ++ t 0 ++ [10])
      simp only [List.length_append, List.length_cons, List.length_nil, List.append_assoc, List.cons_append, List.nil_append, Nat.zero_add] at this
      simp only [List.length_cons, List.range'_succ, List.flatMap_cons, List.flatMap_append, put, getD_mid, List.flatMap_nil, List.append_nil, Pg.puts_app, h4 x [] 0 (by omega), glue_nl, Pg.puts_line, Pg.puts_nil]
      have hb : blanks 0 = [] := rfl
      simp only [hb, List.append_nil, List.append_assoc, Int.add_zero, this]
      simp
  have := key _ _ H [] []
  simp only [List.length_nil, List.nil_append] at this
  rw [← List.range_eq_range', ← hlen] at this
  rw [show parts d k.len k.more = (List.range k.len).flatMap fun i => [Pa.kid i, Pa.line 0] by simp [parts, h]]
  rw [this]
  simp [joinT, h, List.flatMap_map]

end Go.Proofs.YtehdljcmeimbcaaGreat
