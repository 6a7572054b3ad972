/- Every tree that may be is read from its own tokens: by its forest; The document's printer in memory: Print; the tree that is read is alike but for places; ParsePrints: so many parentheses; the texts with them; ParsePrints: its walk; An argument that is a tree, opened to what lies in memory; What came in as a slice of bytes holds a text. -/
import Derived.Test.YtehdljcmeimbcaaGreatB38
import Derived.Test.YtehdljcmeimbcaaGreatB28
import Derived.Test.YtehdljcmeimbcaaGreatB30
import Derived.Test.YtehdljcmeimbcaaGreatB31
import Derived.Test.YtehdljcmeimbcaaGreatB19
import Derived.Test.YtehdljcmeimbcaaGreatB20
import Derived.Test.YtehdljcmeimbcaaGreatB33
import Derived.Deep.Slices
import Derived.Deep.Fields
import Derived.ChangeSame
import Derived.Test.YtehdljcmeimbcaaGreatB04
import Derived.ProofKit
import Derived.OpenShut
namespace Go.Proofs.YtehdljcmeimbcaaGreat
set_option linter.unusedVariables false
set_option linter.unusedSimpArgs false

theorem deps_low : ∀ (f : Fo) (m m' : Int) (p : Nd) (i : Nat), m' ≤ m → (∀ x ∈ f.deps m p i, x ≤ 64) → ∀ x ∈ f.deps m' p i, x ≤ 64
  | .nil, _, _, _, _, _, _ => fun x h => by cases h
  | .cons d k r, m, m', p, i, hm, h => fun x hx => by
    simp only [Fo.deps, List.mem_cons, List.mem_append] at h hx
    rcases hx with rfl | hx | hx
    · have := h _ (.inl rfl)
      omega
    · exact deps_low k _ _ d 0 (by omega) (fun y hy => h y (.inr (.inl hy))) x hx
    · exact deps_low r _ _ p (i + 1) hm (fun y hy => h y (.inr (.inr hy))) x hx
theorem dpr_low (p : Nd) (i : Nat) (x : Nd) : (if x.kind = 12 then (1 : Int) else 0) ≤ dpr p i x ∧ (if ins p i = true then (1 : Int) else 0) ≤ dpr p i x := by
  unfold dpr
  constructor <;> (split <;> split <;> split <;> omega)

/-- A term by its kids. -/
theorem node_tm (M : Nat) (d : Nd) (k : Fo) (ht : isTm d.kind = true) (hok : ndOk isNm d (k.nds.map (·.kind)) = true) (hr : k.rd M d 0) (hd : ∀ x ∈ k.deps M d 0, x ≤ 64) : TmK M (bnd d.kind d.text) d k (cores (spelled d k)) := by
  have hk : d.kind = 26 ∨ d.kind = 27 ∨ d.kind = 28 ∨ d.kind = 29 ∨ d.kind = 30 ∨ d.kind = 31 ∨ d.kind = 32 ∨ d.kind = 33 ∨ d.kind = 34 ∨ d.kind = 35 ∨ d.kind = 36 := by
    simp [isTm] at ht
    omega
  have h1 := kids_of hok
  rcases hk with hk | hk | hk | hk | hk | hk | hk | hk | hk | hk | hk
  · rw [show bnd d.kind d.text = 5 by rw [hk]; rfl]; exact tm_26 hk hok
  · rw [show bnd d.kind d.text = 5 by rw [hk]; rfl]; exact tm_27 hk hok
  · rw [show bnd d.kind d.text = 5 by rw [hk]; rfl]; exact tm_28 hk hok
  · rw [show bnd d.kind d.text = 5 by rw [hk]; rfl]; exact tm_29 hk hok
  · rw [show bnd d.kind d.text = 5 by rw [hk]; rfl]; exact tm_30 hk hok hr
  · rw [show bnd d.kind d.text = 5 by rw [hk]; rfl]
    refine tm_31 hk ?_ hok hr
    rw [hk] at h1
    obtain ⟨d0, k0, r, rfl, ha, h1⟩ := kids_c (k := k) (zs := [isTm]) h1
    obtain ⟨d1, k1, r, rfl, hb1, h1⟩ := kids_c (k := r) (zs := []) h1
    have h := hd ((M : Int) + dpr d 1 d1) (by simp [Fo.deps])
    have h2 := (dpr_low d 1 d1).2
    rw [if_pos (by simp [ins, hk])] at h2
    omega
  · have hs : isSg d.text = true := by
      have := hok
      simp only [ndOk, Bool.and_eq_true] at this
      have := this.1.1.2
      unfold textOk at this
      rwa [if_neg (by omega), if_pos hk] at this
    simp only [isSg, Bool.or_eq_true, beq_iff_eq] at hs
    rcases hs with (((hs | hs) | hs) | hs) | hs
    · rw [show bnd d.kind d.text = 2 by rw [hk, hs]; rfl]; exact tm_add hk hs (.inl rfl) hok hr
    · rw [show bnd d.kind d.text = 2 by rw [hk, hs]; rfl]; exact tm_add hk hs (.inr rfl) hok hr
    · rw [show bnd d.kind d.text = 3 by rw [hk, hs]; rfl]; exact tm_mul hk hs hok hr
    · rw [show bnd d.kind d.text = 1 by rw [hk, hs]; rfl]; exact tm_lt hk hs (.inl rfl) hok hr
    · rw [show bnd d.kind d.text = 1 by rw [hk, hs]; rfl]; exact tm_lt hk hs (.inr rfl) hok hr
  · rw [show bnd d.kind d.text = 5 by rw [hk]; rfl]; exact tm_33 hk hok
  · rw [show bnd d.kind d.text = 4 by rw [hk]; rfl]
    refine tm_34 [97, 114, 114] (.inl ⟨hk, rfl⟩) ?_ hok hr
    rw [hk] at h1
    obtain ⟨d0, k0, r, rfl, ha, h1⟩ := kids_c (k := k) (zs := []) h1
    have h := hd ((M : Int) + dpr d 0 d0) (by simp [Fo.deps])
    have h2 := (dpr_low d 0 d0).2
    rw [if_pos (by simp [ins, hk])] at h2
    omega
  · rw [show bnd d.kind d.text = 4 by rw [hk]; rfl]
    refine tm_34 [108, 101, 110] (.inr ⟨hk, rfl⟩) ?_ hok hr
    rw [hk] at h1
    obtain ⟨d0, k0, r, rfl, ha, h1⟩ := kids_c (k := k) (zs := []) h1
    have h := hd ((M : Int) + dpr d 0 d0) (by simp [Fo.deps])
    have h2 := (dpr_low d 0 d0).2
    rw [if_pos (by simp [ins, hk])] at h2
    omega
  · rw [show bnd d.kind d.text = 5 by rw [hk]; rfl]; exact tm_36 hk hok hr
theorem node_st (M : Nat) (d : Nd) (k : Fo) (ht : isSt d.kind = true) (hok : ndOk isNm d (k.nds.map (·.kind)) = true) (hf : k.fit isNm = true) (hr : k.rd M d 0) : StK M d k (cores (spelled d k)) := by
  have hk : d.kind = 13 ∨ d.kind = 14 ∨ d.kind = 15 ∨ d.kind = 16 ∨ d.kind = 17 ∨ d.kind = 18 ∨ d.kind = 19 ∨ d.kind = 20 ∨ d.kind = 21 ∨ d.kind = 22 ∨ d.kind = 23 ∨ d.kind = 24 ∨ d.kind = 25 := by
    simp [isSt] at ht
    omega
  rcases hk with hk | hk | hk | hk | hk | hk | hk | hk | hk | hk | hk | hk | hk
  · exact st_13 hk hok hr
  · exact st_14 hk hok hr
  · exact st_act (.inl ⟨hk, rfl⟩) hok hr
  · exact st_act (.inr (.inl ⟨hk, rfl⟩)) hok hr
  · exact st_act (.inr (.inr (.inl ⟨hk, rfl⟩))) hok hr
  · exact st_act (.inr (.inr (.inr ⟨hk, rfl⟩))) hok hr
  · exact st_19 hk hok hr
  · exact st_20 hk hok hr
  · exact st_turn (.inl ⟨hk, rfl⟩) hok
  · exact st_turn (.inr ⟨hk, rfl⟩) hok
  · exact st_23 hk hok hf hr
  · exact st_24 hk hok hr
  · exact st_25 hk hok
theorem node_dc (M : Nat) (d : Nd) (k : Fo) (ht : isDc d.kind = true) (hok : ndOk isNm d (k.nds.map (·.kind)) = true) (hf : k.fit isNm = true) (hr : k.rd M d 0) : DcK M d k (cores (spelled d k)) := by
  have hk : d.kind = 2 ∨ d.kind = 3 ∨ d.kind = 6 ∨ d.kind = 7 ∨ d.kind = 8 ∨ d.kind = 10 ∨ d.kind = 11 := by
    simp [isDc] at ht
    omega
  rcases hk with hk | hk | hk | hk | hk | hk | hk
  · exact dc_2 hk hok
  · exact dc_3 hk hok hr
  · exact dc_6 hk hok hr
  · exact dc_7 hk hok hr
  · exact dc_8 hk hok hf hr
  · exact dc_10 hk hok hf hr
  · exact dc_11 hk hok hr
theorem node_read : ∀ (f : Fo) (p : Nd) (i M : Nat), f.fit isNm = true → (∀ x ∈ f.deps (M : Int) p i, x ≤ 64) → f.rd M p i
  | .nil, _, _, _, _, _ => trivial
  | .cons d k r, p, i, M, hf, hd => by
    simp only [Fo.fit, Bool.and_eq_true] at hf
    obtain ⟨⟨hok, hfk⟩, hfr⟩ := hf
    have hd0 := hd ((M : Int) + dpr p i d) (by simp [Fo.deps])
    have hdk : ∀ x ∈ k.deps ((M : Int) + dpr p i d) d 0, x ≤ 64 := fun x hx => hd x (by simp [Fo.deps, hx])
    have hdr : ∀ x ∈ r.deps (M : Int) p (i + 1), x ≤ 64 := fun x hx => hd x (by simp [Fo.deps, hx])
    have hl := dpr_low p i d
    have K : ∀ M' : Nat, (M' : Int) ≤ (M : Int) + dpr p i d → k.rd M' d 0 := fun M' h => node_read k d 0 M' hfk (deps_low k _ _ d 0 h hdk)
    refine ⟨⟨fun ht => ?_, fun ht => ?_⟩, node_read r p (i + 1) M hfr hdr⟩
    · have h12 : d.kind ≠ 12 := by
        rintro e
        rw [e] at ht
        exact absurd ht (by decide)
      have e : dpr p i d = (if prn p i d = true then 1 else 0) + (if ins p i = true then 1 else 0) := by
        unfold dpr
        rw [if_neg h12, Int.zero_add]
      have e2 : ((if ins p i = true then 1 else 0 : Nat) : Int) = (if ins p i = true then 1 else 0 : Int) := by split <;> rfl
      by_cases hp : prn p i d = true
      · rw [hp, if_pos rfl]
        rw [if_pos hp] at e
        have T := node_tm (M + (if ins p i = true then 1 else 0) + 1) d k ht hok (K _ (by push_cast; omega)) (deps_low k _ _ d 0 (by push_cast; omega) hdk)
        have eS : cores (inPar true (spelled d k)) = cr [40] :: (cores (spelled d k) ++ [cr [41]]) := by
          simp [inPar, cores, cores_app]
        rw [eS]
        refine TmK.of5 (by decide) ?_ (r5_paren (by omega) T.r1)
        rw [show cr [40] = (4, [40], 0) by decide]
        exact ⟨_, _, rfl, fun h => absurd (show (4 : Int) = 2 from h) (by decide), fun _ => rfl⟩
      · have hp' : prn p i d = false := by simpa using hp
        rw [hp', if_neg (show ¬ (false = true) by decide)]
        rw [if_neg hp] at e
        exact node_tm _ d k ht hok (K _ (by push_cast; omega)) (deps_low k _ _ d 0 (by push_cast; omega) hdk)
    · have hM : (M : Int) ≤ (M : Int) + dpr p i d := by
        have := hl.1
        split at this <;> omega
      exact ⟨fun h => pl_12 h (by have := hl.1; rw [if_pos h] at this; omega) hok (K (M + 1) (by have := hl.1; rw [if_pos h] at this; push_cast; omega)),
        fun h => node_st M d k h hok hfk (K M hM), fun h => node_dc M d k h hok hfk (K M hM), fun h => ty_5 h hok, fun h => me_4 h hok (K M hM), fun h => lf_9 h hok (K M hM)⟩

theorem root_cores : ∀ (Q1 Q : List (List Pa)), cores (((List.range' Q1.length Q.length).flatMap fun i => [Pa.kid i, Pa.line 0]).flatMap (put (Q1 ++ Q))) = Q.flatMap cores
  | Q1, [] => rfl
  | Q1, q :: Q => by
    have ih := root_cores (Q1 ++ [q]) Q
    rw [List.append_assoc, List.singleton_append, List.length_append, List.length_singleton] at ih
    rw [List.length_cons, List.range'_succ, List.flatMap_cons, List.flatMap_append, cores_app, ih, List.flatMap_cons]
    congr 1
    have hg : (Q1 ++ q :: Q).getD Q1.length [] = q := getD_mid Q1 q Q
    simp [put, cores, cores_app, hg]
theorem prog_cores (d : Nd) (k : Fo) (hk : d.kind = 1) : cores (spelled d k) = (k.seqs d 0).flatMap cores := by
  have hK := Fo.seqs_len d k 0
  unfold spelled
  generalize k.seqs d 0 = Q at hK ⊢
  have ep : parts d k.len k.more = (List.range Q.length).flatMap fun i => [.kid i, .line 0] := by simp [parts, hk, hK]
  rw [ep, List.range_eq_range']
  exact root_cores [] Q
/-- The loop of a program's declarations. -/
theorem decls_read (p : Nd) (hp : ∀ i, must p i ≤ 0) : ∀ (f : Fo) (i : Nat), f.rd 0 p i → rowOk [] isDc (f.nds.map (·.kind)) = true → ∀ (T : List Tok) (acc : Fo),
    T.map Tok.core = (f.seqs p i).flatMap cores → ∃ f', f'.bare = f.bare ∧ Pe (.decls acc) T 0 (.ok ⟨1, [], 0, 1, 1⟩ (acc.app f') [])
  | .nil, i, _, _, T, acc, hT => by
    rw [seqs_nil, List.flatMap_nil] at hT
    obtain rfl : T = [] := by simpa using hT
    refine ⟨.nil, rfl, pe_step ⟨0, fun n _ => ?_⟩⟩
    rw [P, if_pos rfl, Fo.app_nil]
  | .cons d k r, i, hr, hs, T, acc, hT => by
    obtain ⟨hk, hr⟩ := hr
    simp only [nds_cons, List.map_cons, rowOk, List.all_cons, Bool.and_eq_true] at hs
    have htm : isTm d.kind = false := by
      have := hs.1
      simp [isDc] at this
      simp [isTm]
      omega
    obtain ⟨hne, H⟩ := (hk.pl htm).dc hs.1
    rw [fs_cons, kc_plain (hp i)] at hT
    obtain ⟨d', k', T1, ⟨hT1, hd, hk'⟩, N, hN⟩ := H T _ hT
    obtain ⟨f', hf, N2, hN2⟩ := decls_read p hp r (i + 1) hr (by simpa [rowOk] using hs.2) T1 (acc.app (one d' k')) hT1
    refine ⟨.cons d' k' f', by simp [Fo.bare, hd, hk', hf], pe_step ⟨max N N2, fun n hn => ?_⟩⟩
    rw [P, if_neg, hN n (by omega)]
    · show P n (.decls (acc.app (one d' k'))) T1 0 = _
      rw [hN2 n (by omega), app_assoc, app_one]
    · rintro rfl
      rw [List.map_nil] at hT
      have := congrArg List.length hT
      rw [List.length_nil, List.length_append] at this
      have h0 : (cores (spelled d k)).length = 0 := by omega
      exact hne (List.eq_nil_of_length_eq_zero h0)

theorem run_all1 (k : Int) : ∀ (l : List UInt8) (j : Nat), j < run k l → goes k (chr l j) = true
  | [], j, h => by simp [run] at h
  | x :: r, j, h => by
    simp only [run] at h
    split at h
    · rename_i hg
      cases j with
      | zero => simpa [chr] using hg
      | succ j =>
        have := run_all1 k r j (by omega)
        simpa [chr] using this
    · omega
theorem kind1_L2 {c : Int} (h : kindI c = 1) : isL c = true := by
  unfold kindI at h
  split at h
  · assumption
  · split at h
    · omega
    · split at h <;> omega
theorem mem_chr2 (l : List UInt8) (x : UInt8) (h : x ∈ l) : ∃ j, j < l.length ∧ chr l j = (x.toNat : Int) := by
  obtain ⟨j, hj, e⟩ := List.getElem_of_mem h
  refine ⟨j, hj, ?_⟩
  unfold chr
  rw [List.getElem?_eq_getElem hj, e]; rfl
theorem ok1_name {s : List UInt8} (h : isNm s = true) : Ok1 s := by
  have hw : whole s 1 = true := by
    unfold isNm at h
    simp only [Bool.and_eq_true] at h
    exact h.1.2
  have h1 := (whole_one (.inl rfl) hw)
  have hall : ∀ j, j < s.length → isL (chr s j) = true ∨ isD (chr s j) = true := by
    intro j hj
    unfold whole at hw
    simp only [Bool.and_eq_true, beq_iff_eq, decide_eq_true_eq] at hw
    obtain ⟨⟨_, hk⟩, he⟩ := hw
    have hL := kind1_L2 hk
    unfold endT at he
    rw [if_neg (fun hp => by
      have := (chr_pre2 _ hp).1
      rw [List.drop_zero] at this
      rw [this] at hL
      exact absurd hL (by decide))] at he
    unfold ends at he
    cases j with
    | zero => exact .inl hL
    | succ j =>
      have := run_all1 1 (s.drop 1) j (by rw [Nat.zero_add] at he; omega)
      rw [chr_drop] at this
      unfold goes at this
      rw [if_pos rfl, Bool.or_eq_true] at this
      rwa [show j + 1 = 1 + j by omega]
  refine ok1_of (fun e => by rw [e] at h1; exact absurd h1.1 (by simp)) fun b hb => ?_
  obtain ⟨j, hj, e⟩ := mem_chr2 s b hb
  have := hall j hj
  rw [e] at this
  refine ⟨?_, ?_, ?_, ?_, ?_, ?_⟩ <;> (rintro rfl; exact absurd this (by decide))

/-- What is printed of a tree that may be is read as it. -/
theorem print_parse {d : Nd} {k : Fo} (h : MayT isNm d k) : dgs (textT d k) (nxt (textT d k) 0) = [] ∧ ∃ k', k'.bare = k.bare ∧ PT (toks (textT d k) (nxt (textT d k) 0)) = .ok ⟨1, [], 0, 1, 1⟩ k' [] := by
  obtain ⟨h1, hok, hf, hd⟩ := h
  have ht := puts_spelled (fun s hs => ok1_name hs) d k h1 hok hf
  have hp := page_text (spelled d k) (spelled_ok d k hok hf)
  rw [ht] at hp
  refine ⟨by simpa [E] using hp.2, ?_⟩
  have hJ : (toks (textT d k) (nxt (textT d k) 0)).map Tok.core = (k.seqs d 0).flatMap cores := hp.1.trans (prog_cores d k h1)
  have hko := kids_of hok
  rw [h1] at hko
  obtain ⟨f', hf', N, hN⟩ := decls_read d (fun i => by simp [must, h1]) k 0 (node_read k d 0 0 hf hd) hko _ .nil hJ
  refine ⟨f', hf', ?_⟩
  have := hN N (Nat.le_refl _)
  rw [← PT_of (n := N) (by rw [this]; intro h; cases h), this]
  rfl
end Go.Proofs.YtehdljcmeimbcaaGreat

namespace Go.Proofs.YtehdljcmeimbcaaGreat
open Go.RowKit
set_option linter.unusedVariables false
set_option linter.unusedSimpArgs false

theorem text_all (R : List Tw) (hn : R.length ≤ 300) : ∀ (F : Fo) (b : Nat), F.fit isNm = true → (∀ q x, (F.flat b)[q]? = some x → R[b + q]? = some x) → F.size ≤ 300 → TextF R b F
  | .nil, _, _, _, _ => trivial
  | .cons d k r, b, hf, hpos, hs => by
    simp only [Fo.fit, Bool.and_eq_true] at hf
    simp only [Fo.size] at hs
    have hk : ∀ q x, (k.flat (b + 1))[q]? = some x → R[b + 1 + q]? = some x := fun q x hq => by
      have := hpos (q + 1) x (by
        rw [Fo.flat, List.getElem?_cons_succ, List.getElem?_append_left (by have := (List.getElem?_eq_some_iff.1 hq).1; exact this)]
        exact hq)
      rwa [show b + (q + 1) = b + 1 + q by omega] at this
    have hr : ∀ q x, (r.flat (b + 1 + k.size))[q]? = some x → R[b + 1 + k.size + q]? = some x := fun q x hq => by
      have := hpos (k.size + q + 1) x (by
        rw [Fo.flat, List.getElem?_cons_succ, List.getElem?_append_right (by rw [Fo.flat_len]; omega), Fo.flat_len, show k.size + q - k.size = q by omega]
        exact hq)
      rwa [show b + (k.size + q + 1) = b + 1 + k.size + q by omega] at this
    exact ⟨text_step R hn b d k (hpos 0 _ rfl) hf.1.1 hf.1.2 (by omega) (text_all R hn k (b + 1) hf.1.2 hk (by omega)) hk, text_all R hn r (b + 1 + k.size) hf.2 hr (by omega)⟩

theorem text_size {d : Nd} {k : Fo} (h : MayT isNm d k) (hs : k.size ≤ 299) : (textT d k).length ≤ 1000000 := by
  have h1 := joinT_len d _ h.2.1 700 0 (by decide) k.more (k.txts d 0 0)
  have h2 := txts_len 700 k d 0 0 h.2.2.1 (by decide) (by omega)
  have h3 : k.size * (2 * 700 + 200) ≤ 299 * (2 * 700 + 200) := Nat.mul_le_mul_right _ hs
  unfold textT
  omega

set_option maxRecDepth 100000 in
set_option maxHeartbeats 2000000 in
theorem print_ok (d : Nd) (k : Fo) (hm : MayT isNm d k) (hs : k.size ≤ 299) (R : List Tw) (hRe : R = (Fo.cons d k .nil).flat 0) (hx : ∀ t ∈ R, t.text.length ≤ 1000000000 ∧ t.kids.length ≤ 9223372036854775807) (va : Value) (w : World) (hR : RdO w va R) :
    Calls Tryz.prog 13 #[.agg #[va]] w fun e w' => e = .returned (.string ⟨(textT d k).toArray⟩) ∧ Below w.heap.size w w' := by
  have hlen : R.length = k.size + 1 := by rw [hRe, Fo.flat_len]; simp [Fo.size]; omega
  have hmay : mayR isNm R = true := (mayR_iff isNm R).2 ⟨d, k, hRe, hm⟩
  have hfit : (Fo.cons d k .nil).fit isNm = true := by simp only [Fo.fit, hm.2.1, hm.2.2.1, Bool.and_self]
  have hta := (text_all R (by omega) (.cons d k .nil) 0 hfit (fun q x hq => by rw [hRe, Nat.zero_add]; exact hq) (by simp [Fo.size]; omega)).1
  obtain ⟨A, ca, hva, _⟩ := id hR
  subst hva
  obtain ⟨W, hW⟩ : ∃ W : World, W = w.alloc (.cells #[.slice A R.length ca] 26) := ⟨_, rfl⟩
  have hbe : Below w.heap.size w W := by rw [hW]; exact (Below.refl _ w).alloc (Nat.le_refl _) _
  have k0 : W.heap[w.heap.size]? = some (.cells #[.slice A R.length ca] 26 (0, 0)) := by
    rw [hW]
    exact heap_alloc_new w _
  have q0 := cell_of_one k0
  have hl0 := lt_of_block k0
  have hmc := may2O_ok R (by omega) hx (.slice A R.length ca) W (hR.below hbe)
  rw [hmay] at hmc
  have htc := fun w' (hb : Below w.heap.size w w') => hta 0 (.slice A R.length ca) w' (hR.below hb) (by decide) (by omega)
  have HMC := Lib.hid hmc
  have HTC := Lib.hid htc
  have HBE := Lib.hid hbe
  clear hmc htc hbe k0 hta hmay hfit hx hRe hR hlen
  go_enter Tryz.func13, Tryz.ntmps13
  go_upto_region 1 with (fail)
  change Code.wp _ _ _ _ (w.alloc (.cells #[.slice A R.length ca] 26))
  rw [← hW]
  clear hW
  go_wp2_with (first
    | (go_at_call 11; refine HMC.out.mono ?_; rintro e w2 ⟨rfl, hb2⟩; have q02 := (hb2.cell (p := ⟨w.heap.size, 0, none⟩) hl0).trans q0; have hbw2 := HBE.out.trans (hb2.mono HBE.out.size))
    | (go_at_call 20; refine (HTC.out _ hbw2).mono ?_; rintro e w3 ⟨rfl, hb3⟩))
  go_ret
  exact ⟨rfl, hbw2.trans (hb3.mono hbw2.size)⟩

/-- Rows of forests that are alike but for places. -/
def Tw.bare (t : Tw) : Tw := ⟨t.kind, t.text, t.n, 0, 0, t.kids⟩
theorem bare_size : ∀ f : Fo, f.bare.size = f.size
  | .nil => rfl
  | .cons d k r => by simp [Fo.bare, Fo.size, bare_size k, bare_size r]
theorem bare_starts : ∀ (f : Fo) (b : Nat), f.bare.starts b = f.starts b
  | .nil, _ => rfl
  | .cons d k r, b => by simp [Fo.bare, Fo.starts, bare_size k, bare_starts r]
theorem bare_flat : ∀ (f : Fo) (b : Nat), f.bare.flat b = (f.flat b).map Tw.bare
  | .nil, _ => rfl
  | .cons d k r, b => by
    simp only [Fo.bare, Fo.flat, List.map_cons, List.map_append, bare_flat k, bare_flat r, bare_size k, bare_starts k]
    rfl
theorem alike_of {f g : Fo} (h : f.bare = g.bare) (b : Nat) : Alike (f.flat b) (g.flat b) := by
  have hm : (f.flat b).map Tw.bare = (g.flat b).map Tw.bare := by rw [← bare_flat, ← bare_flat, h]
  refine ⟨by simpa using congrArg List.length hm, fun i t t' hi hi' => ?_⟩
  have h1 := congrArg (fun l => l[i]?) hm
  simp only [List.getElem?_map, hi, hi', Option.map_some, Option.some.injEq, Tw.bare, Tw.mk.injEq] at h1
  exact ⟨h1.1, h1.2.1, h1.2.2.1, h1.2.2.2.2.2⟩
end Go.Proofs.YtehdljcmeimbcaaGreat

namespace Go.Proofs.YtehdljcmeimbcaaGreat
open Go.RowKit
set_option linter.unusedVariables false
set_option linter.unusedSimpArgs false

def openT (n : Nat) : List UInt8 := (List.replicate n [40, 32]).flatten
def shutT (n : Nat) : List UInt8 := (List.replicate n [35, 41, 10, 41]).flatten
def parenT (n : Nat) : List UInt8 := [109, 97, 105, 110, 32, 123, 32, 108, 111, 103, 32] ++ openT n ++ [53] ++ shutT n ++ [59, 32, 125]
theorem openT_snoc (n : Nat) : openT (n + 1) = openT n ++ [40, 32] := by simp [openT, List.replicate_succ']
theorem shutT_snoc (n : Nat) : shutT (n + 1) = shutT n ++ [35, 41, 10, 41] := by simp [shutT, List.replicate_succ']
theorem openT_len (n : Nat) : (openT n).length = n * 2 := by
  induction n with
  | zero => rfl
  | succ n ih => rw [openT_snoc, List.length_append, ih]; simp; omega
theorem shutT_len (n : Nat) : (shutT n).length = n * 4 := by
  induction n with
  | zero => rfl
  | succ n ih => rw [shutT_snoc, List.length_append, ih]; simp; omega

/-- What the walk wants of the tree of such a text. -/
def fiveB (n : Nat) : Bool :=
  (dgs (parenT n) (nxt (parenT n) 0)).isEmpty && match PT (toks (parenT n) (nxt (parenT n) 0)) with
    | .ok d k _ => decide ((((one d k).flat 0).length = 5)) && (match ((one d k).flat 0)[4]? with | some t => t.kind == 26 && t.n == 5 | none => false)
    | _ => false
set_option maxRecDepth 1000000 in
theorem fives : ((List.range 21).all fiveB) = true := by kernel_rfl
theorem five_ok (n : Nat) (h : n ≤ 20) : dgs (parenT n) (nxt (parenT n) 0) = [] ∧ ∃ d k r t, PT (toks (parenT n) (nxt (parenT n) 0)) = .ok d k r ∧ ((one d k).flat 0).length = 5 ∧ ((one d k).flat 0)[4]? = some t ∧ t.kind = 26 ∧ t.n = 5 := by
  have hx := List.all_eq_true.1 fives n (List.mem_range.2 (by omega))
  unfold fiveB at hx
  rw [Bool.and_eq_true] at hx
  obtain ⟨h1, h2⟩ := hx
  refine ⟨by simpa using h1, ?_⟩
  split at h2
  · rename_i d k r hP
    rw [Bool.and_eq_true, decide_eq_true_eq] at h2
    obtain ⟨h3, h4⟩ := h2
    split at h4
    · rename_i t ht
      simp only [Bool.and_eq_true, beq_iff_eq] at h4
      exact ⟨d, k, r, t, hP, h3, ht, h4.1, h4.2⟩
    · cases h4
  · cases h2
end Go.Proofs.YtehdljcmeimbcaaGreat

namespace Go.Proofs.YtehdljcmeimbcaaGreat
open Go.RowKit
set_option linter.unusedVariables false
set_option linter.unusedSimpArgs false

theorem conv_funP (s : ByteArray) : ∃ (cf : World → Nat) (Wf : World → World), ∀ w : World, (convert 9 22 (.string s)).run Tryz.prog w = .ok (.slice (some ⟨w.heap.size, 0, none⟩) s.size (cf w)) (Wf w) ∧ Holds (Wf w) (.slice (some ⟨w.heap.size, 0, none⟩) s.size (cf w)) s.data.toList ∧ Below w.heap.size w (Wf w) := by
  obtain ⟨cf, h⟩ := Classical.axiomOfChoice fun w => conv_bytes s w
  obtain ⟨Wf, h⟩ := Classical.axiomOfChoice h
  exact ⟨cf, Wf, h⟩

theorem parse_ret {l : List UInt8} {v : Value} {w : World} (hv : Holds w v l) (hl : l.length ≤ 1000000) (hd : dgs l (nxt l 0) = []) {d : Nd} {kf : Fo} {r : List Tok} (hP : PT (toks l (nxt l 0)) = .ok d kf r) :
    Calls Tryz.prog 6 #[v] w fun e w' => ∃ lv, e = .returned (.tuple #[.agg #[lv], .slice none 0 0]) ∧ RdO w' lv ((one d kf).flat 0) ∧ Below w.heap.size w w' := by
  have h := parse_some (16 * (toks l (nxt l 0)).length + 2) l v w hv hl hd (PT_nd _)
  refine h.mono fun e w' hr => ?_
  have hr2 : RetT w (PT (toks l (nxt l 0))) e w' := hr
  rw [hP] at hr2
  obtain ⟨lv, ks, he, h1, h2⟩ := hr2
  exact ⟨lv, he, h1.rd.ro, h2⟩

/-- What the tree that is printed gives: its text, and what is read of it. -/
theorem back_ok {R : List Tw} (h300 : R.length ≤ 300) (hm : mayR isNm R = true) : ∃ d k k', MayT isNm d k ∧ R = (Fo.cons d k .nil).flat 0 ∧ k.size ≤ 299 ∧ dgs (textT d k) (nxt (textT d k) 0) = [] ∧ PT (toks (textT d k) (nxt (textT d k) 0)) = .ok ⟨1, [], 0, 1, 1⟩ k' [] ∧
    Alike ((one ⟨1, [], 0, 1, 1⟩ k').flat 0) R ∧ ((one ⟨1, [], 0, 1, 1⟩ k').flat 0).length ≤ 300 ∧ ∀ t ∈ (one ⟨1, [], 0, 1, 1⟩ k').flat 0, t.kids.length ≤ 300 := by
  obtain ⟨d, k, hRe, hmay⟩ := (mayR_iff isNm R).1 hm
  have hsz : k.size + 1 = R.length := by rw [hRe, Fo.flat_len]; simp [Fo.size]; omega
  obtain ⟨hd, k', hb, hP⟩ := print_parse hmay
  have hdb : (⟨1, [], 0, 1, 1⟩ : Nd).bare = d.bare := by
    have h1 := hmay.1
    have ht := text_0 hmay.2.1 (by omega) (by omega) (by rw [h1]; rfl)
    have hn := num_0 hmay.2.1 (by omega) (by omega) (by omega) (by omega)
    simp [Nd.bare, h1, ht, hn]
  have hal : Alike ((one ⟨1, [], 0, 1, 1⟩ k').flat 0) R := by
    rw [hRe]
    refine alike_of ?_ 0
    simp only [one, Fo.bare, hb, hdb]
  have hl : ((one ⟨1, [], 0, 1, 1⟩ k').flat 0).length ≤ 300 := by rw [hal.1]; omega
  refine ⟨d, k, k', hmay, hRe, by omega, hd, hP, hal, hl, fun t ht => ?_⟩
  have hk2 : ∀ (F : Fo) (b : Nat), ∀ t ∈ F.flat b, t.kids.length ≤ F.size := by
    intro F
    induction F with
    | nil => intro b t h; cases h
    | cons d k r ihk ihr =>
      intro b t h
      simp only [Fo.flat, List.mem_cons, List.mem_append] at h
      simp only [Fo.size]
      rcases h with rfl | h | h
      · have h1 := k.starts_len (b + 1)
        have h2 := nds_le k
        simp only [Nd.tw]
        omega
      · have := ihk _ t h
        omega
      · have := ihr _ t h
        omega
  have := hk2 _ 0 t ht
  rw [Fo.flat_len] at hl
  omega

set_option maxRecDepth 100000 in
set_option maxHeartbeats 8000000 in
theorem prints3_walk (R : List Tw) (mo : Int) (va : Value) (w : World) (hR : RdO w va R) (hlen : R.length ≤ 9223372036854775807) (hkl : ∀ t ∈ R, t.kids.length ≤ 9223372036854775807) :
    Calls Tryz.prog 4 #[.agg #[va], .int .i64 mo] w fun e w' => e = .returned (.bool true) ∧ Below w.heap.size w w' := by
  obtain ⟨A, ca, hva, _⟩ := id hR
  subst hva
  obtain ⟨W, hW⟩ : ∃ W : World, W = w.alloc (.cells #[.slice A R.length ca] 26) := ⟨_, rfl⟩
  have hbe : Below w.heap.size w W := by rw [hW]; exact (Below.refl _ w).alloc (Nat.le_refl _) _
  have k0 : W.heap[w.heap.size]? = some (.cells #[.slice A R.length ca] 26 (0, 0)) := by
    rw [hW]
    exact heap_alloc_new w _
  have q0 := cell_of_one k0
  have hl0 := lt_of_block k0
  have hmu := much_ok R (.slice A R.length ca) W (hR.below hbe) hlen
  have HMU := Lib.hid hmu
  have HBE := Lib.hid hbe
  have HR := Lib.hid hR
  have HKL := Lib.hid hkl
  clear hmu hbe hR hkl k0
  go_enter Tryz.func4, Tryz.ntmps4
  go_upto_region 1 with (fail)
  change Code.wp _ _ _ _ (w.alloc (.cells #[.slice A R.length ca] 26))
  rw [← hW]
  clear hW
  go_wp2_with fail
  refine HMU.out.mono ?_
  rintro e w1 ⟨⟨b, rfl, hbf⟩, hb1⟩
  have q1 := (hb1.cell (p := ⟨w.heap.size, 0, none⟩) hl0).trans q0
  have hbw1 := HBE.out.trans (hb1.mono HBE.out.size)
  have HB1 := Lib.hid hbw1
  have hl1 : w.heap.size < w1.heap.size := Nat.lt_of_lt_of_le hl0 hb1.size
  clear q0 hb1 hbw1 HMU hl0
  cases b with
  | true =>
    clear hbf
    go_wp2_with (go_at_call 5; refine (known3_ok _).mono ?_; rintro e w2 ⟨rfl, hb2⟩)
    go_ret
    exact ⟨rfl, HB1.out.trans (hb2.mono HB1.out.size)⟩
  | false =>
    obtain ⟨h300, h100⟩ := hbf rfl
    have hmc := may2O_ok R (by omega) (fun t ht => ⟨by have := h100 t ht; omega, HKL.out t ht⟩) (.slice A R.length ca) w1 (HR.out.below HB1.out)
    cases hmb : mayR isNm R with
    | false =>
      rw [hmb] at hmc
      have HMC := Lib.hid hmc
      clear hmc hmb hbf h100
      go_wp2_with (first
        | (go_at_call 11; refine HMC.out.mono ?_; rintro e w2 ⟨rfl, hb2⟩)
        | (go_at_call 5; refine (known3_ok _).mono ?_; rintro e w3 ⟨rfl, hb3⟩))
      go_ret
      exact ⟨rfl, HB1.out.trans ((hb2.trans (hb3.mono hb2.size)).mono HB1.out.size)⟩
    | true =>
      obtain ⟨d, k, k', hmay, hRe, hks, hdg, hP, hal, hl3, hk3⟩ := back_ok h300 hmb
      rw [hmb] at hmc
      have hx : ∀ t ∈ R, t.text.length ≤ 1000000000 ∧ t.kids.length ≤ 9223372036854775807 := fun t ht => ⟨by have := h100 t ht; omega, HKL.out t ht⟩
      have hts := text_size hmay hks
      have HMC := Lib.hid hmc
      have HHX := Lib.hid hx
      clear hmc hmb hbf h100 hx
      by_cases hneg : mo < 0
      · clear hRe hdg hP hal hl3 hk3 hmay
        go_wp2_with (first
          | (go_at_call 11; refine HMC.out.mono ?_; rintro e w2 ⟨rfl, hb2⟩)
          | (go_at_call 5; refine (known3_ok _).mono ?_; rintro e w3 ⟨rfl, hb3⟩))
        go_ret
        exact ⟨rfl, HB1.out.trans ((hb2.trans (hb3.mono hb2.size)).mono HB1.out.size)⟩
      · by_cases hbig : 20 < mo
        · clear hRe hdg hP hal hl3 hk3 hmay
          go_wp2_with (first
            | (go_at_call 11; refine HMC.out.mono ?_; rintro e w2 ⟨rfl, hb2⟩)
            | (go_at_call 5; refine (known3_ok _).mono ?_; rintro e w3 ⟨rfl, hb3⟩))
          go_ret
          exact ⟨rfl, HB1.out.trans ((hb2.trans (hb3.mono hb2.size)).mono HB1.out.size)⟩
        · have HMAY := Lib.hid hmay
          have HRE := Lib.hid hRe
          have HDG := Lib.hid hdg
          have HP := Lib.hid hP
          have HAL := Lib.hid hal
          have HL3 := Lib.hid hl3
          have HK3 := Lib.hid hk3
          clear hmay hRe hdg hP hal hl3 hk3
          have hpr := fun w' (hb : Below w.heap.size w w') => print_ok d k HMAY.out hks R HRE.out HHX.out (.slice A R.length ca) w' (HR.out.below hb)
          obtain ⟨cf, Wf, hcv⟩ := conv_funP (⟨(textT d k).toArray⟩ : ByteArray)
          have hcv1 := fun w => (hcv w).1
          have hzt := str_size (textT d k)
          have HPR := Lib.hid hpr
          have HCV := Lib.hid hcv
          clear hpr hcv
          go_wp2_with (first
            | (go_at_call 11; refine HMC.out.mono ?_; rintro e w2 ⟨rfl, hb2⟩; have hbw2 := HB1.out.trans (hb2.mono HB1.out.size); have q2 := (hb2.cell (p := ⟨w.heap.size, 0, none⟩) hl1).trans q1; have hl2 : w.heap.size < w2.heap.size := Nat.lt_of_lt_of_le hl1 hb2.size)
            | (go_at_call 13; refine (HPR.out _ hbw2).mono ?_; rintro e w3 ⟨rfl, hb3⟩))
          obtain ⟨R2, hR2⟩ : ∃ R2, R2 = (one ⟨1, [], 0, 1, 1⟩ k').flat 0 := ⟨_, rfl⟩
          have hold3 : Holds (Wf w3) (.slice (some ⟨w3.heap.size, 0, none⟩) (textT d k).length (cf w3)) (textT d k) := by
            have h := (HCV.out w3).2.1
            rw [hzt] at h
            exact h
          have hbW := (HCV.out w3).2.2
          have hps := parse_ret hold3 hts HDG.out HP.out
          rw [← hR2] at hps HAL HL3 HK3
          have HPS := Lib.hid hps
          have hbw3 := hbw2.trans ((hb3.trans (hbW.mono hb3.size)).mono hbw2.size)
          have HB3 := Lib.hid hbw3
          have q3 := ((hb3.trans (hbW.mono hb3.size)).cell (p := ⟨w.heap.size, 0, none⟩) hl2).trans q2
          have hl3w : w.heap.size < (Wf w3).heap.size := Nat.lt_of_lt_of_le hl2 (hb3.trans (hbW.mono hb3.size)).size
          clear hold3 hbW hps hbw3 hb3 hbw2 q2 hl2 hb2 q1 hl1 HB1 HMC HPR hcv1 hR2 HP HDG
          refine HPS.out.mono ?_
          rintro e w4 ⟨lv, rfl, hrd, hb4⟩
          obtain ⟨TA, tc, rfl⟩ := hrd.form
          have hbt := hb4.alloc hb4.size (.cells #[.slice TA R2.length tc] 26)
          have ht1 : (w4.alloc (.cells #[.slice TA R2.length tc] 26)).heap[w4.heap.size]? = some (.cells #[.slice TA R2.length tc] 26 (0, 0)) := heap_alloc_new w4 _
          have hba := (Below.refl w4.heap.size w4).alloc (Nat.le_refl _) (.cells #[.slice TA R2.length tc] 26)
          have HRD := Lib.hid (hrd.below hba)
          have q4 := (hbt.cell (p := ⟨w.heap.size, 0, none⟩) hl3w).trans q3
          have HB4 := Lib.hid (HB3.out.trans (hbt.mono HB3.out.size))
          have qx := cell_of_one ht1
          clear hbt ht1 hba hrd hb4 q3 hl3w HPS HB3 HCV
          go_upto_region 4 with (fail)
          change Code.wp _ _ _ _ (w4.alloc (.cells #[.slice TA R2.length tc] 26))
          generalize w4.alloc (.cells #[.slice TA R2.length tc] 26) = W5 at *
          generalize w4.heap.size = bx at *
          have hsm := sameO_ok R2 (.slice TA R2.length tc) (.slice A R.length ca) W5 HRD.out ((HR.out.below HB4.out).rb HAL.out) (by have := HL3.out; omega) (fun t ht => by have := HK3.out t ht; omega)
          have HSM := Lib.hid hsm
          clear hsm HRD HAL HL3 HK3
          go_wp2_with (go_at_call 9; refine HSM.out.mono ?_; rintro e w5 ⟨rfl, hb5⟩)
          have HB5 := Lib.hid (HB4.out.trans (hb5.mono HB4.out.size))
          clear hb5 HSM q4 qx HB4
          obtain ⟨mn, rfl⟩ : ∃ mn : Nat, mo = mn := ⟨mo.toNat, by omega⟩
          have hmn : mn ≤ 20 := by omega
          clear hneg hbig
          go_loopg [7, 8, 9] mn (fun n v7 v8 v9 wr => ∃ i nq : Nat, i + n = mn ∧ v9 = .int .i64 i ∧ v7 = .string ⟨(openT i).toArray⟩ ∧ v8 = .string ⟨(shutT i).toArray⟩ ∧ wr = w5.drewN nq)
          case atStart => exact ⟨0, 0, by omega, rfl, rfl, rfl, rfl⟩
          case round =>
            obtain ⟨i, nq, hin, rfl, rfl, rfl, rfl⟩ := hrel
            have ho := openT_len i
            have hs := shutT_len i
            have zo := str_size (openT i)
            have zs := str_size (shutT i)
            by_cases hlt : i < mn
            · go_wp2_with fail
              go_roundg (mn - (i + 1))
              case measure => omega
              case rel => exact ⟨i + 1, nq, by omega, by go_num, congrArg Value.string (str_ext (by rw [openT_snoc]; simp)), congrArg Value.string (str_ext (by rw [shutT_snoc]; simp)), rfl⟩
            · obtain rfl : i = mn := by omega
              obtain ⟨hd5, d5, k5, r5, t5, hP5, hl5, ht5, hk5, hn5⟩ := five_ok i hmn
              obtain ⟨cf2, Wf2, hcv2⟩ := conv_funP ((((⟨#[109, 97, 105, 110, 32, 123, 32, 108, 111, 103, 32]⟩ ++ ⟨(openT i).toArray⟩) ++ ⟨#[53]⟩) ++ ⟨(shutT i).toArray⟩) ++ ⟨#[59, 32, 125]⟩)
              have hcv3 := fun w => (hcv2 w).1
              have HCV2 := Lib.hid hcv2
              have HD5 := Lib.hid hd5
              have HP5 := Lib.hid hP5
              have HL5 := Lib.hid hl5
              have HT5 := Lib.hid ht5
              have HK5 := Lib.hid hk5
              have HN5 := Lib.hid hn5
              clear hcv2 hd5 hP5 hl5 ht5 hk5 hn5
              go_wp2_with fail
              have hold5 : Holds (Wf2 (w5.drewN nq)) (.slice (some ⟨w5.heap.size, 0, none⟩) (11 + i * 2 + 1 + i * 4 + 3) (cf2 (w5.drewN nq))) (parenT i) := by
                have h := (HCV2.out (w5.drewN nq)).2.1
                have e1 : ByteArray.size ((((⟨#[109, 97, 105, 110, 32, 123, 32, 108, 111, 103, 32]⟩ ++ ⟨(openT i).toArray⟩) ++ ⟨#[53]⟩) ++ ⟨(shutT i).toArray⟩) ++ ⟨#[59, 32, 125]⟩) = 11 + i * 2 + 1 + i * 4 + 3 := by
                  simp only [ByteArray.size_append, zo, zs, ho, hs]
                  rfl
                have e2 : ((((⟨#[109, 97, 105, 110, 32, 123, 32, 108, 111, 103, 32]⟩ ++ ⟨(openT i).toArray⟩) ++ ⟨#[53]⟩) ++ ⟨(shutT i).toArray⟩) ++ ⟨#[59, 32, 125]⟩ : ByteArray).data.toList = parenT i := by
                  simp [parenT]
                rw [e1, e2] at h
                exact h
              have hbW5 := (HCV2.out (w5.drewN nq)).2.2
              have hpl : (parenT i).length ≤ 1000000 := by
                unfold parenT
                simp [openT_len, shutT_len]
                omega
              have hps5 := parse_ret hold5 hpl HD5.out HP5.out
              have hbw5 := HB5.out.trans (((bdrew (Below.refl w5.heap.size w5) nq).trans hbW5).mono HB5.out.size)
              have HB6 := Lib.hid hbw5
              clear hold5 hbW5 hpl hbw5 HCV2 hcv3 HB5
              refine hps5.mono ?_
              rintro e w6 ⟨lv, rfl, hrd, hb6⟩
              obtain ⟨TB, td, rfl⟩ := hrd.form
              obtain ⟨A6, c6, e6, hrow⟩ := hrd
              injection e6 with e61 _ e63
              subst e61 e63
              obtain ⟨g6, o6, kv6, rfl, hg6, _, hc6⟩ := hrow 4 _ HT5.out
              have hk26 := hc6 0 _ rfl
              have hn05 := hc6 2 _ rfl
              rw [HK5.out] at hk26
              rw [HN5.out] at hn05
              have hbt := hb6.alloc hb6.size (.cells #[.slice (some ⟨g6, o6, none⟩) ((one d5 k5).flat 0).length td] 26)
              have ht1 : (w6.alloc (.cells #[.slice (some ⟨g6, o6, none⟩) ((one d5 k5).flat 0).length td] 26)).heap[w6.heap.size]? = some (.cells #[.slice (some ⟨g6, o6, none⟩) ((one d5 k5).flat 0).length td] 26 (0, 0)) := heap_alloc_new w6 _
              have hba := (Below.refl w6.heap.size w6).alloc (Nat.le_refl _) (.cells #[.slice (some ⟨g6, o6, none⟩) ((one d5 k5).flat 0).length td] 26)
              have qk := (hba.cell (p := ⟨g6, o6 + 4 * 6 + 0, none⟩) hg6).trans hk26
              have qn := (hba.cell (p := ⟨g6, o6 + 4 * 6 + 2, none⟩) hg6).trans hn05
              rw [show o6 + 4 * 6 + 0 = o6 + 24 from rfl] at qk
              rw [show o6 + 4 * 6 + 2 = o6 + 26 from rfl] at qn
              have qy := cell_of_one ht1
              have HB7 := Lib.hid (HB6.out.trans (hbt.mono HB6.out.size))
              clear hbt ht1 hba hb6 hk26 hn05 hc6 hrow hps5
              go_upto_region 14 with (fail)
              change Code.wp _ _ _ _ (w6.alloc (.cells #[.slice (some ⟨g6, o6, none⟩) ((one d5 k5).flat 0).length td] 26))
              generalize w6.alloc (.cells #[.slice (some ⟨g6, o6, none⟩) ((one d5 k5).flat 0).length td] 26) = W7 at *
              generalize w6.heap.size = b7 at *
              rw [HL5.out] at qy
              go_wp2_with (go_at_call 5; refine (known3_ok _).mono ?_; rintro e w8 ⟨rfl, hb8⟩)
              go_ret
              exact ⟨rfl, HB7.out.trans (hb8.mono HB7.out.size)⟩
end Go.Proofs.YtehdljcmeimbcaaGreat

namespace Go.Proofs.YtehdljcmeimbcaaGreat
open Go.RowKit Go.ChangeShapes Go.WideShapes Go.Deep
set_option linter.unusedVariables false
set_option linter.unusedSimpArgs false

theorem cellsTwig : Tryz.prog.cellsOf 39 = 6 := by kernel_rfl
theorem cellsTree : Tryz.prog.cellsOf 26 = 1 := by kernel_rfl

theorem spotO_none {w : World} {a : Addr} {v : Value} (h : w.cell? (a.add 0) = some v) : a = ⟨a.block, a.off, none⟩ := by
  obtain ⟨b, off, spot⟩ := a
  cases spot with
  | none => rfl
  | some y =>
    exfalso
    unfold World.cell? at h
    split at h
    · simp [Addr.add] at h
    · simp at h
theorem addO_none (b off n : Nat) : (⟨b, off, none⟩ : Addr).add n = ⟨b, off + n, none⟩ := by unfold Addr.add; split <;> simp_all

section
variable {H : Type} {enc : TypeId × Value → H} {w : World} {base : Nat} {held : Bool}

theorem open_kids {fuel : Nat} {cs : List Value} {x : DataW H × List MemPlace} (h : DataW.trod enc Tryz.prog w base (fun _ => true) held fuel 37 cs = some x) : ∃ (kv : Value) (l : List Int), cs = [kv] ∧ KidO w kv l ∧ l.length ≤ 9223372036854775807 := by
  rcases open_slice1 Tryz.underlying37 (by kernel_rfl) h with ⟨rfl, _⟩ | ⟨a, len, cap, m, n, V, D, Pl, rfl, hb, hl, hm, hmm, hx, hi⟩
  · exact ⟨_, [], rfl, ⟨none, 0, rfl, fun k x hk => by simp at hk⟩, by simp⟩
  · simp only [if_true] at hmm
    subst hmm
    have key : ∀ i : Nat, ∃ z : Int, i < len → w.cell? (a.add i) = some (.int .i64 z) := by
      intro i
      by_cases hlt : i < len
      · obtain ⟨hc, ht⟩ := hi i (by omega)
        obtain ⟨z, e, _⟩ := DataW.trod_int (k := .i64) (by kernel_rfl) ht
        simp only [List.cons.injEq, and_true] at e
        exact ⟨z, fun _ => by rw [hc, e]⟩
      · exact ⟨0, fun h => absurd h hlt⟩
    obtain ⟨f, hf⟩ := Classical.axiomOfChoice key
    refine ⟨_, (List.range len).map f, rfl, ⟨some a, m, by simp, fun k x hk => ?_⟩, by
      have : maxLen = 9223372036854775807 := rfl
      simp
      omega⟩
    have hlt : k < len := by
      have := (List.getElem?_eq_some_iff.1 hk).1
      simpa using this
    have ht : f k = x := by
      rw [List.getElem?_map, List.getElem?_range hlt] at hk
      simpa using hk
    have c0 := hf 0 (by omega)
    have ha := spotO_none c0
    have hc := hf k hlt
    rw [ht, ha, addO_none] at hc
    exact ⟨a.block, a.off, by rw [← ha], World.block_lt_of_cell? w ⟨a.block, a.off + k, none⟩ hc, hc⟩

set_option maxRecDepth 100000 in
theorem open_twig {fuel : Nat} {cs : List Value} {x : DataW H × List MemPlace} (h : DataW.trod enc Tryz.prog w base (fun _ => true) held fuel 39 cs = some x) :
    ∃ (t : Tw) (kv : Value), cs = twCells t kv ∧ KidO w kv t.kids ∧ t.kids.length ≤ 9223372036854775807 := by
  obtain ⟨xs, n, _, _, hlen, hxl, hf⟩ := DataW.trod_struct Tryz.underlying39 h
  rw [cellsTwig] at hlen
  match cs, hlen with
  | [c0, c1, c2, c3, c4, c5], _ =>
    have hx5 : xs.length = 6 := hxl
    match xs, hx5 with
    | [x0, x1, x2, x3, x4, x5], _ =>
      have h0 : DataW.trod enc Tryz.prog w base (fun _ => true) held n 36 [c0] = some x0 := hf 0 _ rfl
      have h1 : DataW.trod enc Tryz.prog w base (fun _ => true) held n 9 [c1] = some x1 := hf 1 _ rfl
      have h2 : DataW.trod enc Tryz.prog w base (fun _ => true) held n 2 [c2] = some x2 := hf 2 _ rfl
      have h3 : DataW.trod enc Tryz.prog w base (fun _ => true) held n 3 [c3] = some x3 := hf 3 _ rfl
      have h4 : DataW.trod enc Tryz.prog w base (fun _ => true) held n 3 [c4] = some x4 := hf 4 _ rfl
      have h5 : DataW.trod enc Tryz.prog w base (fun _ => true) held n 37 [c5] = some x5 := hf 5 _ rfl
      obtain ⟨z0, e0, _⟩ := DataW.trod_int (k := .i64) (by kernel_rfl) h0
      obtain ⟨z1, e1, _⟩ := DataW.trod_string (by kernel_rfl) h1
      obtain ⟨z2, e2, _⟩ := DataW.trod_int (k := .i64) (by kernel_rfl) h2
      obtain ⟨z3, e3, _⟩ := DataW.trod_int (k := .i64) (by kernel_rfl) h3
      obtain ⟨z4, e4, _⟩ := DataW.trod_int (k := .i64) (by kernel_rfl) h4
      obtain ⟨kv, l, e5, hk, hl⟩ := open_kids h5
      simp only [List.cons.injEq, and_true] at e0 e1 e2 e3 e4 e5
      subst e0 e1 e2 e3 e4 e5
      exact ⟨⟨z0, z1.data.toList, z2, z3, z4, l⟩, c5, by simp [twCells], hk, hl⟩

theorem open_twigs {fuel : Nat} {cs : List Value} {x : DataW H × List MemPlace} (h : DataW.trod enc Tryz.prog w base (fun _ => true) held fuel 24 cs = some x) :
    ∃ (v : Value) (R : List Tw), cs = [v] ∧ RdO w v R ∧ R.length ≤ 9223372036854775807 ∧ ∀ t ∈ R, t.kids.length ≤ 9223372036854775807 := by
  rcases open_slice Tryz.underlying24 h with ⟨rfl, _⟩ | ⟨a, len, cap, m, n, D, Pl, rfl, hb, hl, hm, hmm, hx, hi⟩
  · exact ⟨_, [], rfl, ⟨none, 0, rfl, fun i t hi => by simp at hi⟩, by simp, fun t ht => by simp at ht⟩
  · simp only [if_true] at hmm
    subst hmm
    have key : ∀ i : Nat, ∃ p : Tw × Value, i < len → KidO w p.2 p.1.kids ∧ p.1.kids.length ≤ 9223372036854775807 ∧ ∀ j u, (twCells p.1 p.2)[j]? = some u → w.cell? (a.add (i * 6 + j)) = some u := by
      intro i
      by_cases hlt : i < len
      · obtain ⟨cs', hc, ht⟩ := hi i (by omega)
        obtain ⟨t, kv, rfl, hk, hkl⟩ := open_twig ht
        refine ⟨(t, kv), fun _ => ⟨hk, hkl, fun j u hj => ?_⟩⟩
        rw [cellsTwig] at hc
        obtain ⟨_, hcl, hat⟩ := World.cells?_some hc
        have hj5 : j < 6 := by
          rcases Nat.lt_or_ge j 6 with h' | h'
          · exact h'
          · rw [List.getElem?_eq_none (by simp [twCells]; omega)] at hj; cases hj
        rw [← Go.Deep.add_add, hat j hj5, hj]
      · exact ⟨(⟨0, [], 0, 0, 0, []⟩, .int .i64 0), fun h => absurd h hlt⟩
    obtain ⟨f, hf⟩ := Classical.axiomOfChoice key
    refine ⟨_, (List.range len).map fun i => (f i).1, rfl, ⟨some a, m, by simp, fun i t hi => ?_⟩, by
      have : maxLen = 9223372036854775807 := rfl
      simp
      omega, fun t ht => ?_⟩
    · have hlt : i < len := by
        have := (List.getElem?_eq_some_iff.1 hi).1
        simpa using this
      have ht : (f i).1 = t := by
        rw [List.getElem?_map, List.getElem?_range hlt] at hi
        simpa using hi
      obtain ⟨hk, _, hc⟩ := hf i hlt
      rw [ht] at hk hc
      have c0 : w.cell? (a.add 0) = some (.int .i64 (f 0).1.kind) := by
        have := (hf 0 (by omega)).2.2 0 _ rfl
        simpa using this
      have ha := spotO_none c0
      have hc' : ∀ j u, (twCells t (f i).2)[j]? = some u → w.cell? ⟨a.block, a.off + i * 6 + j, none⟩ = some u := fun j u hj => by
        have := hc j u hj
        rw [ha, addO_none, ← Nat.add_assoc] at this
        exact this
      exact ⟨a.block, a.off, (f i).2, by rw [← ha], World.block_lt_of_cell? w ⟨a.block, a.off + i * 6 + 0, none⟩ (hc' 0 _ rfl), hk, hc'⟩
    · obtain ⟨i, hi, rfl⟩ := List.mem_map.1 ht
      exact (hf i (List.mem_range.1 hi)).2.1

set_option maxRecDepth 100000 in
theorem open_tree {fuel : Nat} {cs : List Value} {x : DataW H × List MemPlace} (h : DataW.trod enc Tryz.prog w base (fun _ => true) held fuel 26 cs = some x) :
    ∃ (v : Value) (R : List Tw), cs = [v] ∧ RdO w v R ∧ R.length ≤ 9223372036854775807 ∧ ∀ t ∈ R, t.kids.length ≤ 9223372036854775807 := by
  obtain ⟨xs, n, _, _, hlen, hxl, hf⟩ := DataW.trod_struct Tryz.underlying26 h
  rw [cellsTree] at hlen
  match cs, hlen with
  | [c0], _ =>
    have hx5 : xs.length = 1 := hxl
    match xs, hx5 with
    | [x0], _ =>
      have h0 : DataW.trod enc Tryz.prog w base (fun _ => true) held n 24 [c0] = some x0 := hf 0 _ rfl
      exact open_twigs h0
end
end Go.Proofs.YtehdljcmeimbcaaGreat

namespace Go.Proofs.YtehdljcmeimbcaaGreat
open Go.ChangeShapes Go.WideShapes Go.ChangeAt Go.RowKit

/-- A slice of integers that came in: nil, or a row of 'cap' cells. -/
def IsRow (k : IntKind) (w : World) (a : Option Addr) (len cap : Nat) (zs : List Int) : Prop :=
  (a = none ∧ len = 0 ∧ cap = 0 ∧ zs = []) ∨
  ∃ x, a = some x ∧ len ≤ cap ∧ cap ≤ maxLen ∧ zs.length = cap ∧ (∀ i, i < zs.length → w.cell? (x.add i) = some (.int k (zs.getD i 0))) ∧ ∀ n ∈ zs, (Lit.int k n).wf = true

theorem row_holds {w : World} {a : Option Addr} {len cap : Nat} {zs : List Int} (h : IsRow .u8 w a len cap zs) : ∃ l : List UInt8, Holds w (.slice a len cap) l ∧ l.length = len := by
  rcases h with ⟨rfl, rfl, rfl, rfl⟩ | ⟨x, rfl, hl, hm, hz, hc, hw⟩
  · exact ⟨[], ⟨none, 0, rfl, Nat.le_refl _, fun h => by simp at h⟩, rfl⟩
  · have hlen : ((zs.take len).map fun z => UInt8.ofNat z.toNat).length = len := by simp; omega
    refine ⟨(zs.take len).map fun z => UInt8.ofNat z.toNat, ⟨some x, cap, by rw [hlen], by rw [hlen]; exact hl, fun h0 => ?_⟩, hlen⟩
    rw [hlen] at h0
    obtain ⟨b, off, spot⟩ := x
    have hs : spot = none := by
      have h1 := hc 0 (by omega)
      unfold World.cell? at h1
      cases spot with
      | none => rfl
      | some y =>
        exfalso
        split at h1
        · simp [Addr.add] at h1
        · simp at h1
    subst hs
    refine ⟨b, off, rfl, fun k hk => ?_⟩
    rw [hlen] at hk
    have h1 := hc k (by omega)
    have hadd : (⟨b, off, none⟩ : Addr).add k = ⟨b, off + k, none⟩ := by unfold Addr.add; split <;> simp_all
    rw [hadd] at h1
    rw [h1]
    have hkz : k < zs.length := by omega
    have hwf := hw _ (List.getElem_mem hkz)
    have hbd : 0 ≤ zs[k] ∧ zs[k] ≤ 255 := by simpa [Lit.wf, IntKind.min, IntKind.max, IntKind.signed, IntKind.bits] using hwf
    have e1 : zs.getD k 0 = zs[k] := by simp [List.getD, List.getElem?_eq_getElem hkz]
    have e2 : chr ((zs.take len).map fun z => UInt8.ofNat z.toNat) k = zs[k] := by
      unfold chr
      rw [List.getElem?_map, List.getElem?_take, if_pos hk, List.getElem?_eq_getElem hkz]
      simp only [Option.map_some, Option.getD_some, UInt8.toNat_ofNat']
      omega
    rw [e1, e2]
end Go.Proofs.YtehdljcmeimbcaaGreat
