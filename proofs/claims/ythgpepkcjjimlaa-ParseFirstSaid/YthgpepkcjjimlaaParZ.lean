/- parse.Tokens, parse.Parse; parse.Parse; the law's one and known. -/
import Derived.Test.YthgpepkcjjimlaaParU
import Derived.Test.YthgpepkcjjimlaaLayF
import Derived.Test.YthgpepkcjjimlaaTokM
import Derived.Test.YthgpepkcjjimlaaParY
import Derived.Test.YthgpepkcjjimlaaTokO
import Derived.Laws.IdiomStrings
namespace Go.Proofs.Ythgpepkcjjimlaa
open Go.RowKit

theorem ownsRow_base {w : World} {base base' : Nat} {e : TypeId} {size n : Nat} {v : Value} {xs : List Value} (h : w.ownsRow base e size v n xs) (hb : base' ≤ base) : w.ownsRow base' e size v n xs := by
  refine ⟨h.1, h.2.imp id ?_⟩
  rintro ⟨g, cap, cur, rfl, h1, h2⟩
  exact ⟨g, cap, cur, rfl, by omega, h2⟩
theorem Laid.base {n₀ n₁ : Nat} {w : World} {lv : Value} {L : List Tw} {ks : List Value} (h : Laid n₀ w lv L ks) (hn : n₁ ≤ n₀) : Laid n₁ w lv L ks :=
  ⟨ownsRow_base h.row hn, h.len, fun i t kv h1 h2 => ownsRow_base (h.kid i t kv h1 h2) hn, h.apart⟩
theorem Laid.keep {n₀ : Nat} {w w' : World} {lv : Value} {L : List Tw} {ks : List Value} (h : Laid n₀ w lv L ks) (hk : ∀ b, n₀ ≤ b → b < w.heap.size → w'.heap[b]? = w.heap[b]?) : Laid n₀ w' lv L ks :=
  ⟨ownsRow_keep h.row fun g hg => hk g (h.row.lt g hg).1 (h.row.lt g hg).2, h.len, fun i t kv h1 h2 => ownsRow_keep (h.kid i t kv h1 h2) fun g hg => hk g ((h.kid i t kv h1 h2).lt g hg).1 ((h.kid i t kv h1 h2).lt g hg).2, h.apart⟩
theorem Laid.below {n₀ : Nat} {w w' : World} {lv : Value} {L : List Tw} {ks : List Value} (h : Laid n₀ w lv L ks) (hb : Below w.heap.size w w') : Laid n₀ w' lv L ks := h.keep fun b _ hlt => hb.block b hlt
theorem lt_of_cell {w : World} {a : Addr} {v : Value} (h : w.cell? a = some v) : a.block < w.heap.size := by
  rcases Nat.lt_or_ge a.block w.heap.size with h' | h'
  · exact h'
  · simp [World.cell?, Array.getElem?_eq_none h'] at h
theorem Toks.tkb {w : World} {A : Option Addr} {T : List Tok} (h : Toks w A T) : TkB w w.heap.size A T := fun i t hi => by
  obtain ⟨g, h1, h2, h3, h4, h5, h6⟩ := h i t hi
  exact ⟨g, 0, h1, lt_of_cell h2, by rw [Nat.zero_add]; exact h2, by rw [Nat.zero_add]; exact h3, by rw [Nat.zero_add]; exact h4, by rw [Nat.zero_add]; exact h5, by rw [Nat.zero_add]; exact h6⟩

/-- What Tokens answers. -/
def RetT (w : World) (o : Out) (e : Ending) (w' : World) : Prop :=
  match o with
  | .dry => False
  | .bad er r => ∃ g, e = .returned (.tuple #[.agg #[.slice none 0 0], .slice (some ⟨g, 0, none⟩) 1 1]) ∧ w'.heap[g]? = some (.cells #[.int .i64 (hd r).line, .int .i64 (hd r).col, .int .i64 er] 35 (0, 0)) ∧ w.heap.size ≤ g ∧ Below w.heap.size w w'
  | .ok d kf _ => ∃ lv ks, e = .returned (.tuple #[.agg #[lv], .slice none 0 0]) ∧ Laid w.heap.size w' lv ((one d kf).flat 0) ks ∧ Below w.heap.size w w'

def cxT (w : World) (A : Option Addr) (cap : Nat) (T : List Tok) : Cx := ⟨w.heap.size + 1, A, cap, T, []⟩
theorem ps_start (A : Option Addr) (T : List Tok) (cap : Nat) (w : World) (hT : TkB w w.heap.size A T) (hb : T.length ≤ 1000000) (o : Obj) :
    PS ((w.alloc o).alloc (.cells #[.slice A T.length cap, .int .i64 0, .int .i64 0, .slice none 0 0] 52)) (cxT w A cap T) 0 0 (.slice none 0 0) [] := by
  have h1 := heap_alloc_new (w.alloc o) (.cells #[.slice A T.length cap, .int .i64 0, .int .i64 0, .slice none 0 0] 52)
  rw [World.size_alloc] at h1
  have hbe : Below w.heap.size w ((w.alloc o).alloc (.cells #[.slice A T.length cap, .int .i64 0, .int .i64 0, .slice none 0 0] 52)) := ((Below.refl _ w).alloc (Nat.le_refl _) _).alloc (by simp) _
  refine ⟨h1, ?_, ⟨[], World.ownsRow_nil _ _ _ _, rfl⟩, Nat.zero_le _, hb, Nat.zero_le _, Nat.zero_le _, fun b hx => by cases hx⟩
  have h2 := hT.below hbe (Nat.le_refl _)
  intro i t hi
  obtain ⟨g, off, e1, e2, e3⟩ := h2 i t hi
  exact ⟨g, off, e1, Nat.lt_succ_of_lt e2, e3⟩
theorem run_ok (n : Nat) (A : Option Addr) (T : List Tok) (cap : Nat) (w : World) (hT : TkB w w.heap.size A T) (hb : T.length ≤ 1000000) (o : Obj) (hnd : P n (.decls .nil) T 0 ≠ .dry) {W : World} (hW : W = (w.alloc o).alloc (.cells #[.slice A T.length cap, .int .i64 0, .int .i64 0, .slice none 0 0] 52)) :
    Calls Try.prog 16 #[.pointer (some ⟨w.heap.size + 1, 0, none⟩)] W (RetR (cxT w A cap T) W 0 (P n (.decls .nil) T 0)) := by
  subst hW
  have hps := ps_start A T cap w hT hb o
  have hpr := fun w1 h1 => program_ok n (cxT w A cap T) w1 0 0 (.slice none 0 0) h1 hnd
  generalize (w.alloc o).alloc (.cells #[.slice A T.length cap, .int .i64 0, .int .i64 0, .slice none 0 0] 52) = W at hps ⊢
  have hd0 : (cxT w A cap T).T.drop 0 = T := rfl
  rw [hd0] at hpr
  cases hP : P n (.decls .nil) T 0 with
  | dry => exact absurd hP hnd
  | bad er r =>
    rw [hP] at hpr
    exact run_bad (cxT w A cap T) W 0 0 (.slice none 0 0) er r hps (Lib.hid hpr)
  | ok d f r =>
    rw [hP] at hpr
    exact run_good (cxT w A cap T) W 0 0 (.slice none 0 0) d f r hps (Lib.hid hpr)

set_option maxRecDepth 100000 in
set_option maxHeartbeats 1000000 in
theorem tokens_bad (n : Nat) (A : Option Addr) (T : List Tok) (cap : Nat) (w : World) (hT : TkB w w.heap.size A T) (hb : T.length ≤ 1000000) (er : Int) (r : List Tok) (hP : P n (.decls .nil) T 0 = .bad er r) :
    Calls Try.prog 7 #[.slice A T.length cap] w (RetT w (.bad er r)) := by
  have hr := fun o W hW => run_ok n A T cap w hT hb o (by rw [hP]; simp) (W := W) hW
  rw [hP] at hr
  have HR := Lib.hid hr
  clear hr hP hT
  go_enter Try.func7, Try.ntmps7
  go_wp2_with fail
  refine (HR.out _ _ rfl).mono ?_
  rintro e w3 ⟨g, rfl, hd, hg, hbl⟩
  have h0 : w3.heap[w.heap.size]? = some (.cells #[.slice none 0 0] 30 (0, 0)) := by
    rw [hbl.block w.heap.size (Nat.lt_succ_self _), Below.heap_alloc _ _ _ (by simp)]
    exact heap_alloc_new w _
  have c0 := cell_of_one h0
  have f0 := free_of_one h0
  have l0 := lt_of_block h0
  have hbw : Below w.heap.size w (w3.setCell ⟨w.heap.size, 0, none⟩ (.slice none 0 0)) := ((((Below.refl _ w).alloc (Nat.le_refl _) _).alloc (by simp) _).trans (hbl.mono (Nat.le_succ _))).setCell (p := ⟨w.heap.size, 0, none⟩) (Nat.le_refl _) _
  have hdg := (set_other w3 w.heap.size 0 (.slice none 0 0) g (by simp at hg; omega)).trans hd
  have hgw : w.heap.size ≤ g := by simp at hg; omega
  have HB := Lib.hid hbw
  have HD := Lib.hid hdg
  clear hbw hdg hd hg hbl h0
  go_wp2_with fail
  exact bodyPost_ret (v := .tuple #[.agg #[.slice none 0 0], .slice (some ⟨g, 0, none⟩) 1 1]) (by simp [results, Try.results7, go_sem, c0]) rfl ⟨g, rfl, HD.out, hgw, HB.out⟩

set_option maxRecDepth 100000 in
set_option maxHeartbeats 1000000 in
theorem tokens_good (n : Nat) (A : Option Addr) (T : List Tok) (cap : Nat) (w : World) (hT : TkB w w.heap.size A T) (hb : T.length ≤ 1000000) (d : Nd) (kf : Fo) (r : List Tok) (hP : P n (.decls .nil) T 0 = .ok d kf r) :
    Calls Try.prog 7 #[.slice A T.length cap] w (RetT w (.ok d kf r)) := by
  have hr := fun o W hW => run_ok n A T cap w hT hb o (by rw [hP]; simp) (W := W) hW
  rw [hP] at hr
  have HR := Lib.hid hr
  clear hr hP hT
  go_enter Try.func7, Try.ntmps7
  go_wp2_with fail
  refine (HR.out _ _ rfl).mono ?_
  rintro e w3 ⟨rfl, ⟨j, v', hps⟩, hbl⟩
  have h0 : w3.heap[w.heap.size]? = some (.cells #[.slice none 0 0] 30 (0, 0)) := by
    rw [hbl.block w.heap.size (Nat.lt_succ_self _), Below.heap_alloc _ _ _ (by simp)]
    exact heap_alloc_new w _
  obtain ⟨_, _, _, c3⟩ := hps.cells
  have c3' : w3.cell? ⟨w.heap.size + 1, 3, none⟩ = some v' := c3
  obtain ⟨xs, ho, htw⟩ := hps.own
  obtain ⟨vA, vc, rfl⟩ := own_form ho
  have hlen : ((one d kf).post 0).length ≤ 2000001 := by
    have h1 := hps.few
    have h2 := hps.kle
    have h3 : (cxT w A cap T).T.length ≤ 1000000 := hps.big
    omega
  have hn : ((one d kf).post 0).length = kf.size + 1 := by rw [Fo.post_len, one_size]
  have hlay := lay_ok w3 [] d kf vA _ vc _ xs ho htw hn hlen
  have hbw : Below w.heap.size w w3 := (((Below.refl _ w).alloc (Nat.le_refl _) _).alloc (by simp) _).trans (hbl.mono (Nat.le_succ _))
  have l0 := lt_of_block h0
  have HL := Lib.hid hlay
  have HB := Lib.hid hbw
  have H0 := Lib.hid h0
  clear hlay hbw hps ho htw hbl h0 c3 hn HR
  generalize ((one d kf).post 0).length = vn at *
  go_wp2_with fail
  refine HL.out.mono ?_
  rintro e w4 ⟨lv, ks, rfl, hlaid, hb4⟩
  have h04 := (hb4.block _ l0).trans H0.out
  have c0 := cell_of_one h04
  have f0 := free_of_one h04
  have l04 := lt_of_block h04
  obtain ⟨lA, lc, rfl⟩ := own_form hlaid.row
  have hb5 : Below w.heap.size w (w4.setCell ⟨w.heap.size, 0, none⟩ (.slice lA ((one d kf).flat 0).length lc)) := (HB.out.trans (hb4.mono (by omega))).setCell (p := ⟨w.heap.size, 0, none⟩) (Nat.le_refl _) _
  have hl5 : Laid w.heap.size (w4.setCell ⟨w.heap.size, 0, none⟩ (.slice lA ((one d kf).flat 0).length lc)) (.slice lA ((one d kf).flat 0).length lc) ((one d kf).flat 0) ks := (hlaid.keep fun b hb _ => set_other _ _ _ _ _ (by omega)).base (by omega)
  have HB5 := Lib.hid hb5
  have HL5 := Lib.hid hl5
  clear hb5 hl5 hlaid hb4 h04 HL
  go_wp2_with fail
  exact bodyPost_ret (v := .tuple #[.agg #[.slice lA ((one d kf).flat 0).length lc], .slice none 0 0]) (by simp [results, Try.results7, go_sem, c0]) rfl ⟨_, ks, rfl, HL5.out, HB5.out⟩
theorem tokens_ok (n : Nat) (A : Option Addr) (T : List Tok) (cap : Nat) (w : World) (hT : TkB w w.heap.size A T) (hb : T.length ≤ 1000000) (hnd : P n (.decls .nil) T 0 ≠ .dry) :
    Calls Try.prog 7 #[.slice A T.length cap] w (RetT w (P n (.decls .nil) T 0)) := by
  cases hP : P n (.decls .nil) T 0 with
  | dry => exact absurd hP hnd
  | bad er r => exact tokens_bad n A T cap w hT hb er r hP
  | ok d kf r => exact tokens_good n A T cap w hT hb d kf r hP

/-- What Parse answers. -/
def RetS (l : List UInt8) (n : Nat) (w : World) (e : Ending) (w' : World) : Prop :=
  if dgs l (nxt l 0) = [] then RetT w (P n (.decls .nil) (toks l (nxt l 0)) 0) e w'
  else ∃ v5, e = .returned (.tuple #[.agg #[.slice none 0 0], v5]) ∧ w'.ownsRow w.heap.size 35 3 v5 (dgs l (nxt l 0)).length (dcs (dgs l (nxt l 0))) ∧ Below w.heap.size w w'
end Go.Proofs.Ythgpepkcjjimlaa

namespace Go.Proofs.Ythgpepkcjjimlaa
open Go.RowKit

/-- What Tokens answered is so in a later world, and for who began earlier. -/
theorem RetT.split {w : World} {o : Out} {e : Ending} {w' : World} (h : RetT w o e w') : ∃ lA ln lc g n c, e = .returned (.tuple #[.agg #[.slice lA ln lc], .slice g n c]) ∧ Below w.heap.size w w' ∧
    ∀ w0 W : World, w0.heap.size ≤ w.heap.size → (∀ b, w.heap.size ≤ b → b < w'.heap.size → W.heap[b]? = w'.heap[b]?) → Below w0.heap.size w0 W → RetT w0 o e W := by
  cases o with
  | dry => exact h.elim
  | bad er r =>
    obtain ⟨g, rfl, h1, h2, h3⟩ := h
    exact ⟨_, _, _, _, _, _, rfl, h3, fun w0 W h4 h5 h6 => ⟨g, rfl, (h5 g h2 (lt_of_block h1)).trans h1, Nat.le_trans h4 h2, h6⟩⟩
  | ok d kf r =>
    obtain ⟨lv, ks, rfl, h1, h2⟩ := h
    obtain ⟨lA, lc, rfl⟩ := own_form h1.row
    exact ⟨_, _, _, _, _, _, rfl, h2, fun w0 W h4 h5 h6 => ⟨_, ks, rfl, (h1.keep h5).base h4, h6⟩⟩

set_option maxRecDepth 100000 in
set_option maxHeartbeats 1000000 in
theorem parse_some (n : Nat) (l : List UInt8) (v : Value) (w : World) (hv : Holds w v l) (hl : l.length ≤ 1000000) (hd : dgs l (nxt l 0) = []) (hnd : P n (.decls .nil) (toks l (nxt l 0)) 0 ≠ .dry) :
    Calls Try.prog 9 #[v] w (RetT w (P n (.decls .nil) (toks l (nxt l 0)) 0)) := by
  have hT := len_toks l.length l (nxt l 0) (by omega)
  have HV := Lib.hid hv
  have HD := Lib.hid hd
  have HND := Lib.hid hnd
  clear hv hd hnd
  go_enter Try.func9, Try.ntmps9
  go_wp2_with fail
  refine (scan_ok l v _ (HV.out.below ((Below.refl _ _).alloc (Nat.le_refl _) _)) hl).mono ?_
  rintro e w1 ⟨v4, v5, rfl, hb1, ho4, ho5⟩
  rw [HD.out] at ho5
  obtain ⟨A4, c4, rfl, ht⟩ := own_toks ho4
  obtain ⟨A5, c5, rfl⟩ := own_form ho5
  have h0 : w1.heap[w.heap.size]? = some (.cells #[.slice none 0 0] 30 (0, 0)) := (hb1.block _ (by simp)).trans (heap_alloc_new w _)
  have HB1 := Lib.hid (((Below.refl _ w).alloc (Nat.le_refl _) _).trans (hb1.mono (by simp)))
  have HT := Lib.hid ht.tkb
  have H0 := Lib.hid h0
  have l0 := lt_of_block h0
  clear hb1 ho4 ho5 ht h0
  go_wp2_with fail
  refine (tokens_ok n A4 _ c4 w1 HT.out (by omega) HND.out).mono ?_
  intro e w2 hr
  obtain ⟨lA, ln, lc, g, n', c, rfl, hb2, hsp⟩ := hr.split
  have h02 := (hb2.block _ l0).trans H0.out
  have c0 := cell_of_one h02
  have f0 := free_of_one h02
  have l02 := lt_of_block h02
  have hsp2 := hsp w (w2.setCell ⟨w.heap.size, 0, none⟩ (.slice lA ln lc)) (by omega) (fun b hb _ => set_other _ _ _ _ _ (by omega)) ((HB1.out.trans (hb2.mono (by omega))).setCell (p := ⟨w.heap.size, 0, none⟩) (Nat.le_refl _) _)
  have HS := Lib.hid hsp2
  clear hr hb2 hsp hsp2 h02
  go_wp2_with fail
  exact bodyPost_ret (v := .tuple #[.agg #[.slice lA ln lc], .slice g n' c]) (by simp [results, Try.results9, go_sem, c0]) rfl HS.out

/-- A string as bytes. -/
theorem conv_bytes (s : ByteArray) (w : World) : ∃ cap W, (convert 9 22 (.string s)).run Try.prog w = .ok (.slice (some ⟨w.heap.size, 0, none⟩) s.size cap) W ∧ Holds W (.slice (some ⟨w.heap.size, 0, none⟩) s.size cap) s.data.toList ∧ Below w.heap.size w W := by
  have h := run_bytes_of_string (P := Try.prog) w 9 22 5 s Try.underlying9 Try.underlying22 Try.underlying5
  have hs : s.data.toList.length = s.size := Array.length_toList
  have hge := grownCap_ge w s.size 0 5
  refine ⟨_, _, h, ⟨_, _, by rw [hs], by rw [hs]; exact hge, fun _ => ⟨_, 0, rfl, fun k hk => ?_⟩⟩, ((Below.refl _ w).drew).alloc (Nat.le_refl _) _⟩
  have h1 := heap_alloc_new w.drew (.cells (bytesRow s (grownCap w s.size 0 5)) 5 ((bytesRow s (grownCap w s.size 0 5)).size, (bytesRow s (grownCap w s.size 0 5)).size + 1))
  have h2 : (w.drew).heap.size = w.heap.size := rfl
  rw [h2] at h1
  rw [Nat.zero_add]
  unfold World.cell?
  rw [h1]
  simp only [bytesRow, chr]
  have hk2 : k < s.data.size := by simpa using hk
  have h3 : s.data.toList[k]? = some (s.data[k]'hk2) := by simp
  rw [Array.getElem?_append_left (by simpa using hk2), h3, Array.getElem?_map, Array.getElem?_eq_getElem hk2]
  rfl

set_option maxRecDepth 100000 in
set_option maxHeartbeats 1000000 in
theorem one_yes (n : Nat) (s : ByteArray) (er li co : Int) (w : World) (hl : s.data.toList.length ≤ 1000000) (hz : outZ n s.data.toList = some (some (er, li, co))) :
    Calls Try.prog 10 #[.string s, .int .i64 er, .int .i64 li, .int .i64 co] w fun e w' => e = .returned (.bool true) ∧ Below w.heap.size w w' := by
  obtain ⟨hd, r, hP, e1, e2⟩ := outZ_some hz
  obtain ⟨cap, W, hconv, hh, hbW⟩ := conv_bytes s w
  have hps := parse_some n s.data.toList _ W hh hl hd (by rw [hP]; simp)
  rw [hP] at hps
  have HP := Lib.hid hps
  have HB := Lib.hid hbW
  clear hz hd hP hh hps hbW hl
  subst e1 e2
  go_enter Try.func10, Try.ntmps10
  go_wp2_with fail
  refine HP.out.mono ?_
  rintro e w1 ⟨g, rfl, hdg, hg, hb1⟩
  have q0 : w1.cell? ⟨g, 0, none⟩ = some (.int .i64 (hd r).line) := by simp [World.cell?, hdg]
  have q1 : w1.cell? ⟨g, 1, none⟩ = some (.int .i64 (hd r).col) := by simp [World.cell?, hdg]
  have q2 : w1.cell? ⟨g, 2, none⟩ = some (.int .i64 er) := by simp [World.cell?, hdg]
  have hgl := lt_of_block hdg
  have HB1 := Lib.hid (HB.out.trans (hb1.mono HB.out.size))
  have hww := HB1.out.size
  clear hb1 hdg HB HP
  go_wp2_with fail
  go_ret
  exact ⟨rfl, HB1.out.alloc hww _⟩

set_option maxRecDepth 100000 in
set_option maxHeartbeats 1000000 in
theorem known3_ok (w : World) : Calls Try.prog 5 #[] w fun e w' => e = .returned (.bool true) ∧ Below w.heap.size w w' := by
  go_enter Try.func5, Try.ntmps5
  go_wp2_with fail
  refine (one_yes 100 ⟨[109, 97, 105, 110, 32, 123, 32, 120, 32, 61, 32, 49, 32, 125].toArray⟩ 4 1 14 _ (by decide) known1).mono ?_
  rintro e w1 ⟨rfl, hb1⟩
  have HB1 := Lib.hid hb1
  clear hb1
  go_wp2_with fail
  refine (one_yes 100 ⟨[109, 97, 105, 110, 32, 123, 32, 53, 32, 61, 32, 49, 59, 32, 125].toArray⟩ 4 1 10 _ (by decide) known2).mono ?_
  rintro e w2 ⟨rfl, hb2⟩
  have HB2 := Lib.hid (HB1.out.trans (hb2.mono HB1.out.size))
  clear hb2
  go_wp2_with fail
  refine (one_yes 100 ⟨[108, 111, 111, 112, 101, 114].toArray⟩ 4 0 0 _ (by decide) known3).mono ?_
  rintro e w3 ⟨rfl, hb3⟩
  have HB3 := Lib.hid (HB2.out.trans (hb3.mono HB2.out.size))
  clear hb3
  go_wp2_with fail
  go_ret
  exact ⟨rfl, HB3.out⟩
end Go.Proofs.Ythgpepkcjjimlaa
