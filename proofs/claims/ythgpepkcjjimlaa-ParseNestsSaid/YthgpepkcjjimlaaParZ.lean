/- parse.Parse; the law's one and known. -/
import Derived.Test.YthgpepkcjjimlaaParW
import Derived.Test.YthgpepkcjjimlaaParY
import Derived.Test.YthgpepkcjjimlaaTokO
import Derived.Laws.IdiomStrings
namespace Go.Proofs.Ythgpepkcjjimlaa
open Go.RowKit

/-- What Tokens answered is so in a later world, and for who began earlier. -/
theorem RetT.split {w : World} {o : Out} {e : Ending} {w' : World} (h : RetT w o e w') : ∃ lA ln lc g n c, e = .returned (.tuple #[.agg #[.slice lA ln lc], .slice g n c]) ∧ Below w.heap.size w w' ∧
    ∀ w0 W : World, w0.heap.size ≤ w.heap.size → (∀ b, w.heap.size ≤ b → b < w'.heap.size → W.heap[b]? = w'.heap[b]?) → Below w0.heap.size w0 W → RetT w0 o e W := by
  cases o with
  | dry => exact h.elim
  | bad er r =>
    obtain ⟨g, rfl, h1, h2, h3⟩ := h
    exact ⟨_, _, _, _, _, _, rfl, h3, fun w0 W h4 h5 h6 => ⟨g, rfl, (h5 g h2 (lt_of_block h1)).trans h1, Nat.le_trans h4 h2, h6⟩⟩
  | ok d kf r =>
    obtain ⟨lv, ks, rfl, h1, h2⟩ := h
    obtain ⟨lA, lc, rfl⟩ := own_form h1.row
    exact ⟨_, _, _, _, _, _, rfl, h2, fun w0 W h4 h5 h6 => ⟨_, ks, rfl, (h1.keep h5).base h4, h6⟩⟩

set_option maxRecDepth 100000 in
set_option maxHeartbeats 1000000 in
theorem parse_some (n : Nat) (l : List UInt8) (v : Value) (w : World) (hv : Holds w v l) (hl : l.length ≤ 1000000) (hd : dgs l (nxt l 0) = []) (hnd : P n (.decls .nil) (toks l (nxt l 0)) 0 ≠ .dry) :
    Calls Try.prog 9 #[v] w (RetT w (P n (.decls .nil) (toks l (nxt l 0)) 0)) := by
  have hT := len_toks l.length l (nxt l 0) (by omega)
  have HV := Lib.hid hv
  have HD := Lib.hid hd
  have HND := Lib.hid hnd
  clear hv hd hnd
  go_enter Try.func9, Try.ntmps9
  go_wp2_with fail
  refine (scan_ok l v _ (HV.out.below ((Below.refl _ _).alloc (Nat.le_refl _) _)) hl).mono ?_
  rintro e w1 ⟨v4, v5, rfl, hb1, ho4, ho5⟩
  rw [HD.out] at ho5
  obtain ⟨A4, c4, rfl, ht⟩ := own_toks ho4
  obtain ⟨A5, c5, rfl⟩ := own_form ho5
  have h0 : w1.heap[w.heap.size]? = some (.cells #[.slice none 0 0] 30 (0, 0)) := (hb1.block _ (by simp)).trans (heap_alloc_new w _)
  have HB1 := Lib.hid (((Below.refl _ w).alloc (Nat.le_refl _) _).trans (hb1.mono (by simp)))
  have HT := Lib.hid ht.tkb
  have H0 := Lib.hid h0
  have l0 := lt_of_block h0
  clear hb1 ho4 ho5 ht h0
  go_wp2_with fail
  refine (tokens_ok n A4 _ c4 w1 HT.out (by omega) HND.out).mono ?_
  intro e w2 hr
  obtain ⟨lA, ln, lc, g, n', c, rfl, hb2, hsp⟩ := hr.split
  have h02 := (hb2.block _ l0).trans H0.out
  have c0 := cell_of_one h02
  have f0 := free_of_one h02
  have l02 := lt_of_block h02
  have hsp2 := hsp w (w2.setCell ⟨w.heap.size, 0, none⟩ (.slice lA ln lc)) (by omega) (fun b hb _ => set_other _ _ _ _ _ (by omega)) ((HB1.out.trans (hb2.mono (by omega))).setCell (p := ⟨w.heap.size, 0, none⟩) (Nat.le_refl _) _)
  have HS := Lib.hid hsp2
  clear hr hb2 hsp hsp2 h02
  go_wp2_with fail
  exact bodyPost_ret (v := .tuple #[.agg #[.slice lA ln lc], .slice g n' c]) (by simp [results, Try.results9, go_sem, c0]) rfl HS.out

/-- A string as bytes. -/
theorem conv_bytes (s : ByteArray) (w : World) : ∃ cap W, (convert 9 22 (.string s)).run Try.prog w = .ok (.slice (some ⟨w.heap.size, 0, none⟩) s.size cap) W ∧ Holds W (.slice (some ⟨w.heap.size, 0, none⟩) s.size cap) s.data.toList ∧ Below w.heap.size w W := by
  have h := run_bytes_of_string (P := Try.prog) w 9 22 5 s Try.underlying9 Try.underlying22 Try.underlying5
  have hs : s.data.toList.length = s.size := Array.length_toList
  have hge := grownCap_ge w s.size 0 5
  refine ⟨_, _, h, ⟨_, _, by rw [hs], by rw [hs]; exact hge, fun _ => ⟨_, 0, rfl, fun k hk => ?_⟩⟩, ((Below.refl _ w).drew).alloc (Nat.le_refl _) _⟩
  have h1 := heap_alloc_new w.drew (.cells (bytesRow s (grownCap w s.size 0 5)) 5 ((bytesRow s (grownCap w s.size 0 5)).size, (bytesRow s (grownCap w s.size 0 5)).size + 1))
  have h2 : (w.drew).heap.size = w.heap.size := rfl
  rw [h2] at h1
  rw [Nat.zero_add]
  unfold World.cell?
  rw [h1]
  simp only [bytesRow, chr]
  have hk2 : k < s.data.size := by simpa using hk
  have h3 : s.data.toList[k]? = some (s.data[k]'hk2) := by simp
  rw [Array.getElem?_append_left (by simpa using hk2), h3, Array.getElem?_map, Array.getElem?_eq_getElem hk2]
  rfl

set_option maxRecDepth 100000 in
set_option maxHeartbeats 1000000 in
theorem one_yes (n : Nat) (s : ByteArray) (er li co : Int) (w : World) (hl : s.data.toList.length ≤ 1000000) (hz : outZ n s.data.toList = some (some (er, li, co))) :
    Calls Try.prog 10 #[.string s, .int .i64 er, .int .i64 li, .int .i64 co] w fun e w' => e = .returned (.bool true) ∧ Below w.heap.size w w' := by
  obtain ⟨hd, r, hP, e1, e2⟩ := outZ_some hz
  obtain ⟨cap, W, hconv, hh, hbW⟩ := conv_bytes s w
  have hps := parse_some n s.data.toList _ W hh hl hd (by rw [hP]; simp)
  rw [hP] at hps
  have HP := Lib.hid hps
  have HB := Lib.hid hbW
  clear hz hd hP hh hps hbW hl
  subst e1 e2
  go_enter Try.func10, Try.ntmps10
  go_wp2_with fail
  refine HP.out.mono ?_
  rintro e w1 ⟨g, rfl, hdg, hg, hb1⟩
  have q0 : w1.cell? ⟨g, 0, none⟩ = some (.int .i64 (hd r).line) := by simp [World.cell?, hdg]
  have q1 : w1.cell? ⟨g, 1, none⟩ = some (.int .i64 (hd r).col) := by simp [World.cell?, hdg]
  have q2 : w1.cell? ⟨g, 2, none⟩ = some (.int .i64 er) := by simp [World.cell?, hdg]
  have hgl := lt_of_block hdg
  have HB1 := Lib.hid (HB.out.trans (hb1.mono HB.out.size))
  have hww := HB1.out.size
  clear hb1 hdg HB HP
  go_wp2_with fail
  go_ret
  exact ⟨rfl, HB1.out.alloc hww _⟩

set_option maxRecDepth 100000 in
set_option maxHeartbeats 1000000 in
theorem known3_ok (w : World) : Calls Try.prog 5 #[] w fun e w' => e = .returned (.bool true) ∧ Below w.heap.size w w' := by
  go_enter Try.func5, Try.ntmps5
  go_wp2_with fail
  refine (one_yes 100 ⟨[109, 97, 105, 110, 32, 123, 32, 120, 32, 61, 32, 49, 32, 125].toArray⟩ 4 1 14 _ (by decide) known1).mono ?_
  rintro e w1 ⟨rfl, hb1⟩
  have HB1 := Lib.hid hb1
  clear hb1
  go_wp2_with fail
  refine (one_yes 100 ⟨[109, 97, 105, 110, 32, 123, 32, 53, 32, 61, 32, 49, 59, 32, 125].toArray⟩ 4 1 10 _ (by decide) known2).mono ?_
  rintro e w2 ⟨rfl, hb2⟩
  have HB2 := Lib.hid (HB1.out.trans (hb2.mono HB1.out.size))
  clear hb2
  go_wp2_with fail
  refine (one_yes 100 ⟨[108, 111, 111, 112, 101, 114].toArray⟩ 4 0 0 _ (by decide) known3).mono ?_
  rintro e w3 ⟨rfl, hb3⟩
  have HB3 := Lib.hid (HB2.out.trans (hb3.mono HB2.out.size))
  clear hb3
  go_wp2_with fail
  go_ret
  exact ⟨rfl, HB3.out⟩
end Go.Proofs.Ythgpepkcjjimlaa
