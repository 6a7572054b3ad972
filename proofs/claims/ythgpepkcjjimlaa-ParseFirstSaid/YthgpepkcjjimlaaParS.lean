/- parser.declaration, program. -/
import Derived.Test.YthgpepkcjjimlaaParQ
namespace Go.Proofs.Ythgpepkcjjimlaa
open Go.RowKit

set_option maxRecDepth 100000 in
set_option maxHeartbeats 2000000 in
theorem declaration_looper (n : Nat) (C : Cx) (w : World) (k m : Nat) (v : Value) (tw : List Tw) (h : PS w C k m v tw) (h1 : seesW (C.T.drop k) [[108, 111, 111, 112, 101, 114]] = true) (hnd : P (n + 1) .decl (C.T.drop k) m ≠ .dry) :
    Calls Try.prog 29 #[C.ptr] w (Ret C w k m v tw (P (n + 1) .decl (C.T.drop k) m)) := by
  have HS0 := Lib.hid (St.start h)
  clear h
  generalize ho : P (n + 1) .decl (C.T.drop k) m = o at hnd ⊢
  have HND := Lib.hid hnd
  clear hnd
  have H1 := Lib.hid h1
  clear h1
  have HO0 := Lib.hid ho
  clear ho
  go_enter Try.func29, Try.ntmps29
  go_wp2_with fail
  refine (seesWord_is C _ _ _ _ _ [[108, 111, 111, 112, 101, 114]] _ _ _ true HS0.out.ps (by simp) rfl rfl (by decide) H1.out).mono ?_
  rintro e w1 ⟨rfl, hb⟩
  have HS1 := Lib.hid (HS0.out.below hb)
  clear hb HS0
  go_wp2_with fail
  refine (looper_ok n C _ _ _ _ _ HS1.out.ps0 H1.out (by rw [HO0.out]; exact HND.out)).mono ?_
  rintro e w9 hr
  rw [HO0.out] at hr
  have HR := Lib.hid (HS1.out.from hr)
  clear HS1
  cases o with
  | dry => exact absurd rfl HND.out
  | bad er r => (obtain ⟨rfl, _⟩ := hr; go_wp2_with fail; exact ⟨rfl, HR.out⟩)
  | ok d f r => (obtain ⟨j, v', _, rfl, _⟩ := hr; generalize ((tw.length + f.size : Nat) : Int) = N at HR ⊢; go_wp2_with fail; go_ret; exact HR.out)

set_option maxRecDepth 100000 in
set_option maxHeartbeats 2000000 in
theorem declaration_class (n : Nat) (C : Cx) (w : World) (k m : Nat) (v : Value) (tw : List Tw) (h : PS w C k m v tw) (h2 : seesW (C.T.drop k) [[108, 111, 111, 112, 101, 114]] = false) (h1 : seesW (C.T.drop k) [[99, 108, 97, 115, 115]] = true) (hnd : P (n + 1) .decl (C.T.drop k) m ≠ .dry) :
    Calls Try.prog 29 #[C.ptr] w (Ret C w k m v tw (P (n + 1) .decl (C.T.drop k) m)) := by
  have HS0 := Lib.hid (St.start h)
  clear h
  generalize ho : P (n + 1) .decl (C.T.drop k) m = o at hnd ⊢
  have HND := Lib.hid hnd
  clear hnd
  have H2 := Lib.hid h2
  clear h2
  have H1 := Lib.hid h1
  clear h1
  have HO0 := Lib.hid ho
  clear ho
  go_enter Try.func29, Try.ntmps29
  go_wp2_with fail
  refine (seesWord_is C _ _ _ _ _ [[108, 111, 111, 112, 101, 114]] _ _ _ false HS0.out.ps (by simp) rfl rfl (by decide) H2.out).mono ?_
  rintro e w1 ⟨rfl, hb⟩
  have HS1 := Lib.hid (HS0.out.below hb)
  clear hb HS0
  go_wp2_with fail
  refine (seesWord_is C _ _ _ _ _ [[99, 108, 97, 115, 115]] _ _ _ true HS1.out.ps (by simp) rfl rfl (by decide) H1.out).mono ?_
  rintro e w2 ⟨rfl, hb⟩
  have HS2 := Lib.hid (HS1.out.below hb)
  clear hb HS1
  go_wp2_with fail
  refine (class_ok n C _ _ _ _ _ HS2.out.ps0 H2.out H1.out (by rw [HO0.out]; exact HND.out)).mono ?_
  rintro e w9 hr
  rw [HO0.out] at hr
  have HR := Lib.hid (HS2.out.from hr)
  clear HS2
  cases o with
  | dry => exact absurd rfl HND.out
  | bad er r => (obtain ⟨rfl, _⟩ := hr; go_wp2_with fail; exact ⟨rfl, HR.out⟩)
  | ok d f r => (obtain ⟨j, v', _, rfl, _⟩ := hr; generalize ((tw.length + f.size : Nat) : Int) = N at HR ⊢; go_wp2_with fail; go_ret; exact HR.out)

set_option maxRecDepth 100000 in
set_option maxHeartbeats 2000000 in
theorem declaration_var (n : Nat) (C : Cx) (w : World) (k m : Nat) (v : Value) (tw : List Tw) (h : PS w C k m v tw) (h2 : seesW (C.T.drop k) [[108, 111, 111, 112, 101, 114]] = false) (h3 : seesW (C.T.drop k) [[99, 108, 97, 115, 115]] = false) (h1 : seesW (C.T.drop k) [[118, 97, 114]] = true) (hnd : P (n + 1) .decl (C.T.drop k) m ≠ .dry) :
    Calls Try.prog 29 #[C.ptr] w (Ret C w k m v tw (P (n + 1) .decl (C.T.drop k) m)) := by
  have HS0 := Lib.hid (St.start h)
  clear h
  generalize ho : P (n + 1) .decl (C.T.drop k) m = o at hnd ⊢
  have HND := Lib.hid hnd
  clear hnd
  have H2 := Lib.hid h2
  clear h2
  have H3 := Lib.hid h3
  clear h3
  have H1 := Lib.hid h1
  clear h1
  have HO0 := Lib.hid ho
  clear ho
  go_enter Try.func29, Try.ntmps29
  go_wp2_with fail
  refine (seesWord_is C _ _ _ _ _ [[108, 111, 111, 112, 101, 114]] _ _ _ false HS0.out.ps (by simp) rfl rfl (by decide) H2.out).mono ?_
  rintro e w1 ⟨rfl, hb⟩
  have HS1 := Lib.hid (HS0.out.below hb)
  clear hb HS0
  go_wp2_with fail
  refine (seesWord_is C _ _ _ _ _ [[99, 108, 97, 115, 115]] _ _ _ false HS1.out.ps (by simp) rfl rfl (by decide) H3.out).mono ?_
  rintro e w2 ⟨rfl, hb⟩
  have HS2 := Lib.hid (HS1.out.below hb)
  clear hb HS1
  go_wp2_with fail
  refine (seesWord_is C _ _ _ _ _ [[118, 97, 114]] _ _ _ true HS2.out.ps (by simp) rfl rfl (by decide) H1.out).mono ?_
  rintro e w3 ⟨rfl, hb⟩
  have HS3 := Lib.hid (HS2.out.below hb)
  clear hb HS2
  go_wp2_with fail
  refine (global_ok n C _ _ _ _ _ HS3.out.ps0 H2.out H3.out H1.out (by rw [HO0.out]; exact HND.out)).mono ?_
  rintro e w9 hr
  rw [HO0.out] at hr
  have HR := Lib.hid (HS3.out.from hr)
  clear HS3
  cases o with
  | dry => exact absurd rfl HND.out
  | bad er r => (obtain ⟨rfl, _⟩ := hr; go_wp2_with fail; exact ⟨rfl, HR.out⟩)
  | ok d f r => (obtain ⟨j, v', _, rfl, _⟩ := hr; generalize ((tw.length + f.size : Nat) : Int) = N at HR ⊢; go_wp2_with fail; go_ret; exact HR.out)

set_option maxRecDepth 100000 in
set_option maxHeartbeats 2000000 in
theorem declaration_fn (n : Nat) (HBLK : Hid (Ct 47 n .block)) (C : Cx) (w : World) (k m : Nat) (v : Value) (tw : List Tw) (h : PS w C k m v tw) (h2 : seesW (C.T.drop k) [[108, 111, 111, 112, 101, 114]] = false) (h3 : seesW (C.T.drop k) [[99, 108, 97, 115, 115]] = false) (h4 : seesW (C.T.drop k) [[118, 97, 114]] = false) (h1 : seesW (C.T.drop k) [[102, 110]] = true) (hnd : P (n + 1) .decl (C.T.drop k) m ≠ .dry) :
    Calls Try.prog 29 #[C.ptr] w (Ret C w k m v tw (P (n + 1) .decl (C.T.drop k) m)) := by
  have HS0 := Lib.hid (St.start h)
  clear h
  generalize ho : P (n + 1) .decl (C.T.drop k) m = o at hnd ⊢
  have HND := Lib.hid hnd
  clear hnd
  have H2 := Lib.hid h2
  clear h2
  have H3 := Lib.hid h3
  clear h3
  have H4 := Lib.hid h4
  clear h4
  have H1 := Lib.hid h1
  clear h1
  have HO0 := Lib.hid ho
  clear ho
  go_enter Try.func29, Try.ntmps29
  go_wp2_with fail
  refine (seesWord_is C _ _ _ _ _ [[108, 111, 111, 112, 101, 114]] _ _ _ false HS0.out.ps (by simp) rfl rfl (by decide) H2.out).mono ?_
  rintro e w1 ⟨rfl, hb⟩
  have HS1 := Lib.hid (HS0.out.below hb)
  clear hb HS0
  go_wp2_with fail
  refine (seesWord_is C _ _ _ _ _ [[99, 108, 97, 115, 115]] _ _ _ false HS1.out.ps (by simp) rfl rfl (by decide) H3.out).mono ?_
  rintro e w2 ⟨rfl, hb⟩
  have HS2 := Lib.hid (HS1.out.below hb)
  clear hb HS1
  go_wp2_with fail
  refine (seesWord_is C _ _ _ _ _ [[118, 97, 114]] _ _ _ false HS2.out.ps (by simp) rfl rfl (by decide) H4.out).mono ?_
  rintro e w3 ⟨rfl, hb⟩
  have HS3 := Lib.hid (HS2.out.below hb)
  clear hb HS2
  go_wp2_with fail
  refine (seesWord_is C _ _ _ _ _ [[102, 110]] _ _ _ true HS3.out.ps (by simp) rfl rfl (by decide) H1.out).mono ?_
  rintro e w4 ⟨rfl, hb⟩
  have HS4 := Lib.hid (HS3.out.below hb)
  clear hb HS3
  go_wp2_with fail
  refine (function_ok n HBLK C _ _ _ _ _ HS4.out.ps0 H2.out H3.out H4.out H1.out (by rw [HO0.out]; exact HND.out)).mono ?_
  rintro e w9 hr
  rw [HO0.out] at hr
  have HR := Lib.hid (HS4.out.from hr)
  clear HS4
  cases o with
  | dry => exact absurd rfl HND.out
  | bad er r => (obtain ⟨rfl, _⟩ := hr; go_wp2_with fail; exact ⟨rfl, HR.out⟩)
  | ok d f r => (obtain ⟨j, v', _, rfl, _⟩ := hr; generalize ((tw.length + f.size : Nat) : Int) = N at HR ⊢; go_wp2_with fail; go_ret; exact HR.out)

set_option maxRecDepth 100000 in
set_option maxHeartbeats 2000000 in
theorem declaration_comp (n : Nat) (HBLK : Hid (∀ i, i ≤ n → Ct 47 i .block)) (C : Cx) (w : World) (k m : Nat) (v : Value) (tw : List Tw) (h : PS w C k m v tw) (h2 : seesW (C.T.drop k) [[108, 111, 111, 112, 101, 114]] = false) (h3 : seesW (C.T.drop k) [[99, 108, 97, 115, 115]] = false) (h4 : seesW (C.T.drop k) [[118, 97, 114]] = false) (h5 : seesW (C.T.drop k) [[102, 110]] = false) (h1 : seesW (C.T.drop k) [[99, 111, 109, 112]] = true) (hnd : P (n + 1) .decl (C.T.drop k) m ≠ .dry) :
    Calls Try.prog 29 #[C.ptr] w (Ret C w k m v tw (P (n + 1) .decl (C.T.drop k) m)) := by
  have HS0 := Lib.hid (St.start h)
  clear h
  generalize ho : P (n + 1) .decl (C.T.drop k) m = o at hnd ⊢
  have HND := Lib.hid hnd
  clear hnd
  have H2 := Lib.hid h2
  clear h2
  have H3 := Lib.hid h3
  clear h3
  have H4 := Lib.hid h4
  clear h4
  have H5 := Lib.hid h5
  clear h5
  have H1 := Lib.hid h1
  clear h1
  have HO0 := Lib.hid ho
  clear ho
  go_enter Try.func29, Try.ntmps29
  go_wp2_with fail
  refine (seesWord_is C _ _ _ _ _ [[108, 111, 111, 112, 101, 114]] _ _ _ false HS0.out.ps (by simp) rfl rfl (by decide) H2.out).mono ?_
  rintro e w1 ⟨rfl, hb⟩
  have HS1 := Lib.hid (HS0.out.below hb)
  clear hb HS0
  go_wp2_with fail
  refine (seesWord_is C _ _ _ _ _ [[99, 108, 97, 115, 115]] _ _ _ false HS1.out.ps (by simp) rfl rfl (by decide) H3.out).mono ?_
  rintro e w2 ⟨rfl, hb⟩
  have HS2 := Lib.hid (HS1.out.below hb)
  clear hb HS1
  go_wp2_with fail
  refine (seesWord_is C _ _ _ _ _ [[118, 97, 114]] _ _ _ false HS2.out.ps (by simp) rfl rfl (by decide) H4.out).mono ?_
  rintro e w3 ⟨rfl, hb⟩
  have HS3 := Lib.hid (HS2.out.below hb)
  clear hb HS2
  go_wp2_with fail
  refine (seesWord_is C _ _ _ _ _ [[102, 110]] _ _ _ false HS3.out.ps (by simp) rfl rfl (by decide) H5.out).mono ?_
  rintro e w4 ⟨rfl, hb⟩
  have HS4 := Lib.hid (HS3.out.below hb)
  clear hb HS3
  go_wp2_with fail
  refine (seesWord_is C _ _ _ _ _ [[99, 111, 109, 112]] _ _ _ true HS4.out.ps (by simp) rfl rfl (by decide) H1.out).mono ?_
  rintro e w5 ⟨rfl, hb⟩
  have HS5 := Lib.hid (HS4.out.below hb)
  clear hb HS4
  go_wp2_with fail
  refine (component_ok n HBLK C _ _ _ _ _ HS5.out.ps0 H2.out H3.out H4.out H5.out H1.out (by rw [HO0.out]; exact HND.out)).mono ?_
  rintro e w9 hr
  rw [HO0.out] at hr
  have HR := Lib.hid (HS5.out.from hr)
  clear HS5
  cases o with
  | dry => exact absurd rfl HND.out
  | bad er r => (obtain ⟨rfl, _⟩ := hr; go_wp2_with fail; exact ⟨rfl, HR.out⟩)
  | ok d f r => (obtain ⟨j, v', _, rfl, _⟩ := hr; generalize ((tw.length + f.size : Nat) : Int) = N at HR ⊢; go_wp2_with fail; go_ret; exact HR.out)

set_option maxRecDepth 100000 in
set_option maxHeartbeats 2000000 in
theorem declaration_event (n : Nat) (HBLK : Hid (Ct 47 n .block)) (C : Cx) (w : World) (k m : Nat) (v : Value) (tw : List Tw) (h : PS w C k m v tw) (h2 : seesW (C.T.drop k) [[108, 111, 111, 112, 101, 114]] = false) (h3 : seesW (C.T.drop k) [[99, 108, 97, 115, 115]] = false) (h4 : seesW (C.T.drop k) [[118, 97, 114]] = false) (h5 : seesW (C.T.drop k) [[102, 110]] = false) (h6 : seesW (C.T.drop k) [[99, 111, 109, 112]] = false) (h1 : seesW (C.T.drop k) [[101, 118, 101, 110, 116]] = true) (hnd : P (n + 1) .decl (C.T.drop k) m ≠ .dry) :
    Calls Try.prog 29 #[C.ptr] w (Ret C w k m v tw (P (n + 1) .decl (C.T.drop k) m)) := by
  have HS0 := Lib.hid (St.start h)
  clear h
  generalize ho : P (n + 1) .decl (C.T.drop k) m = o at hnd ⊢
  have HND := Lib.hid hnd
  clear hnd
  have H2 := Lib.hid h2
  clear h2
  have H3 := Lib.hid h3
  clear h3
  have H4 := Lib.hid h4
  clear h4
  have H5 := Lib.hid h5
  clear h5
  have H6 := Lib.hid h6
  clear h6
  have H1 := Lib.hid h1
  clear h1
  have HO0 := Lib.hid ho
  clear ho
  go_enter Try.func29, Try.ntmps29
  go_wp2_with fail
  refine (seesWord_is C _ _ _ _ _ [[108, 111, 111, 112, 101, 114]] _ _ _ false HS0.out.ps (by simp) rfl rfl (by decide) H2.out).mono ?_
  rintro e w1 ⟨rfl, hb⟩
  have HS1 := Lib.hid (HS0.out.below hb)
  clear hb HS0
  go_wp2_with fail
  refine (seesWord_is C _ _ _ _ _ [[99, 108, 97, 115, 115]] _ _ _ false HS1.out.ps (by simp) rfl rfl (by decide) H3.out).mono ?_
  rintro e w2 ⟨rfl, hb⟩
  have HS2 := Lib.hid (HS1.out.below hb)
  clear hb HS1
  go_wp2_with fail
  refine (seesWord_is C _ _ _ _ _ [[118, 97, 114]] _ _ _ false HS2.out.ps (by simp) rfl rfl (by decide) H4.out).mono ?_
  rintro e w3 ⟨rfl, hb⟩
  have HS3 := Lib.hid (HS2.out.below hb)
  clear hb HS2
  go_wp2_with fail
  refine (seesWord_is C _ _ _ _ _ [[102, 110]] _ _ _ false HS3.out.ps (by simp) rfl rfl (by decide) H5.out).mono ?_
  rintro e w4 ⟨rfl, hb⟩
  have HS4 := Lib.hid (HS3.out.below hb)
  clear hb HS3
  go_wp2_with fail
  refine (seesWord_is C _ _ _ _ _ [[99, 111, 109, 112]] _ _ _ false HS4.out.ps (by simp) rfl rfl (by decide) H6.out).mono ?_
  rintro e w5 ⟨rfl, hb⟩
  have HS5 := Lib.hid (HS4.out.below hb)
  clear hb HS4
  go_wp2_with fail
  refine (seesWord_is C _ _ _ _ _ [[101, 118, 101, 110, 116]] _ _ _ true HS5.out.ps (by simp) rfl rfl (by decide) H1.out).mono ?_
  rintro e w6 ⟨rfl, hb⟩
  have HS6 := Lib.hid (HS5.out.below hb)
  clear hb HS5
  go_wp2_with fail
  refine (event_ok n HBLK C _ _ _ _ _ HS6.out.ps0 H2.out H3.out H4.out H5.out H6.out H1.out (by rw [HO0.out]; exact HND.out)).mono ?_
  rintro e w9 hr
  rw [HO0.out] at hr
  have HR := Lib.hid (HS6.out.from hr)
  clear HS6
  cases o with
  | dry => exact absurd rfl HND.out
  | bad er r => (obtain ⟨rfl, _⟩ := hr; go_wp2_with fail; exact ⟨rfl, HR.out⟩)
  | ok d f r => (obtain ⟨j, v', _, rfl, _⟩ := hr; generalize ((tw.length + f.size : Nat) : Int) = N at HR ⊢; go_wp2_with fail; go_ret; exact HR.out)

set_option maxRecDepth 100000 in
set_option maxHeartbeats 2000000 in
theorem declaration_main (n : Nat) (HBLK : Hid (Ct 47 n .block)) (C : Cx) (w : World) (k m : Nat) (v : Value) (tw : List Tw) (h : PS w C k m v tw) (h2 : seesW (C.T.drop k) [[108, 111, 111, 112, 101, 114]] = false) (h3 : seesW (C.T.drop k) [[99, 108, 97, 115, 115]] = false) (h4 : seesW (C.T.drop k) [[118, 97, 114]] = false) (h5 : seesW (C.T.drop k) [[102, 110]] = false) (h6 : seesW (C.T.drop k) [[99, 111, 109, 112]] = false) (h7 : seesW (C.T.drop k) [[101, 118, 101, 110, 116]] = false) (hnd : P (n + 1) .decl (C.T.drop k) m ≠ .dry) :
    Calls Try.prog 29 #[C.ptr] w (Ret C w k m v tw (P (n + 1) .decl (C.T.drop k) m)) := by
  have HS0 := Lib.hid (St.start h)
  clear h
  generalize ho : P (n + 1) .decl (C.T.drop k) m = o at hnd ⊢
  have HND := Lib.hid hnd
  clear hnd
  rw [P] at ho
  simp only [h2, h3, h4, h5, h6, h7, Bool.false_eq_true, if_false] at ho
  have H2 := Lib.hid h2
  clear h2
  have H3 := Lib.hid h3
  clear h3
  have H4 := Lib.hid h4
  clear h4
  have H5 := Lib.hid h5
  clear h5
  have H6 := Lib.hid h6
  clear h6
  have H7 := Lib.hid h7
  clear h7
  have HO0 := Lib.hid ho
  clear ho
  go_enter Try.func29, Try.ntmps29
  go_wp2_with fail
  refine (seesWord_is C _ _ _ _ _ [[108, 111, 111, 112, 101, 114]] _ _ _ false HS0.out.ps (by simp) rfl rfl (by decide) H2.out).mono ?_
  rintro e w1 ⟨rfl, hb⟩
  have HS1 := Lib.hid (HS0.out.below hb)
  clear hb HS0
  go_wp2_with fail
  refine (seesWord_is C _ _ _ _ _ [[99, 108, 97, 115, 115]] _ _ _ false HS1.out.ps (by simp) rfl rfl (by decide) H3.out).mono ?_
  rintro e w2 ⟨rfl, hb⟩
  have HS2 := Lib.hid (HS1.out.below hb)
  clear hb HS1
  go_wp2_with fail
  refine (seesWord_is C _ _ _ _ _ [[118, 97, 114]] _ _ _ false HS2.out.ps (by simp) rfl rfl (by decide) H4.out).mono ?_
  rintro e w3 ⟨rfl, hb⟩
  have HS3 := Lib.hid (HS2.out.below hb)
  clear hb HS2
  go_wp2_with fail
  refine (seesWord_is C _ _ _ _ _ [[102, 110]] _ _ _ false HS3.out.ps (by simp) rfl rfl (by decide) H5.out).mono ?_
  rintro e w4 ⟨rfl, hb⟩
  have HS4 := Lib.hid (HS3.out.below hb)
  clear hb HS3
  go_wp2_with fail
  refine (seesWord_is C _ _ _ _ _ [[99, 111, 109, 112]] _ _ _ false HS4.out.ps (by simp) rfl rfl (by decide) H6.out).mono ?_
  rintro e w5 ⟨rfl, hb⟩
  have HS5 := Lib.hid (HS4.out.below hb)
  clear hb HS4
  go_wp2_with fail
  refine (seesWord_is C _ _ _ _ _ [[101, 118, 101, 110, 116]] _ _ _ false HS5.out.ps (by simp) rfl rfl (by decide) H7.out).mono ?_
  rintro e w6 ⟨rfl, hb⟩
  have HS6 := Lib.hid (HS5.out.below hb)
  clear hb HS5
  go_wp2_with fail
  cases hx : seesW (C.T.drop k) [[109, 97, 105, 110]]
  · have ho' := HO0.out
    rw [tkW_no hx] at ho'
    refine (takeWord_new_no C _ _ _ _ _ [[109, 97, 105, 110]] _ _ _ HS6.out.ps (by simp) rfl rfl (by decide) hx).mono ?_
    rintro e w' ⟨rfl, hb⟩
    have HB := Lib.hid (HS6.out.bad (m0 := m) ho' hb)
    clear hb ho' hx
    go_wp2_with fail
    exact ⟨rfl, HB.out⟩
  have ho' := HO0.out
  rw [tkW_yes hx, tail_drop'] at ho'
  have HO1 := Lib.hid ho'
  refine (takeWord_new_yes C _ _ _ _ _ [[109, 97, 105, 110]] _ _ _ HS6.out.ps (by simp) rfl rfl (by decide) hx).mono ?_
  rintro e w7 ⟨rfl, hs, hk⟩
  have HS7 := Lib.hid (HS6.out.took hs hk)
  clear hs hk HS6 ho' hx
  unfold tokV
  go_wp2_with fail
  have HSD := Lib.hid ((HS7.out.var (w7.heap.size) (by simp) (.cells #[.int .i64 (hd (C.T.drop k)).kind, .string ⟨(hd (C.T.drop k)).text.toArray⟩, .int .i64 (hd (C.T.drop k)).n, .int .i64 (hd (C.T.drop k)).line, .int .i64 (hd (C.T.drop k)).col] 38)).drew)
  have hnd : P n .block (C.T.drop (k + 1)) m ≠ .dry := fun hdry => by have h1 := HO1.out; rw [hdry] at h1; exact HND.out h1.symm
  rcases hP : P n .block (C.T.drop (k + 1)) m with _ | ⟨er, r⟩ | ⟨d1, f1, r⟩
  · exact absurd hP hnd
  · have ho' := HO1.out
    rw [hP] at ho'
    have HP := Lib.hid hP
    have HO' := Lib.hid ho'
    have HD := Lib.hid hnd
    clear hP ho' hnd
    go_region_with (first | (go_at_call 47; refine (HBLK.out C _ _ _ _ _ HSD.out.ps HD.out).mono ?_; rintro e w9 hr; rw [HP.out] at hr; have HB := Lib.hid (HSD.out.bad' (m0 := m) HO'.out hr); obtain ⟨rfl, _⟩ := hr; go_simp; suffices _hz : wpAny Try.prog .any #[] (fun _ _ _ => True) 0 #[] ⟨#[], []⟩ w9 from ⟨rfl, HB.out⟩))
    all_goals trivial
  have ho' := HO1.out
  rw [hP] at ho'
  dsimp only [Out.and] at ho'
  have HP := Lib.hid hP
  have HO' := Lib.hid ho'
  have HD := Lib.hid hnd
  clear hP ho' hnd
  go_region_held3 (fun w' => w'.cell? ⟨w7.heap.size, 0, none⟩ = some (.int .i64 (hd (C.T.drop k)).kind) ∧ w'.cell? ⟨w7.heap.size, 1, none⟩ = some (.string ⟨(hd (C.T.drop k)).text.toArray⟩) ∧ w'.cell? ⟨w7.heap.size, 2, none⟩ = some (.int .i64 (hd (C.T.drop k)).n) ∧ w'.cell? ⟨w7.heap.size, 3, none⟩ = some (.int .i64 (hd (C.T.drop k)).line) ∧ w'.cell? ⟨w7.heap.size, 4, none⟩ = some (.int .i64 (hd (C.T.drop k)).col)) (first | go_keep | (obtain ⟨qa0, qa1, qa2, qa3, qa4, _⟩ := tok5 (HS9.out.loc _ (.head _)).is; exact ⟨qa0, qa1, qa2, qa3, qa4⟩) | (obtain ⟨qa0, qa1, qa2, qa3, qa4, _⟩ := tok5 (HL.out _ (.head _)).is; exact ⟨qa0, qa1, qa2, qa3, qa4⟩)) (first | (go_at_call 47; refine (HBLK.out C _ _ _ _ _ HSD.out.ps HD.out).mono ?_; rintro e w9 hr; rw [HP.out] at hr; obtain ⟨j1, v1, rfl, rfl, hs⟩ := HSD.out.sub hr; have HS9 := Lib.hid hs; generalize hN : ((tw.length + _ + f1.size : Nat) : Int) = N1; have HN1 := Lib.hid hN; clear hs hr hN) | (go_at_call 30; refine (add_ok C _ _ _ _ _ (hd (C.T.drop k)) 11 [] 0 _ _ (HS9.out.al _).ps (ints_new w9 HS9.out.ps.xlt [N1] #[.int .i64 N1] rfl w9.heap.size 1 rfl rfl) HS9.out.room).mono ?_; rintro e w10 ⟨rfl, v', hs, hk⟩; have HL := Lib.hid (fun x hx => ((HS9.out.al _).loc x hx).keep hk); generalize hN2 : (((tw ++ _ : List Tw).length : Nat) : Int) = N; have hids : [N1] = (Fo.nil.app (one d1 f1)).ids tw.length := (by rw [ids_snoc, ← HN1.out]; rfl); rw [hids] at hs; have HR := Lib.hid ((HS9.out.al _).fin HO'.out hs hk hN2.symm); clear hs hk hN2 hids))
  go_wp2_with fail
  go_ret
  exact HR.out

theorem declaration_ok (n : Nat) (HBLK : Hid (∀ i, i ≤ n → Ct 47 i .block)) : Ct 29 (n + 1) .decl := fun C w k m v tw h hnd => by
  have HB := Lib.hid (HBLK.out n (Nat.le_refl _))
  cases h2 : seesW (C.T.drop k) [[108, 111, 111, 112, 101, 114]]
  · cases h3 : seesW (C.T.drop k) [[99, 108, 97, 115, 115]]
    · cases h4 : seesW (C.T.drop k) [[118, 97, 114]]
      · cases h5 : seesW (C.T.drop k) [[102, 110]]
        · cases h6 : seesW (C.T.drop k) [[99, 111, 109, 112]]
          · cases h7 : seesW (C.T.drop k) [[101, 118, 101, 110, 116]]
            · exact declaration_main n HB C w k m v tw h h2 h3 h4 h5 h6 h7 hnd
            · exact declaration_event n HB C w k m v tw h h2 h3 h4 h5 h6 h7 hnd
          · exact declaration_comp n HBLK C w k m v tw h h2 h3 h4 h5 h6 hnd
        · exact declaration_fn n HB C w k m v tw h h2 h3 h4 h5 hnd
      · exact declaration_var n C w k m v tw h h2 h3 h4 hnd
    · exact declaration_class n C w k m v tw h h2 h3 hnd
  · exact declaration_looper n C w k m v tw h h2 hnd
end Go.Proofs.Ythgpepkcjjimlaa
