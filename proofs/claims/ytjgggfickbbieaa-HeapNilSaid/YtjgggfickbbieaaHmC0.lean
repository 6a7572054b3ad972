/- What the law's all wants beside its walk. -/
import Derived.Test.YtjgggfickbbieaaHmA
import Derived.Sort.LoopGhostIn
namespace Go.Proofs.Ytjgggfickbbieaa
open Go.RowKit Go.Shelf
attribute [local go_sem] Oper.semAt_some
@[go_sem] theorem eqnil_func (f : Fn) (a c : Array Value) (w : World) : (binOp .eql 57 (.func f a c) .nilFunc).run Try.prog w = .ok (.bool false) w := by kernel_rfl
/-- What stands beside the objects while they are gone over. -/
structure AB (W : World) (bh bw : Nat) (most : Int) (b4 b5 b6 bl b8 : Nat) (t : Int) (Ds : List Nat) (w : World) : Prop where
  x : Ext W w
  h4 : w.heap[b4]? = some (.cells #[.pointer (some ⟨bw, 0, none⟩)] 27 (0, 0))
  h5 : w.heap[b5]? = some (.cells #[.int .i64 most] 3 (0, 0))
  h6 : w.heap[b6]? = some (.cells #[.bool false] 4 (0, 0))
  hl : w.heap[bl]? = some (.cells #[.pointer (some ⟨bh, 0, none⟩)] 25 (0, 0))
  h8 : w.heap[b8]? = some (.cells #[.int .i64 t] 3 (0, 0))
  ds : ∀ D ∈ Ds, w.heap[D]? = some (.deferred (some [])) ∧ W.heap.size ≤ D
  nd : Ds.Nodup
  g : W.heap.size ≤ b4 ∧ W.heap.size ≤ b5 ∧ W.heap.size ≤ b6 ∧ W.heap.size ≤ bl ∧ W.heap.size ≤ b8
section
variable {W w w' : World} {bh bw : Nat} {most : Int} {b4 b5 b6 bl b8 : Nat} {t : Int} {Ds : List Nat}
/-- It abides what leaves old blocks, its own and its marks. -/
theorem AB.of (h : AB W bh bw most b4 b5 b6 bl b8 t Ds w) {p : Nat → Option TypeId → Bool} (k : Kept p w w') (hW : ∀ b t, b < W.heap.size → p b t = true) (h4 : p b4 (some 27) = true) (h5 : p b5 (some 3) = true) (h6 : p b6 (some 4) = true) (hl : p bl (some 25) = true) (h8 : p b8 (some 3) = true) (hD : ∀ D ∈ Ds, p D none = true) : AB W bh bw most b4 b5 b6 bl b8 t Ds w' :=
  ⟨Kept.trans h.x (k.mono fun b t _ hp => by simp [pOld] at hp; exact hW b t hp), k.same _ _ h.h4 h4, k.same _ _ h.h5 h5, k.same _ _ h.h6 h6, k.same _ _ h.hl hl, k.same _ _ h.h8 h8, fun D hd => ⟨k.same _ _ (h.ds D hd).1 (hD D hd), (h.ds D hd).2⟩, h.nd, h.g⟩
theorem AB.ext (h : AB W bh bw most b4 b5 b6 bl b8 t Ds w) (k : Ext w w') : AB W bh bw most b4 b5 b6 bl b8 t Ds w' := h.of (k.kept (fun _ _ => true)) (fun _ _ _ => rfl) rfl rfl rfl rfl rfl fun _ _ => rfl
theorem AB.lt (h : AB W bh bw most b4 b5 b6 bl b8 t Ds w) : b4 < w.heap.size ∧ b5 < w.heap.size ∧ b6 < w.heap.size ∧ bl < w.heap.size ∧ b8 < w.heap.size ∧ ∀ D ∈ Ds, D < w.heap.size :=
  ⟨(Array.getElem?_eq_some_iff.1 h.h4).1, (Array.getElem?_eq_some_iff.1 h.h5).1, (Array.getElem?_eq_some_iff.1 h.h6).1, (Array.getElem?_eq_some_iff.1 h.hl).1, (Array.getElem?_eq_some_iff.1 h.h8).1, fun D hd => (Array.getElem?_eq_some_iff.1 (h.ds D hd).1).1⟩
end
theorem ex_intro {α : Sort _} {p : α → Prop} {b : Prop} (h : ∀ a, p a → b) : (∃ x, p x) → b := fun ⟨x, hx⟩ => h x hx
theorem list_cut {n : Nat} {l : List Value} (h : l.length = n + 1) : ∃ x r, l = x :: r ∧ r.length = n := by
  cases l with
  | nil => cases h
  | cons x r => exact ⟨x, r, rfl, by simpa using h⟩
set_option maxRecDepth 100000 in
theorem list97 (l : List Value) (h : l.length = 97) : ∃ x0 x1 x2 x3 x4 x5 x6 x7 x8 x9 x10 x11 x12 x13 x14 x15 x16 x17 x18 x19 x20 x21 x22 x23 x24 x25 x26 x27 x28 x29 x30 x31 x32 x33 x34 x35 x36 x37 x38 x39 x40 x41 x42 x43 x44 x45 x46 x47 x48 x49 x50 x51 x52 x53 x54 x55 x56 x57 x58 x59 x60 x61 x62 x63 x64 x65 x66 x67 x68 x69 x70 x71 x72 x73 x74 x75 x76 x77 x78 x79 x80 x81 x82 x83 x84 x85 x86 x87 x88 x89 x90 x91 x92 x93 x94 x95 x96 : Value, l = [x0, x1, x2, x3, x4, x5, x6, x7, x8, x9, x10, x11, x12, x13, x14, x15, x16, x17, x18, x19, x20, x21, x22, x23, x24, x25, x26, x27, x28, x29, x30, x31, x32, x33, x34, x35, x36, x37, x38, x39, x40, x41, x42, x43, x44, x45, x46, x47, x48, x49, x50, x51, x52, x53, x54, x55, x56, x57, x58, x59, x60, x61, x62, x63, x64, x65, x66, x67, x68, x69, x70, x71, x72, x73, x74, x75, x76, x77, x78, x79, x80, x81, x82, x83, x84, x85, x86, x87, x88, x89, x90, x91, x92, x93, x94, x95, x96] := by
  obtain ⟨x0, l0, e0, h⟩ := list_cut h
  obtain ⟨x1, l1, e1, h⟩ := list_cut h
  obtain ⟨x2, l2, e2, h⟩ := list_cut h
  obtain ⟨x3, l3, e3, h⟩ := list_cut h
  obtain ⟨x4, l4, e4, h⟩ := list_cut h
  obtain ⟨x5, l5, e5, h⟩ := list_cut h
  obtain ⟨x6, l6, e6, h⟩ := list_cut h
  obtain ⟨x7, l7, e7, h⟩ := list_cut h
  obtain ⟨x8, l8, e8, h⟩ := list_cut h
  obtain ⟨x9, l9, e9, h⟩ := list_cut h
  obtain ⟨x10, l10, e10, h⟩ := list_cut h
  obtain ⟨x11, l11, e11, h⟩ := list_cut h
  obtain ⟨x12, l12, e12, h⟩ := list_cut h
  obtain ⟨x13, l13, e13, h⟩ := list_cut h
  obtain ⟨x14, l14, e14, h⟩ := list_cut h
  obtain ⟨x15, l15, e15, h⟩ := list_cut h
  obtain ⟨x16, l16, e16, h⟩ := list_cut h
  obtain ⟨x17, l17, e17, h⟩ := list_cut h
  obtain ⟨x18, l18, e18, h⟩ := list_cut h
  obtain ⟨x19, l19, e19, h⟩ := list_cut h
  obtain ⟨x20, l20, e20, h⟩ := list_cut h
  obtain ⟨x21, l21, e21, h⟩ := list_cut h
  obtain ⟨x22, l22, e22, h⟩ := list_cut h
  obtain ⟨x23, l23, e23, h⟩ := list_cut h
  obtain ⟨x24, l24, e24, h⟩ := list_cut h
  obtain ⟨x25, l25, e25, h⟩ := list_cut h
  obtain ⟨x26, l26, e26, h⟩ := list_cut h
  obtain ⟨x27, l27, e27, h⟩ := list_cut h
  obtain ⟨x28, l28, e28, h⟩ := list_cut h
  obtain ⟨x29, l29, e29, h⟩ := list_cut h
  obtain ⟨x30, l30, e30, h⟩ := list_cut h
  obtain ⟨x31, l31, e31, h⟩ := list_cut h
  obtain ⟨x32, l32, e32, h⟩ := list_cut h
  obtain ⟨x33, l33, e33, h⟩ := list_cut h
  obtain ⟨x34, l34, e34, h⟩ := list_cut h
  obtain ⟨x35, l35, e35, h⟩ := list_cut h
  obtain ⟨x36, l36, e36, h⟩ := list_cut h
  obtain ⟨x37, l37, e37, h⟩ := list_cut h
  obtain ⟨x38, l38, e38, h⟩ := list_cut h
  obtain ⟨x39, l39, e39, h⟩ := list_cut h
  obtain ⟨x40, l40, e40, h⟩ := list_cut h
  obtain ⟨x41, l41, e41, h⟩ := list_cut h
  obtain ⟨x42, l42, e42, h⟩ := list_cut h
  obtain ⟨x43, l43, e43, h⟩ := list_cut h
  obtain ⟨x44, l44, e44, h⟩ := list_cut h
  obtain ⟨x45, l45, e45, h⟩ := list_cut h
  obtain ⟨x46, l46, e46, h⟩ := list_cut h
  obtain ⟨x47, l47, e47, h⟩ := list_cut h
  obtain ⟨x48, l48, e48, h⟩ := list_cut h
  obtain ⟨x49, l49, e49, h⟩ := list_cut h
  obtain ⟨x50, l50, e50, h⟩ := list_cut h
  obtain ⟨x51, l51, e51, h⟩ := list_cut h
  obtain ⟨x52, l52, e52, h⟩ := list_cut h
  obtain ⟨x53, l53, e53, h⟩ := list_cut h
  obtain ⟨x54, l54, e54, h⟩ := list_cut h
  obtain ⟨x55, l55, e55, h⟩ := list_cut h
  obtain ⟨x56, l56, e56, h⟩ := list_cut h
  obtain ⟨x57, l57, e57, h⟩ := list_cut h
  obtain ⟨x58, l58, e58, h⟩ := list_cut h
  obtain ⟨x59, l59, e59, h⟩ := list_cut h
  obtain ⟨x60, l60, e60, h⟩ := list_cut h
  obtain ⟨x61, l61, e61, h⟩ := list_cut h
  obtain ⟨x62, l62, e62, h⟩ := list_cut h
  obtain ⟨x63, l63, e63, h⟩ := list_cut h
  obtain ⟨x64, l64, e64, h⟩ := list_cut h
  obtain ⟨x65, l65, e65, h⟩ := list_cut h
  obtain ⟨x66, l66, e66, h⟩ := list_cut h
  obtain ⟨x67, l67, e67, h⟩ := list_cut h
  obtain ⟨x68, l68, e68, h⟩ := list_cut h
  obtain ⟨x69, l69, e69, h⟩ := list_cut h
  obtain ⟨x70, l70, e70, h⟩ := list_cut h
  obtain ⟨x71, l71, e71, h⟩ := list_cut h
  obtain ⟨x72, l72, e72, h⟩ := list_cut h
  obtain ⟨x73, l73, e73, h⟩ := list_cut h
  obtain ⟨x74, l74, e74, h⟩ := list_cut h
  obtain ⟨x75, l75, e75, h⟩ := list_cut h
  obtain ⟨x76, l76, e76, h⟩ := list_cut h
  obtain ⟨x77, l77, e77, h⟩ := list_cut h
  obtain ⟨x78, l78, e78, h⟩ := list_cut h
  obtain ⟨x79, l79, e79, h⟩ := list_cut h
  obtain ⟨x80, l80, e80, h⟩ := list_cut h
  obtain ⟨x81, l81, e81, h⟩ := list_cut h
  obtain ⟨x82, l82, e82, h⟩ := list_cut h
  obtain ⟨x83, l83, e83, h⟩ := list_cut h
  obtain ⟨x84, l84, e84, h⟩ := list_cut h
  obtain ⟨x85, l85, e85, h⟩ := list_cut h
  obtain ⟨x86, l86, e86, h⟩ := list_cut h
  obtain ⟨x87, l87, e87, h⟩ := list_cut h
  obtain ⟨x88, l88, e88, h⟩ := list_cut h
  obtain ⟨x89, l89, e89, h⟩ := list_cut h
  obtain ⟨x90, l90, e90, h⟩ := list_cut h
  obtain ⟨x91, l91, e91, h⟩ := list_cut h
  obtain ⟨x92, l92, e92, h⟩ := list_cut h
  obtain ⟨x93, l93, e93, h⟩ := list_cut h
  obtain ⟨x94, l94, e94, h⟩ := list_cut h
  obtain ⟨x95, l95, e95, h⟩ := list_cut h
  obtain ⟨x96, l96, e96, h⟩ := list_cut h
  obtain rfl := List.eq_nil_of_length_eq_zero h
  exact ⟨x0, x1, x2, x3, x4, x5, x6, x7, x8, x9, x10, x11, x12, x13, x14, x15, x16, x17, x18, x19, x20, x21, x22, x23, x24, x25, x26, x27, x28, x29, x30, x31, x32, x33, x34, x35, x36, x37, x38, x39, x40, x41, x42, x43, x44, x45, x46, x47, x48, x49, x50, x51, x52, x53, x54, x55, x56, x57, x58, x59, x60, x61, x62, x63, x64, x65, x66, x67, x68, x69, x70, x71, x72, x73, x74, x75, x76, x77, x78, x79, x80, x81, x82, x83, x84, x85, x86, x87, x88, x89, x90, x91, x92, x93, x94, x95, x96, by rw [e0, e1, e2, e3, e4, e5, e6, e7, e8, e9, e10, e11, e12, e13, e14, e15, e16, e17, e18, e19, e20, e21, e22, e23, e24, e25, e26, e27, e28, e29, e30, e31, e32, e33, e34, e35, e36, e37, e38, e39, e40, e41, e42, e43, e44, e45, e46, e47, e48, e49, e50, e51, e52, e53, e54, e55, e56, e57, e58, e59, e60, e61, e62, e63, e64, e65, e66, e67, e68, e69, e70, e71, e72, e73, e74, e75, e76, e77, e78, e79, e80, e81, e82, e83, e84, e85, e86, e87, e88, e89, e90, e91, e92, e93, e94, e95, e96]⟩
def GBv (k n bw g cM : Nat) (o o' : Value) : Array Value := #[.int .i64 ((k : Int) + 1), .int .i64 k, .int .i64 ((k : Int) + 1), .bool false, .bool false, .int .i64 k, .pointer (some ⟨bw, 0, none⟩), .pointer (some ⟨bw, 0, none⟩), .pointer (some ⟨bw, 0, none⟩), .slice (some ⟨g, 0, none⟩) n cM, .int .i64 n, .bool false, .bool false, .bool false, o, .pointer (some ⟨bw, 0, none⟩), .pointer (some ⟨bw, 0, none⟩), .pointer (some ⟨bw, 0, none⟩), .slice (some ⟨g, 0, none⟩) n cM, .int .i64 k, .pointer (some ⟨g, k * 6, none⟩), o', .bool true, .bool false]
def GBg (j : Nat) : Option Bool := if j = 4 ∨ j = 13 then some false else none
theorem GBg_ok (k n bw g cM : Nat) (o o' : Value) : ∀ j b, GBg j = some b → ∀ (v : Value) (_ : World), v = (GBv k n bw g cM o o').getD j undef → v = .bool b := fun j b h v w e => by
  unfold GBg at h
  split at h
  · next hj => cases h; rw [e]; rcases hj with rfl | rfl <;> rfl
  · cases h
theorem leaves_marks {F : Fence} {n : Nat} {P : Program} {fn : Func} {tmps : Array Value} {R : Ending → World → Prop} : ∀ (Ds : List Nat) (w : World), Ds.Nodup → (∀ D ∈ Ds, w.heap[D]? = some (.deferred (some []))) →
    (∀ w' : World, w'.os = w.os → w'.tape = w.tape → w'.output = w.output → w'.heap.size = w.heap.size → (∀ b, b ∉ Ds → w'.heap[b]? = w.heap[b]?) → LeavesInM F n P fn tmps R [] .returning w') → LeavesInM F n P fn tmps R (Ds.map markAt) .returning w
  | [], w, _, _, h => h w rfl rfl rfl rfl fun _ _ => rfl
  | D :: Ds, w, hn, hd, h => by
    have hn' := List.nodup_cons.1 hn
    refine ⟨by simp, .inl ⟨D, _, rfl, run_takeDeferred (hd D (.head _)), leaves_marks Ds _ hn'.2 (fun E hE => (World.putObj_heap_other fun e => hn'.1 (by rw [← e]; exact hE)).trans (hd E (.tail _ hE))) fun w' h1 h2 h3 h4 h5 => h w' h1 h2 h3 (by rw [h4]; simp) fun b hb => ?_⟩⟩
    exact (h5 b fun hm => hb (.tail _ hm)).trans (World.putObj_heap_other fun e => hb (by rw [e]; exact .head _))
end Go.Proofs.Ytjgggfickbbieaa
