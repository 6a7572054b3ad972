/- What the program reads of a line: numbers, words. -/
import Derived.Test.YtkljdpjdlccidaaDoorSaF
import Derived.Test.YtkljdpjdlccidaaDoorLay2
namespace Go.Proofs.YtkljdpjdlccidaaDoor
open Go.RowKit Go.Shelf
attribute [local go_sem] Oper.semAt_some
/-- What strconv's errors are, and where a search of bytes looks. -/
structure TabR (w : World) : Prop where
  a : TabA w
  es : ∃ t p, w.cell? ⟨2, 0, none⟩ = some (.iface t p)
  er : ∃ t p, w.cell? ⟨3, 0, none⟩ = some (.iface t p)
  mx : ∃ m, w.cell? ⟨1, 0, none⟩ = some (.int .i64 m)
theorem TabR.ext {w w' : World} (h : TabR w) (k : Ext w w') : TabR w' := by
  have kk := k.kept (fun _ _ => true)
  obtain ⟨a, ⟨t1, p1, e1⟩, ⟨t2, p2, e2⟩, ⟨m, e3⟩⟩ := h
  exact ⟨a.ext k, ⟨t1, p1, kk.cell e1 fun _ _ => rfl⟩, ⟨t2, p2, kk.cell e2 fun _ _ => rfl⟩, ⟨m, kk.cell e3 fun _ _ => rfl⟩⟩
theorem ext_bytes (w : World) (t5 : TypeId) (s : ByteArray) : Ext w (Lib.bytesWorld w t5 s) := Ext.of (Lib.bytesWorld_below w t5 s)
theorem atoi_ok {w : World} (h : TabR w) (l : List UInt8) (hl : l.length ≤ 100000) : Calls Tryd.prog 44 #[.string ⟨l.toArray⟩] w fun e w' => ∃ ev, e = .returned (.tuple #[.int .i64 (valA l), ev]) ∧ Ext w w' := by
  have hs : (⟨l.toArray⟩ : ByteArray).size = l.length := str_size l
  have hd : (⟨l.toArray⟩ : ByteArray).data.toList = l := by simp
  obtain ⟨t1, p1, e1⟩ := h.es
  obtain ⟨t2, p2, e2⟩ := h.er
  rcases hq : Lib.atoiAll l with v | _ | _
  · have := Any.strconv_Atoi_ok Tryd.laysC172 ⟨l.toArray⟩ (by rw [hs]; omega) v (by rw [hd]; exact hq) w
    refine this.mono fun e w' k => ⟨.nilIface, ?_, ?_⟩
    · rw [k.1]; unfold valA; rw [hq]
    · rcases k.2 with rfl | ⟨t, rfl⟩
      · exact Ext.refl _
      · exact ext_bytes _ _ _
  · have := Any.strconv_Atoi_syntax Tryd.laysC172 ⟨l.toArray⟩ (by rw [hs]; omega) (by rw [hd]; exact hq) (.iface t1 p1) w e1 (.inr ⟨_, _, rfl⟩)
    refine this.mono fun e w' k => ?_
    obtain ⟨N, k1, _, _, k2⟩ := k
    exact ⟨_, by rw [k1]; unfold valA; rw [hq], Ext.of k2⟩
  · have := Any.strconv_Atoi_range Tryd.laysC172 ⟨l.toArray⟩ (by rw [hs]; omega) (by rw [hd]; exact hq) (.iface t2 p2) w e2 (.inr ⟨_, _, rfl⟩)
    refine this.mono fun e w' k => ?_
    obtain ⟨N, k1, _, _, k2⟩ := k
    exact ⟨_, by rw [k1]; unfold valA; rw [hq, hd], Ext.of k2⟩
theorem parse_ok {w : World} (h : TabR w) (l : List UInt8) (hl : l.length ≤ 100000) : Calls Tryd.prog 45 #[.string ⟨l.toArray⟩, .int .i64 10, .int .i64 64] w fun e w' => ∃ ev, e = .returned (.tuple #[.int .i64 (valA l), ev]) ∧ Ext w w' := by
  have hs : (⟨l.toArray⟩ : ByteArray).size = l.length := str_size l
  have hd : (⟨l.toArray⟩ : ByteArray).data.toList = l := by simp
  obtain ⟨t1, p1, e1⟩ := h.es
  obtain ⟨t2, p2, e2⟩ := h.er
  have hp := Lib.parseIntB_64 l
  rcases hq : Lib.atoiAll l with v | _ | _
  · have := Any.strconv_ParseInt_10_at64_ok Tryd.laysC174 ⟨l.toArray⟩ (by rw [hs]; omega) v (by rw [hd, hp]; exact hq) w
    refine this.mono fun e w' k => ⟨.nilIface, ?_, ?_⟩
    · rw [k.1]; unfold valA; rw [hq]
    · rcases k.2 with rfl | ⟨t, rfl⟩
      · exact Ext.refl _
      · exact ext_bytes _ _ _
  · have := Any.strconv_ParseInt_10_at64_syntax Tryd.laysC174 ⟨l.toArray⟩ (by rw [hs]; omega) (by rw [hd, hp]; exact hq) (.iface t1 p1) w e1 (.inr ⟨_, _, rfl⟩)
    refine this.mono fun e w' k => ?_
    obtain ⟨N, k1, _, _, k2⟩ := k
    exact ⟨_, by rw [k1]; unfold valA; rw [hq], Ext.of k2⟩
  · have := Any.strconv_ParseInt_10_at64_range Tryd.laysC174 ⟨l.toArray⟩ (by rw [hs]; omega) (by rw [hd, hp]; exact hq) (.iface t2 p2) w e2 (.inr ⟨_, _, rfl⟩)
    refine this.mono fun e w' k => ?_
    obtain ⟨N, k1, _, _, k2⟩ := k
    exact ⟨_, by rw [k1, hd, Lib.intSat_64]; unfold valA; rw [hq], Ext.of k2⟩
end Go.Proofs.YtkljdpjdlccidaaDoor
