/- A frame behind the head of a drawn region, as the old one with puts. Of no law of its own. -/
import Derived.Test.YtkljdpjdlccidaaDoorRgA
namespace Go.Proofs.YtkljdpjdlccidaaDoor
open Go.RowKit
theorem Fr.puts {ops : Array Oper} {n : Nat} {fr : Array Value} {a' : Act} {w' : World} {G : Nat → Value → World → Prop} (hF : Fr ops n fr a') (hG : ∀ j, j < n → Got ops G j a' w') (ds : List Nat) (hds : (ops.toList.take n).map (·.dst) = ds.map some) {z : Nat} (hz : fr.size = z) (hlt : ∀ d ∈ ds, d < z) : ∃ u : Nat → Value, a' = ds.foldl (fun (a : Act) d => a.put (some d) (u d)) ⟨fr, []⟩ ∧ ∀ j, j < n → ∃ d, (ops[j]?).bind (·.dst) = some d ∧ G j (u d) w' := by
  subst hz
  refine ⟨fun d => a'.tmps.getD d undef, ?_, fun j hj => hG j hj⟩
  obtain ⟨f1, f2, f3⟩ := hF
  have gen : ∀ (ds : List Nat) (b : Act), b.tmps.size = fr.size → (∀ d ∈ ds, d < fr.size) → (ds.foldl (fun a d => a.put (some d) (a'.tmps.getD d undef)) b).defers = b.defers ∧ (ds.foldl (fun a d => a.put (some d) (a'.tmps.getD d undef)) b).tmps.size = fr.size ∧ ∀ k, (ds.foldl (fun a d => a.put (some d) (a'.tmps.getD d undef)) b).tmps.getD k undef = if k ∈ ds then a'.tmps.getD k undef else b.tmps.getD k undef := by
    intro ds
    induction ds with
    | nil => intro b hb _; simp [hb]
    | cons d ds ih =>
      intro b hb hl
      have hd : d < b.tmps.size := by rw [hb]; exact hl d (by simp)
      obtain ⟨i1, i2, i3⟩ := ih (b.put (some d) (a'.tmps.getD d undef)) (by simp [Act.put, hb]) fun x hx => hl x (by simp [hx])
      refine ⟨i1, i2, fun k => ?_⟩
      simp only [List.foldl_cons]
      rw [i3 k]
      by_cases hk : k ∈ ds
      · simp [hk]
      · by_cases hkd : k = d
        · subst hkd
          simp [hk, Act.put, Array.getD, hd]
        · have hdk : d ≠ k := fun e => hkd e.symm
          have e : ∀ v, (b.put (some d) v).tmps.getD k undef = b.tmps.getD k undef := fun v => by
            simp only [Act.put, Array.getD_eq_getD_getElem?]
            rw [Array.getElem?_setIfInBounds_ne hdk]
          rw [e, if_neg hk, if_neg (by simp [hk, hkd])]
  obtain ⟨g1, g2, g3⟩ := gen ds ⟨fr, []⟩ rfl hlt
  generalize hx : ds.foldl (fun (a : Act) d => a.put (some d) (a'.tmps.getD d undef)) ⟨fr, []⟩ = x at g1 g2 g3
  show a' = x
  obtain ⟨t, df⟩ := a'
  obtain ⟨t2, df2⟩ := x
  obtain rfl : df = [] := f1
  obtain rfl : df2 = [] := g1
  have : t = t2 := by
    refine Array.ext (by rw [show t.size = fr.size from f2, show t2.size = fr.size from g2]) fun k h1 h2 => ?_
    have e1 : t[k] = t.getD k undef := by simp [Array.getD, h1]
    have e2 : t2[k] = t2.getD k undef := by simp [Array.getD, h2]
    rw [e1, e2]
    have e3 : t2.getD k undef = if k ∈ ds then t.getD k undef else fr.getD k undef := g3 k
    rw [e3]
    by_cases hk : k ∈ ds
    · rw [if_pos hk]
    · rw [if_neg hk]
      refine f3 k (List.all_eq_true.2 fun o ho => ?_)
      have : o.dst ∈ ds.map some := hds ▸ List.mem_map_of_mem ho
      obtain ⟨d, hd, e⟩ := List.mem_map.1 this
      have hne : d ≠ k := fun e => hk (e ▸ hd)
      simp [← e, hne]
  rw [this]
end Go.Proofs.YtkljdpjdlccidaaDoor
