/-
  Deeds that came in.
-/
import Derived.Test.YtdbflopfcnkjbaaGreatJOPD
namespace Go.Proofs.YtdbflopfcnkjbaaGreat
open Go.ChangeShapes Go.WideShapes Go.ChangeAt Go.RowKit Go.Deep
set_option linter.unusedVariables false
/-- Deeds that came in. -/
structure ADos (w : World) (B : Nat) (A : Option Addr) (m : Nat) (ds : List ADo) : Prop where
  outer : Rd w B 2 A m (ds.flatMap ADo.cells)
  inner : ∀ d ∈ ds, d.Is w B
theorem ADos.below {w w' : World} {B : Nat} {A : Option Addr} {m : Nat} {ds : List ADo} (h : ADos w B A m ds) (hb : Below B w w') : ADos w' B A m ds :=
  ⟨h.outer.below hb, fun d hd => (h.inner d hd).below hb⟩
theorem ADos.len {w : World} {B : Nat} {A : Option Addr} {m : Nat} {ds : List ADo} (h : ADos w B A m ds) : ds.length = m := by
  have h1 := h.outer.1
  rw [flat_length ADo.cells 2 (fun _ => rfl)] at h1
  omega
theorem ADos.cell {w : World} {B : Nat} {A : Option Addr} {m j : Nat} {ds : List ADo} (h : ADos w B A m ds) (hj : j < m) : ∃ ad d, A = some ad ∧ ds[j]? = some d ∧ ad.block < B ∧
    ∀ t u, d.cells[t]? = some u → w.cell? (ad.add (j * 2 + t)) = some u := by
  obtain ⟨ad, e, hb, hc⟩ := h.outer.2 (by omega)
  have hl := h.len
  have hr : ds[j]? = some ds[j] := List.getElem?_eq_getElem (by omega)
  refine ⟨ad, ds[j], e, hr, hb, fun t u hu => hc _ u ?_⟩
  have ht : t < 2 := by
    have := (List.getElem?_eq_some_iff.1 hu).1
    simpa [ADo.cells] using this
  rw [flat_at ADo.cells 2 (fun _ => rfl) ds j t ht, hr]
  exact hu
section
variable {H : Type} {enc : TypeId × Value → H} {W : World}
theorem cellsDo : Tryz.prog.cellsOf 29 = 2 := by kernel_rfl
theorem bytesDo : Tryz.prog.bytesOf 29 = 32 := by kernel_rfl
theorem view_dos {fuel : Nat} {cs : List Value} {x : DataW H × List MemPlace} (hx : Szd 30 x.1) (h : DataW.trod enc Tryz.prog W 0 (fun _ => true) true fuel 30 cs = some x) :
    ∃ (A : Option Addr) (m c : Nat) (ds : List ADo), cs = [.slice A m c] ∧ ADos W W.heap.size A m ds ∧ m ≤ c ∧ c ≤ 140737488351232 := by
  obtain ⟨A, c, l, hcs, hr, hl, h1, h2, h3⟩ := view_rows (P := fun d : ADo => d.Is W W.heap.size) Tryz.underlying30 cellsDo (by decide) ADo.cells (fun _ => rfl) view_do hx h
  rw [bytesDo] at h3
  have h4 : c ≤ 140737488351232 := by simp only [reachBytes] at h3; omega
  exact ⟨A, l.length, c, l, hcs, ⟨hr, hl⟩, h1, h4⟩
end
end Go.Proofs.YtdbflopfcnkjbaaGreat
