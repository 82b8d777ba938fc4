/-
  A make that came in is opened.
-/
import Derived.Test.YtdbflopfcnkjbaaGreatJOPD
namespace Go.Proofs.YtdbflopfcnkjbaaGreat
open Go.ChangeShapes Go.WideShapes Go.ChangeAt Go.RowKit Go.Deep
set_option linter.unusedVariables false
structure ASpec where
  k : Int
  key : Int
  val : Int
  ent : Int
def ASpec.cells (s : ASpec) : List Value := [.int .u8 s.k, .int .i64 s.key, .int .i64 s.val, .int .i64 s.ent]
theorem u8_of_wf {n : Int} (h : (Lit.int .u8 n).wf = true) : 0 ≤ n ∧ n < 256 := by
  simp [Lit.wf, IntKind.min, IntKind.max, IntKind.bits, IntKind.signed] at h
  exact ⟨h.1, by omega⟩
structure ASpec.Is (s : ASpec) : Prop where
  k : 0 ≤ s.k ∧ s.k < 256
  key : I64 s.key
  val : I64 s.val
  ent : I64 s.ent
section
variable {H : Type} {enc : TypeId × Value → H} {W : World}
theorem spec_struct : ∃ fs : Array Field, Tryz.prog.underlying 25 = some (.struct fs) ∧ oneCellFields Tryz.prog fs = true ∧ Tryz.prog.cellsOf 25 = fs.size ∧ fs.toList.map (·.type) = [23, 3, 3, 3] := ⟨_, Tryz.underlying25, by kernel_rfl, by kernel_rfl, by kernel_rfl⟩
theorem view_spec {fuel : Nat} {cs : List Value} {x : DataW H × List MemPlace} (hx : Szd 25 x.1) (h : DataW.trod enc Tryz.prog W 0 (fun _ => true) true fuel 25 cs = some x) : ∃ s : ASpec, s.Is ∧ cs = s.cells := by
  obtain ⟨hl, n, hf⟩ := view_sized spec_struct hx h
  match cs, hl with
  | [v0, v1, v2, v3], _ =>
    obtain ⟨m0, rfl, w0⟩ := int_of Tryz.underlying23 (hf 0 23 v0 rfl rfl)
    obtain ⟨m1, rfl, w1⟩ := int_of Tryz.underlying3 (hf 1 3 v1 rfl rfl)
    obtain ⟨m2, rfl, w2⟩ := int_of Tryz.underlying3 (hf 2 3 v2 rfl rfl)
    obtain ⟨m3, rfl, w3⟩ := int_of Tryz.underlying3 (hf 3 3 v3 rfl rfl)
    exact ⟨⟨m0, m1, m2, m3⟩, ⟨u8_of_wf w0, i64_of_wf w1, i64_of_wf w2, i64_of_wf w3⟩, rfl⟩
end
end Go.Proofs.YtdbflopfcnkjbaaGreat
