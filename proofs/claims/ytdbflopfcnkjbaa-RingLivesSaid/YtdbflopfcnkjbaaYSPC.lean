/-
  A make that came in is opened.
-/
import Derived.Test.YtdbflopfcnkjbaaJOPD
namespace Go.Proofs.Ytdbflopfcnkjbaa
open Go.ChangeShapes Go.WideShapes Go.ChangeAt Go.RowKit Go.Deep
set_option linter.unusedVariables false
structure ASpec where
  k : Int
  key : Int
  val : Int
  ent : Int
def ASpec.cells (s : ASpec) : List Value := [.int .u8 s.k, .int .i64 s.key, .int .i64 s.val, .int .i64 s.ent]
theorem u8_of_wf {n : Int} (h : (Lit.int .u8 n).wf = true) : 0 ≤ n ∧ n < 256 := by
  simp [Lit.wf, IntKind.min, IntKind.max, IntKind.bits, IntKind.signed] at h
  exact ⟨h.1, by omega⟩
structure ASpec.Is (s : ASpec) : Prop where
  k : 0 ≤ s.k ∧ s.k < 256
  key : I64 s.key
  val : I64 s.val
  ent : I64 s.ent
section
variable {H : Type} {enc : TypeId × Value → H} {W : World}
theorem spec_struct : ∃ fs : Array Field, Try.prog.underlying 24 = some (.struct fs) ∧ oneCellFields Try.prog fs = true ∧ Try.prog.cellsOf 24 = fs.size ∧ fs.toList.map (·.type) = [22, 3, 3, 3] := ⟨_, Try.underlying24, by kernel_rfl, by kernel_rfl, by kernel_rfl⟩
theorem view_spec {fuel : Nat} {cs : List Value} {x : DataW H × List MemPlace} (hx : Szd 24 x.1) (h : DataW.trod enc Try.prog W 0 (fun _ => true) true fuel 24 cs = some x) : ∃ s : ASpec, s.Is ∧ cs = s.cells := by
  obtain ⟨hl, n, hf⟩ := view_sized spec_struct hx h
  match cs, hl with
  | [v0, v1, v2, v3], _ =>
    obtain ⟨m0, rfl, w0⟩ := int_of Try.underlying22 (hf 0 22 v0 rfl rfl)
    obtain ⟨m1, rfl, w1⟩ := int_of Try.underlying3 (hf 1 3 v1 rfl rfl)
    obtain ⟨m2, rfl, w2⟩ := int_of Try.underlying3 (hf 2 3 v2 rfl rfl)
    obtain ⟨m3, rfl, w3⟩ := int_of Try.underlying3 (hf 3 3 v3 rfl rfl)
    exact ⟨⟨m0, m1, m2, m3⟩, ⟨u8_of_wf w0, i64_of_wf w1, i64_of_wf w2, i64_of_wf w3⟩, rfl⟩
end
end Go.Proofs.Ytdbflopfcnkjbaa
