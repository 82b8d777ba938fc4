/-
  The keys of the tables of operations: an operation's number and an offset.
-/
import Derived.Test.YtmlkbpmchcdldaaLit
import Derived.Test.YtmlkbpmchcdldaaRows
namespace Go.Proofs.Ytmlkbpmchcdldaa
open Go.RowKit Go.Maps

theorem law43 : Keyed Try.prog 43 := Keyed.of_law (deep_law_laid (by kernel_rfl) (m := 2) (by omega) (of_decide_eq_true (by kernel_rfl)) (by kernel_rfl) (by rw [Try.underlying43]))
theorem cells43 : Try.prog.cellsOf 43 = 2 := by kernel_rfl
theorem cells5 : Try.prog.cellsOf 5 = 1 := by kernel_rfl
theorem cells22 : Try.prog.cellsOf 22 = 1 := by kernel_rfl
theorem size1 : ∃ n, Try.prog.types.size + 1 = n + 2 := ⟨Try.prog.types.size - 1, by kernel_rfl⟩
theorem key43 (x y : Int) (hx : (Lit.int .u8 x).wf = true) (hy : (Lit.int .i16 y).wf = true) : ∃ l, keyOf Try.prog 43 (.agg #[.int .u8 x, .int .i16 y]) = some l := by
  unfold keyOf
  rw [Try.underlying43]
  simp only []
  rw [if_pos (by
    rw [Bool.and_eq_true]
    refine ⟨by kernel_rfl, ?_⟩
    simp [Value.formed, Try.underlying43, cells43])]
  obtain ⟨n, hn⟩ := size1
  rw [hn]
  unfold Program.keyLits
  rw [Try.underlying43]
  simp only [Value.cells, cells43]
  unfold Program.keyLits
  simp [Try.underlying5, Try.underlying22, cells5, cells22, hx, hy]
end Go.Proofs.Ytmlkbpmchcdldaa
