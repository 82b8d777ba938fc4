/-
  The keys of the tables of operations: an operation's number and an offset.
-/
import Derived.Test.YtmlkbpmchcdldaaGreatLit
import Derived.Test.YtmlkbpmchcdldaaGreatRows
namespace Go.Proofs.YtmlkbpmchcdldaaGreat
open Go.RowKit Go.Maps

theorem law43 : Keyed Tryz.prog 38 := Keyed.of_law (deep_law_laid (by kernel_rfl) (m := 2) (by omega) (of_decide_eq_true (by kernel_rfl)) (by kernel_rfl) (by rw [Tryz.underlying38]))
theorem cells43 : Tryz.prog.cellsOf 38 = 2 := by kernel_rfl
theorem cells5 : Tryz.prog.cellsOf 5 = 1 := by kernel_rfl
theorem cells22 : Tryz.prog.cellsOf 25 = 1 := by kernel_rfl
theorem size1 : ∃ n, Tryz.prog.types.size + 1 = n + 2 := ⟨Tryz.prog.types.size - 1, by kernel_rfl⟩
theorem key43 (x y : Int) (hx : (Lit.int .u8 x).wf = true) (hy : (Lit.int .i16 y).wf = true) : ∃ l, keyOf Tryz.prog 38 (.agg #[.int .u8 x, .int .i16 y]) = some l := by
  unfold keyOf
  rw [Tryz.underlying38]
  simp only []
  rw [if_pos (by
    rw [Bool.and_eq_true]
    refine ⟨by kernel_rfl, ?_⟩
    simp [Value.formed, Tryz.underlying38, cells43])]
  obtain ⟨n, hn⟩ := size1
  rw [hn]
  unfold Program.keyLits
  rw [Tryz.underlying38]
  simp only [Value.cells, cells43]
  unfold Program.keyLits
  simp [Tryz.underlying5, Tryz.underlying25, cells5, cells22, hx, hy]
end Go.Proofs.YtmlkbpmchcdldaaGreat
