/-
  Comparisons, one of another.
-/
import Derived.Test.YtmlkbpmchcdldaaGreatBv
namespace Go.Proofs.YtmlkbpmchcdldaaGreat
theorem opp (b c : Bool) (h : b = !c) : (b == c) = false := by subst h; cases c <;> rfl
theorem eq_ne {n : Nat} (x y : BitVec n) : (x == y) = !(x != y) := by unfold bne; simp
theorem lt_le {n : Nat} (x y : BitVec n) : y.ult x = !(x.ule y) := by
  rw [BitVec.ult_eq_decide, BitVec.ule_eq_decide, ← decide_not]; exact decide_eq_decide.2 (by omega)
theorem le_lt {n : Nat} (x y : BitVec n) : y.ule x = !(x.ult y) := by
  rw [BitVec.ult_eq_decide, BitVec.ule_eq_decide, ← decide_not]; exact decide_eq_decide.2 (by omega)
theorem slt_sle {n : Nat} (x y : BitVec n) : y.slt x = !(x.sle y) := by
  rw [BitVec.slt_eq_decide, BitVec.sle_eq_decide, ← decide_not]; exact decide_eq_decide.2 (by omega)
theorem sle_slt {n : Nat} (x y : BitVec n) : y.sle x = !(x.slt y) := by
  rw [BitVec.slt_eq_decide, BitVec.sle_eq_decide, ← decide_not]; exact decide_eq_decide.2 (by omega)
end Go.Proofs.YtmlkbpmchcdldaaGreat
