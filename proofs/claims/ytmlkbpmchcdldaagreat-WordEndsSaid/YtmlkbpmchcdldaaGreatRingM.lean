/-
  Low parts of words.
-/
import Derived.Test.YtmlkbpmchcdldaaGreatBase
namespace Go.Proofs.YtmlkbpmchcdldaaGreat
open Go.RowKit Go.Maps
set_option linter.unusedVariables false

theorem nat_beq {x y : BitVec 64} (h : x = y) : (((x.toNat : Int)) == ((y.toNat : Int))) = true := by rw [h]; simp
theorem nat_bne {x y : BitVec 64} (h : x = y) : (((x.toNat : Int)) != ((y.toNat : Int))) = false := by rw [h]; simp
theorem aluI_nat (op off : Int) (wide : Bool) (x y : BitVec 64) : aluI op off wide (x.toNat : Int) (y.toNat : Int) = ((alu op off wide x y).1.toNat : Int) := by unfold aluI; rw [bv_nat, bv_nat]
theorem zero_nat : (0 : Int) = ((0#64).toNat : Int) := rfl
/-- The low part of a word, as a word. -/
def lo (x : BitVec 64) : BitVec 64 := (x.setWidth 32).setWidth 64
theorem lo_low (x : BitVec 64) : (lo x).setWidth 32 = x.setWidth 32 := by
  unfold lo
  rw [BitVec.setWidth_setWidth_of_le _ (by decide), BitVec.setWidth_eq]
theorem low_up (z : BitVec 32) : (z.setWidth 64).setWidth 32 = z := by
  rw [BitVec.setWidth_setWidth_of_le _ (by decide), BitVec.setWidth_eq]
theorem up_nat (z : BitVec 32) : (z.setWidth 64).toNat = z.toNat := by
  have := lt32 z
  rw [BitVec.toNat_setWidth]; exact Nat.mod_eq_of_lt (by omega)
theorem lo_nat (x : BitVec 64) : (x.toNat : Int) % 4294967296 = ((lo x).toNat : Int) := by
  rw [low32]; unfold lo; rw [up_nat]
theorem w_low (a : Int) (h : W64 a) : W64 (a % 4294967296) := by
  obtain ⟨x, rfl⟩ := of64 h
  rw [lo_nat]; exact w64 _
end Go.Proofs.YtmlkbpmchcdldaaGreat
