/-
  Bytes turned round, bit by bit.
-/
import Derived.Test.YtmlkbpmchcdldaaGreatSw
namespace Go.Proofs.YtmlkbpmchcdldaaGreat
set_option linter.unusedVariables false

theorem m1_bits : ∀ i, i < 64 → (71777214294589695#64).getLsbD i = decide (i % 16 < 8) := by decide
theorem m2_bits : ∀ i, i < 64 → (281470681808895#64).getLsbD i = decide (i % 32 < 16) := by decide
theorem rev1_bits (x : BitVec 64) (i : Nat) (hi : i < 64) : (rev1 x).getLsbD i = x.getLsbD (if i % 16 < 8 then i + 8 else i - 8) := by
  unfold rev1
  rw [BitVec.getLsbD_or, BitVec.getLsbD_and, BitVec.getLsbD_ushiftRight, BitVec.getLsbD_shiftLeft, BitVec.getLsbD_and, m1_bits i hi, m1_bits (i - 8) (by omega)]
  by_cases h : i % 16 < 8
  · rw [if_pos h, Nat.add_comm]
    by_cases h8 : i < 8
    · simp [h, h8]
    · have : ¬ (i - 8) % 16 < 8 := by omega
      simp [h, this]
  · have h1 : (i - 8) % 16 < 8 := by omega
    have h8 : ¬ i < 8 := by omega
    simp [h, h1, h8, hi]
theorem rev2_bits (x : BitVec 64) (i : Nat) (hi : i < 64) : (rev2 x).getLsbD i = x.getLsbD (if i % 32 < 16 then i + 16 else i - 16) := by
  unfold rev2
  rw [BitVec.getLsbD_or, BitVec.getLsbD_and, BitVec.getLsbD_ushiftRight, BitVec.getLsbD_shiftLeft, BitVec.getLsbD_and, m2_bits i hi, m2_bits (i - 16) (by omega)]
  by_cases h : i % 32 < 16
  · rw [if_pos h, Nat.add_comm]
    by_cases h8 : i < 16
    · simp [h, h8]
    · have : ¬ (i - 16) % 32 < 16 := by omega
      simp [h, this]
  · have h1 : (i - 16) % 32 < 16 := by omega
    have h8 : ¬ i < 16 := by omega
    simp [h, h1, h8, hi]
theorem rev3_bits (x : BitVec 64) (i : Nat) (hi : i < 64) : (rev3 x).getLsbD i = x.getLsbD (if i < 32 then i + 32 else i - 32) := by
  unfold rev3
  rw [BitVec.getLsbD_or, BitVec.getLsbD_ushiftRight, BitVec.getLsbD_shiftLeft]
  by_cases h : i < 32
  · simp [h, Nat.add_comm]
  · have : x.getLsbD (32 + i) = false := BitVec.getLsbD_of_ge _ _ (by omega)
    simp [h, hi, this]
/-- Where a bit comes from when all eight bytes are turned. -/
theorem rev_bits (x : BitVec 64) (i : Nat) (hi : i < 64) : (rev3 (rev2 (rev1 x))).getLsbD i = x.getLsbD (8 * (7 - i / 8) + i % 8) := by
  rw [rev3_bits _ _ hi, rev2_bits _ _ (by split <;> omega), rev1_bits _ _ (by split <;> split <;> omega)]
  congr 1
  split <;> split <;> split <;> omega
theorem reversed_bits (k : Nat) (hk : k ≤ 64) (x : BitVec 64) (i : Nat) (hi : i < 64) : (reversed k x).getLsbD i = (decide (i < k) && x.getLsbD (8 * (7 - (64 - k + i) / 8) + (64 - k + i) % 8)) := by
  unfold reversed
  rw [BitVec.getLsbD_ushiftRight]
  by_cases h : i < k
  · rw [rev_bits _ _ (by omega)]; simp [h]
  · rw [BitVec.getLsbD_of_ge _ _ (by omega)]; simp [h]
theorem lowest_bits (k : Nat) (hk : k ≤ 64) (x : BitVec 64) (i : Nat) (hi : i < 64) : (lowest k x).getLsbD i = (decide (i < k) && x.getLsbD i) := by
  unfold lowest
  rw [BitVec.getLsbD_ushiftRight, BitVec.getLsbD_shiftLeft]
  by_cases h : i < k
  · have h1 : 64 - k + i < 64 := by omega
    have h2 : ¬ (64 - k + i < 64 - k) := by omega
    simp [h, h1]
  · have h1 : ¬ (64 - k + i < 64) := by omega
    simp [h, h1]
theorem widened_bits (k : Nat) (hk : k ≤ 64) (x : BitVec 64) (i : Nat) (hi : i < k) : (widened k x).getLsbD i = x.getLsbD i := by
  unfold widened
  rw [BitVec.getLsbD_sshiftRight, BitVec.getLsbD_shiftLeft]
  have h1 : 64 - k + i < 64 := by omega
  have h2 : ¬ (64 ≤ i) := by omega
  simp [h1, h2]
theorem turn_twice (k : Nat) (hk : k = 16 ∨ k = 32 ∨ k = 64) (x : BitVec 64) : reversed k (reversed k x) = lowest k x := by
  apply BitVec.eq_of_getLsbD_eq
  intro i hi
  have hk64 : k ≤ 64 := by omega
  rw [reversed_bits k hk64 _ _ hi, lowest_bits k hk64 _ _ hi]
  by_cases h : i < k
  · have hj : 8 * (7 - (64 - k + i) / 8) + (64 - k + i) % 8 < k := by omega
    rw [reversed_bits k hk64 _ _ (by omega)]
    simp only [h, hj, decide_true, Bool.true_and]
    congr 1
    omega
  · simp [h]
theorem low_wide (k : Nat) (hk : k ≤ 64) (x : BitVec 64) : lowest k (widened k x) = lowest k x := by
  apply BitVec.eq_of_getLsbD_eq
  intro i hi
  rw [lowest_bits k hk _ _ hi, lowest_bits k hk _ _ hi]
  by_cases h : i < k
  · rw [widened_bits k hk _ _ h]
  · simp [h]
theorem low_low (k : Nat) (hk : k ≤ 64) (x : BitVec 64) : lowest k (lowest k x) = lowest k x := by
  apply BitVec.eq_of_getLsbD_eq
  intro i hi
  rw [lowest_bits k hk _ _ hi, lowest_bits k hk _ _ hi]
  by_cases h : i < k <;> simp [h]
end Go.Proofs.YtmlkbpmchcdldaaGreat
