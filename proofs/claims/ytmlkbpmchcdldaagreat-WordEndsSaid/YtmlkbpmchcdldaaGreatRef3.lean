/-
  The document's own product, bit by bit, and its shift with a sign, one bit at a time.
-/
import Derived.Test.YtmlkbpmchcdldaaGreatRef1
namespace Go.Proofs.YtmlkbpmchcdldaaGreat
open Go.RowKit Go.Maps
set_option linter.unusedVariables false

/-- The product with b's lowest k bits. -/
def part (x y : BitVec 64) (k : Nat) : Nat := x.toNat * (y.toNat % 2 ^ k) % 18446744073709551616
theorem part_step (x y : BitVec 64) (k : Nat) : part x y (k + 1) = if y.toNat / 2 ^ k % 2 = 1 then (part x y k + x.toNat * 2 ^ k % 18446744073709551616) % 18446744073709551616 else part x y k := by
  unfold part
  have h : y.toNat % 2 ^ (k + 1) = y.toNat % 2 ^ k + 2 ^ k * (y.toNat / 2 ^ k % 2) := by
    rw [Nat.pow_succ, Nat.mod_mul]
  rw [h]
  split
  · rename_i h1
    rw [h1, Nat.mul_one, Nat.mul_add, ← Nat.add_mod]
  · rename_i h1
    have : y.toNat / 2 ^ k % 2 = 0 := by omega
    rw [this, Nat.mul_zero, Nat.add_zero]
theorem bit_t (y : BitVec 64) (k : Nat) (h : y.toNat / 2 ^ k % 2 = 1) : (bits .and .u64 ((y.toNat : Int) / 2 ^ k) 1 == 1) = true := by
  have hl := lt64 (y >>> k)
  have hv : (y >>> k).toNat = y.toNat / 2 ^ k := by rw [BitVec.toNat_ushiftRight, Nat.shiftRight_eq_div_pow]
  rw [shr_n, and_one _ (by omega) (by omega), hv, beq_iff_eq]
  omega
theorem bit_f (y : BitVec 64) (k : Nat) (h : ¬ y.toNat / 2 ^ k % 2 = 1) : (bits .and .u64 ((y.toNat : Int) / 2 ^ k) 1 == 1) = false := by
  have hl := lt64 (y >>> k)
  have hv : (y >>> k).toNat = y.toNat / 2 ^ k := by rw [BitVec.toNat_ushiftRight, Nat.shiftRight_eq_div_pow]
  rw [shr_n, and_one _ (by omega) (by omega), hv, Bool.eq_false_iff, ne_eq, beq_iff_eq]
  omega
theorem part_all (x y : BitVec 64) : part x y 64 = (x * y).toNat := by
  unfold part
  have hl := lt64 y
  rw [BitVec.toNat_mul, Nat.mod_eq_of_lt (show y.toNat < 2 ^ 64 from y.isLt)]
def Round (x y : BitVec 64) (k : Nat) (v : Int) : Prop := v = (part x y k : Nat)
theorem round_t (x y : BitVec 64) (k : Nat) (h : y.toNat / 2 ^ k % 2 = 1) : IntKind.u64.wrap ((part x y k : Nat) + IntKind.u64.wrap ((x.toNat : Int) * 2 ^ k)) = (part x y (k + 1) : Nat) := by
  rw [part_step, if_pos h, wrapu64, wrapu64]
  have : (x.toNat : Int) * 2 ^ k = ((x.toNat * 2 ^ k : Nat) : Int) := by rw [Int.natCast_mul, Int.natCast_pow]; rfl
  rw [this]
  omega
theorem round_f (x y : BitVec 64) (k : Nat) (h : ¬ y.toNat / 2 ^ k % 2 = 1) : ((part x y k : Nat) : Int) = (part x y (k + 1) : Nat) := by
  rw [part_step, if_neg h]
set_option maxHeartbeats 400000 in
theorem times_any (x y : BitVec 64) (w : World) : Calls Tryz.prog 21 #[.int .u64 x.toNat, .int .u64 y.toNat] w fun e w' => e = .returned (.int .u64 ((x * y).toNat : Int)) ∧ w = w' := by
  have HR := put_by' (show ((part x y 64 : Nat) : Int) = ((x * y).toNat : Int) by rw [part_all])
  generalize ((x * y).toNat : Int) = r at HR ⊢
  go_enter Tryz.func21, Tryz.ntmps21
  go_wp2
  go_loop [5, 6] (fun n i => ∃ k : Nat, k ≤ 64 ∧ i = .int .i64 k ∧ n = .int .u64 (part x y k : Nat)) (fun _ i => 64 - (intOf i).toNat)
  case atStart => exact ⟨0, by omega, rfl, by simp [part, Nat.mod_one]⟩
  case round =>
    obtain ⟨k, hk, rfl, rfl⟩ := hrel
    by_cases hlt : k < 64
    · by_cases hb : y.toNat / 2 ^ k % 2 = 1
      · have hb' := bit_t y k hb
        have hb := put_by' hb
        go_wp2
        go_round
        case rel => exact ⟨k + 1, by omega, by go_num, by rw [round_t x y k hb.out]⟩
        case measure => simp [intOf]; omega
      · have hb' := bit_f y k hb
        have hb := put_by' hb
        go_wp2
        go_round
        case rel => exact ⟨k + 1, by omega, by go_num, by rw [← round_f x y k hb.out]⟩
        case measure => simp [intOf]; omega
    · obtain rfl : k = 64 := by omega
      go_wp2
      go_ret
      exact ⟨ret_i HR.out, rfl⟩

theorem sar_step (z : BitVec 64) : (z >>> 1) ||| (((z >>> 63) &&& 1#64) <<< 63) = z.sshiftRight 1 := by
  apply BitVec.eq_of_getLsbD_eq
  intro i hi
  have h1 : ∀ j, j < 64 → (1#64).getLsbD j = decide (j = 0) := by decide
  rw [BitVec.getLsbD_or, BitVec.getLsbD_ushiftRight, BitVec.getLsbD_shiftLeft, BitVec.getLsbD_and, BitVec.getLsbD_ushiftRight, BitVec.getLsbD_sshiftRight, h1 _ (by omega)]
  by_cases h : i = 63
  · subst h
    simp [BitVec.msb_eq_getLsbD_last]
  · have h2 : 1 + i < 64 := by omega
    have h3 : i < 63 := by omega
    simp [hi, h2, h3]
theorem sar_step32 (z : BitVec 32) : ((z.setWidth 64) >>> 1) ||| ((((z.setWidth 64) >>> 31) &&& 1#64) <<< 31) = (z.sshiftRight 1).setWidth 64 := by
  apply BitVec.eq_of_getLsbD_eq
  intro i hi
  have h1 : ∀ j, j < 64 → (1#64).getLsbD j = decide (j = 0) := by decide
  rw [BitVec.getLsbD_or, BitVec.getLsbD_ushiftRight, BitVec.getLsbD_shiftLeft, BitVec.getLsbD_and, BitVec.getLsbD_ushiftRight, BitVec.getLsbD_setWidth, BitVec.getLsbD_setWidth, BitVec.getLsbD_setWidth, BitVec.getLsbD_sshiftRight, h1 _ (by omega)]
  by_cases h : i = 31
  · subst h
    simp [BitVec.msb_eq_getLsbD_last]
  · by_cases h3 : i < 31
    · have h2 : 1 + i < 32 := by omega
      have h4 : 1 + i < 64 := by omega
      have h5 : ¬ 32 ≤ i := by omega
      simp [hi, h2, h3, h4, h5]
    · have h6 : z.getLsbD (1 + i) = false := BitVec.getLsbD_of_ge _ _ (by omega)
      have h7 : 32 ≤ i := by omega
      have h8 : ¬ (i - 31 = 0) := by omega
      simp [h6, h7, h8]
theorem sarI64 (z : BitVec 64) : bits .or .u64 ((z.toNat : Int) / 2) (IntKind.u64.wrap (bits .and .u64 ((z.toNat : Int) / 9223372036854775808) 1 * 9223372036854775808)) = ((z.sshiftRight 1).toNat : Int) := by
  have e1 := shr_n z 1
  have e2 := shr_n z 63
  have e3 := and64 (z >>> 63) 1#64
  have e4 := shl_n ((z >>> 63) &&& 1#64) 63
  rw [show (2 : Int) ^ 1 = 2 from rfl] at e1
  rw [show (2 : Int) ^ 63 = 9223372036854775808 from rfl] at e2 e4
  rw [show ((1#64).toNat : Int) = 1 from rfl] at e3
  rw [e1, e2, e3, e4, or64, sar_step]
theorem sarI32 (z : BitVec 32) : bits .or .u64 ((z.toNat : Int) / 2) (IntKind.u64.wrap (bits .and .u64 ((z.toNat : Int) / 2147483648) 1 * 2147483648)) = ((z.sshiftRight 1).toNat : Int) := by
  have hu : (z.toNat : Int) = ((z.setWidth 64).toNat : Int) := by rw [BitVec.toNat_setWidth]; have := lt32 z; omega
  have hv : ((z.sshiftRight 1).toNat : Int) = (((z.sshiftRight 1).setWidth 64).toNat : Int) := by rw [BitVec.toNat_setWidth]; have := lt32 (z.sshiftRight 1); omega
  have e1 := shr_n (z.setWidth 64) 1
  have e2 := shr_n (z.setWidth 64) 31
  have e3 := and64 ((z.setWidth 64) >>> 31) 1#64
  have e4 := shl_n (((z.setWidth 64) >>> 31) &&& 1#64) 31
  rw [show (2 : Int) ^ 1 = 2 from rfl] at e1
  rw [show (2 : Int) ^ 31 = 2147483648 from rfl] at e2 e4
  rw [show ((1#64).toNat : Int) = 1 from rfl] at e3
  rw [hu, e1, e2, e3, e4, or64, sar_step32, hv]

set_option maxHeartbeats 400000 in
theorem arsh_64 (x : BitVec 64) (n : Nat) (hn : n ≤ 64) (w : World) : Calls Tryz.prog 23 #[.int .u64 x.toNat, .int .i64 n, .int .i64 64] w fun e w' => e = .returned (.int .u64 ((x.sshiftRight n).toNat : Int)) ∧ w = w' := by
  go_enter Tryz.func23, Tryz.ntmps23
  go_wp2
  go_loop [0, 7] (fun v i => ∃ k : Nat, k ≤ n ∧ i = .int .i64 k ∧ v = .int .u64 ((x.sshiftRight k).toNat : Int)) (fun _ i => 64 - (intOf i).toNat)
  case atStart => exact ⟨0, by omega, rfl, by rw [BitVec.sshiftRight_zero]⟩
  case round =>
    obtain ⟨k, hk, rfl, rfl⟩ := hrel
    by_cases hlt : k < n
    · have hs := put_by' (sarI64 (x.sshiftRight k))
      have hl := lt64 (x.sshiftRight k)
      go_wp2
      go_round
      case rel => exact ⟨k + 1, by omega, by go_num, by rw [hs.out, ← BitVec.sshiftRight_add]⟩
      case measure => simp [intOf]; omega
    · obtain rfl : k = n := by omega
      go_wp2
      go_ret
      exact ⟨rfl, rfl⟩

set_option maxHeartbeats 400000 in
theorem arsh_32 (x : BitVec 32) (n : Nat) (hn : n ≤ 64) (w : World) : Calls Tryz.prog 23 #[.int .u64 x.toNat, .int .i64 n, .int .i64 32] w fun e w' => e = .returned (.int .u64 ((x.sshiftRight n).toNat : Int)) ∧ w = w' := by
  go_enter Tryz.func23, Tryz.ntmps23
  go_wp2
  go_loop [0, 7] (fun v i => ∃ k : Nat, k ≤ n ∧ i = .int .i64 k ∧ v = .int .u64 ((x.sshiftRight k).toNat : Int)) (fun _ i => 64 - (intOf i).toNat)
  case atStart => exact ⟨0, by omega, rfl, by rw [BitVec.sshiftRight_zero]⟩
  case round =>
    obtain ⟨k, hk, rfl, rfl⟩ := hrel
    by_cases hlt : k < n
    · have hs := put_by' (sarI32 (x.sshiftRight k))
      have hl := lt32 (x.sshiftRight k)
      go_wp2
      go_round
      case rel => exact ⟨k + 1, by omega, by go_num, by rw [hs.out, ← BitVec.sshiftRight_add]⟩
      case measure => simp [intOf]; omega
    · obtain rfl : k = n := by omega
      go_wp2
      go_ret
      exact ⟨rfl, rfl⟩
end Go.Proofs.YtmlkbpmchcdldaaGreat
