/-
  The document's own quotients and rests, with a sign and without, are the words' own.
-/
import Derived.Test.YtmlkbpmchcdldaaGreatRef1
namespace Go.Proofs.YtmlkbpmchcdldaaGreat
open Go.RowKit Go.Maps
set_option linter.unusedVariables false
theorem udiv_nat {n : Nat} (x y : BitVec n) : (x.udiv y).toNat = x.toNat / y.toNat := BitVec.toNat_udiv

theorem msb_64 (x : BitVec 64) : x.msb = decide (9223372036854775808 ≤ x.toNat) := by rw [BitVec.msb_eq_decide]
theorem sdivI_64_tt (x y : BitVec 64) (ha : 9223372036854775808 ≤ x.toNat) (hb : 9223372036854775808 ≤ y.toNat) (h0 : y.toNat ≠ 0) : (18446744073709551616 - (x.toNat : Int)) / (18446744073709551616 - (y.toNat : Int)) = ((x.sdiv y).toNat : Int) := by
  have hx := lt64 x
  have hy := lt64 y
  have h1 : x.msb = true := by rw [msb_64]; simp; omega
  have h2 : y.msb = true := by rw [msb_64]; simp; omega
  have hA : (((18446744073709551616 - x.toNat) : Nat) : Int) = (18446744073709551616 - (x.toNat : Int)) := by omega
  have hB : (((18446744073709551616 - y.toNat) : Nat) : Int) = (18446744073709551616 - (y.toNat : Int)) := by omega
  have e1 : (-x).toNat = (18446744073709551616 - x.toNat) := by rw [BitVec.toNat_neg]; omega
  have e2 : (-y).toNat = (18446744073709551616 - y.toNat) := by rw [BitVec.toNat_neg]; omega
  rw [← hA, ← hB, ← Int.natCast_ediv]
  rw [BitVec.sdiv_eq, h1, h2]
  simp only []
  rw [udiv_nat, e1, e2]
theorem sremI_64_tt (x y : BitVec 64) (ha : 9223372036854775808 ≤ x.toNat) (hb : 9223372036854775808 ≤ y.toNat) (h0 : y.toNat ≠ 0) : -((18446744073709551616 - (x.toNat : Int)) % (18446744073709551616 - (y.toNat : Int))) % 18446744073709551616 = ((x.srem y).toNat : Int) := by
  have hx := lt64 x
  have hy := lt64 y
  have h1 : x.msb = true := by rw [msb_64]; simp; omega
  have h2 : y.msb = true := by rw [msb_64]; simp; omega
  have hA : (((18446744073709551616 - x.toNat) : Nat) : Int) = (18446744073709551616 - (x.toNat : Int)) := by omega
  have hB : (((18446744073709551616 - y.toNat) : Nat) : Int) = (18446744073709551616 - (y.toNat : Int)) := by omega
  have e1 : (-x).toNat = (18446744073709551616 - x.toNat) := by rw [BitVec.toNat_neg]; omega
  have e2 : (-y).toNat = (18446744073709551616 - y.toNat) := by rw [BitVec.toNat_neg]; omega
  rw [← hA, ← hB, ← Int.natCast_emod]
  rw [BitVec.srem_eq, h1, h2]
  simp only []
  rw [BitVec.toNat_neg, BitVec.toNat_umod, e1, e2]
  have hle : (18446744073709551616 - x.toNat) % (18446744073709551616 - y.toNat) < (18446744073709551616 - y.toNat) := Nat.mod_lt _ (by omega)
  generalize (18446744073709551616 - x.toNat) % (18446744073709551616 - y.toNat) = q at hle ⊢
  omega
theorem sdivI_64_tf (x y : BitVec 64) (ha : 9223372036854775808 ≤ x.toNat) (hb : y.toNat < 9223372036854775808) (h0 : y.toNat ≠ 0) : -((18446744073709551616 - (x.toNat : Int)) / (y.toNat : Int)) % 18446744073709551616 = ((x.sdiv y).toNat : Int) := by
  have hx := lt64 x
  have hy := lt64 y
  have h1 : x.msb = true := by rw [msb_64]; simp; omega
  have h2 : y.msb = false := by rw [msb_64]; simp; omega
  have hA : (((18446744073709551616 - x.toNat) : Nat) : Int) = (18446744073709551616 - (x.toNat : Int)) := by omega
  have hB : ((y.toNat : Nat) : Int) = (y.toNat : Int) := by omega
  have e1 : (-x).toNat = (18446744073709551616 - x.toNat) := by rw [BitVec.toNat_neg]; omega
  rw [← hA, ← hB, ← Int.natCast_ediv]
  rw [BitVec.sdiv_eq, h1, h2]
  simp only []
  rw [BitVec.toNat_neg, udiv_nat, e1]
  have hle : (18446744073709551616 - x.toNat) / y.toNat ≤ (18446744073709551616 - x.toNat) := Nat.div_le_self _ _
  generalize (18446744073709551616 - x.toNat) / y.toNat = q at hle ⊢
  omega
theorem sremI_64_tf (x y : BitVec 64) (ha : 9223372036854775808 ≤ x.toNat) (hb : y.toNat < 9223372036854775808) (h0 : y.toNat ≠ 0) : -((18446744073709551616 - (x.toNat : Int)) % (y.toNat : Int)) % 18446744073709551616 = ((x.srem y).toNat : Int) := by
  have hx := lt64 x
  have hy := lt64 y
  have h1 : x.msb = true := by rw [msb_64]; simp; omega
  have h2 : y.msb = false := by rw [msb_64]; simp; omega
  have hA : (((18446744073709551616 - x.toNat) : Nat) : Int) = (18446744073709551616 - (x.toNat : Int)) := by omega
  have hB : ((y.toNat : Nat) : Int) = (y.toNat : Int) := by omega
  have e1 : (-x).toNat = (18446744073709551616 - x.toNat) := by rw [BitVec.toNat_neg]; omega
  rw [← hA, ← hB, ← Int.natCast_emod]
  rw [BitVec.srem_eq, h1, h2]
  simp only []
  rw [BitVec.toNat_neg, BitVec.toNat_umod, e1]
  have hle : (18446744073709551616 - x.toNat) % y.toNat < y.toNat := Nat.mod_lt _ (by omega)
  generalize (18446744073709551616 - x.toNat) % y.toNat = q at hle ⊢
  omega
theorem sdivI_64_ft (x y : BitVec 64) (ha : x.toNat < 9223372036854775808) (hb : 9223372036854775808 ≤ y.toNat) (h0 : y.toNat ≠ 0) : -((x.toNat : Int) / (18446744073709551616 - (y.toNat : Int))) % 18446744073709551616 = ((x.sdiv y).toNat : Int) := by
  have hx := lt64 x
  have hy := lt64 y
  have h1 : x.msb = false := by rw [msb_64]; simp; omega
  have h2 : y.msb = true := by rw [msb_64]; simp; omega
  have hA : ((x.toNat : Nat) : Int) = (x.toNat : Int) := by omega
  have hB : (((18446744073709551616 - y.toNat) : Nat) : Int) = (18446744073709551616 - (y.toNat : Int)) := by omega
  have e2 : (-y).toNat = (18446744073709551616 - y.toNat) := by rw [BitVec.toNat_neg]; omega
  rw [← hA, ← hB, ← Int.natCast_ediv]
  rw [BitVec.sdiv_eq, h1, h2]
  simp only []
  rw [BitVec.toNat_neg, udiv_nat, e2]
  have hle : x.toNat / (18446744073709551616 - y.toNat) ≤ x.toNat := Nat.div_le_self _ _
  generalize x.toNat / (18446744073709551616 - y.toNat) = q at hle ⊢
  omega
theorem sremI_64_ft (x y : BitVec 64) (ha : x.toNat < 9223372036854775808) (hb : 9223372036854775808 ≤ y.toNat) (h0 : y.toNat ≠ 0) : (x.toNat : Int) % (18446744073709551616 - (y.toNat : Int)) = ((x.srem y).toNat : Int) := by
  have hx := lt64 x
  have hy := lt64 y
  have h1 : x.msb = false := by rw [msb_64]; simp; omega
  have h2 : y.msb = true := by rw [msb_64]; simp; omega
  have hA : ((x.toNat : Nat) : Int) = (x.toNat : Int) := by omega
  have hB : (((18446744073709551616 - y.toNat) : Nat) : Int) = (18446744073709551616 - (y.toNat : Int)) := by omega
  have e2 : (-y).toNat = (18446744073709551616 - y.toNat) := by rw [BitVec.toNat_neg]; omega
  rw [← hA, ← hB, ← Int.natCast_emod]
  rw [BitVec.srem_eq, h1, h2]
  simp only []
  rw [BitVec.toNat_umod, e2]
theorem sdivI_64_ff (x y : BitVec 64) (ha : x.toNat < 9223372036854775808) (hb : y.toNat < 9223372036854775808) (h0 : y.toNat ≠ 0) : (x.toNat : Int) / (y.toNat : Int) = ((x.sdiv y).toNat : Int) := by
  have hx := lt64 x
  have hy := lt64 y
  have h1 : x.msb = false := by rw [msb_64]; simp; omega
  have h2 : y.msb = false := by rw [msb_64]; simp; omega
  have hA : ((x.toNat : Nat) : Int) = (x.toNat : Int) := by omega
  have hB : ((y.toNat : Nat) : Int) = (y.toNat : Int) := by omega
  rw [← hA, ← hB, ← Int.natCast_ediv]
  rw [BitVec.sdiv_eq, h1, h2]
  simp only []
  rw [udiv_nat]
theorem sremI_64_ff (x y : BitVec 64) (ha : x.toNat < 9223372036854775808) (hb : y.toNat < 9223372036854775808) (h0 : y.toNat ≠ 0) : (x.toNat : Int) % (y.toNat : Int) = ((x.srem y).toNat : Int) := by
  have hx := lt64 x
  have hy := lt64 y
  have h1 : x.msb = false := by rw [msb_64]; simp; omega
  have h2 : y.msb = false := by rw [msb_64]; simp; omega
  have hA : ((x.toNat : Nat) : Int) = (x.toNat : Int) := by omega
  have hB : ((y.toNat : Nat) : Int) = (y.toNat : Int) := by omega
  rw [← hA, ← hB, ← Int.natCast_emod]
  rw [BitVec.srem_eq, h1, h2]
  simp only []
  rw [BitVec.toNat_umod]

theorem quot_64 (x y : BitVec 64) (h0 : y.toNat ≠ 0) (w : World) : Calls Tryz.prog 34 #[.int .u64 x.toNat, .int .u64 y.toNat, .int .i64 64] w fun e w' => e = .returned (.int .u64 ((x.sdiv y).toNat : Int)) ∧ w = w' := by
  have hx := lt64 x
  have hy := lt64 y
  by_cases ha : 9223372036854775808 ≤ x.toNat
  · by_cases hb : 9223372036854775808 ≤ y.toNat
    · rw [← sdivI_64_tt x y ha hb h0]; exact quot_64_tt _ _ (by omega) (by omega) (by omega) (by omega) w
    · rw [← sdivI_64_tf x y ha (by omega) h0]; exact quot_64_tf _ _ (by omega) (by omega) (by omega) (by omega) w
  · by_cases hb : 9223372036854775808 ≤ y.toNat
    · rw [← sdivI_64_ft x y (by omega) hb h0]; exact quot_64_ft _ _ (by omega) (by omega) (by omega) (by omega) w
    · rw [← sdivI_64_ff x y (by omega) (by omega) h0]; exact quot_64_ff _ _ (by omega) (by omega) (by omega) (by omega) w

theorem rest_64 (x y : BitVec 64) (h0 : y.toNat ≠ 0) (w : World) : Calls Tryz.prog 35 #[.int .u64 x.toNat, .int .u64 y.toNat, .int .i64 64] w fun e w' => e = .returned (.int .u64 ((x.srem y).toNat : Int)) ∧ w = w' := by
  have hx := lt64 x
  have hy := lt64 y
  by_cases ha : 9223372036854775808 ≤ x.toNat
  · by_cases hb : 9223372036854775808 ≤ y.toNat
    · rw [← sremI_64_tt x y ha hb h0]; exact rest_64_tt _ _ (by omega) (by omega) (by omega) (by omega) w
    · rw [← sremI_64_tf x y ha (by omega) h0]; exact rest_64_tf _ _ (by omega) (by omega) (by omega) (by omega) w
  · by_cases hb : 9223372036854775808 ≤ y.toNat
    · rw [← sremI_64_ft x y (by omega) hb h0]; exact rest_64_ft _ _ (by omega) (by omega) (by omega) (by omega) w
    · rw [← sremI_64_ff x y (by omega) (by omega) h0]; exact rest_64_ff _ _ (by omega) (by omega) (by omega) (by omega) w

set_option maxHeartbeats 400000 in
theorem divided_64_48_0 (x y : BitVec 64) (w : World) : Calls Tryz.prog 22 #[.int .u8 48, .int .i16 0, .int .u64 x.toNat, .int .u64 y.toNat, .int .i64 64] w fun e w' => e = .returned (.int .u64 ((x / y).toNat : Int)) ∧ w = w' := by
  by_cases h0 : y.toNat = 0
  · have hy : y = 0#64 := BitVec.eq_of_toNat_eq (by rw [h0]; rfl)
    subst hy
    have hr : (x / 0#64) = (0#64) := BitVec.udiv_zero
    rw [hr]
    clear hr h0
    have hz : ((0#64).toNat : Int) = 0 := rfl
    rw [hz]
    go_enter Tryz.func22, Tryz.ntmps22
    go_wp2
    go_ret
    exact ⟨rfl, rfl⟩
  · have hx := lt64 x
    have hy := lt64 y
    have hr : (x.toNat : Int) / (y.toNat : Int) = ((x / y).toNat : Int) := by rw [BitVec.toNat_udiv, Int.natCast_ediv]
    obtain ⟨r, hr2⟩ : ∃ r : Int, ((x / y).toNat : Int) = r := ⟨_, rfl⟩
    rw [hr2] at hr ⊢
    clear hr2
    have HR := put_by' hr
    clear hr
    obtain ⟨a, ha⟩ : ∃ a : Int, (x.toNat : Int) = a := ⟨_, rfl⟩
    obtain ⟨b, hb⟩ : ∃ b : Int, (y.toNat : Int) = b := ⟨_, rfl⟩
    have g1 : 0 ≤ a := by omega
    have g2 : 1 ≤ b := by omega
    have g3 : a < 18446744073709551616 := by omega
    have g4 : (b == 0) = false := by simp; omega
    have g5 : a / b ≤ a := Int.ediv_le_self _ g1
    have g6 : 0 ≤ a / b := Int.ediv_nonneg g1 (by omega)
    rw [ha, hb] at HR ⊢
    clear ha hb hx hy h0
    go_enter Tryz.func22, Tryz.ntmps22
    go_wp2
    go_ret
    exact ⟨ret_i HR.out, rfl⟩

set_option maxHeartbeats 400000 in
theorem divided_64_48_1 (x y : BitVec 64) (w : World) : Calls Tryz.prog 22 #[.int .u8 48, .int .i16 1, .int .u64 x.toNat, .int .u64 y.toNat, .int .i64 64] w fun e w' => e = .returned (.int .u64 ((x.sdiv y).toNat : Int)) ∧ w = w' := by
  by_cases h0 : y.toNat = 0
  · have hy : y = 0#64 := BitVec.eq_of_toNat_eq (by rw [h0]; rfl)
    subst hy
    have hr : (x.sdiv 0#64) = (0#64) := BitVec.sdiv_zero
    rw [hr]
    clear hr h0
    have hz : ((0#64).toNat : Int) = 0 := rfl
    rw [hz]
    go_enter Tryz.func22, Tryz.ntmps22
    go_wp2
    go_ret
    exact ⟨rfl, rfl⟩
  · have hx := lt64 x
    have hy := lt64 y
    have HC := put_by' (quot_64 x y h0)
    have g4 : ((y.toNat : Int) == 0) = false := by simp; omega
    generalize ((x.sdiv y).toNat : Int) = r at HC ⊢
    generalize (x.toNat : Int) = a at HC ⊢
    generalize (y.toNat : Int) = b at HC g4 ⊢
    clear hx hy h0
    go_enter Tryz.func22, Tryz.ntmps22
    go_wp2_with (go_at_call 34; refine (HC.out _).mono ?_; rintro e w' ⟨rfl, rfl⟩)
    go_ret
    exact ⟨rfl, rfl⟩

set_option maxHeartbeats 400000 in
theorem divided_64_144_0 (x y : BitVec 64) (w : World) : Calls Tryz.prog 22 #[.int .u8 144, .int .i16 0, .int .u64 x.toNat, .int .u64 y.toNat, .int .i64 64] w fun e w' => e = .returned (.int .u64 ((x % y).toNat : Int)) ∧ w = w' := by
  by_cases h0 : y.toNat = 0
  · have hy : y = 0#64 := BitVec.eq_of_toNat_eq (by rw [h0]; rfl)
    subst hy
    have hr : (x % 0#64) = x := BitVec.umod_zero
    rw [hr]
    clear hr h0
    have hz : ((0#64).toNat : Int) = 0 := rfl
    rw [hz]
    go_enter Tryz.func22, Tryz.ntmps22
    go_wp2
    go_ret
    exact ⟨rfl, rfl⟩
  · have hx := lt64 x
    have hy := lt64 y
    have hr : (x.toNat : Int) % (y.toNat : Int) = ((x % y).toNat : Int) := by rw [BitVec.toNat_umod, Int.natCast_emod]
    obtain ⟨r, hr2⟩ : ∃ r : Int, ((x % y).toNat : Int) = r := ⟨_, rfl⟩
    rw [hr2] at hr ⊢
    clear hr2
    have HR := put_by' hr
    clear hr
    obtain ⟨a, ha⟩ : ∃ a : Int, (x.toNat : Int) = a := ⟨_, rfl⟩
    obtain ⟨b, hb⟩ : ∃ b : Int, (y.toNat : Int) = b := ⟨_, rfl⟩
    have g1 : 0 ≤ a := by omega
    have g2 : 1 ≤ b := by omega
    have g3 : a < 18446744073709551616 := by omega
    have g4 : (b == 0) = false := by simp; omega
    have g5 : a / b ≤ a := Int.ediv_le_self _ g1
    have g6 : 0 ≤ a / b := Int.ediv_nonneg g1 (by omega)
    rw [ha, hb] at HR ⊢
    clear ha hb hx hy h0
    go_enter Tryz.func22, Tryz.ntmps22
    go_wp2
    go_ret
    exact ⟨ret_i HR.out, rfl⟩

set_option maxHeartbeats 400000 in
theorem divided_64_144_1 (x y : BitVec 64) (w : World) : Calls Tryz.prog 22 #[.int .u8 144, .int .i16 1, .int .u64 x.toNat, .int .u64 y.toNat, .int .i64 64] w fun e w' => e = .returned (.int .u64 ((x.srem y).toNat : Int)) ∧ w = w' := by
  by_cases h0 : y.toNat = 0
  · have hy : y = 0#64 := BitVec.eq_of_toNat_eq (by rw [h0]; rfl)
    subst hy
    have hr : (x.srem 0#64) = x := BitVec.srem_zero
    rw [hr]
    clear hr h0
    have hz : ((0#64).toNat : Int) = 0 := rfl
    rw [hz]
    go_enter Tryz.func22, Tryz.ntmps22
    go_wp2
    go_ret
    exact ⟨rfl, rfl⟩
  · have hx := lt64 x
    have hy := lt64 y
    have HC := put_by' (rest_64 x y h0)
    have g4 : ((y.toNat : Int) == 0) = false := by simp; omega
    generalize ((x.srem y).toNat : Int) = r at HC ⊢
    generalize (x.toNat : Int) = a at HC ⊢
    generalize (y.toNat : Int) = b at HC g4 ⊢
    clear hx hy h0
    go_enter Tryz.func22, Tryz.ntmps22
    go_wp2_with (go_at_call 35; refine (HC.out _).mono ?_; rintro e w' ⟨rfl, rfl⟩)
    go_ret
    exact ⟨rfl, rfl⟩

theorem msb_32 (x : BitVec 32) : x.msb = decide (2147483648 ≤ x.toNat) := by rw [BitVec.msb_eq_decide]
theorem sdivI_32_tt (x y : BitVec 32) (ha : 2147483648 ≤ x.toNat) (hb : 2147483648 ≤ y.toNat) (h0 : y.toNat ≠ 0) : (4294967296 - (x.toNat : Int)) / (4294967296 - (y.toNat : Int)) = ((x.sdiv y).toNat : Int) := by
  have hx := lt32 x
  have hy := lt32 y
  have h1 : x.msb = true := by rw [msb_32]; simp; omega
  have h2 : y.msb = true := by rw [msb_32]; simp; omega
  have hA : (((4294967296 - x.toNat) : Nat) : Int) = (4294967296 - (x.toNat : Int)) := by omega
  have hB : (((4294967296 - y.toNat) : Nat) : Int) = (4294967296 - (y.toNat : Int)) := by omega
  have e1 : (-x).toNat = (4294967296 - x.toNat) := by rw [BitVec.toNat_neg]; omega
  have e2 : (-y).toNat = (4294967296 - y.toNat) := by rw [BitVec.toNat_neg]; omega
  rw [← hA, ← hB, ← Int.natCast_ediv]
  rw [BitVec.sdiv_eq, h1, h2]
  simp only []
  rw [udiv_nat, e1, e2]
theorem sremI_32_tt (x y : BitVec 32) (ha : 2147483648 ≤ x.toNat) (hb : 2147483648 ≤ y.toNat) (h0 : y.toNat ≠ 0) : -((4294967296 - (x.toNat : Int)) % (4294967296 - (y.toNat : Int))) % 4294967296 = ((x.srem y).toNat : Int) := by
  have hx := lt32 x
  have hy := lt32 y
  have h1 : x.msb = true := by rw [msb_32]; simp; omega
  have h2 : y.msb = true := by rw [msb_32]; simp; omega
  have hA : (((4294967296 - x.toNat) : Nat) : Int) = (4294967296 - (x.toNat : Int)) := by omega
  have hB : (((4294967296 - y.toNat) : Nat) : Int) = (4294967296 - (y.toNat : Int)) := by omega
  have e1 : (-x).toNat = (4294967296 - x.toNat) := by rw [BitVec.toNat_neg]; omega
  have e2 : (-y).toNat = (4294967296 - y.toNat) := by rw [BitVec.toNat_neg]; omega
  rw [← hA, ← hB, ← Int.natCast_emod]
  rw [BitVec.srem_eq, h1, h2]
  simp only []
  rw [BitVec.toNat_neg, BitVec.toNat_umod, e1, e2]
  have hle : (4294967296 - x.toNat) % (4294967296 - y.toNat) < (4294967296 - y.toNat) := Nat.mod_lt _ (by omega)
  generalize (4294967296 - x.toNat) % (4294967296 - y.toNat) = q at hle ⊢
  omega
theorem sdivI_32_tf (x y : BitVec 32) (ha : 2147483648 ≤ x.toNat) (hb : y.toNat < 2147483648) (h0 : y.toNat ≠ 0) : -((4294967296 - (x.toNat : Int)) / (y.toNat : Int)) % 4294967296 = ((x.sdiv y).toNat : Int) := by
  have hx := lt32 x
  have hy := lt32 y
  have h1 : x.msb = true := by rw [msb_32]; simp; omega
  have h2 : y.msb = false := by rw [msb_32]; simp; omega
  have hA : (((4294967296 - x.toNat) : Nat) : Int) = (4294967296 - (x.toNat : Int)) := by omega
  have hB : ((y.toNat : Nat) : Int) = (y.toNat : Int) := by omega
  have e1 : (-x).toNat = (4294967296 - x.toNat) := by rw [BitVec.toNat_neg]; omega
  rw [← hA, ← hB, ← Int.natCast_ediv]
  rw [BitVec.sdiv_eq, h1, h2]
  simp only []
  rw [BitVec.toNat_neg, udiv_nat, e1]
  have hle : (4294967296 - x.toNat) / y.toNat ≤ (4294967296 - x.toNat) := Nat.div_le_self _ _
  generalize (4294967296 - x.toNat) / y.toNat = q at hle ⊢
  omega
theorem sremI_32_tf (x y : BitVec 32) (ha : 2147483648 ≤ x.toNat) (hb : y.toNat < 2147483648) (h0 : y.toNat ≠ 0) : -((4294967296 - (x.toNat : Int)) % (y.toNat : Int)) % 4294967296 = ((x.srem y).toNat : Int) := by
  have hx := lt32 x
  have hy := lt32 y
  have h1 : x.msb = true := by rw [msb_32]; simp; omega
  have h2 : y.msb = false := by rw [msb_32]; simp; omega
  have hA : (((4294967296 - x.toNat) : Nat) : Int) = (4294967296 - (x.toNat : Int)) := by omega
  have hB : ((y.toNat : Nat) : Int) = (y.toNat : Int) := by omega
  have e1 : (-x).toNat = (4294967296 - x.toNat) := by rw [BitVec.toNat_neg]; omega
  rw [← hA, ← hB, ← Int.natCast_emod]
  rw [BitVec.srem_eq, h1, h2]
  simp only []
  rw [BitVec.toNat_neg, BitVec.toNat_umod, e1]
  have hle : (4294967296 - x.toNat) % y.toNat < y.toNat := Nat.mod_lt _ (by omega)
  generalize (4294967296 - x.toNat) % y.toNat = q at hle ⊢
  omega
theorem sdivI_32_ft (x y : BitVec 32) (ha : x.toNat < 2147483648) (hb : 2147483648 ≤ y.toNat) (h0 : y.toNat ≠ 0) : -((x.toNat : Int) / (4294967296 - (y.toNat : Int))) % 4294967296 = ((x.sdiv y).toNat : Int) := by
  have hx := lt32 x
  have hy := lt32 y
  have h1 : x.msb = false := by rw [msb_32]; simp; omega
  have h2 : y.msb = true := by rw [msb_32]; simp; omega
  have hA : ((x.toNat : Nat) : Int) = (x.toNat : Int) := by omega
  have hB : (((4294967296 - y.toNat) : Nat) : Int) = (4294967296 - (y.toNat : Int)) := by omega
  have e2 : (-y).toNat = (4294967296 - y.toNat) := by rw [BitVec.toNat_neg]; omega
  rw [← hA, ← hB, ← Int.natCast_ediv]
  rw [BitVec.sdiv_eq, h1, h2]
  simp only []
  rw [BitVec.toNat_neg, udiv_nat, e2]
  have hle : x.toNat / (4294967296 - y.toNat) ≤ x.toNat := Nat.div_le_self _ _
  generalize x.toNat / (4294967296 - y.toNat) = q at hle ⊢
  omega
theorem sremI_32_ft (x y : BitVec 32) (ha : x.toNat < 2147483648) (hb : 2147483648 ≤ y.toNat) (h0 : y.toNat ≠ 0) : (x.toNat : Int) % (4294967296 - (y.toNat : Int)) = ((x.srem y).toNat : Int) := by
  have hx := lt32 x
  have hy := lt32 y
  have h1 : x.msb = false := by rw [msb_32]; simp; omega
  have h2 : y.msb = true := by rw [msb_32]; simp; omega
  have hA : ((x.toNat : Nat) : Int) = (x.toNat : Int) := by omega
  have hB : (((4294967296 - y.toNat) : Nat) : Int) = (4294967296 - (y.toNat : Int)) := by omega
  have e2 : (-y).toNat = (4294967296 - y.toNat) := by rw [BitVec.toNat_neg]; omega
  rw [← hA, ← hB, ← Int.natCast_emod]
  rw [BitVec.srem_eq, h1, h2]
  simp only []
  rw [BitVec.toNat_umod, e2]
theorem sdivI_32_ff (x y : BitVec 32) (ha : x.toNat < 2147483648) (hb : y.toNat < 2147483648) (h0 : y.toNat ≠ 0) : (x.toNat : Int) / (y.toNat : Int) = ((x.sdiv y).toNat : Int) := by
  have hx := lt32 x
  have hy := lt32 y
  have h1 : x.msb = false := by rw [msb_32]; simp; omega
  have h2 : y.msb = false := by rw [msb_32]; simp; omega
  have hA : ((x.toNat : Nat) : Int) = (x.toNat : Int) := by omega
  have hB : ((y.toNat : Nat) : Int) = (y.toNat : Int) := by omega
  rw [← hA, ← hB, ← Int.natCast_ediv]
  rw [BitVec.sdiv_eq, h1, h2]
  simp only []
  rw [udiv_nat]
theorem sremI_32_ff (x y : BitVec 32) (ha : x.toNat < 2147483648) (hb : y.toNat < 2147483648) (h0 : y.toNat ≠ 0) : (x.toNat : Int) % (y.toNat : Int) = ((x.srem y).toNat : Int) := by
  have hx := lt32 x
  have hy := lt32 y
  have h1 : x.msb = false := by rw [msb_32]; simp; omega
  have h2 : y.msb = false := by rw [msb_32]; simp; omega
  have hA : ((x.toNat : Nat) : Int) = (x.toNat : Int) := by omega
  have hB : ((y.toNat : Nat) : Int) = (y.toNat : Int) := by omega
  rw [← hA, ← hB, ← Int.natCast_emod]
  rw [BitVec.srem_eq, h1, h2]
  simp only []
  rw [BitVec.toNat_umod]

theorem quot_32 (x y : BitVec 32) (h0 : y.toNat ≠ 0) (w : World) : Calls Tryz.prog 34 #[.int .u64 x.toNat, .int .u64 y.toNat, .int .i64 32] w fun e w' => e = .returned (.int .u64 ((x.sdiv y).toNat : Int)) ∧ w = w' := by
  have hx := lt32 x
  have hy := lt32 y
  by_cases ha : 2147483648 ≤ x.toNat
  · by_cases hb : 2147483648 ≤ y.toNat
    · rw [← sdivI_32_tt x y ha hb h0]; exact quot_32_tt _ _ (by omega) (by omega) (by omega) (by omega) w
    · rw [← sdivI_32_tf x y ha (by omega) h0]; exact quot_32_tf _ _ (by omega) (by omega) (by omega) (by omega) w
  · by_cases hb : 2147483648 ≤ y.toNat
    · rw [← sdivI_32_ft x y (by omega) hb h0]; exact quot_32_ft _ _ (by omega) (by omega) (by omega) (by omega) w
    · rw [← sdivI_32_ff x y (by omega) (by omega) h0]; exact quot_32_ff _ _ (by omega) (by omega) (by omega) (by omega) w

theorem rest_32 (x y : BitVec 32) (h0 : y.toNat ≠ 0) (w : World) : Calls Tryz.prog 35 #[.int .u64 x.toNat, .int .u64 y.toNat, .int .i64 32] w fun e w' => e = .returned (.int .u64 ((x.srem y).toNat : Int)) ∧ w = w' := by
  have hx := lt32 x
  have hy := lt32 y
  by_cases ha : 2147483648 ≤ x.toNat
  · by_cases hb : 2147483648 ≤ y.toNat
    · rw [← sremI_32_tt x y ha hb h0]; exact rest_32_tt _ _ (by omega) (by omega) (by omega) (by omega) w
    · rw [← sremI_32_tf x y ha (by omega) h0]; exact rest_32_tf _ _ (by omega) (by omega) (by omega) (by omega) w
  · by_cases hb : 2147483648 ≤ y.toNat
    · rw [← sremI_32_ft x y (by omega) hb h0]; exact rest_32_ft _ _ (by omega) (by omega) (by omega) (by omega) w
    · rw [← sremI_32_ff x y (by omega) (by omega) h0]; exact rest_32_ff _ _ (by omega) (by omega) (by omega) (by omega) w

set_option maxHeartbeats 400000 in
theorem divided_32_48_0 (x y : BitVec 32) (w : World) : Calls Tryz.prog 22 #[.int .u8 48, .int .i16 0, .int .u64 x.toNat, .int .u64 y.toNat, .int .i64 32] w fun e w' => e = .returned (.int .u64 ((x / y).toNat : Int)) ∧ w = w' := by
  by_cases h0 : y.toNat = 0
  · have hy : y = 0#32 := BitVec.eq_of_toNat_eq (by rw [h0]; rfl)
    subst hy
    have hr : (x / 0#32) = (0#32) := BitVec.udiv_zero
    rw [hr]
    clear hr h0
    have hz : ((0#32).toNat : Int) = 0 := rfl
    rw [hz]
    go_enter Tryz.func22, Tryz.ntmps22
    go_wp2
    go_ret
    exact ⟨rfl, rfl⟩
  · have hx := lt32 x
    have hy := lt32 y
    have hr : (x.toNat : Int) / (y.toNat : Int) = ((x / y).toNat : Int) := by rw [BitVec.toNat_udiv, Int.natCast_ediv]
    obtain ⟨r, hr2⟩ : ∃ r : Int, ((x / y).toNat : Int) = r := ⟨_, rfl⟩
    rw [hr2] at hr ⊢
    clear hr2
    have HR := put_by' hr
    clear hr
    obtain ⟨a, ha⟩ : ∃ a : Int, (x.toNat : Int) = a := ⟨_, rfl⟩
    obtain ⟨b, hb⟩ : ∃ b : Int, (y.toNat : Int) = b := ⟨_, rfl⟩
    have g1 : 0 ≤ a := by omega
    have g2 : 1 ≤ b := by omega
    have g3 : a < 18446744073709551616 := by omega
    have g4 : (b == 0) = false := by simp; omega
    have g5 : a / b ≤ a := Int.ediv_le_self _ g1
    have g6 : 0 ≤ a / b := Int.ediv_nonneg g1 (by omega)
    rw [ha, hb] at HR ⊢
    clear ha hb hx hy h0
    go_enter Tryz.func22, Tryz.ntmps22
    go_wp2
    go_ret
    exact ⟨ret_i HR.out, rfl⟩

set_option maxHeartbeats 400000 in
theorem divided_32_48_1 (x y : BitVec 32) (w : World) : Calls Tryz.prog 22 #[.int .u8 48, .int .i16 1, .int .u64 x.toNat, .int .u64 y.toNat, .int .i64 32] w fun e w' => e = .returned (.int .u64 ((x.sdiv y).toNat : Int)) ∧ w = w' := by
  by_cases h0 : y.toNat = 0
  · have hy : y = 0#32 := BitVec.eq_of_toNat_eq (by rw [h0]; rfl)
    subst hy
    have hr : (x.sdiv 0#32) = (0#32) := BitVec.sdiv_zero
    rw [hr]
    clear hr h0
    have hz : ((0#32).toNat : Int) = 0 := rfl
    rw [hz]
    go_enter Tryz.func22, Tryz.ntmps22
    go_wp2
    go_ret
    exact ⟨rfl, rfl⟩
  · have hx := lt32 x
    have hy := lt32 y
    have HC := put_by' (quot_32 x y h0)
    have g4 : ((y.toNat : Int) == 0) = false := by simp; omega
    generalize ((x.sdiv y).toNat : Int) = r at HC ⊢
    generalize (x.toNat : Int) = a at HC ⊢
    generalize (y.toNat : Int) = b at HC g4 ⊢
    clear hx hy h0
    go_enter Tryz.func22, Tryz.ntmps22
    go_wp2_with (go_at_call 34; refine (HC.out _).mono ?_; rintro e w' ⟨rfl, rfl⟩)
    go_ret
    exact ⟨rfl, rfl⟩

set_option maxHeartbeats 400000 in
theorem divided_32_144_0 (x y : BitVec 32) (w : World) : Calls Tryz.prog 22 #[.int .u8 144, .int .i16 0, .int .u64 x.toNat, .int .u64 y.toNat, .int .i64 32] w fun e w' => e = .returned (.int .u64 ((x % y).toNat : Int)) ∧ w = w' := by
  by_cases h0 : y.toNat = 0
  · have hy : y = 0#32 := BitVec.eq_of_toNat_eq (by rw [h0]; rfl)
    subst hy
    have hr : (x % 0#32) = x := BitVec.umod_zero
    rw [hr]
    clear hr h0
    have hz : ((0#32).toNat : Int) = 0 := rfl
    rw [hz]
    go_enter Tryz.func22, Tryz.ntmps22
    go_wp2
    go_ret
    exact ⟨rfl, rfl⟩
  · have hx := lt32 x
    have hy := lt32 y
    have hr : (x.toNat : Int) % (y.toNat : Int) = ((x % y).toNat : Int) := by rw [BitVec.toNat_umod, Int.natCast_emod]
    obtain ⟨r, hr2⟩ : ∃ r : Int, ((x % y).toNat : Int) = r := ⟨_, rfl⟩
    rw [hr2] at hr ⊢
    clear hr2
    have HR := put_by' hr
    clear hr
    obtain ⟨a, ha⟩ : ∃ a : Int, (x.toNat : Int) = a := ⟨_, rfl⟩
    obtain ⟨b, hb⟩ : ∃ b : Int, (y.toNat : Int) = b := ⟨_, rfl⟩
    have g1 : 0 ≤ a := by omega
    have g2 : 1 ≤ b := by omega
    have g3 : a < 18446744073709551616 := by omega
    have g4 : (b == 0) = false := by simp; omega
    have g5 : a / b ≤ a := Int.ediv_le_self _ g1
    have g6 : 0 ≤ a / b := Int.ediv_nonneg g1 (by omega)
    rw [ha, hb] at HR ⊢
    clear ha hb hx hy h0
    go_enter Tryz.func22, Tryz.ntmps22
    go_wp2
    go_ret
    exact ⟨ret_i HR.out, rfl⟩

set_option maxHeartbeats 400000 in
theorem divided_32_144_1 (x y : BitVec 32) (w : World) : Calls Tryz.prog 22 #[.int .u8 144, .int .i16 1, .int .u64 x.toNat, .int .u64 y.toNat, .int .i64 32] w fun e w' => e = .returned (.int .u64 ((x.srem y).toNat : Int)) ∧ w = w' := by
  by_cases h0 : y.toNat = 0
  · have hy : y = 0#32 := BitVec.eq_of_toNat_eq (by rw [h0]; rfl)
    subst hy
    have hr : (x.srem 0#32) = x := BitVec.srem_zero
    rw [hr]
    clear hr h0
    have hz : ((0#32).toNat : Int) = 0 := rfl
    rw [hz]
    go_enter Tryz.func22, Tryz.ntmps22
    go_wp2
    go_ret
    exact ⟨rfl, rfl⟩
  · have hx := lt32 x
    have hy := lt32 y
    have HC := put_by' (rest_32 x y h0)
    have g4 : ((y.toNat : Int) == 0) = false := by simp; omega
    generalize ((x.srem y).toNat : Int) = r at HC ⊢
    generalize (x.toNat : Int) = a at HC ⊢
    generalize (y.toNat : Int) = b at HC g4 ⊢
    clear hx hy h0
    go_enter Tryz.func22, Tryz.ntmps22
    go_wp2_with (go_at_call 35; refine (HC.out _).mono ?_; rintro e w' ⟨rfl, rfl⟩)
    go_ret
    exact ⟨rfl, rfl⟩
end Go.Proofs.YtmlkbpmchcdldaaGreat
