/-
  The document's own answers to 'Swap' and 'Extend' are what is told.
-/
import Derived.Test.YtmlkbpmchcdldaaGreatRef6
import Derived.Test.YtmlkbpmchcdldaaGreatSwM
namespace Go.Proofs.YtmlkbpmchcdldaaGreat
open Go.RowKit Go.Maps
set_option linter.unusedVariables false

theorem lowest_nat (k : Nat) (hk : k ≤ 64) (x : BitVec 64) : (lowest k x).toNat = x.toNat % 2 ^ k := by
  have h : lowest k x = (x.setWidth k).setWidth 64 := by
    apply BitVec.eq_of_getLsbD_eq
    intro i hi
    rw [lowest_bits k hk _ _ hi, BitVec.getLsbD_setWidth, BitVec.getLsbD_setWidth]
    simp [hi]
  rw [h, BitVec.toNat_setWidth, BitVec.toNat_setWidth]
  have h2 : x.toNat % 2 ^ k < 2 ^ 64 := Nat.lt_of_le_of_lt (Nat.mod_le _ _) x.isLt
  exact Nat.mod_eq_of_lt h2
theorem widened_eq (k : Nat) (h0 : 0 < k) (hk : k ≤ 64) (x : BitVec 64) : (x.setWidth k).signExtend 64 = widened k x := by
  apply BitVec.eq_of_getLsbD_eq
  intro i hi
  unfold widened
  rw [BitVec.getLsbD_signExtend, BitVec.getLsbD_sshiftRight, BitVec.getLsbD_shiftLeft, BitVec.getLsbD_setWidth, BitVec.msb_eq_getLsbD_last, BitVec.msb_eq_getLsbD_last, BitVec.getLsbD_setWidth, BitVec.getLsbD_shiftLeft]
  have e1 : 64 - 1 - (64 - k) = k - 1 := by omega
  have e2 : ¬ (64 - 1 < 64 - k) := by omega
  have e3 : k - 1 < k := by omega
  by_cases h : i < k
  · have h1 : 64 - k + i < 64 := by omega
    have h2 : ¬ (64 ≤ i) := by omega
    have h5 : ¬ (64 - k + i < 64 - k) := by omega
    simp [h, h1, hi, h2, h5]
  · have h1 : ¬ (64 - k + i < 64) := by omega
    simp [h, h1, hi, e1, e2, e3]

/-- Bytes laid the other way round, one by one. -/
def turned (x : BitVec 64) : Nat → BitVec 64
  | 0 => 0#64
  | j + 1 => (turned x j <<< 8) ||| ((x >>> (8 * j)) &&& 255#64)
theorem m255 : ∀ i, i < 64 → (255#64).getLsbD i = decide (i < 8) := by decide
theorem turned_bits (x : BitVec 64) : ∀ j, j ≤ 8 → ∀ i, i < 64 → (turned x j).getLsbD i = (decide (i < 8 * j) && x.getLsbD (8 * (j - 1 - i / 8) + i % 8)) := by
  intro j
  induction j with
  | zero => intro _ i hi; simp [turned]
  | succ j ih =>
    intro hj i hi
    unfold turned
    rw [BitVec.getLsbD_or, BitVec.getLsbD_shiftLeft, BitVec.getLsbD_and, BitVec.getLsbD_ushiftRight, m255 _ hi]
    by_cases h8 : i < 8
    · have h1 : i < 8 * (j + 1) := by omega
      have h2 : 8 * (j + 1 - 1 - i / 8) + i % 8 = 8 * j + i := by omega
      rw [h2]
      simp [h8, h1]
    · rw [ih (by omega) (i - 8) (by omega)]
      have h2 : 8 * (j - 1 - (i - 8) / 8) + (i - 8) % 8 = 8 * (j + 1 - 1 - i / 8) + i % 8 := by omega
      rw [h2]
      by_cases h : i - 8 < 8 * j
      · have h1 : i < 8 * (j + 1) := by omega
        simp [h8, h, h1, hi]
      · have h1 : ¬ i < 8 * (j + 1) := by omega
        simp [h8, h, h1]
theorem turned_all (j : Nat) (hj : j ≤ 8) (x : BitVec 64) : turned (lowest (8 * j) x) j = reversed (8 * j) x := by
  apply BitVec.eq_of_getLsbD_eq
  intro i hi
  rw [turned_bits _ j hj i hi, reversed_bits (8 * j) (by omega) x i hi]
  by_cases h : i < 8 * j
  · rw [lowest_bits (8 * j) (by omega) x _ (by omega)]
    have h1 : 8 * (j - 1 - i / 8) + i % 8 < 8 * j := by omega
    have h2 : 8 * (j - 1 - i / 8) + i % 8 = 8 * (7 - (64 - 8 * j + i) / 8) + (64 - 8 * j + i) % 8 := by omega
    rw [← h2]
    simp [h, h1]
  · simp [h]
theorem turn_step (x : BitVec 64) (j : Nat) : bits .or .u64 (IntKind.u64.wrap (((turned x j).toNat : Int) * 256)) (bits .and .u64 ((x.toNat : Int) / 2 ^ (8 * j)) 255) = ((turned x (j + 1)).toNat : Int) := by
  have e1 := shl_n (turned x j) 8
  have e2 := and64 (x >>> (8 * j)) 255#64
  rw [show (2 : Int) ^ 8 = 256 from rfl] at e1
  rw [show ((255#64).toNat : Int) = 255 from rfl] at e2
  rw [shr_n, e1, e2, or64]
  rfl

theorem cutn_16 (x : BitVec 64) (w : World) : Calls Tryz.prog 20 #[.int .u64 x.toNat, .int .i64 16] w fun e w' => e = .returned (.int .u64 ((lowest 16 x).toNat : Int)) ∧ w = w' := by
  have := cut_16 x.toNat (by omega) w
  have h := lowest_nat 16 (by decide) x
  rw [show (2 : Nat) ^ 16 = 65536 from rfl] at h
  rw [h]
  rw [Int.natCast_emod]; exact this
set_option maxHeartbeats 400000 in
theorem rswap0_16 (x : BitVec 64) (w : World) : Calls Tryz.prog 12 #[.int .i64 0, .int .i64 16, .int .u64 x.toNat] w fun e w' => e = .returned (.tuple #[.int .u64 (lowest 16 x).toNat, .bool true]) ∧ w = w' := by
  have HC := put_by' (cutn_16 x)
  generalize lowest 16 x = r at HC ⊢
  go_enter Tryz.func12, Tryz.ntmps12
  go_wp2_with (go_at_call 20; refine (HC.out _).mono ?_; rintro e w' ⟨rfl, rfl⟩)
  go_ret2
  exact ⟨rfl, rfl⟩
set_option maxHeartbeats 400000 in
theorem rswap1_16 (x : BitVec 64) (w : World) : Calls Tryz.prog 12 #[.int .i64 1, .int .i64 16, .int .u64 x.toNat] w fun e w' => e = .returned (.tuple #[.int .u64 (reversed 16 x).toNat, .bool true]) ∧ w = w' := by
  have HC := put_by' (cutn_16 x)
  have HR := put_by' (turned_all 2 (by decide) x)
  rw [show 8 * 2 = 16 from rfl] at HR
  generalize reversed 16 x = r at HR ⊢
  generalize lowest 16 x = z at HC HR
  go_enter Tryz.func12, Tryz.ntmps12
  go_wp2_with (go_at_call 20; refine (HC.out _).mono ?_; rintro e w' ⟨rfl, rfl⟩)
  go_loop [9, 10] (fun o i => ∃ j : Nat, j ≤ 2 ∧ i = .int .i64 (8 * j : Nat) ∧ o = .int .u64 ((turned z j).toNat : Int)) (fun _ i => 64 - (intOf i).toNat)
  case atStart => exact ⟨0, by omega, rfl, rfl⟩
  case round =>
    obtain ⟨j, hj, rfl, rfl⟩ := hrel
    by_cases hlt : j < 2
    · have hs := put_by' (turn_step z j)
      go_wp2
      go_round
      case rel => exact ⟨j + 1, by omega, by first | rfl | go_num | (congr 1; omega), by rw [← hs.out]; first | rfl | (congr 2; done) | skip⟩
      case measure => simp [intOf]; omega
    · obtain rfl : j = 2 := by omega
      go_wp2
      go_ret2
      exact ⟨ret_t (by rw [← HR.out]), rfl⟩
set_option maxHeartbeats 400000 in
theorem rswap2_16 (x : BitVec 64) (w : World) : Calls Tryz.prog 12 #[.int .i64 2, .int .i64 16, .int .u64 x.toNat] w fun e w' => e = .returned (.tuple #[.int .u64 (reversed 16 x).toNat, .bool true]) ∧ w = w' := by
  have HC := put_by' (cutn_16 x)
  have HR := put_by' (turned_all 2 (by decide) x)
  rw [show 8 * 2 = 16 from rfl] at HR
  generalize reversed 16 x = r at HR ⊢
  generalize lowest 16 x = z at HC HR
  go_enter Tryz.func12, Tryz.ntmps12
  go_wp2_with (go_at_call 20; refine (HC.out _).mono ?_; rintro e w' ⟨rfl, rfl⟩)
  go_loop [9, 10] (fun o i => ∃ j : Nat, j ≤ 2 ∧ i = .int .i64 (8 * j : Nat) ∧ o = .int .u64 ((turned z j).toNat : Int)) (fun _ i => 64 - (intOf i).toNat)
  case atStart => exact ⟨0, by omega, rfl, rfl⟩
  case round =>
    obtain ⟨j, hj, rfl, rfl⟩ := hrel
    by_cases hlt : j < 2
    · have hs := put_by' (turn_step z j)
      go_wp2
      go_round
      case rel => exact ⟨j + 1, by omega, by first | rfl | go_num | (congr 1; omega), by rw [← hs.out]; first | rfl | (congr 2; done) | skip⟩
      case measure => simp [intOf]; omega
    · obtain rfl : j = 2 := by omega
      go_wp2
      go_ret2
      exact ⟨ret_t (by rw [← HR.out]), rfl⟩

theorem cutn_32 (x : BitVec 64) (w : World) : Calls Tryz.prog 20 #[.int .u64 x.toNat, .int .i64 32] w fun e w' => e = .returned (.int .u64 ((lowest 32 x).toNat : Int)) ∧ w = w' := by
  have := cut_32 x.toNat (by omega) w
  have h := lowest_nat 32 (by decide) x
  rw [show (2 : Nat) ^ 32 = 4294967296 from rfl] at h
  rw [h]
  rw [Int.natCast_emod]; exact this
set_option maxHeartbeats 400000 in
theorem rswap0_32 (x : BitVec 64) (w : World) : Calls Tryz.prog 12 #[.int .i64 0, .int .i64 32, .int .u64 x.toNat] w fun e w' => e = .returned (.tuple #[.int .u64 (lowest 32 x).toNat, .bool true]) ∧ w = w' := by
  have HC := put_by' (cutn_32 x)
  generalize lowest 32 x = r at HC ⊢
  go_enter Tryz.func12, Tryz.ntmps12
  go_wp2_with (go_at_call 20; refine (HC.out _).mono ?_; rintro e w' ⟨rfl, rfl⟩)
  go_ret2
  exact ⟨rfl, rfl⟩
set_option maxHeartbeats 400000 in
theorem rswap1_32 (x : BitVec 64) (w : World) : Calls Tryz.prog 12 #[.int .i64 1, .int .i64 32, .int .u64 x.toNat] w fun e w' => e = .returned (.tuple #[.int .u64 (reversed 32 x).toNat, .bool true]) ∧ w = w' := by
  have HC := put_by' (cutn_32 x)
  have HR := put_by' (turned_all 4 (by decide) x)
  rw [show 8 * 4 = 32 from rfl] at HR
  generalize reversed 32 x = r at HR ⊢
  generalize lowest 32 x = z at HC HR
  go_enter Tryz.func12, Tryz.ntmps12
  go_wp2_with (go_at_call 20; refine (HC.out _).mono ?_; rintro e w' ⟨rfl, rfl⟩)
  go_loop [9, 10] (fun o i => ∃ j : Nat, j ≤ 4 ∧ i = .int .i64 (8 * j : Nat) ∧ o = .int .u64 ((turned z j).toNat : Int)) (fun _ i => 64 - (intOf i).toNat)
  case atStart => exact ⟨0, by omega, rfl, rfl⟩
  case round =>
    obtain ⟨j, hj, rfl, rfl⟩ := hrel
    by_cases hlt : j < 4
    · have hs := put_by' (turn_step z j)
      go_wp2
      go_round
      case rel => exact ⟨j + 1, by omega, by first | rfl | go_num | (congr 1; omega), by rw [← hs.out]; first | rfl | (congr 2; done) | skip⟩
      case measure => simp [intOf]; omega
    · obtain rfl : j = 4 := by omega
      go_wp2
      go_ret2
      exact ⟨ret_t (by rw [← HR.out]), rfl⟩
set_option maxHeartbeats 400000 in
theorem rswap2_32 (x : BitVec 64) (w : World) : Calls Tryz.prog 12 #[.int .i64 2, .int .i64 32, .int .u64 x.toNat] w fun e w' => e = .returned (.tuple #[.int .u64 (reversed 32 x).toNat, .bool true]) ∧ w = w' := by
  have HC := put_by' (cutn_32 x)
  have HR := put_by' (turned_all 4 (by decide) x)
  rw [show 8 * 4 = 32 from rfl] at HR
  generalize reversed 32 x = r at HR ⊢
  generalize lowest 32 x = z at HC HR
  go_enter Tryz.func12, Tryz.ntmps12
  go_wp2_with (go_at_call 20; refine (HC.out _).mono ?_; rintro e w' ⟨rfl, rfl⟩)
  go_loop [9, 10] (fun o i => ∃ j : Nat, j ≤ 4 ∧ i = .int .i64 (8 * j : Nat) ∧ o = .int .u64 ((turned z j).toNat : Int)) (fun _ i => 64 - (intOf i).toNat)
  case atStart => exact ⟨0, by omega, rfl, rfl⟩
  case round =>
    obtain ⟨j, hj, rfl, rfl⟩ := hrel
    by_cases hlt : j < 4
    · have hs := put_by' (turn_step z j)
      go_wp2
      go_round
      case rel => exact ⟨j + 1, by omega, by first | rfl | go_num | (congr 1; omega), by rw [← hs.out]; first | rfl | (congr 2; done) | skip⟩
      case measure => simp [intOf]; omega
    · obtain rfl : j = 4 := by omega
      go_wp2
      go_ret2
      exact ⟨ret_t (by rw [← HR.out]), rfl⟩

theorem cutn_64 (x : BitVec 64) (w : World) : Calls Tryz.prog 20 #[.int .u64 x.toNat, .int .i64 64] w fun e w' => e = .returned (.int .u64 ((lowest 64 x).toNat : Int)) ∧ w = w' := by
  have := cut_64 x.toNat (by omega) w
  have h := lowest_nat 64 (by decide) x
  rw [Nat.mod_eq_of_lt x.isLt] at h
  rw [h]
  exact this
set_option maxHeartbeats 400000 in
theorem rswap0_64 (x : BitVec 64) (w : World) : Calls Tryz.prog 12 #[.int .i64 0, .int .i64 64, .int .u64 x.toNat] w fun e w' => e = .returned (.tuple #[.int .u64 (lowest 64 x).toNat, .bool true]) ∧ w = w' := by
  have HC := put_by' (cutn_64 x)
  generalize lowest 64 x = r at HC ⊢
  go_enter Tryz.func12, Tryz.ntmps12
  go_wp2_with (go_at_call 20; refine (HC.out _).mono ?_; rintro e w' ⟨rfl, rfl⟩)
  go_ret2
  exact ⟨rfl, rfl⟩
set_option maxHeartbeats 400000 in
theorem rswap1_64 (x : BitVec 64) (w : World) : Calls Tryz.prog 12 #[.int .i64 1, .int .i64 64, .int .u64 x.toNat] w fun e w' => e = .returned (.tuple #[.int .u64 (reversed 64 x).toNat, .bool true]) ∧ w = w' := by
  have HC := put_by' (cutn_64 x)
  have HR := put_by' (turned_all 8 (by decide) x)
  rw [show 8 * 8 = 64 from rfl] at HR
  generalize reversed 64 x = r at HR ⊢
  generalize lowest 64 x = z at HC HR
  go_enter Tryz.func12, Tryz.ntmps12
  go_wp2_with (go_at_call 20; refine (HC.out _).mono ?_; rintro e w' ⟨rfl, rfl⟩)
  go_loop [9, 10] (fun o i => ∃ j : Nat, j ≤ 8 ∧ i = .int .i64 (8 * j : Nat) ∧ o = .int .u64 ((turned z j).toNat : Int)) (fun _ i => 64 - (intOf i).toNat)
  case atStart => exact ⟨0, by omega, rfl, rfl⟩
  case round =>
    obtain ⟨j, hj, rfl, rfl⟩ := hrel
    by_cases hlt : j < 8
    · have hs := put_by' (turn_step z j)
      go_wp2
      go_round
      case rel => exact ⟨j + 1, by omega, by first | rfl | go_num | (congr 1; omega), by rw [← hs.out]; first | rfl | (congr 2; done) | skip⟩
      case measure => simp [intOf]; omega
    · obtain rfl : j = 8 := by omega
      go_wp2
      go_ret2
      exact ⟨ret_t (by rw [← HR.out]), rfl⟩
set_option maxHeartbeats 400000 in
theorem rswap2_64 (x : BitVec 64) (w : World) : Calls Tryz.prog 12 #[.int .i64 2, .int .i64 64, .int .u64 x.toNat] w fun e w' => e = .returned (.tuple #[.int .u64 (reversed 64 x).toNat, .bool true]) ∧ w = w' := by
  have HC := put_by' (cutn_64 x)
  have HR := put_by' (turned_all 8 (by decide) x)
  rw [show 8 * 8 = 64 from rfl] at HR
  generalize reversed 64 x = r at HR ⊢
  generalize lowest 64 x = z at HC HR
  go_enter Tryz.func12, Tryz.ntmps12
  go_wp2_with (go_at_call 20; refine (HC.out _).mono ?_; rintro e w' ⟨rfl, rfl⟩)
  go_loop [9, 10] (fun o i => ∃ j : Nat, j ≤ 8 ∧ i = .int .i64 (8 * j : Nat) ∧ o = .int .u64 ((turned z j).toNat : Int)) (fun _ i => 64 - (intOf i).toNat)
  case atStart => exact ⟨0, by omega, rfl, rfl⟩
  case round =>
    obtain ⟨j, hj, rfl, rfl⟩ := hrel
    by_cases hlt : j < 8
    · have hs := put_by' (turn_step z j)
      go_wp2
      go_round
      case rel => exact ⟨j + 1, by omega, by first | rfl | go_num | (congr 1; omega), by rw [← hs.out]; first | rfl | (congr 2; done) | skip⟩
      case measure => simp [intOf]; omega
    · obtain rfl : j = 8 := by omega
      go_wp2
      go_ret2
      exact ⟨ret_t (by rw [← HR.out]), rfl⟩

theorem cutn_8 (x : BitVec 64) (w : World) : Calls Tryz.prog 20 #[.int .u64 x.toNat, .int .i64 8] w fun e w' => e = .returned (.int .u64 ((lowest 8 x).toNat : Int)) ∧ w = w' := by
  have := cut_8 x.toNat (by omega) w
  have h := lowest_nat 8 (by decide) x
  rw [show (2 : Nat) ^ 8 = 256 from rfl] at h
  rw [h]
  rw [Int.natCast_emod]; exact this
set_option maxHeartbeats 400000 in
theorem rswap_none (order k n : Int) (h : order < 0 ∨ 2 < order ∨ (k ≠ 16 ∧ k ≠ 32 ∧ k ≠ 64)) (w : World) :
    Calls Tryz.prog 12 #[.int .i64 order, .int .i64 k, .int .u64 n] w fun e w' => e = .returned (.tuple #[.int .u64 0, .bool false]) ∧ w = w' := by
  by_cases h1 : order < 0
  · go_enter Tryz.func12, Tryz.ntmps12
    go_wp2
    go_ret2
    exact ⟨rfl, rfl⟩
  · by_cases h2 : 2 < order
    · go_enter Tryz.func12, Tryz.ntmps12
      go_wp2
      go_ret2
      exact ⟨rfl, rfl⟩
    · have h3 : (k != 16) = true := by simp; omega
      have h4 : (k != 32) = true := by simp; omega
      have h5 : (k != 64) = true := by simp; omega
      clear h
      go_enter Tryz.func12, Tryz.ntmps12
      go_wp2
      go_ret2
      exact ⟨rfl, rfl⟩
theorem rswap_any (order k : Int) (x : BitVec 64) (w : World) : Calls Tryz.prog 12 #[.int .i64 order, .int .i64 k, .int .u64 x.toNat] w fun e w' => e = .returned (.tuple #[.int .u64 (swap order k x).1.toNat, .bool (swap order k x).2]) ∧ w = w' := by
  unfold swap
  by_cases h : order < 0 ∨ 2 < order ∨ (k ≠ 16 ∧ k ≠ 32 ∧ k ≠ 64)
  · rw [if_pos h]; exact rswap_none order k _ h w
  · rw [if_neg h]
    have h1 : order = 0 ∨ order = 1 ∨ order = 2 := by omega
    have h2 : k = 16 ∨ k = 32 ∨ k = 64 := by omega
    clear h
    rcases h1 with rfl | rfl | rfl <;> rcases h2 with rfl | rfl | rfl
    · exact rswap0_16 x w
    · exact rswap0_32 x w
    · exact rswap0_64 x w
    · exact rswap1_16 x w
    · exact rswap1_32 x w
    · exact rswap1_64 x w
    · exact rswap2_16 x w
    · exact rswap2_32 x w
    · exact rswap2_64 x w
set_option maxHeartbeats 400000 in
theorem rextend_none (n bytes : Int) (signed : Bool) (h : bytes ≠ 1 ∧ bytes ≠ 2 ∧ bytes ≠ 4 ∧ bytes ≠ 8) (w : World) :
    Calls Tryz.prog 14 #[.int .u64 n, .int .i64 bytes, .bool signed] w fun e w' => e = .returned (.tuple #[.int .u64 0, .bool false]) ∧ w = w' := by
  have h3 : (bytes != 1) = true := by simp; omega
  have h4 : (bytes != 2) = true := by simp; omega
  have h5 : (bytes != 4) = true := by simp; omega
  have h6 : (bytes != 8) = true := by simp; omega
  clear h
  go_enter Tryz.func14, Tryz.ntmps14
  go_wp2
  go_ret2
  exact ⟨rfl, rfl⟩
set_option maxHeartbeats 400000 in
theorem widenn_64 (x : BitVec 64) (w : World) : Calls Tryz.prog 24 #[.int .u64 x.toNat, .int .i64 64] w fun e w' => e = .returned (.int .u64 ((widened 64 x).toNat : Int)) ∧ w = w' := by
  have hw : widened 64 x = x := by rw [← widened_eq 64 (by decide) (by decide)]; simp
  rw [hw]
  have HC := put_by' (cutw x)
  generalize (x.toNat : Int) = a at HC ⊢
  go_enter Tryz.func24, Tryz.ntmps24
  go_wp2_with (go_at_call 20; refine (HC.out _).mono ?_; rintro e w' ⟨rfl, rfl⟩)
  go_ret
  exact ⟨rfl, rfl⟩
theorem widenn_8 (x : BitVec 64) (w : World) : Calls Tryz.prog 24 #[.int .u64 x.toNat, .int .i64 8] w fun e w' => e = .returned (.int .u64 ((widened 8 x).toNat : Int)) ∧ w = w' := by
  have := widen_8 x.toNat (by omega) w
  rw [wideI8_eq, widened_eq 8 (by decide) (by decide)] at this
  exact this
theorem widenn_16 (x : BitVec 64) (w : World) : Calls Tryz.prog 24 #[.int .u64 x.toNat, .int .i64 16] w fun e w' => e = .returned (.int .u64 ((widened 16 x).toNat : Int)) ∧ w = w' := by
  have := widen_16 x.toNat (by omega) w
  rw [wideI16_eq, widened_eq 16 (by decide) (by decide)] at this
  exact this
theorem widenn_32 (x : BitVec 64) (w : World) : Calls Tryz.prog 24 #[.int .u64 x.toNat, .int .i64 32] w fun e w' => e = .returned (.int .u64 ((widened 32 x).toNat : Int)) ∧ w = w' := by
  have := widen_32 x.toNat (by omega) w
  rw [wideI32_eq, widened_eq 32 (by decide) (by decide)] at this
  exact this
set_option maxHeartbeats 400000 in
theorem rextend_1_true (x : BitVec 64) (w : World) : Calls Tryz.prog 14 #[.int .u64 x.toNat, .int .i64 1, .bool true] w fun e w' => e = .returned (.tuple #[.int .u64 (widened 8 x).toNat, .bool true]) ∧ w = w' := by
  have HC := put_by' (widenn_8 x)
  generalize widened 8 x = r at HC ⊢
  go_enter Tryz.func14, Tryz.ntmps14
  go_wp2_with (go_at_call 24; refine (HC.out _).mono ?_; rintro e w' ⟨rfl, rfl⟩)
  go_ret2
  exact ⟨rfl, rfl⟩
set_option maxHeartbeats 400000 in
theorem rextend_1_false (x : BitVec 64) (w : World) : Calls Tryz.prog 14 #[.int .u64 x.toNat, .int .i64 1, .bool false] w fun e w' => e = .returned (.tuple #[.int .u64 (lowest 8 x).toNat, .bool true]) ∧ w = w' := by
  have HC := put_by' (cutn_8 x)
  generalize lowest 8 x = r at HC ⊢
  go_enter Tryz.func14, Tryz.ntmps14
  go_wp2_with (go_at_call 20; refine (HC.out _).mono ?_; rintro e w' ⟨rfl, rfl⟩)
  go_ret2
  exact ⟨rfl, rfl⟩
set_option maxHeartbeats 400000 in
theorem rextend_2_true (x : BitVec 64) (w : World) : Calls Tryz.prog 14 #[.int .u64 x.toNat, .int .i64 2, .bool true] w fun e w' => e = .returned (.tuple #[.int .u64 (widened 16 x).toNat, .bool true]) ∧ w = w' := by
  have HC := put_by' (widenn_16 x)
  generalize widened 16 x = r at HC ⊢
  go_enter Tryz.func14, Tryz.ntmps14
  go_wp2_with (go_at_call 24; refine (HC.out _).mono ?_; rintro e w' ⟨rfl, rfl⟩)
  go_ret2
  exact ⟨rfl, rfl⟩
set_option maxHeartbeats 400000 in
theorem rextend_2_false (x : BitVec 64) (w : World) : Calls Tryz.prog 14 #[.int .u64 x.toNat, .int .i64 2, .bool false] w fun e w' => e = .returned (.tuple #[.int .u64 (lowest 16 x).toNat, .bool true]) ∧ w = w' := by
  have HC := put_by' (cutn_16 x)
  generalize lowest 16 x = r at HC ⊢
  go_enter Tryz.func14, Tryz.ntmps14
  go_wp2_with (go_at_call 20; refine (HC.out _).mono ?_; rintro e w' ⟨rfl, rfl⟩)
  go_ret2
  exact ⟨rfl, rfl⟩
set_option maxHeartbeats 400000 in
theorem rextend_4_true (x : BitVec 64) (w : World) : Calls Tryz.prog 14 #[.int .u64 x.toNat, .int .i64 4, .bool true] w fun e w' => e = .returned (.tuple #[.int .u64 (widened 32 x).toNat, .bool true]) ∧ w = w' := by
  have HC := put_by' (widenn_32 x)
  generalize widened 32 x = r at HC ⊢
  go_enter Tryz.func14, Tryz.ntmps14
  go_wp2_with (go_at_call 24; refine (HC.out _).mono ?_; rintro e w' ⟨rfl, rfl⟩)
  go_ret2
  exact ⟨rfl, rfl⟩
set_option maxHeartbeats 400000 in
theorem rextend_4_false (x : BitVec 64) (w : World) : Calls Tryz.prog 14 #[.int .u64 x.toNat, .int .i64 4, .bool false] w fun e w' => e = .returned (.tuple #[.int .u64 (lowest 32 x).toNat, .bool true]) ∧ w = w' := by
  have HC := put_by' (cutn_32 x)
  generalize lowest 32 x = r at HC ⊢
  go_enter Tryz.func14, Tryz.ntmps14
  go_wp2_with (go_at_call 20; refine (HC.out _).mono ?_; rintro e w' ⟨rfl, rfl⟩)
  go_ret2
  exact ⟨rfl, rfl⟩
set_option maxHeartbeats 400000 in
theorem rextend_8_true (x : BitVec 64) (w : World) : Calls Tryz.prog 14 #[.int .u64 x.toNat, .int .i64 8, .bool true] w fun e w' => e = .returned (.tuple #[.int .u64 (widened 64 x).toNat, .bool true]) ∧ w = w' := by
  have HC := put_by' (widenn_64 x)
  generalize widened 64 x = r at HC ⊢
  go_enter Tryz.func14, Tryz.ntmps14
  go_wp2_with (go_at_call 24; refine (HC.out _).mono ?_; rintro e w' ⟨rfl, rfl⟩)
  go_ret2
  exact ⟨rfl, rfl⟩
set_option maxHeartbeats 400000 in
theorem rextend_8_false (x : BitVec 64) (w : World) : Calls Tryz.prog 14 #[.int .u64 x.toNat, .int .i64 8, .bool false] w fun e w' => e = .returned (.tuple #[.int .u64 (lowest 64 x).toNat, .bool true]) ∧ w = w' := by
  have HC := put_by' (cutn_64 x)
  generalize lowest 64 x = r at HC ⊢
  go_enter Tryz.func14, Tryz.ntmps14
  go_wp2_with (go_at_call 20; refine (HC.out _).mono ?_; rintro e w' ⟨rfl, rfl⟩)
  go_ret2
  exact ⟨rfl, rfl⟩
theorem rextend_any (x : BitVec 64) (bytes : Int) (signed : Bool) (w : World) : Calls Tryz.prog 14 #[.int .u64 x.toNat, .int .i64 bytes, .bool signed] w fun e w' => e = .returned (.tuple #[.int .u64 (extend x bytes signed).1.toNat, .bool (extend x bytes signed).2]) ∧ w = w' := by
  unfold extend
  by_cases h : bytes ≠ 1 ∧ bytes ≠ 2 ∧ bytes ≠ 4 ∧ bytes ≠ 8
  · rw [if_pos h]; exact rextend_none _ bytes signed h w
  · rw [if_neg h]
    have h2 : bytes = 1 ∨ bytes = 2 ∨ bytes = 4 ∨ bytes = 8 := by omega
    clear h
    cases signed <;> rcases h2 with rfl | rfl | rfl | rfl
    · exact rextend_1_false x w
    · exact rextend_2_false x w
    · exact rextend_4_false x w
    · exact rextend_8_false x w
    · exact rextend_1_true x w
    · exact rextend_2_true x w
    · exact rextend_4_true x w
    · exact rextend_8_true x w

set_option maxHeartbeats 1000000 in
/-- What WordTests' own text tells. -/
theorem word_tests (op : Int) (h1 : (Lit.int .u8 op).wf = true) (wide : Bool) (a b : Int) (w0 : W64 a) (w1 : W64 b) (order k : Int) (signed : Bool) (w : World) :
    Calls Tryz.prog 6 #[.int .u8 op, .bool wide, .int .u64 a, .int .u64 b, .int .i64 order, .int .i64 k, .bool signed] w fun e w' => e = .returned (.bool true) ∧ Below w.heap.size w w' := by
  obtain ⟨x, rfl⟩ := of64 w0
  obtain ⟨y, rfl⟩ := of64 w1
  have HB := put_by (Below.refl w.heap.size w)
  have HC := put_by' (test_any op h1 wide x y)
  have HD := put_by' (rtest_any op wide x y)
  generalize test op wide x y = r at HC HD
  have HE := put_by' (swap_any order k x)
  have HF := put_by' (rswap_any order k x)
  generalize swap order k x = s at HE HF
  have HG := put_by' (extend_any x k signed)
  have HI := put_by' (rextend_any x k signed)
  generalize extend x k signed = t at HG HI
  clear h1 w0 w1
  obtain ⟨r1, r2⟩ := r
  obtain ⟨s1, s2⟩ := s
  obtain ⟨t1, t2⟩ := t
  simp only at HC HD HE HF HG HI
  generalize (s1.toNat : Int) = s1 at HE HF
  generalize (t1.toNat : Int) = t1 at HG HI
  generalize (x.toNat : Int) = a at HC HD HE HF HG HI ⊢
  generalize (y.toNat : Int) = b at HC HD ⊢
  go_enter Tryz.func6, Tryz.ntmps6
  go_wp2_with (first
    | (go_at_call 4; refine (from_w HB.out (awake_any _)).mono ?_; clear HB; rintro e w' ⟨rfl, hb⟩; have HB := put_by hb; clear hb)
    | (go_at_call 10; refine (from_w HB.out (HC.out _)).mono ?_; clear HB; rintro e w' ⟨rfl, hb⟩; have HB := put_by hb; clear hb)
    | (go_at_call 11; refine (HD.out _).mono ?_; rintro e w' ⟨rfl, rfl⟩)
    | (go_at_call 8; refine (HE.out _).mono ?_; rintro e w' ⟨rfl, rfl⟩)
    | (go_at_call 12; refine (HF.out _).mono ?_; rintro e w' ⟨rfl, rfl⟩)
    | (go_at_call 13; refine (HG.out _).mono ?_; rintro e w' ⟨rfl, rfl⟩)
    | (go_at_call 14; refine (HI.out _).mono ?_; rintro e w' ⟨rfl, rfl⟩))
  all_goals go_ret
  all_goals exact ⟨rfl, HB.out⟩
end Go.Proofs.YtmlkbpmchcdldaaGreat
