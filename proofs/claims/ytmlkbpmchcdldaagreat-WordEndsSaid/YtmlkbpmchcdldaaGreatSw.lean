/-
  What 'Swap' and 'Extend' tell.
-/
import Derived.Test.YtmlkbpmchcdldaaGreatBv
import Derived.Test.YtmlkbpmchcdldaaGreatRows
import Derived.WalkLawsBesides
namespace Go.Proofs.YtmlkbpmchcdldaaGreat
open Go.RowKit Go.Maps
set_option linter.unusedVariables false

theorem put_by' {p : Prop} (h : p) : Hid p := h
theorem shl_n (x : BitVec 64) (n : Nat) : IntKind.u64.wrap ((x.toNat : Int) * 2 ^ n) = ((x <<< n).toNat : Int) := by
  rw [wrapu64, BitVec.toNat_shiftLeft, Nat.shiftLeft_eq, Int.natCast_emod, Int.natCast_mul, Int.natCast_pow]; rfl
theorem shr_n (x : BitVec 64) (n : Nat) : (x.toNat : Int) / 2 ^ n = ((x >>> n).toNat : Int) := by
  rw [BitVec.toNat_ushiftRight, Nat.shiftRight_eq_div_pow, Int.natCast_ediv, Int.natCast_pow]; rfl
theorem ssl_n (x : BitVec 64) (n : Nat) : wrap64 (x.toInt * 2 ^ n) = (x <<< n).toInt := by
  rw [bmod64, BitVec.toInt_shiftLeft, BitVec.toInt_eq_toNat_bmod, Int.bmod_mul_bmod, Nat.shiftLeft_eq, Int.natCast_mul, Int.natCast_pow]; rfl
theorem ssr_n (x : BitVec 64) (n : Nat) : IntKind.u64.wrap (x.toInt / 2 ^ n) = ((x.sshiftRight n).toNat : Int) := by
  refine Eq.trans ?_ (us64 _)
  rw [BitVec.toInt_sshiftRight, Int.shiftRight_eq_div_pow, Int.natCast_pow]; rfl

def lowest (k : Nat) (x : BitVec 64) : BitVec 64 := (x <<< (64 - k)) >>> (64 - k)
def widened (k : Nat) (x : BitVec 64) : BitVec 64 := (x <<< (64 - k)).sshiftRight (64 - k)
def rev1 (x : BitVec 64) : BitVec 64 := ((x >>> 8) &&& 71777214294589695#64) ||| ((x &&& 71777214294589695#64) <<< 8)
def rev2 (x : BitVec 64) : BitVec 64 := ((x >>> 16) &&& 281470681808895#64) ||| ((x &&& 281470681808895#64) <<< 16)
def rev3 (x : BitVec 64) : BitVec 64 := (x >>> 32) ||| (x <<< 32)
def reversed (k : Nat) (x : BitVec 64) : BitVec 64 := rev3 (rev2 (rev1 x)) >>> (64 - k)

set_option maxHeartbeats 400000 in
theorem low_int (k n : Int) (h0 : 0 ≤ k) (h1 : k ≤ 64) (w : World) : Calls Tryz.prog 17 #[.int .i64 k, .int .u64 n] w fun e w' => e = .returned (.int .u64 (IntKind.u64.wrap (n * 2 ^ (64 - k).toNat) / 2 ^ (64 - k).toNat)) ∧ w = w' := by
  go_enter Tryz.func17, Tryz.ntmps17
  go_wp2
  go_ret
  exact ⟨rfl, rfl⟩
set_option maxHeartbeats 400000 in
theorem wid_int (k n : Int) (h0 : 0 ≤ k) (h1 : k ≤ 64) (w : World) : Calls Tryz.prog 28 #[.int .i64 k, .int .u64 n] w fun e w' => e = .returned (.int .u64 (IntKind.u64.wrap (wrap64 (wrap64 n * 2 ^ (64 - k).toNat) / 2 ^ (64 - k).toNat))) ∧ w = w' := by
  go_enter Tryz.func28, Tryz.ntmps28
  go_wp2
  go_ret
  exact ⟨rfl, rfl⟩
theorem low_any (k : Nat) (h1 : k ≤ 64) (x : BitVec 64) (w : World) : Calls Tryz.prog 17 #[.int .i64 (k : Int), .int .u64 x.toNat] w fun e w' => e = .returned (.int .u64 (lowest k x).toNat) ∧ w = w' := by
  have := low_int k x.toNat (by omega) (by omega) w
  rw [show (64 - (k : Int)).toNat = 64 - k by omega, shl_n, shr_n] at this
  exact this
theorem wid_any (k : Nat) (h1 : k ≤ 64) (x : BitVec 64) (w : World) : Calls Tryz.prog 28 #[.int .i64 (k : Int), .int .u64 x.toNat] w fun e w' => e = .returned (.int .u64 (widened k x).toNat) ∧ w = w' := by
  have := wid_int k x.toNat (by omega) (by omega) w
  rw [show (64 - (k : Int)).toNat = 64 - k by omega, sg64, ssl_n, ssr_n] at this
  exact this

def riv1 (n : Int) : Int := bits .or .u64 (bits .and .u64 (n / 2 ^ 8) 71777214294589695) (IntKind.u64.wrap (bits .and .u64 n 71777214294589695 * 2 ^ 8))
def riv2 (n : Int) : Int := bits .or .u64 (bits .and .u64 (n / 2 ^ 16) 281470681808895) (IntKind.u64.wrap (bits .and .u64 n 281470681808895 * 2 ^ 16))
def riv3 (n : Int) : Int := bits .or .u64 (n / 2 ^ 32) (IntKind.u64.wrap (n * 2 ^ 32))
theorem riv1_eq (x : BitVec 64) : riv1 x.toNat = (rev1 x).toNat := by
  unfold riv1 rev1
  have h1 := and64 (x >>> 8) 71777214294589695#64
  have h2 := and64 x 71777214294589695#64
  rw [show (((71777214294589695#64).toNat : Nat) : Int) = 71777214294589695 from rfl] at h1 h2
  rw [shr_n, h1, h2, shl_n, or64]
theorem riv2_eq (x : BitVec 64) : riv2 x.toNat = (rev2 x).toNat := by
  unfold riv2 rev2
  have h1 := and64 (x >>> 16) 281470681808895#64
  have h2 := and64 x 281470681808895#64
  rw [show (((281470681808895#64).toNat : Nat) : Int) = 281470681808895 from rfl] at h1 h2
  rw [shr_n, h1, h2, shl_n, or64]
theorem riv3_eq (x : BitVec 64) : riv3 x.toNat = (rev3 x).toNat := by
  unfold riv3 rev3
  rw [shr_n, shl_n, or64]
set_option maxHeartbeats 400000 in
theorem rev_int (n : Int) (w : World) : Calls Tryz.prog 33 #[.int .u64 n] w fun e w' => e = .returned (.int .u64 (riv3 (riv2 (riv1 n)))) ∧ w = w' := by
  go_enter Tryz.func33, Tryz.ntmps33
  go_wp2
  go_ret
  exact ⟨rfl, rfl⟩
theorem rev_any (x : BitVec 64) (w : World) : Calls Tryz.prog 33 #[.int .u64 x.toNat] w fun e w' => e = .returned (.int .u64 (rev3 (rev2 (rev1 x))).toNat) ∧ w = w' := by
  have := rev_int x.toNat w
  rw [riv1_eq, riv2_eq, riv3_eq] at this
  exact this
set_option maxHeartbeats 400000 in
theorem turn_int (k n : Int) (h0 : 0 ≤ k) (h1 : k ≤ 64) (w : World) : Calls Tryz.prog 18 #[.int .i64 k, .int .u64 n] w fun e w' => e = .returned (.int .u64 (riv3 (riv2 (riv1 n)) / 2 ^ (64 - k).toNat)) ∧ w = w' := by
  go_enter Tryz.func18, Tryz.ntmps18
  go_wp2_with (go_at_call 33; refine (rev_int _ _).mono ?_; rintro e w' ⟨rfl, rfl⟩)
  go_ret
  exact ⟨rfl, rfl⟩
theorem turn_any (k : Nat) (h1 : k ≤ 64) (x : BitVec 64) (w : World) : Calls Tryz.prog 18 #[.int .i64 (k : Int), .int .u64 x.toNat] w fun e w' => e = .returned (.int .u64 (reversed k x).toNat) ∧ w = w' := by
  have := turn_int k x.toNat (by omega) (by omega) w
  rw [show (64 - (k : Int)).toNat = 64 - k by omega, riv1_eq, riv2_eq, riv3_eq, shr_n] at this
  exact this

/-- What 'Swap' tells. -/
def swap (order k : Int) (x : BitVec 64) : BitVec 64 × Bool :=
  if order < 0 ∨ 2 < order ∨ (k ≠ 16 ∧ k ≠ 32 ∧ k ≠ 64) then (0, false) else
  if order = 0 then (lowest k.toNat x, true) else (reversed k.toNat x, true)
/-- What 'Extend' tells. -/
def extend (x : BitVec 64) (bytes : Int) (signed : Bool) : BitVec 64 × Bool :=
  if bytes ≠ 1 ∧ bytes ≠ 2 ∧ bytes ≠ 4 ∧ bytes ≠ 8 then (0, false) else
  if signed then (widened (8 * bytes.toNat) x, true) else (lowest (8 * bytes.toNat) x, true)

set_option maxHeartbeats 400000 in
theorem swap_none (order k n : Int) (h : order < 0 ∨ 2 < order ∨ (k ≠ 16 ∧ k ≠ 32 ∧ k ≠ 64)) (w : World) :
    Calls Tryz.prog 8 #[.int .i64 order, .int .i64 k, .int .u64 n] w fun e w' => e = .returned (.tuple #[.int .u64 0, .bool false]) ∧ w = w' := by
  by_cases h1 : order < 0
  · go_enter Tryz.func8, Tryz.ntmps8
    go_wp2
    go_ret2
    exact ⟨rfl, rfl⟩
  · by_cases h2 : 2 < order
    · go_enter Tryz.func8, Tryz.ntmps8
      go_wp2
      go_ret2
      exact ⟨rfl, rfl⟩
    · have h3 : (k != 16) = true := by simp; omega
      have h4 : (k != 32) = true := by simp; omega
      have h5 : (k != 64) = true := by simp; omega
      clear h
      go_enter Tryz.func8, Tryz.ntmps8
      go_wp2
      go_ret2
      exact ⟨rfl, rfl⟩
set_option maxHeartbeats 400000 in
theorem swap_0_16 (x : BitVec 64) (w : World) : Calls Tryz.prog 8 #[.int .i64 0, .int .i64 16, .int .u64 x.toNat] w fun e w' => e = .returned (.tuple #[.int .u64 (lowest 16 x).toNat, .bool true]) ∧ w = w' := by
  have HC := put_by' (low_any 16 (by decide) x)
  generalize lowest 16 x = r at HC ⊢
  go_enter Tryz.func8, Tryz.ntmps8
  go_wp2_with (go_at_call 17; refine (HC.out _).mono ?_; rintro e w' ⟨rfl, rfl⟩)
  go_ret2
  exact ⟨rfl, rfl⟩
set_option maxHeartbeats 400000 in
theorem swap_1_16 (x : BitVec 64) (w : World) : Calls Tryz.prog 8 #[.int .i64 1, .int .i64 16, .int .u64 x.toNat] w fun e w' => e = .returned (.tuple #[.int .u64 (reversed 16 x).toNat, .bool true]) ∧ w = w' := by
  have HC := put_by' (turn_any 16 (by decide) x)
  generalize reversed 16 x = r at HC ⊢
  go_enter Tryz.func8, Tryz.ntmps8
  go_wp2_with (go_at_call 18; refine (HC.out _).mono ?_; rintro e w' ⟨rfl, rfl⟩)
  go_ret2
  exact ⟨rfl, rfl⟩
set_option maxHeartbeats 400000 in
theorem swap_2_16 (x : BitVec 64) (w : World) : Calls Tryz.prog 8 #[.int .i64 2, .int .i64 16, .int .u64 x.toNat] w fun e w' => e = .returned (.tuple #[.int .u64 (reversed 16 x).toNat, .bool true]) ∧ w = w' := by
  have HC := put_by' (turn_any 16 (by decide) x)
  generalize reversed 16 x = r at HC ⊢
  go_enter Tryz.func8, Tryz.ntmps8
  go_wp2_with (go_at_call 18; refine (HC.out _).mono ?_; rintro e w' ⟨rfl, rfl⟩)
  go_ret2
  exact ⟨rfl, rfl⟩
set_option maxHeartbeats 400000 in
theorem swap_0_32 (x : BitVec 64) (w : World) : Calls Tryz.prog 8 #[.int .i64 0, .int .i64 32, .int .u64 x.toNat] w fun e w' => e = .returned (.tuple #[.int .u64 (lowest 32 x).toNat, .bool true]) ∧ w = w' := by
  have HC := put_by' (low_any 32 (by decide) x)
  generalize lowest 32 x = r at HC ⊢
  go_enter Tryz.func8, Tryz.ntmps8
  go_wp2_with (go_at_call 17; refine (HC.out _).mono ?_; rintro e w' ⟨rfl, rfl⟩)
  go_ret2
  exact ⟨rfl, rfl⟩
set_option maxHeartbeats 400000 in
theorem swap_1_32 (x : BitVec 64) (w : World) : Calls Tryz.prog 8 #[.int .i64 1, .int .i64 32, .int .u64 x.toNat] w fun e w' => e = .returned (.tuple #[.int .u64 (reversed 32 x).toNat, .bool true]) ∧ w = w' := by
  have HC := put_by' (turn_any 32 (by decide) x)
  generalize reversed 32 x = r at HC ⊢
  go_enter Tryz.func8, Tryz.ntmps8
  go_wp2_with (go_at_call 18; refine (HC.out _).mono ?_; rintro e w' ⟨rfl, rfl⟩)
  go_ret2
  exact ⟨rfl, rfl⟩
set_option maxHeartbeats 400000 in
theorem swap_2_32 (x : BitVec 64) (w : World) : Calls Tryz.prog 8 #[.int .i64 2, .int .i64 32, .int .u64 x.toNat] w fun e w' => e = .returned (.tuple #[.int .u64 (reversed 32 x).toNat, .bool true]) ∧ w = w' := by
  have HC := put_by' (turn_any 32 (by decide) x)
  generalize reversed 32 x = r at HC ⊢
  go_enter Tryz.func8, Tryz.ntmps8
  go_wp2_with (go_at_call 18; refine (HC.out _).mono ?_; rintro e w' ⟨rfl, rfl⟩)
  go_ret2
  exact ⟨rfl, rfl⟩
set_option maxHeartbeats 400000 in
theorem swap_0_64 (x : BitVec 64) (w : World) : Calls Tryz.prog 8 #[.int .i64 0, .int .i64 64, .int .u64 x.toNat] w fun e w' => e = .returned (.tuple #[.int .u64 (lowest 64 x).toNat, .bool true]) ∧ w = w' := by
  have HC := put_by' (low_any 64 (by decide) x)
  generalize lowest 64 x = r at HC ⊢
  go_enter Tryz.func8, Tryz.ntmps8
  go_wp2_with (go_at_call 17; refine (HC.out _).mono ?_; rintro e w' ⟨rfl, rfl⟩)
  go_ret2
  exact ⟨rfl, rfl⟩
set_option maxHeartbeats 400000 in
theorem swap_1_64 (x : BitVec 64) (w : World) : Calls Tryz.prog 8 #[.int .i64 1, .int .i64 64, .int .u64 x.toNat] w fun e w' => e = .returned (.tuple #[.int .u64 (reversed 64 x).toNat, .bool true]) ∧ w = w' := by
  have HC := put_by' (turn_any 64 (by decide) x)
  generalize reversed 64 x = r at HC ⊢
  go_enter Tryz.func8, Tryz.ntmps8
  go_wp2_with (go_at_call 18; refine (HC.out _).mono ?_; rintro e w' ⟨rfl, rfl⟩)
  go_ret2
  exact ⟨rfl, rfl⟩
set_option maxHeartbeats 400000 in
theorem swap_2_64 (x : BitVec 64) (w : World) : Calls Tryz.prog 8 #[.int .i64 2, .int .i64 64, .int .u64 x.toNat] w fun e w' => e = .returned (.tuple #[.int .u64 (reversed 64 x).toNat, .bool true]) ∧ w = w' := by
  have HC := put_by' (turn_any 64 (by decide) x)
  generalize reversed 64 x = r at HC ⊢
  go_enter Tryz.func8, Tryz.ntmps8
  go_wp2_with (go_at_call 18; refine (HC.out _).mono ?_; rintro e w' ⟨rfl, rfl⟩)
  go_ret2
  exact ⟨rfl, rfl⟩
theorem swap_any (order k : Int) (x : BitVec 64) (w : World) : Calls Tryz.prog 8 #[.int .i64 order, .int .i64 k, .int .u64 x.toNat] w fun e w' => e = .returned (.tuple #[.int .u64 (swap order k x).1.toNat, .bool (swap order k x).2]) ∧ w = w' := by
  unfold swap
  by_cases h : order < 0 ∨ 2 < order ∨ (k ≠ 16 ∧ k ≠ 32 ∧ k ≠ 64)
  · rw [if_pos h]; exact swap_none order k _ h w
  · rw [if_neg h]
    have h1 : order = 0 ∨ order = 1 ∨ order = 2 := by omega
    have h2 : k = 16 ∨ k = 32 ∨ k = 64 := by omega
    clear h
    rcases h1 with rfl | rfl | rfl <;> rcases h2 with rfl | rfl | rfl
    · exact swap_0_16 x w
    · exact swap_0_32 x w
    · exact swap_0_64 x w
    · exact swap_1_16 x w
    · exact swap_1_32 x w
    · exact swap_1_64 x w
    · exact swap_2_16 x w
    · exact swap_2_32 x w
    · exact swap_2_64 x w
set_option maxHeartbeats 400000 in
theorem extend_none (n bytes : Int) (signed : Bool) (h : bytes ≠ 1 ∧ bytes ≠ 2 ∧ bytes ≠ 4 ∧ bytes ≠ 8) (w : World) :
    Calls Tryz.prog 13 #[.int .u64 n, .int .i64 bytes, .bool signed] w fun e w' => e = .returned (.tuple #[.int .u64 0, .bool false]) ∧ w = w' := by
  have h3 : (bytes != 1) = true := by simp; omega
  have h4 : (bytes != 2) = true := by simp; omega
  have h5 : (bytes != 4) = true := by simp; omega
  have h6 : (bytes != 8) = true := by simp; omega
  clear h
  go_enter Tryz.func13, Tryz.ntmps13
  go_wp2
  go_ret2
  exact ⟨rfl, rfl⟩
set_option maxHeartbeats 400000 in
theorem extend_1_true (x : BitVec 64) (w : World) : Calls Tryz.prog 13 #[.int .u64 x.toNat, .int .i64 1, .bool true] w fun e w' => e = .returned (.tuple #[.int .u64 (widened 8 x).toNat, .bool true]) ∧ w = w' := by
  have HC := put_by' (wid_any 8 (by decide) x)
  generalize widened 8 x = r at HC ⊢
  go_enter Tryz.func13, Tryz.ntmps13
  go_wp2_with (go_at_call 28; refine (HC.out _).mono ?_; rintro e w' ⟨rfl, rfl⟩)
  go_ret2
  exact ⟨rfl, rfl⟩
set_option maxHeartbeats 400000 in
theorem extend_1_false (x : BitVec 64) (w : World) : Calls Tryz.prog 13 #[.int .u64 x.toNat, .int .i64 1, .bool false] w fun e w' => e = .returned (.tuple #[.int .u64 (lowest 8 x).toNat, .bool true]) ∧ w = w' := by
  have HC := put_by' (low_any 8 (by decide) x)
  generalize lowest 8 x = r at HC ⊢
  go_enter Tryz.func13, Tryz.ntmps13
  go_wp2_with (go_at_call 17; refine (HC.out _).mono ?_; rintro e w' ⟨rfl, rfl⟩)
  go_ret2
  exact ⟨rfl, rfl⟩
set_option maxHeartbeats 400000 in
theorem extend_2_true (x : BitVec 64) (w : World) : Calls Tryz.prog 13 #[.int .u64 x.toNat, .int .i64 2, .bool true] w fun e w' => e = .returned (.tuple #[.int .u64 (widened 16 x).toNat, .bool true]) ∧ w = w' := by
  have HC := put_by' (wid_any 16 (by decide) x)
  generalize widened 16 x = r at HC ⊢
  go_enter Tryz.func13, Tryz.ntmps13
  go_wp2_with (go_at_call 28; refine (HC.out _).mono ?_; rintro e w' ⟨rfl, rfl⟩)
  go_ret2
  exact ⟨rfl, rfl⟩
set_option maxHeartbeats 400000 in
theorem extend_2_false (x : BitVec 64) (w : World) : Calls Tryz.prog 13 #[.int .u64 x.toNat, .int .i64 2, .bool false] w fun e w' => e = .returned (.tuple #[.int .u64 (lowest 16 x).toNat, .bool true]) ∧ w = w' := by
  have HC := put_by' (low_any 16 (by decide) x)
  generalize lowest 16 x = r at HC ⊢
  go_enter Tryz.func13, Tryz.ntmps13
  go_wp2_with (go_at_call 17; refine (HC.out _).mono ?_; rintro e w' ⟨rfl, rfl⟩)
  go_ret2
  exact ⟨rfl, rfl⟩
set_option maxHeartbeats 400000 in
theorem extend_4_true (x : BitVec 64) (w : World) : Calls Tryz.prog 13 #[.int .u64 x.toNat, .int .i64 4, .bool true] w fun e w' => e = .returned (.tuple #[.int .u64 (widened 32 x).toNat, .bool true]) ∧ w = w' := by
  have HC := put_by' (wid_any 32 (by decide) x)
  generalize widened 32 x = r at HC ⊢
  go_enter Tryz.func13, Tryz.ntmps13
  go_wp2_with (go_at_call 28; refine (HC.out _).mono ?_; rintro e w' ⟨rfl, rfl⟩)
  go_ret2
  exact ⟨rfl, rfl⟩
set_option maxHeartbeats 400000 in
theorem extend_4_false (x : BitVec 64) (w : World) : Calls Tryz.prog 13 #[.int .u64 x.toNat, .int .i64 4, .bool false] w fun e w' => e = .returned (.tuple #[.int .u64 (lowest 32 x).toNat, .bool true]) ∧ w = w' := by
  have HC := put_by' (low_any 32 (by decide) x)
  generalize lowest 32 x = r at HC ⊢
  go_enter Tryz.func13, Tryz.ntmps13
  go_wp2_with (go_at_call 17; refine (HC.out _).mono ?_; rintro e w' ⟨rfl, rfl⟩)
  go_ret2
  exact ⟨rfl, rfl⟩
set_option maxHeartbeats 400000 in
theorem extend_8_true (x : BitVec 64) (w : World) : Calls Tryz.prog 13 #[.int .u64 x.toNat, .int .i64 8, .bool true] w fun e w' => e = .returned (.tuple #[.int .u64 (widened 64 x).toNat, .bool true]) ∧ w = w' := by
  have HC := put_by' (wid_any 64 (by decide) x)
  generalize widened 64 x = r at HC ⊢
  go_enter Tryz.func13, Tryz.ntmps13
  go_wp2_with (go_at_call 28; refine (HC.out _).mono ?_; rintro e w' ⟨rfl, rfl⟩)
  go_ret2
  exact ⟨rfl, rfl⟩
set_option maxHeartbeats 400000 in
theorem extend_8_false (x : BitVec 64) (w : World) : Calls Tryz.prog 13 #[.int .u64 x.toNat, .int .i64 8, .bool false] w fun e w' => e = .returned (.tuple #[.int .u64 (lowest 64 x).toNat, .bool true]) ∧ w = w' := by
  have HC := put_by' (low_any 64 (by decide) x)
  generalize lowest 64 x = r at HC ⊢
  go_enter Tryz.func13, Tryz.ntmps13
  go_wp2_with (go_at_call 17; refine (HC.out _).mono ?_; rintro e w' ⟨rfl, rfl⟩)
  go_ret2
  exact ⟨rfl, rfl⟩
theorem extend_any (x : BitVec 64) (bytes : Int) (signed : Bool) (w : World) : Calls Tryz.prog 13 #[.int .u64 x.toNat, .int .i64 bytes, .bool signed] w fun e w' => e = .returned (.tuple #[.int .u64 (extend x bytes signed).1.toNat, .bool (extend x bytes signed).2]) ∧ w = w' := by
  unfold extend
  by_cases h : bytes ≠ 1 ∧ bytes ≠ 2 ∧ bytes ≠ 4 ∧ bytes ≠ 8
  · rw [if_pos h]; exact extend_none _ bytes signed h w
  · rw [if_neg h]
    have h2 : bytes = 1 ∨ bytes = 2 ∨ bytes = 4 ∨ bytes = 8 := by omega
    clear h
    cases signed <;> rcases h2 with rfl | rfl | rfl | rfl
    · exact extend_1_false x w
    · exact extend_2_false x w
    · exact extend_4_false x w
    · exact extend_8_false x w
    · exact extend_1_true x w
    · exact extend_2_true x w
    · exact extend_4_true x w
    · exact extend_8_true x w
end Go.Proofs.YtmlkbpmchcdldaaGreat
