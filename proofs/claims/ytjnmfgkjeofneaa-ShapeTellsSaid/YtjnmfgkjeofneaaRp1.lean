/-
  One slot, repeated: how many there are.
-/
import Derived.Test.YtjnmfgkjeofneaaFn10
namespace Go.Proofs.Ytjnmfgkjeofneaa
open Go.RowKit
set_option linter.unusedVariables false
set_option maxRecDepth 100000 in
theorem mul64_any (n : Nat) (w : World) (hn : n ≤ 4096) : Calls Try.prog 74 #[.int .u64 1, .int .u64 n] w fun e w' => e = .returned (.tuple #[.int .u64 0, .int .u64 n]) ∧ w = w' := by
  have h1 : bits .and .u64 (n : Int) 4294967295 = n := by
    have := u64_and_nat n 4294967295 (by omega) (by omega)
    rw [show (4294967295 : Nat) = 2 ^ 32 - 1 by rfl, Nat.and_two_pow_sub_one_eq_mod, Nat.mod_eq_of_lt (by omega)] at this
    exact this
  have ha : bits .and .u64 1 4294967295 = 1 := by decide +kernel
  have hb : bits .and .u64 0 4294967295 = 0 := by decide +kernel
  have hw0 : IntKind.u64.wrap 0 = 0 := by decide +kernel
  go_enter Try.func74, Try.ntmps74
  go_wp2
  go_ret2
  have h2 : (n : Int) / 4294967296 = 0 := by omega
  simp [hb, h2, hw0]
set_option maxRecDepth 100000 in
theorem mul_any (n : Nat) (w : World) (hn : n ≤ 4096) : Calls Try.prog 56 #[.int .u64 1, .int .u64 n] w fun e w' => e = .returned (.tuple #[.int .u64 0, .int .u64 n]) ∧ w = w' := by
  go_enter Try.func56, Try.ntmps56
  go_wp2_with (go_at_call 74; refine (mul64_any n _ hn).mono ?_; rintro e w' ⟨rfl, rfl⟩)
  go_ret2
  exact ⟨rfl, rfl⟩
end Go.Proofs.Ytjnmfgkjeofneaa
