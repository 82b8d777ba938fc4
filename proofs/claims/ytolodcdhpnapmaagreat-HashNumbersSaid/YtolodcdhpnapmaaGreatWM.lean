/-
  The marks that stand behind what is lent.
-/
import Derived.Test.YtolodcdhpnapmaaGreatWB
namespace Go.Proofs.YtolodcdhpnapmaaGreat
open Go.RowKit
set_option linter.unusedVariables false

def markN (k i : Nat) : Int := 1000003 * ((k : Int) + 7) + i
theorem mark_any (k i : Nat) (hk : k ≤ 1000) (hi : i ≤ 1000000000) (w : World) : Calls Tryz.prog 99 #[.int .i64 k, .int .i64 i] w fun e w' => e = .returned (.int .i64 (markN k i)) ∧ w = w' := by
  go_enter Tryz.func99, Tryz.ntmps99
  go_wp2
  go_ret
  exact ⟨by simp [markN], rfl⟩
def markB (k i : Nat) : Int := (markN k i * 11400714819323198485) % 18446744073709551616 / 72057594037927936
theorem markB_byte (k i : Nat) : IsByte (markB k i) := by
  unfold markB IsByte
  omega
set_option maxRecDepth 100000 in
theorem markByte_any (k i : Nat) (hk : k ≤ 1000) (hi : i ≤ 1000000000) (w : World) : Calls Tryz.prog 66 #[.int .i64 k, .int .i64 i] w fun e w' => e = .returned (.int .u8 (markB k i)) ∧ w = w' := by
  go_enter Tryz.func66, Tryz.ntmps66
  go_wp2_with (go_at_call 99; refine (mark_any _ _ hk hi _).mono ?_; rintro e w' ⟨rfl, rfl⟩)
  go_ret
  refine ⟨congrArg (fun n => Ending.returned (.int .u8 n)) ?_, rfl⟩
  have h1 : ∀ n, IntKind.u64.wrap n = n % 18446744073709551616 := fun n => by simp [IntKind.wrap, IntKind.bits, IntKind.signed]
  have h2 : markN k i % 18446744073709551616 = markN k i := by unfold markN; omega
  rw [h1, h1, h2]
  unfold markB
  generalize markN k i * 11400714819323198485 = x
  omega
end Go.Proofs.YtolodcdhpnapmaaGreat
