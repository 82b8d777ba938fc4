/-
  The marks that stand behind what is lent.
-/
import Derived.Test.YtjndmpockfmenaaGreatK4
namespace Go.Proofs.YtjndmpockfmenaaGreat
open Go.RowKit
set_option linter.unusedVariables false

def markN (k i : Nat) : Int := 1000003 * ((k : Int) + 7) + i
theorem mark_any (k i : Nat) (hk : k ≤ 1000) (hi : i ≤ 1000000000) (w : World) : Calls Tryz.prog 41 #[.int .i64 k, .int .i64 i] w fun e w' => e = .returned (.int .i64 (markN k i)) ∧ w = w' := by
  go_enter Tryz.func41, Tryz.ntmps41
  go_wp2
  go_ret
  exact ⟨by simp [markN], rfl⟩
def markB (k i : Nat) : Int := (markN k i * 11400714819323198485) % 18446744073709551616 / 72057594037927936
theorem markB_byte (k i : Nat) : IsByte (markB k i) := by
  unfold markB IsByte
  omega
set_option maxRecDepth 100000 in
theorem markByte_any (k i : Nat) (hk : k ≤ 1000) (hi : i ≤ 1000000000) (w : World) : Calls Tryz.prog 39 #[.int .i64 k, .int .i64 i] w fun e w' => e = .returned (.int .u8 (markB k i)) ∧ w = w' := by
  go_enter Tryz.func39, Tryz.ntmps39
  go_wp2_with (go_at_call 41; refine (mark_any _ _ hk hi _).mono ?_; rintro e w' ⟨rfl, rfl⟩)
  go_ret
  refine ⟨congrArg (fun n => Ending.returned (.int .u8 n)) ?_, rfl⟩
  have h1 : ∀ n, IntKind.u64.wrap n = n % 18446744073709551616 := fun n => by simp [IntKind.wrap, IntKind.bits, IntKind.signed]
  have h2 : markN k i % 18446744073709551616 = markN k i := by unfold markN; omega
  rw [h1, h1, h2]
  unfold markB
  generalize markN k i * 11400714819323198485 = x
  omega
def markV (k i : Nat) : Int := wrap32 (markN k i)
def markI (k i : Nat) : Ins := ⟨0, 0, 0, 0, markV k i⟩
theorem markI_fits (k i : Nat) : (markI k i).Fits := by
  have h : ∀ n : Int, (⟨0, 0, 0, 0, n⟩ : Ins).Fits ↔ -2147483648 ≤ n ∧ n < 2147483648 := fun n => ⟨fun h => h.imm, fun h => ⟨⟨Int.le_refl _, (by decide : (0 : Int) < 256)⟩, ⟨Int.le_refl _, (by decide : (0 : Int) < 256)⟩, ⟨Int.le_refl _, (by decide : (0 : Int) < 256)⟩, ⟨(by decide : (-32768 : Int) ≤ 0), (by decide : (0 : Int) < 32768)⟩, h⟩⟩
  refine (h _).2 ?_
  unfold markV wrap32
  omega
set_option maxRecDepth 100000 in
theorem markInstr_any (k i : Nat) (hk : k ≤ 1000) (hi : i ≤ 1000000000) (w : World) : Calls Tryz.prog 27 #[.int .i64 k, .int .i64 i] w fun e w' => e = .returned (.agg #[.int .u8 0, .int .u8 0, .int .u8 0, .int .i16 0, .int .i32 (markV k i)]) ∧ w' = w.alloc (.cells #[.int .u8 0, .int .u8 0, .int .u8 0, .int .i16 0, .int .i32 (markV k i)] 27) := by
  go_enter Tryz.func27, Tryz.ntmps27
  go_wp2_with (go_at_call 41; refine (mark_any _ _ hk hi _).mono ?_; rintro e w' ⟨rfl, rfl⟩)
  refine bodyPost_ret (v := .agg #[.int .u8 0, .int .u8 0, .int .u8 0, .int .i16 0, .int .i32 (markV k i)]) ?_ rfl ⟨rfl, rfl⟩
  simp [results, Tryz.results27, go_sem, markV]
end Go.Proofs.YtjndmpockfmenaaGreat
