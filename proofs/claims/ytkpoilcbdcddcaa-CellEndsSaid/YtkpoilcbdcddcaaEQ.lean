/-
  Two cells compared.
-/
import Derived.Test.YtkpoilcbdcddcaaF1
import Derived.Laws.StructEq
namespace Go.Proofs.Ytkpoilcbdcddcaa
open Go.RowKit
set_option linter.unusedVariables false
set_option linter.unusedSimpArgs false

theorem c4_struct : Try.prog.underlying 33 = some (.struct (Try.prog.fieldsOf 33)) := by kernel_rfl
theorem c4_held : Try.prog.stoodInHeld 33 = false := by kernel_rfl
theorem eq33 (w : World) (a0 a1 a2 a3 b0 b1 b2 b3 : Int) : (binOp .eql 33 (.agg #[.int .u8 a0, .int .u64 a1, .int .i64 a2, .int .i64 a3]) (.agg #[.int .u8 b0, .int .u64 b1, .int .i64 b2, .int .i64 b3])).run Try.prog w =
    .ok (.bool (a0 == b0 && a1 == b1 && a2 == b2 && a3 == b3)) w := by
  have hu : Try.prog.underlying 33 = _ := Try.underlying33
  rw [run_eql_struct, show (10000 : Nat) = 9999 + 1 from rfl, run_equalIn_agg w 9999 33 _ _ c4_struct c4_held]
  simp only [Program.fieldsOf, hu]
  go_simp
  by_cases h0 : a0 = b0 <;> by_cases h1 : a1 = b1 <;> by_cases h2 : a2 = b2 <;> by_cases h3 : a3 = b3 <;> simp [h0, h1, h2, h3]
theorem neq33 (w : World) (a0 a1 a2 a3 b0 b1 b2 b3 : Int) : (binOp .neq 33 (.agg #[.int .u8 a0, .int .u64 a1, .int .i64 a2, .int .i64 a3]) (.agg #[.int .u8 b0, .int .u64 b1, .int .i64 b2, .int .i64 b3])).run Try.prog w =
    .ok (.bool (!(a0 == b0 && a1 == b1 && a2 == b2 && a3 == b3))) w := by
  have h := eq33 w a0 a1 a2 a3 b0 b1 b2 b3
  rw [run_eql_struct] at h
  rw [run_neq_struct]
  generalize (Op.equalIn 10000 33 _ _).run Try.prog w = r at h ⊢
  cases r with
  | ok b w' =>
    simp only [Result.andThen_ok, Result.ok.injEq, Value.bool.injEq] at h ⊢
    exact ⟨by rw [h.1], h.2⟩
  | _ => simp [Result.andThen] at h
end Go.Proofs.Ytkpoilcbdcddcaa
