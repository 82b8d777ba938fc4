/-
  Targets; the slot behind; what each class must have.
-/
import Derived.Test.YtjnmfgkjeofneaaFn2
namespace Go.Proofs.Ytjnmfgkjeofneaa
open Go.RowKit
set_option linter.unusedVariables false

section
variable (op dst src off imm : Int) (w : World)
set_option maxRecDepth 100000 in
theorem target_any (k : Nat) (hk : k ≤ 4097) (ho : -32768 ≤ off ∧ off < 32768) (hi : -2147483648 ≤ imm ∧ imm < 2147483648) : Calls Try.prog 34 #[.int .i64 k, .agg #[.int .u8 op, .int .u8 dst, .int .u8 src, .int .i16 off, .int .i32 imm]] w fun e w' =>
    e = .returned (.tuple #[.int .i64 (targetI k ⟨op, dst, src, off, imm⟩), .bool (targetB ⟨op, dst, src, off, imm⟩)]) ∧ Below w.heap.size w w' := by
  obtain ⟨ho1, ho2⟩ := ho
  obtain ⟨hi1, hi2⟩ := hi
  have hr := cond_any op dst src off imm (w.alloc (.cells #[.int .u8 op, .int .u8 dst, .int .u8 src, .int .i16 off, .int .i32 imm] 42))
  cases h : condB op <;> rw [h] at hr
  all_goals
    by_cases h6 : op = 6
    · go_enter Try.func34, Try.ntmps34
      go_wp2
      go_ret2
      exact ⟨by simp [targetI, targetB, *], below1 _ _⟩
    · by_cases h5 : op = 5
      · have h6' : (op == 6) = false := by simpa using h6
        go_enter Try.func34, Try.ntmps34
        go_wp2
        go_ret2
        exact ⟨by simp [targetI, targetB, *], below1 _ _⟩
      · have h6' : (op == 6) = false := by simpa using h6
        have h5' : (op == 5) = false := by simpa using h5
        go_enter Try.func34, Try.ntmps34
        go_wp2_with (go_at_call 57; refine hr.mono ?_; rintro e w1 ⟨rfl, hb⟩; obtain ⟨hc, hf⟩ := bcell hb)
        go_ret2
        exact ⟨by simp [targetI, targetB, *], below1c hb⟩
end
end Go.Proofs.Ytjnmfgkjeofneaa
