/-
  The document's small functions of a slot.
-/
import Derived.Test.YtjnmfgkjeofneaaQ00
namespace Go.Proofs.Ytjnmfgkjeofneaa
open Go.RowKit Go.Maps
set_option linter.unusedVariables false

section
variable (op dst src off imm : Int) (w : World)
theorem class_any : Calls Try.prog 29 #[.agg #[.int .u8 op, .int .u8 dst, .int .u8 src, .int .i16 off, .int .i32 imm]] w fun e w' => e = .returned (.int .u8 (clsI op)) ∧ Below w.heap.size w w' := by
  go_enter Try.func29, Try.ntmps29
  go_wp2
  go_ret
  exact ⟨rfl, below1 _ _⟩
theorem hi_any : Calls Try.prog 30 #[.agg #[.int .u8 op, .int .u8 dst, .int .u8 src, .int .i16 off, .int .i32 imm]] w fun e w' => e = .returned (.int .u8 (hiI op)) ∧ Below w.heap.size w w' := by
  go_enter Try.func30, Try.ntmps30
  go_wp2
  go_ret
  exact ⟨rfl, below1 _ _⟩
theorem reg_any : Calls Try.prog 69 #[.agg #[.int .u8 op, .int .u8 dst, .int .u8 src, .int .i16 off, .int .i32 imm]] w fun e w' => e = .returned (.bool (rsB op)) ∧ Below w.heap.size w w' := by
  go_enter Try.func69, Try.ntmps69
  go_wp2
  go_ret
  exact ⟨rfl, below1 _ _⟩
theorem wide_any : Calls Try.prog 52 #[.agg #[.int .u8 op, .int .u8 dst, .int .u8 src, .int .i16 off, .int .i32 imm]] w fun e w' => e = .returned (.bool (op == 24)) ∧ Below w.heap.size w w' := by
  go_enter Try.func52, Try.ntmps52
  go_wp2
  go_ret
  exact ⟨rfl, below1 _ _⟩
theorem writes_any : Calls Try.prog 54 #[.agg #[.int .u8 op, .int .u8 dst, .int .u8 src, .int .i16 off, .int .i32 imm]] w fun e w' => e = .returned (.bool (wrB op)) ∧ Below w.heap.size w w' := by
  have hc := class_any op dst src off imm (w.alloc (.cells #[.int .u8 op, .int .u8 dst, .int .u8 src, .int .i16 off, .int .i32 imm] 42))
  go_enter Try.func54, Try.ntmps54
  go_wp2_with (go_at_call 29; refine hc.mono ?_; rintro e w1 ⟨rfl, hb⟩)
  all_goals
    go_ret
    exact ⟨by (simp only [clsI] at *; simp [wrB, *]), below1c hb⟩
theorem memory_any (sg : Bool) : Calls Try.prog 68 #[.int .u8 op, .bool sg] w fun e w' => e = .returned (.bool (memR op sg)) ∧ w = w' := by
  cases sg
  all_goals
    go_enter Try.func68, Try.ntmps68
    go_wp2
    all_goals
      go_ret
      exact ⟨by simp [memR, memB, sgnB, *], rfl⟩
theorem condition_any (o : Int) : Calls Try.prog 70 #[.int .u8 o] w fun e w' => e = .returned (.bool (condR o)) ∧ w = w' := by
  go_enter Try.func70, Try.ntmps70
  go_wp2
  all_goals
    go_ret
    exact ⟨by simp [condR, *] <;> omega, rfl⟩
end
end Go.Proofs.Ytjnmfgkjeofneaa
