/-
  Kinds' small functions: bounds, what lies within them.
-/
import Derived.Test.YtgancfllpmgciaaKB
namespace Go.Proofs.Ytgancfllpmgciaa
open Go.RowKit
set_option linter.unusedVariables false

def inI (lo hi n : Int) : Bool := decide (lo ≤ n) && decide (n ≤ hi)
theorem from_int (lo hi : Int) (w : World) : Calls Try.prog 37 #[.int .i64 lo, .int .i64 hi] w fun e w' => e = .returned (.agg #[.int .i64 lo, .int .i64 hi]) ∧ Below w.heap.size w w' := by
  go_enter Try.func37, Try.ntmps37
  go_wp2
  exact bodyPost_ret (v := .agg #[.int .i64 lo, .int .i64 hi]) (by simp [results, Try.results37, go_sem]) rfl ⟨rfl, below1 _ _⟩
theorem has_int (lo hi n : Int) (w : World) : Calls Try.prog 25 #[.agg #[.int .i64 lo, .int .i64 hi], .int .i64 n] w fun e w' => e = .returned (.bool (inI lo hi n)) ∧ Below w.heap.size w w' := by
  go_enter Try.func25, Try.ntmps25
  go_wp2
  all_goals
    go_ret
    exact ⟨by first | (simp [inI, *]; done) | (simp [inI]; intros; omega), below1 _ _⟩
theorem unless_any (b : Bool) (e : Int) (w : World) : Calls Try.prog 24 #[.bool b, .int .i64 e] w fun x w' => x = .returned (.int .i64 (if b then 0 else e)) ∧ w = w' := by
  cases b
  all_goals
    go_enter Try.func24, Try.ntmps24
    go_wp2
    go_ret
    exact ⟨rfl, rfl⟩
end Go.Proofs.Ytgancfllpmgciaa
