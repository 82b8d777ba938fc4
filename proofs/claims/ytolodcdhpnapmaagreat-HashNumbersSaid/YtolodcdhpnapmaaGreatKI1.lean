/-
  Kinds' small functions: bounds, what lies within them.
-/
import Derived.Test.YtolodcdhpnapmaaGreatKB
namespace Go.Proofs.YtolodcdhpnapmaaGreat
open Go.RowKit
set_option linter.unusedVariables false

def inI (lo hi n : Int) : Bool := decide (lo ≤ n) && decide (n ≤ hi)
theorem from_int (lo hi : Int) (w : World) : Calls Tryz.prog 65 #[.int .i64 lo, .int .i64 hi] w fun e w' => e = .returned (.agg #[.int .i64 lo, .int .i64 hi]) ∧ Below w.heap.size w w' := by
  go_enter Tryz.func65, Tryz.ntmps65
  go_wp2
  exact bodyPost_ret (v := .agg #[.int .i64 lo, .int .i64 hi]) (by simp [results, Tryz.results65, go_sem]) rfl ⟨rfl, below1 _ _⟩
theorem has_int (lo hi n : Int) (w : World) : Calls Tryz.prog 32 #[.agg #[.int .i64 lo, .int .i64 hi], .int .i64 n] w fun e w' => e = .returned (.bool (inI lo hi n)) ∧ Below w.heap.size w w' := by
  go_enter Tryz.func32, Tryz.ntmps32
  go_wp2
  all_goals
    go_ret
    exact ⟨by first | (simp [inI, *]; done) | (simp [inI]; intros; omega), below1 _ _⟩
theorem unless_any (b : Bool) (e : Int) (w : World) : Calls Tryz.prog 31 #[.bool b, .int .i64 e] w fun x w' => x = .returned (.int .i64 (if b then 0 else e)) ∧ w = w' := by
  cases b
  all_goals
    go_enter Tryz.func31, Tryz.ntmps31
    go_wp2
    go_ret
    exact ⟨rfl, rfl⟩
end Go.Proofs.YtolodcdhpnapmaaGreat
