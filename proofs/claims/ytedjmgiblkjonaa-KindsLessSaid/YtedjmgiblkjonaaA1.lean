/-
  The smallest functions: bounds, what lies within them, arguments, answers.
-/
import Derived.Test.YtedjmgiblkjonaaKB
namespace Go.Proofs.Ytedjmgiblkjonaa
open Go.RowKit
set_option linter.unusedVariables false

def inI (lo hi n : Int) : Bool := decide (lo ≤ n) && decide (n ≤ hi)
theorem from_int (lo hi : Int) (w : World) : Calls Try.prog 27 #[.int .i64 lo, .int .i64 hi] w fun e w' => e = .returned (.agg #[.int .i64 lo, .int .i64 hi]) ∧ Below w.heap.size w w' := by
  go_enter Try.func27, Try.ntmps27
  go_wp2
  exact bodyPost_ret (v := .agg #[.int .i64 lo, .int .i64 hi]) (by simp [results, Try.results27, go_sem]) rfl ⟨rfl, below1 _ _⟩
theorem has_int (lo hi n : Int) (w : World) : Calls Try.prog 28 #[.agg #[.int .i64 lo, .int .i64 hi], .int .i64 n] w fun e w' => e = .returned (.bool (inI lo hi n)) ∧ Below w.heap.size w w' := by
  go_enter Try.func28, Try.ntmps28
  go_wp2
  all_goals
    go_ret
    exact ⟨by first | (simp [inI, *]; done) | (simp [inI]; intros; omega), below1 _ _⟩
theorem from_byte (lo hi : Int) (w : World) : Calls Try.prog 56 #[.int .u8 lo, .int .u8 hi] w fun e w' => e = .returned (.agg #[.int .u8 lo, .int .u8 hi]) ∧ Below w.heap.size w w' := by
  go_enter Try.func56, Try.ntmps56
  go_wp2
  exact bodyPost_ret (v := .agg #[.int .u8 lo, .int .u8 hi]) (by simp [results, Try.results56, go_sem]) rfl ⟨rfl, below1 _ _⟩
theorem has_byte (lo hi n : Int) (w : World) : Calls Try.prog 57 #[.agg #[.int .u8 lo, .int .u8 hi], .int .u8 n] w fun e w' => e = .returned (.bool (inI lo hi n)) ∧ Below w.heap.size w w' := by
  go_enter Try.func57, Try.ntmps57
  go_wp2
  all_goals
    go_ret
    exact ⟨by first | (simp [inI, *]; done) | (simp [inI]; intros; omega), below1 _ _⟩
theorem from_mk (lo hi : Int) (w : World) : Calls Try.prog 66 #[.int .u8 lo, .int .u8 hi] w fun e w' => e = .returned (.agg #[.int .u8 lo, .int .u8 hi]) ∧ Below w.heap.size w w' := by
  go_enter Try.func66, Try.ntmps66
  go_wp2
  exact bodyPost_ret (v := .agg #[.int .u8 lo, .int .u8 hi]) (by simp [results, Try.results66, go_sem]) rfl ⟨rfl, below1 _ _⟩
theorem has_mk (lo hi n : Int) (w : World) : Calls Try.prog 67 #[.agg #[.int .u8 lo, .int .u8 hi], .int .u8 n] w fun e w' => e = .returned (.bool (inI lo hi n)) ∧ Below w.heap.size w w' := by
  go_enter Try.func67, Try.ntmps67
  go_wp2
  all_goals
    go_ret
    exact ⟨by first | (simp [inI, *]; done) | (simp [inI]; intros; omega), below1 _ _⟩
theorem from_i64 (lo hi : Int) (w : World) : Calls Try.prog 87 #[.int .i64 lo, .int .i64 hi] w fun e w' => e = .returned (.agg #[.int .i64 lo, .int .i64 hi]) ∧ Below w.heap.size w w' := by
  go_enter Try.func87, Try.ntmps87
  go_wp2
  exact bodyPost_ret (v := .agg #[.int .i64 lo, .int .i64 hi]) (by simp [results, Try.results87, go_sem]) rfl ⟨rfl, below1 _ _⟩
theorem has_i64 (lo hi n : Int) (w : World) : Calls Try.prog 88 #[.agg #[.int .i64 lo, .int .i64 hi], .int .i64 n] w fun e w' => e = .returned (.bool (inI lo hi n)) ∧ Below w.heap.size w w' := by
  go_enter Try.func88, Try.ntmps88
  go_wp2
  all_goals
    go_ret
    exact ⟨by first | (simp [inI, *]; done) | (simp [inI]; intros; omega), below1 _ _⟩
theorem from_ak (lo hi : Int) (w : World) : Calls Try.prog 89 #[.int .u8 lo, .int .u8 hi] w fun e w' => e = .returned (.agg #[.int .u8 lo, .int .u8 hi]) ∧ Below w.heap.size w w' := by
  go_enter Try.func89, Try.ntmps89
  go_wp2
  exact bodyPost_ret (v := .agg #[.int .u8 lo, .int .u8 hi]) (by simp [results, Try.results89, go_sem]) rfl ⟨rfl, below1 _ _⟩
theorem has_ak (lo hi n : Int) (w : World) : Calls Try.prog 90 #[.agg #[.int .u8 lo, .int .u8 hi], .int .u8 n] w fun e w' => e = .returned (.bool (inI lo hi n)) ∧ Below w.heap.size w w' := by
  go_enter Try.func90, Try.ntmps90
  go_wp2
  all_goals
    go_ret
    exact ⟨by first | (simp [inI, *]; done) | (simp [inI]; intros; omega), below1 _ _⟩
theorem unless_any (b : Bool) (e : Int) (w : World) : Calls Try.prog 31 #[.bool b, .int .i64 e] w fun x w' => x = .returned (.int .i64 (if b then 0 else e)) ∧ w = w' := by
  cases b
  all_goals
    go_enter Try.func31, Try.ntmps31
    go_wp2
    go_ret
    exact ⟨rfl, rfl⟩
theorem within_any (n lo hi : Int) (w : World) : Calls Try.prog 32 #[.int .i64 n, .int .i64 lo, .int .i64 hi] w fun e w' => e = .returned (.bool (inI lo hi n)) ∧ w = w' := by
  go_enter Try.func32, Try.ntmps32
  go_wp2
  all_goals
    go_ret
    exact ⟨by first | (simp [inI, *]; done) | (simp [inI]; intros; omega), rfl⟩
theorem plain_any (k : Int) (w : World) : Calls Try.prog 52 #[.int .u8 k] w fun e w' => e = .returned (.agg #[.int .u8 k, .int .i64 0, .int .i64 0, .slice none 0 0]) ∧ Below w.heap.size w w' := by
  go_enter Try.func52, Try.ntmps52
  go_wp2
  exact bodyPost_ret (v := .agg #[.int .u8 k, .int .i64 0, .int .i64 0, .slice none 0 0]) (by simp [results, Try.results52, go_sem]) rfl ⟨rfl, below1 _ _⟩
theorem rplain_any (k : Int) (w : World) : Calls Try.prog 25 #[.int .u8 k] w fun e w' => e = .returned (.agg #[.int .u8 k, .int .i64 0, .int .i64 0, .slice none 0 0]) ∧ Below w.heap.size w w' := by
  go_enter Try.func25, Try.ntmps25
  go_wp2
  exact bodyPost_ret (v := .agg #[.int .u8 k, .int .i64 0, .int .i64 0, .slice none 0 0]) (by simp [results, Try.results25, go_sem]) rfl ⟨rfl, below1 _ _⟩
theorem scalar_any (lo hi : Int) (w : World) : Calls Try.prog 53 #[.int .i64 lo, .int .i64 hi] w fun e w' => e = .returned (.agg #[.int .u8 1, .int .i64 lo, .int .i64 hi, .slice none 0 0]) ∧ Below w.heap.size w w' := by
  go_enter Try.func53, Try.ntmps53
  go_wp2
  exact bodyPost_ret (v := .agg #[.int .u8 1, .int .i64 lo, .int .i64 hi, .slice none 0 0]) (by simp [results, Try.results53, go_sem]) rfl ⟨rfl, below1 _ _⟩
theorem num_any (lo hi : Int) (w : World) : Calls Try.prog 26 #[.int .i64 lo, .int .i64 hi] w fun e w' => e = .returned (.agg #[.int .u8 1, .int .i64 lo, .int .i64 hi, .slice none 0 0]) ∧ Below w.heap.size w w' := by
  go_enter Try.func26, Try.ntmps26
  go_wp2
  exact bodyPost_ret (v := .agg #[.int .u8 1, .int .i64 lo, .int .i64 hi, .slice none 0 0]) (by simp [results, Try.results26, go_sem]) rfl ⟨rfl, below1 _ _⟩
theorem oneOf_any (A : Option Addr) (n c : Nat) (w : World) : Calls Try.prog 55 #[.slice A n c] w fun e w' => e = .returned (.agg #[.int .u8 3, .int .i64 0, .int .i64 0, .slice A n c]) ∧ Below w.heap.size w w' := by
  go_enter Try.func55, Try.ntmps55
  go_wp2
  exact bodyPost_ret (v := .agg #[.int .u8 3, .int .i64 0, .int .i64 0, .slice A n c]) (by simp [results, Try.results55, go_sem]) rfl ⟨rfl, below1 _ _⟩
theorem of_any (A : Option Addr) (n c : Nat) (w : World) : Calls Try.prog 24 #[.slice A n c] w fun e w' => e = .returned (.agg #[.int .u8 3, .int .i64 0, .int .i64 0, .slice A n c]) ∧ Below w.heap.size w w' := by
  go_enter Try.func24, Try.ntmps24
  go_wp2
  exact bodyPost_ret (v := .agg #[.int .u8 3, .int .i64 0, .int .i64 0, .slice A n c]) (by simp [results, Try.results24, go_sem]) rfl ⟨rfl, below1 _ _⟩
theorem answer_any (lo hi : Int) (w : World) : Calls Try.prog 54 #[.int .i64 lo, .int .i64 hi] w fun e w' => e = .returned (.agg #[.int .u8 1, .int .i64 lo, .int .i64 hi, .int .i64 0]) ∧ Below w.heap.size w w' := by
  go_enter Try.func54, Try.ntmps54
  go_wp2
  exact bodyPost_ret (v := .agg #[.int .u8 1, .int .i64 lo, .int .i64 hi, .int .i64 0]) (by simp [results, Try.results54, go_sem]) rfl ⟨rfl, below1 _ _⟩
end Go.Proofs.Ytedjmgiblkjonaa
