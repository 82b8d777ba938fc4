/-
  What each operation of the tables makes of two numbers: one contract for each.
-/
import Derived.Test.YtmlkbpmchcdldaaGreatRows
import Derived.WalkKit
import Derived.WalkLawsBesides
namespace Go.Proofs.YtmlkbpmchcdldaaGreat
open Go.RowKit
set_option linter.unusedVariables false

set_option maxHeartbeats 400000 in
theorem t46 (a b : Int) (w : World) : Calls Tryz.prog 42 #[.int .u64 a, .int .u64 b] w fun e w' => e = .returned (.int .u64 (IntKind.u64.wrap (a + b))) ∧ w = w' := by
  go_enter Tryz.func42, Tryz.ntmps42
  go_wp2
  go_ret
  exact ⟨rfl, rfl⟩

set_option maxHeartbeats 400000 in
theorem t47 (a b : Int) (w : World) : Calls Tryz.prog 43 #[.int .u64 a, .int .u64 b] w fun e w' => e = .returned (.int .u64 (IntKind.u64.wrap (a - b))) ∧ w = w' := by
  go_enter Tryz.func43, Tryz.ntmps43
  go_wp2
  go_ret
  exact ⟨rfl, rfl⟩

set_option maxHeartbeats 400000 in
theorem t48 (a b : Int) (w : World) : Calls Tryz.prog 44 #[.int .u64 a, .int .u64 b] w fun e w' => e = .returned (.int .u64 (IntKind.u64.wrap (a * b))) ∧ w = w' := by
  go_enter Tryz.func44, Tryz.ntmps44
  go_wp2
  go_ret
  exact ⟨rfl, rfl⟩

set_option maxHeartbeats 400000 in
theorem t49 (a b : Int) (w : World) : Calls Tryz.prog 45 #[.int .u64 a, .int .u64 b] w fun e w' => e = .returned (.int .u64 (if b = 0 then 0 else IntKind.u64.wrap (a.tdiv b))) ∧ w = w' := by
  by_cases hb : b = 0
  · subst hb
    go_enter Tryz.func45, Tryz.ntmps45
    go_wp2
    go_ret
    exact ⟨rfl, rfl⟩
  · have hb' : (b == 0) = false := by simpa using hb
    rw [if_neg hb]
    go_enter Tryz.func45, Tryz.ntmps45
    go_wp2
    go_ret
    exact ⟨rfl, rfl⟩

set_option maxHeartbeats 400000 in
theorem t51 (a b : Int) (w : World) : Calls Tryz.prog 47 #[.int .i64 a, .int .i64 b] w fun e w' => e = .returned (.int .i64 (if b = 0 then 0 else wrap64 (a.tdiv b))) ∧ w = w' := by
  by_cases hb : b = 0
  · subst hb
    go_enter Tryz.func47, Tryz.ntmps47
    go_wp2
    go_ret
    exact ⟨rfl, rfl⟩
  · have hb' : (b == 0) = false := by simpa using hb
    rw [if_neg hb]
    go_enter Tryz.func47, Tryz.ntmps47
    go_wp2
    go_ret
    exact ⟨rfl, rfl⟩

set_option maxHeartbeats 400000 in
theorem t50 (a b : Int) (w : World) : Calls Tryz.prog 46 #[.int .u64 a, .int .u64 b] w fun e w' => e = .returned (.int .u64 (IntKind.u64.wrap (if wrap64 b = 0 then 0 else wrap64 ((wrap64 a).tdiv (wrap64 b))))) ∧ w = w' := by
  go_enter Tryz.func46, Tryz.ntmps46
  go_wp2_with (go_at_call 47; refine (t51 _ _ _).mono ?_; rintro e w' ⟨rfl, rfl⟩)
  all_goals go_ret
  all_goals exact ⟨rfl, rfl⟩

set_option maxHeartbeats 400000 in
theorem t52 (a b : Int) (w : World) : Calls Tryz.prog 48 #[.int .u64 a, .int .u64 b] w fun e w' => e = .returned (.int .u64 (if b = 0 then a else a.tmod b)) ∧ w = w' := by
  by_cases hb : b = 0
  · subst hb
    go_enter Tryz.func48, Tryz.ntmps48
    go_wp2
    go_ret
    exact ⟨rfl, rfl⟩
  · have hb' : (b == 0) = false := by simpa using hb
    rw [if_neg hb]
    go_enter Tryz.func48, Tryz.ntmps48
    go_wp2
    go_ret
    exact ⟨rfl, rfl⟩

set_option maxHeartbeats 400000 in
theorem t54 (a b : Int) (w : World) : Calls Tryz.prog 50 #[.int .i64 a, .int .i64 b] w fun e w' => e = .returned (.int .i64 (if b = 0 then a else a.tmod b)) ∧ w = w' := by
  by_cases hb : b = 0
  · subst hb
    go_enter Tryz.func50, Tryz.ntmps50
    go_wp2
    go_ret
    exact ⟨rfl, rfl⟩
  · have hb' : (b == 0) = false := by simpa using hb
    rw [if_neg hb]
    go_enter Tryz.func50, Tryz.ntmps50
    go_wp2
    go_ret
    exact ⟨rfl, rfl⟩

set_option maxHeartbeats 400000 in
theorem t53 (a b : Int) (w : World) : Calls Tryz.prog 49 #[.int .u64 a, .int .u64 b] w fun e w' => e = .returned (.int .u64 (IntKind.u64.wrap (if wrap64 b = 0 then wrap64 a else (wrap64 a).tmod (wrap64 b)))) ∧ w = w' := by
  go_enter Tryz.func49, Tryz.ntmps49
  go_wp2_with (go_at_call 50; refine (t54 _ _ _).mono ?_; rintro e w' ⟨rfl, rfl⟩)
  all_goals go_ret
  all_goals exact ⟨rfl, rfl⟩

set_option maxHeartbeats 400000 in
theorem t55 (a b : Int) (w : World) : Calls Tryz.prog 51 #[.int .u64 a, .int .u64 b] w fun e w' => e = .returned (.int .u64 (bits .or .u64 a b)) ∧ w = w' := by
  go_enter Tryz.func51, Tryz.ntmps51
  go_wp2
  go_ret
  exact ⟨rfl, rfl⟩

set_option maxHeartbeats 400000 in
theorem t56 (a b : Int) (w : World) : Calls Tryz.prog 52 #[.int .u64 a, .int .u64 b] w fun e w' => e = .returned (.int .u64 (bits .and .u64 a b)) ∧ w = w' := by
  go_enter Tryz.func52, Tryz.ntmps52
  go_wp2
  go_ret
  exact ⟨rfl, rfl⟩

set_option maxHeartbeats 400000 in
theorem t57 (a b : Int) (w : World) : Calls Tryz.prog 53 #[.int .u64 a, .int .u64 b] w fun e w' => e = .returned (.int .u64 (bits .xor .u64 a b)) ∧ w = w' := by
  go_enter Tryz.func53, Tryz.ntmps53
  go_wp2
  go_ret
  exact ⟨rfl, rfl⟩

set_option maxHeartbeats 400000 in
theorem t58 (a b : Int) (w : World) (p : Addr) (hc : w.cell? p = some (.int .u64 64)) (hb : 0 ≤ b) : Calls Tryz.prog 54 #[.int .u64 a, .int .u64 b, .pointer (some p)] w fun e w' => e = .returned (.int .u64 (IntKind.u64.wrap (a * 2 ^ (b % 64).toNat))) ∧ w = w' := by
  have h1 : 0 ≤ b % 64 := by omega
  go_enter Tryz.func54, Tryz.ntmps54
  go_wp2
  go_ret
  exact ⟨rfl, rfl⟩

set_option maxHeartbeats 400000 in
theorem t59 (a b : Int) (w : World) (p : Addr) (hc : w.cell? p = some (.int .u64 64)) (hb : 0 ≤ b) : Calls Tryz.prog 55 #[.int .u64 a, .int .u64 b, .pointer (some p)] w fun e w' => e = .returned (.int .u64 (a / 2 ^ (b % 64).toNat)) ∧ w = w' := by
  have h1 : 0 ≤ b % 64 := by omega
  go_enter Tryz.func55, Tryz.ntmps55
  go_wp2
  go_ret
  exact ⟨rfl, rfl⟩

set_option maxHeartbeats 400000 in
theorem t60 (a b : Int) (w : World) (p : Addr) (hc : w.cell? p = some (.int .u64 64)) (hb : 0 ≤ b) : Calls Tryz.prog 56 #[.int .u64 a, .int .u64 b, .pointer (some p)] w fun e w' => e = .returned (.int .u64 (IntKind.u64.wrap (wrap64 a / 2 ^ (b % 64).toNat))) ∧ w = w' := by
  have h1 : 0 ≤ b % 64 := by omega
  go_enter Tryz.func56, Tryz.ntmps56
  go_wp2
  go_ret
  exact ⟨rfl, rfl⟩

set_option maxHeartbeats 400000 in
theorem t61 (a b : Int) (w : World) : Calls Tryz.prog 57 #[.int .u64 a, .int .u64 b] w fun e w' => e = .returned (.int .u64 (IntKind.u64.wrap (-a))) ∧ w = w' := by
  go_enter Tryz.func57, Tryz.ntmps57
  go_wp2
  go_ret
  exact ⟨rfl, rfl⟩

set_option maxHeartbeats 400000 in
theorem t62 (a b : Int) (w : World) : Calls Tryz.prog 58 #[.int .u64 a, .int .u64 b] w fun e w' => e = .returned (.int .u64 (b)) ∧ w = w' := by
  go_enter Tryz.func58, Tryz.ntmps58
  go_wp2
  go_ret
  exact ⟨rfl, rfl⟩

set_option maxHeartbeats 400000 in
theorem t63 (a b : Int) (w : World) : Calls Tryz.prog 59 #[.int .u64 a, .int .u64 b] w fun e w' => e = .returned (.int .u64 (IntKind.u64.wrap (IntKind.i8.wrap b))) ∧ w = w' := by
  go_enter Tryz.func59, Tryz.ntmps59
  go_wp2
  go_ret
  exact ⟨rfl, rfl⟩

set_option maxHeartbeats 400000 in
theorem t64 (a b : Int) (w : World) : Calls Tryz.prog 60 #[.int .u64 a, .int .u64 b] w fun e w' => e = .returned (.int .u64 (IntKind.u64.wrap (IntKind.i16.wrap b))) ∧ w = w' := by
  go_enter Tryz.func60, Tryz.ntmps60
  go_wp2
  go_ret
  exact ⟨rfl, rfl⟩

set_option maxHeartbeats 400000 in
theorem t65 (a b : Int) (w : World) : Calls Tryz.prog 61 #[.int .u64 a, .int .u64 b] w fun e w' => e = .returned (.int .u64 (IntKind.u64.wrap (wrap32 b))) ∧ w = w' := by
  go_enter Tryz.func61, Tryz.ntmps61
  go_wp2
  go_ret
  exact ⟨rfl, rfl⟩

set_option maxHeartbeats 400000 in
theorem t67 (a b : Int) (w : World) : Calls Tryz.prog 63 #[.int .u32 a, .int .u32 b] w fun e w' => e = .returned (.int .u32 (IntKind.u32.wrap (a + b))) ∧ w = w' := by
  go_enter Tryz.func63, Tryz.ntmps63
  go_wp2
  go_ret
  exact ⟨rfl, rfl⟩

set_option maxHeartbeats 400000 in
theorem t68 (a b : Int) (w : World) : Calls Tryz.prog 64 #[.int .u32 a, .int .u32 b] w fun e w' => e = .returned (.int .u32 (IntKind.u32.wrap (a - b))) ∧ w = w' := by
  go_enter Tryz.func64, Tryz.ntmps64
  go_wp2
  go_ret
  exact ⟨rfl, rfl⟩

set_option maxHeartbeats 400000 in
theorem t69 (a b : Int) (w : World) : Calls Tryz.prog 65 #[.int .u32 a, .int .u32 b] w fun e w' => e = .returned (.int .u32 (IntKind.u32.wrap (a * b))) ∧ w = w' := by
  go_enter Tryz.func65, Tryz.ntmps65
  go_wp2
  go_ret
  exact ⟨rfl, rfl⟩

set_option maxHeartbeats 400000 in
theorem t70 (a b : Int) (w : World) : Calls Tryz.prog 66 #[.int .u32 a, .int .u32 b] w fun e w' => e = .returned (.int .u32 (if b = 0 then 0 else IntKind.u32.wrap (a.tdiv b))) ∧ w = w' := by
  by_cases hb : b = 0
  · subst hb
    go_enter Tryz.func66, Tryz.ntmps66
    go_wp2
    go_ret
    exact ⟨rfl, rfl⟩
  · have hb' : (b == 0) = false := by simpa using hb
    rw [if_neg hb]
    go_enter Tryz.func66, Tryz.ntmps66
    go_wp2
    go_ret
    exact ⟨rfl, rfl⟩

set_option maxHeartbeats 400000 in
theorem t72 (a b : Int) (w : World) : Calls Tryz.prog 68 #[.int .i32 a, .int .i32 b] w fun e w' => e = .returned (.int .i32 (if b = 0 then 0 else wrap32 (a.tdiv b))) ∧ w = w' := by
  by_cases hb : b = 0
  · subst hb
    go_enter Tryz.func68, Tryz.ntmps68
    go_wp2
    go_ret
    exact ⟨rfl, rfl⟩
  · have hb' : (b == 0) = false := by simpa using hb
    rw [if_neg hb]
    go_enter Tryz.func68, Tryz.ntmps68
    go_wp2
    go_ret
    exact ⟨rfl, rfl⟩

set_option maxHeartbeats 400000 in
theorem t71 (a b : Int) (w : World) : Calls Tryz.prog 67 #[.int .u32 a, .int .u32 b] w fun e w' => e = .returned (.int .u32 (IntKind.u32.wrap (if wrap32 b = 0 then 0 else wrap32 ((wrap32 a).tdiv (wrap32 b))))) ∧ w = w' := by
  go_enter Tryz.func67, Tryz.ntmps67
  go_wp2_with (go_at_call 68; refine (t72 _ _ _).mono ?_; rintro e w' ⟨rfl, rfl⟩)
  all_goals go_ret
  all_goals exact ⟨rfl, rfl⟩

set_option maxHeartbeats 400000 in
theorem t73 (a b : Int) (w : World) : Calls Tryz.prog 69 #[.int .u32 a, .int .u32 b] w fun e w' => e = .returned (.int .u32 (if b = 0 then a else a.tmod b)) ∧ w = w' := by
  by_cases hb : b = 0
  · subst hb
    go_enter Tryz.func69, Tryz.ntmps69
    go_wp2
    go_ret
    exact ⟨rfl, rfl⟩
  · have hb' : (b == 0) = false := by simpa using hb
    rw [if_neg hb]
    go_enter Tryz.func69, Tryz.ntmps69
    go_wp2
    go_ret
    exact ⟨rfl, rfl⟩

set_option maxHeartbeats 400000 in
theorem t75 (a b : Int) (w : World) : Calls Tryz.prog 71 #[.int .i32 a, .int .i32 b] w fun e w' => e = .returned (.int .i32 (if b = 0 then a else a.tmod b)) ∧ w = w' := by
  by_cases hb : b = 0
  · subst hb
    go_enter Tryz.func71, Tryz.ntmps71
    go_wp2
    go_ret
    exact ⟨rfl, rfl⟩
  · have hb' : (b == 0) = false := by simpa using hb
    rw [if_neg hb]
    go_enter Tryz.func71, Tryz.ntmps71
    go_wp2
    go_ret
    exact ⟨rfl, rfl⟩

set_option maxHeartbeats 400000 in
theorem t74 (a b : Int) (w : World) : Calls Tryz.prog 70 #[.int .u32 a, .int .u32 b] w fun e w' => e = .returned (.int .u32 (IntKind.u32.wrap (if wrap32 b = 0 then wrap32 a else (wrap32 a).tmod (wrap32 b)))) ∧ w = w' := by
  go_enter Tryz.func70, Tryz.ntmps70
  go_wp2_with (go_at_call 71; refine (t75 _ _ _).mono ?_; rintro e w' ⟨rfl, rfl⟩)
  all_goals go_ret
  all_goals exact ⟨rfl, rfl⟩

set_option maxHeartbeats 400000 in
theorem t76 (a b : Int) (w : World) : Calls Tryz.prog 72 #[.int .u32 a, .int .u32 b] w fun e w' => e = .returned (.int .u32 (bits .or .u32 a b)) ∧ w = w' := by
  go_enter Tryz.func72, Tryz.ntmps72
  go_wp2
  go_ret
  exact ⟨rfl, rfl⟩

set_option maxHeartbeats 400000 in
theorem t77 (a b : Int) (w : World) : Calls Tryz.prog 73 #[.int .u32 a, .int .u32 b] w fun e w' => e = .returned (.int .u32 (bits .and .u32 a b)) ∧ w = w' := by
  go_enter Tryz.func73, Tryz.ntmps73
  go_wp2
  go_ret
  exact ⟨rfl, rfl⟩

set_option maxHeartbeats 400000 in
theorem t78 (a b : Int) (w : World) : Calls Tryz.prog 74 #[.int .u32 a, .int .u32 b] w fun e w' => e = .returned (.int .u32 (bits .xor .u32 a b)) ∧ w = w' := by
  go_enter Tryz.func74, Tryz.ntmps74
  go_wp2
  go_ret
  exact ⟨rfl, rfl⟩

set_option maxHeartbeats 400000 in
theorem t79 (a b : Int) (w : World) (p : Addr) (hc : w.cell? p = some (.int .u32 32)) (hb : 0 ≤ b) : Calls Tryz.prog 75 #[.int .u32 a, .int .u32 b, .pointer (some p)] w fun e w' => e = .returned (.int .u32 (IntKind.u32.wrap (a * 2 ^ (b % 32).toNat))) ∧ w = w' := by
  have h1 : 0 ≤ b % 32 := by omega
  go_enter Tryz.func75, Tryz.ntmps75
  go_wp2
  go_ret
  exact ⟨rfl, rfl⟩

set_option maxHeartbeats 400000 in
theorem t80 (a b : Int) (w : World) (p : Addr) (hc : w.cell? p = some (.int .u32 32)) (hb : 0 ≤ b) : Calls Tryz.prog 76 #[.int .u32 a, .int .u32 b, .pointer (some p)] w fun e w' => e = .returned (.int .u32 (a / 2 ^ (b % 32).toNat)) ∧ w = w' := by
  have h1 : 0 ≤ b % 32 := by omega
  go_enter Tryz.func76, Tryz.ntmps76
  go_wp2
  go_ret
  exact ⟨rfl, rfl⟩

set_option maxHeartbeats 400000 in
theorem t81 (a b : Int) (w : World) (p : Addr) (hc : w.cell? p = some (.int .u32 32)) (hb : 0 ≤ b) : Calls Tryz.prog 77 #[.int .u32 a, .int .u32 b, .pointer (some p)] w fun e w' => e = .returned (.int .u32 (IntKind.u32.wrap (wrap32 a / 2 ^ (b % 32).toNat))) ∧ w = w' := by
  have h1 : 0 ≤ b % 32 := by omega
  go_enter Tryz.func77, Tryz.ntmps77
  go_wp2
  go_ret
  exact ⟨rfl, rfl⟩

set_option maxHeartbeats 400000 in
theorem t82 (a b : Int) (w : World) : Calls Tryz.prog 78 #[.int .u32 a, .int .u32 b] w fun e w' => e = .returned (.int .u32 (IntKind.u32.wrap (-a))) ∧ w = w' := by
  go_enter Tryz.func78, Tryz.ntmps78
  go_wp2
  go_ret
  exact ⟨rfl, rfl⟩

set_option maxHeartbeats 400000 in
theorem t83 (a b : Int) (w : World) : Calls Tryz.prog 79 #[.int .u32 a, .int .u32 b] w fun e w' => e = .returned (.int .u32 (b)) ∧ w = w' := by
  go_enter Tryz.func79, Tryz.ntmps79
  go_wp2
  go_ret
  exact ⟨rfl, rfl⟩

set_option maxHeartbeats 400000 in
theorem t84 (a b : Int) (w : World) : Calls Tryz.prog 80 #[.int .u32 a, .int .u32 b] w fun e w' => e = .returned (.int .u32 (IntKind.u32.wrap (IntKind.i8.wrap b))) ∧ w = w' := by
  go_enter Tryz.func80, Tryz.ntmps80
  go_wp2
  go_ret
  exact ⟨rfl, rfl⟩

set_option maxHeartbeats 400000 in
theorem t85 (a b : Int) (w : World) : Calls Tryz.prog 81 #[.int .u32 a, .int .u32 b] w fun e w' => e = .returned (.int .u32 (IntKind.u32.wrap (IntKind.i16.wrap b))) ∧ w = w' := by
  go_enter Tryz.func81, Tryz.ntmps81
  go_wp2
  go_ret
  exact ⟨rfl, rfl⟩

end Go.Proofs.YtmlkbpmchcdldaaGreat
