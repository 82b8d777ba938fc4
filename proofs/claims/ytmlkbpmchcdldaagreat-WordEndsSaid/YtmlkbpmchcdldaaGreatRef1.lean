/-
  The document's own arithmetic, part by part: cut, widened, without a sign, divided.
-/
import Derived.Test.YtmlkbpmchcdldaaGreatBase
namespace Go.Proofs.YtmlkbpmchcdldaaGreat
open Go.RowKit Go.Maps
set_option linter.unusedVariables false

theorem ret_i {k : IntKind} {a b : Int} (h : a = b) : Ending.returned (.int k a) = .returned (.int k b) := by rw [h]
theorem ret_b {a b : Bool} (h : a = b) : Ending.returned (.bool a) = .returned (.bool b) := by rw [h]
theorem and_one (v : Int) (h0 : 0 ≤ v) (h1 : v < 18446744073709551616) : bits .and .u64 v 1 = v % 2 := by
  have h := u64_and v 1 h0 h1 (by decide) (by decide)
  rw [h]
  have : v.toNat &&& (1 : Int).toNat = v.toNat % 2 := Nat.and_one_is_mod _
  rw [this]
  omega

set_option maxHeartbeats 400000 in
theorem cut_64 (a : Int) (h : 0 ≤ a) (w : World) : Calls Tryz.prog 20 #[.int .u64 a, .int .i64 64] w fun e w' => e = .returned (.int .u64 (a)) ∧ w = w' := by
  go_enter Tryz.func20, Tryz.ntmps20
  go_wp2
  go_ret
  exact ⟨rfl, rfl⟩
set_option maxHeartbeats 400000 in
theorem neg_64 (a : Int) (h : 0 ≤ a) (h1 : a < 18446744073709551616) (w : World) : Calls Tryz.prog 36 #[.int .u64 a, .int .i64 64] w fun e w' => e = .returned (.bool (decide (9223372036854775808 ≤ a))) ∧ w = w' := by
  have hd : (bits .and .u64 (a / 9223372036854775808) 1 == 1) = decide (9223372036854775808 ≤ a) := by
    rw [and_one _ (by omega) (by omega), Bool.eq_iff_iff, beq_iff_eq, decide_eq_true_eq]
    omega
  have HD := put_by' hd
  clear hd
  go_enter Tryz.func36, Tryz.ntmps36
  go_wp2
  go_ret
  exact ⟨ret_b HD.out, rfl⟩
theorem neg_64_t (a : Int) (h : 9223372036854775808 ≤ a) (h1 : a < 18446744073709551616) (w : World) : Calls Tryz.prog 36 #[.int .u64 a, .int .i64 64] w fun e w' => e = .returned (.bool true) ∧ w = w' := by
  have := neg_64 a (by omega) h1 w
  rwa [decide_eq_true h] at this
theorem neg_64_f (a : Int) (h : 0 ≤ a) (h1 : a < 9223372036854775808) (w : World) : Calls Tryz.prog 36 #[.int .u64 a, .int .i64 64] w fun e w' => e = .returned (.bool false) ∧ w = w' := by
  have := neg_64 a h (by omega) w
  rwa [decide_eq_false (by omega)] at this

set_option maxHeartbeats 400000 in
theorem abs_64_t (a : Int) (h : 9223372036854775808 ≤ a) (h1 : a < 18446744073709551616) (w : World) : Calls Tryz.prog 83 #[.int .u64 a, .int .i64 64] w fun e w' => e = .returned (.int .u64 (18446744073709551616 - a)) ∧ w = w' := by
  have h2 : IntKind.u64.wrap (-a) = 18446744073709551616 - a := by rw [wrapu64]; omega
  have hc : ∀ W, Calls Tryz.prog 20 #[.int .u64 (IntKind.u64.wrap (-a)), .int .i64 64] W fun e w' => e = .returned (.int .u64 (18446744073709551616 - a)) ∧ W = w' := fun W => by
    rw [h2]
    have := cut_64 (18446744073709551616 - a) (by omega) W
    exact this
  clear h2
  go_enter Tryz.func83, Tryz.ntmps83
  go_wp2_with (first
    | (go_at_call 20; refine (hc _).mono ?_; rintro e w' ⟨rfl, rfl⟩)
    | (go_at_call 36; refine (neg_64_t _ h h1 _).mono ?_; rintro e w' ⟨rfl, rfl⟩))
  go_ret
  exact ⟨rfl, rfl⟩
set_option maxHeartbeats 400000 in
theorem abs_64_f (a : Int) (h : 0 ≤ a) (h1 : a < 9223372036854775808) (w : World) : Calls Tryz.prog 83 #[.int .u64 a, .int .i64 64] w fun e w' => e = .returned (.int .u64 a) ∧ w = w' := by
  go_enter Tryz.func83, Tryz.ntmps83
  go_wp2_with (go_at_call 36; refine (neg_64_f _ h h1 _).mono ?_; rintro e w' ⟨rfl, rfl⟩)
  go_ret
  exact ⟨rfl, rfl⟩

set_option maxHeartbeats 400000 in
theorem quot_64_tt (a b : Int) (ha : 9223372036854775808 ≤ a) (ha1 : a < 18446744073709551616) (hb : 9223372036854775808 ≤ b) (hb1 : b < 18446744073709551616) (w : World) : Calls Tryz.prog 34 #[.int .u64 a, .int .u64 b, .int .i64 64] w fun e w' => e = .returned (.int .u64 ((18446744073709551616 - a) / (18446744073709551616 - b))) ∧ w = w' := by
  have hB : 1 ≤ (18446744073709551616 - b) := by omega
  have hA : 0 ≤ (18446744073709551616 - a) := by omega
  have hA1 : (18446744073709551616 - a) ≤ 18446744073709551615 := by omega
  have hq0 : 0 ≤ (18446744073709551616 - a) / (18446744073709551616 - b) := Int.ediv_nonneg hA (by omega)
  have hq1 : (18446744073709551616 - a) / (18446744073709551616 - b) ≤ (18446744073709551616 - a) := Int.ediv_le_self _ hA
  have hn : ((18446744073709551616 - b) == 0) = false := by simp; omega
  have hc : ∀ W, Calls Tryz.prog 20 #[.int .u64 ((18446744073709551616 - a) / (18446744073709551616 - b)), .int .i64 64] W fun e w' => e = .returned (.int .u64 ((18446744073709551616 - a) / (18446744073709551616 - b))) ∧ W = w' := fun W => by
    have := cut_64 ((18446744073709551616 - a) / (18446744073709551616 - b)) (by omega) W
    exact this.mono fun e w' ⟨he, hw⟩ => ⟨he.trans (ret_i (rfl)), hw⟩
  have HC := put_by' hc
  clear hc hn
  go_enter Tryz.func34, Tryz.ntmps34
  go_wp2_with (first
    | (go_at_call 83; first | ((with_reducible refine (abs_64_t a ha ha1 _).mono ?_); rintro e w' ⟨rfl, rfl⟩) | ((with_reducible refine (abs_64_t b hb hb1 _).mono ?_); rintro e w' ⟨rfl, rfl⟩))
    | (go_at_call 36; first | ((with_reducible refine (neg_64_t a ha ha1 _).mono ?_); rintro e w' ⟨rfl, rfl⟩) | ((with_reducible refine (neg_64_t b hb hb1 _).mono ?_); rintro e w' ⟨rfl, rfl⟩))
    | (go_at_call 20; refine (HC.out _).mono ?_; rintro e w' ⟨rfl, rfl⟩))
  go_ret
  exact ⟨rfl, rfl⟩

set_option maxHeartbeats 400000 in
theorem rest_64_tt (a b : Int) (ha : 9223372036854775808 ≤ a) (ha1 : a < 18446744073709551616) (hb : 9223372036854775808 ≤ b) (hb1 : b < 18446744073709551616) (w : World) : Calls Tryz.prog 35 #[.int .u64 a, .int .u64 b, .int .i64 64] w fun e w' => e = .returned (.int .u64 (-((18446744073709551616 - a) % (18446744073709551616 - b)) % 18446744073709551616)) ∧ w = w' := by
  have hB : 1 ≤ (18446744073709551616 - b) := by omega
  have hA : 0 ≤ (18446744073709551616 - a) := by omega
  have hA1 : (18446744073709551616 - a) ≤ 18446744073709551615 := by omega
  have hq0 : 0 ≤ (18446744073709551616 - a) % (18446744073709551616 - b) := Int.emod_nonneg _ (by omega)
  have hq1 : (18446744073709551616 - a) % (18446744073709551616 - b) < (18446744073709551616 - b) := Int.emod_lt_of_pos _ (by omega)
  have hc : ∀ W, Calls Tryz.prog 20 #[.int .u64 (IntKind.u64.wrap (-((18446744073709551616 - a) % (18446744073709551616 - b)))), .int .i64 64] W fun e w' => e = .returned (.int .u64 (-((18446744073709551616 - a) % (18446744073709551616 - b)) % 18446744073709551616)) ∧ W = w' := fun W => by
    have := cut_64 (IntKind.u64.wrap (-((18446744073709551616 - a) % (18446744073709551616 - b)))) (by rw [wrapu64]; omega) W
    exact this.mono fun e w' ⟨he, hw⟩ => ⟨he.trans (ret_i ((wrapu64 _))), hw⟩
  have HC := put_by' hc
  clear hc
  go_enter Tryz.func35, Tryz.ntmps35
  go_wp2_with (first
    | (go_at_call 83; first | ((with_reducible refine (abs_64_t a ha ha1 _).mono ?_); rintro e w' ⟨rfl, rfl⟩) | ((with_reducible refine (abs_64_t b hb hb1 _).mono ?_); rintro e w' ⟨rfl, rfl⟩))
    | (go_at_call 36; refine (neg_64_t a ha ha1 _).mono ?_; rintro e w' ⟨rfl, rfl⟩)
    | (go_at_call 20; refine (HC.out _).mono ?_; rintro e w' ⟨rfl, rfl⟩))
  go_ret
  exact ⟨rfl, rfl⟩

set_option maxHeartbeats 400000 in
theorem quot_64_tf (a b : Int) (ha : 9223372036854775808 ≤ a) (ha1 : a < 18446744073709551616) (hb : 0 < b) (hb1 : b < 9223372036854775808) (w : World) : Calls Tryz.prog 34 #[.int .u64 a, .int .u64 b, .int .i64 64] w fun e w' => e = .returned (.int .u64 (-((18446744073709551616 - a) / b) % 18446744073709551616)) ∧ w = w' := by
  have hB : 1 ≤ b := by omega
  have hA : 0 ≤ (18446744073709551616 - a) := by omega
  have hA1 : (18446744073709551616 - a) ≤ 18446744073709551615 := by omega
  have hq0 : 0 ≤ (18446744073709551616 - a) / b := Int.ediv_nonneg hA (by omega)
  have hq1 : (18446744073709551616 - a) / b ≤ (18446744073709551616 - a) := Int.ediv_le_self _ hA
  have hn : (b == 0) = false := by simp; omega
  have hc : ∀ W, Calls Tryz.prog 20 #[.int .u64 (IntKind.u64.wrap (-((18446744073709551616 - a) / b))), .int .i64 64] W fun e w' => e = .returned (.int .u64 (-((18446744073709551616 - a) / b) % 18446744073709551616)) ∧ W = w' := fun W => by
    have := cut_64 (IntKind.u64.wrap (-((18446744073709551616 - a) / b))) (by rw [wrapu64]; omega) W
    exact this.mono fun e w' ⟨he, hw⟩ => ⟨he.trans (ret_i ((wrapu64 _))), hw⟩
  have HC := put_by' hc
  clear hc hn
  go_enter Tryz.func34, Tryz.ntmps34
  go_wp2_with (first
    | (go_at_call 83; first | ((with_reducible refine (abs_64_t a ha ha1 _).mono ?_); rintro e w' ⟨rfl, rfl⟩) | ((with_reducible refine (abs_64_f b (by omega) hb1 _).mono ?_); rintro e w' ⟨rfl, rfl⟩))
    | (go_at_call 36; first | ((with_reducible refine (neg_64_t a ha ha1 _).mono ?_); rintro e w' ⟨rfl, rfl⟩) | ((with_reducible refine (neg_64_f b (by omega) hb1 _).mono ?_); rintro e w' ⟨rfl, rfl⟩))
    | (go_at_call 20; refine (HC.out _).mono ?_; rintro e w' ⟨rfl, rfl⟩))
  go_ret
  exact ⟨rfl, rfl⟩

set_option maxHeartbeats 400000 in
theorem rest_64_tf (a b : Int) (ha : 9223372036854775808 ≤ a) (ha1 : a < 18446744073709551616) (hb : 0 < b) (hb1 : b < 9223372036854775808) (w : World) : Calls Tryz.prog 35 #[.int .u64 a, .int .u64 b, .int .i64 64] w fun e w' => e = .returned (.int .u64 (-((18446744073709551616 - a) % b) % 18446744073709551616)) ∧ w = w' := by
  have hB : 1 ≤ b := by omega
  have hA : 0 ≤ (18446744073709551616 - a) := by omega
  have hA1 : (18446744073709551616 - a) ≤ 18446744073709551615 := by omega
  have hq0 : 0 ≤ (18446744073709551616 - a) % b := Int.emod_nonneg _ (by omega)
  have hq1 : (18446744073709551616 - a) % b < b := Int.emod_lt_of_pos _ (by omega)
  have hc : ∀ W, Calls Tryz.prog 20 #[.int .u64 (IntKind.u64.wrap (-((18446744073709551616 - a) % b))), .int .i64 64] W fun e w' => e = .returned (.int .u64 (-((18446744073709551616 - a) % b) % 18446744073709551616)) ∧ W = w' := fun W => by
    have := cut_64 (IntKind.u64.wrap (-((18446744073709551616 - a) % b))) (by rw [wrapu64]; omega) W
    exact this.mono fun e w' ⟨he, hw⟩ => ⟨he.trans (ret_i ((wrapu64 _))), hw⟩
  have HC := put_by' hc
  clear hc
  go_enter Tryz.func35, Tryz.ntmps35
  go_wp2_with (first
    | (go_at_call 83; first | ((with_reducible refine (abs_64_t a ha ha1 _).mono ?_); rintro e w' ⟨rfl, rfl⟩) | ((with_reducible refine (abs_64_f b (by omega) hb1 _).mono ?_); rintro e w' ⟨rfl, rfl⟩))
    | (go_at_call 36; refine (neg_64_t a ha ha1 _).mono ?_; rintro e w' ⟨rfl, rfl⟩)
    | (go_at_call 20; refine (HC.out _).mono ?_; rintro e w' ⟨rfl, rfl⟩))
  go_ret
  exact ⟨rfl, rfl⟩

set_option maxHeartbeats 400000 in
theorem quot_64_ft (a b : Int) (ha : 0 ≤ a) (ha1 : a < 9223372036854775808) (hb : 9223372036854775808 ≤ b) (hb1 : b < 18446744073709551616) (w : World) : Calls Tryz.prog 34 #[.int .u64 a, .int .u64 b, .int .i64 64] w fun e w' => e = .returned (.int .u64 (-(a / (18446744073709551616 - b)) % 18446744073709551616)) ∧ w = w' := by
  have hB : 1 ≤ (18446744073709551616 - b) := by omega
  have hA : 0 ≤ a := by omega
  have hA1 : a ≤ 18446744073709551615 := by omega
  have hq0 : 0 ≤ a / (18446744073709551616 - b) := Int.ediv_nonneg hA (by omega)
  have hq1 : a / (18446744073709551616 - b) ≤ a := Int.ediv_le_self _ hA
  have hn : ((18446744073709551616 - b) == 0) = false := by simp; omega
  have hc : ∀ W, Calls Tryz.prog 20 #[.int .u64 (IntKind.u64.wrap (-(a / (18446744073709551616 - b)))), .int .i64 64] W fun e w' => e = .returned (.int .u64 (-(a / (18446744073709551616 - b)) % 18446744073709551616)) ∧ W = w' := fun W => by
    have := cut_64 (IntKind.u64.wrap (-(a / (18446744073709551616 - b)))) (by rw [wrapu64]; omega) W
    exact this.mono fun e w' ⟨he, hw⟩ => ⟨he.trans (ret_i ((wrapu64 _))), hw⟩
  have HC := put_by' hc
  clear hc hn
  go_enter Tryz.func34, Tryz.ntmps34
  go_wp2_with (first
    | (go_at_call 83; first | ((with_reducible refine (abs_64_f a ha ha1 _).mono ?_); rintro e w' ⟨rfl, rfl⟩) | ((with_reducible refine (abs_64_t b hb hb1 _).mono ?_); rintro e w' ⟨rfl, rfl⟩))
    | (go_at_call 36; first | ((with_reducible refine (neg_64_f a ha ha1 _).mono ?_); rintro e w' ⟨rfl, rfl⟩) | ((with_reducible refine (neg_64_t b hb hb1 _).mono ?_); rintro e w' ⟨rfl, rfl⟩))
    | (go_at_call 20; refine (HC.out _).mono ?_; rintro e w' ⟨rfl, rfl⟩))
  go_ret
  exact ⟨rfl, rfl⟩

set_option maxHeartbeats 400000 in
theorem rest_64_ft (a b : Int) (ha : 0 ≤ a) (ha1 : a < 9223372036854775808) (hb : 9223372036854775808 ≤ b) (hb1 : b < 18446744073709551616) (w : World) : Calls Tryz.prog 35 #[.int .u64 a, .int .u64 b, .int .i64 64] w fun e w' => e = .returned (.int .u64 (a % (18446744073709551616 - b))) ∧ w = w' := by
  have hB : 1 ≤ (18446744073709551616 - b) := by omega
  have hA : 0 ≤ a := by omega
  have hA1 : a ≤ 18446744073709551615 := by omega
  have hq0 : 0 ≤ a % (18446744073709551616 - b) := Int.emod_nonneg _ (by omega)
  have hq1 : a % (18446744073709551616 - b) < (18446744073709551616 - b) := Int.emod_lt_of_pos _ (by omega)
  have hc : ∀ W, Calls Tryz.prog 20 #[.int .u64 (a % (18446744073709551616 - b)), .int .i64 64] W fun e w' => e = .returned (.int .u64 (a % (18446744073709551616 - b))) ∧ W = w' := fun W => by
    have := cut_64 (a % (18446744073709551616 - b)) (by omega) W
    exact this.mono fun e w' ⟨he, hw⟩ => ⟨he.trans (ret_i (rfl)), hw⟩
  have HC := put_by' hc
  clear hc
  go_enter Tryz.func35, Tryz.ntmps35
  go_wp2_with (first
    | (go_at_call 83; first | ((with_reducible refine (abs_64_f a ha ha1 _).mono ?_); rintro e w' ⟨rfl, rfl⟩) | ((with_reducible refine (abs_64_t b hb hb1 _).mono ?_); rintro e w' ⟨rfl, rfl⟩))
    | (go_at_call 36; refine (neg_64_f a ha ha1 _).mono ?_; rintro e w' ⟨rfl, rfl⟩)
    | (go_at_call 20; refine (HC.out _).mono ?_; rintro e w' ⟨rfl, rfl⟩))
  go_ret
  exact ⟨rfl, rfl⟩

set_option maxHeartbeats 400000 in
theorem quot_64_ff (a b : Int) (ha : 0 ≤ a) (ha1 : a < 9223372036854775808) (hb : 0 < b) (hb1 : b < 9223372036854775808) (w : World) : Calls Tryz.prog 34 #[.int .u64 a, .int .u64 b, .int .i64 64] w fun e w' => e = .returned (.int .u64 (a / b)) ∧ w = w' := by
  have hB : 1 ≤ b := by omega
  have hA : 0 ≤ a := by omega
  have hA1 : a ≤ 18446744073709551615 := by omega
  have hq0 : 0 ≤ a / b := Int.ediv_nonneg hA (by omega)
  have hq1 : a / b ≤ a := Int.ediv_le_self _ hA
  have hn : (b == 0) = false := by simp; omega
  have hc : ∀ W, Calls Tryz.prog 20 #[.int .u64 (a / b), .int .i64 64] W fun e w' => e = .returned (.int .u64 (a / b)) ∧ W = w' := fun W => by
    have := cut_64 (a / b) (by omega) W
    exact this.mono fun e w' ⟨he, hw⟩ => ⟨he.trans (ret_i (rfl)), hw⟩
  have HC := put_by' hc
  clear hc hn
  go_enter Tryz.func34, Tryz.ntmps34
  go_wp2_with (first
    | (go_at_call 83; first | ((with_reducible refine (abs_64_f a ha ha1 _).mono ?_); rintro e w' ⟨rfl, rfl⟩) | ((with_reducible refine (abs_64_f b (by omega) hb1 _).mono ?_); rintro e w' ⟨rfl, rfl⟩))
    | (go_at_call 36; first | ((with_reducible refine (neg_64_f a ha ha1 _).mono ?_); rintro e w' ⟨rfl, rfl⟩) | ((with_reducible refine (neg_64_f b (by omega) hb1 _).mono ?_); rintro e w' ⟨rfl, rfl⟩))
    | (go_at_call 20; refine (HC.out _).mono ?_; rintro e w' ⟨rfl, rfl⟩))
  go_ret
  exact ⟨rfl, rfl⟩

set_option maxHeartbeats 400000 in
theorem rest_64_ff (a b : Int) (ha : 0 ≤ a) (ha1 : a < 9223372036854775808) (hb : 0 < b) (hb1 : b < 9223372036854775808) (w : World) : Calls Tryz.prog 35 #[.int .u64 a, .int .u64 b, .int .i64 64] w fun e w' => e = .returned (.int .u64 (a % b)) ∧ w = w' := by
  have hB : 1 ≤ b := by omega
  have hA : 0 ≤ a := by omega
  have hA1 : a ≤ 18446744073709551615 := by omega
  have hq0 : 0 ≤ a % b := Int.emod_nonneg _ (by omega)
  have hq1 : a % b < b := Int.emod_lt_of_pos _ (by omega)
  have hc : ∀ W, Calls Tryz.prog 20 #[.int .u64 (a % b), .int .i64 64] W fun e w' => e = .returned (.int .u64 (a % b)) ∧ W = w' := fun W => by
    have := cut_64 (a % b) (by omega) W
    exact this.mono fun e w' ⟨he, hw⟩ => ⟨he.trans (ret_i (rfl)), hw⟩
  have HC := put_by' hc
  clear hc
  go_enter Tryz.func35, Tryz.ntmps35
  go_wp2_with (first
    | (go_at_call 83; first | ((with_reducible refine (abs_64_f a ha ha1 _).mono ?_); rintro e w' ⟨rfl, rfl⟩) | ((with_reducible refine (abs_64_f b (by omega) hb1 _).mono ?_); rintro e w' ⟨rfl, rfl⟩))
    | (go_at_call 36; refine (neg_64_f a ha ha1 _).mono ?_; rintro e w' ⟨rfl, rfl⟩)
    | (go_at_call 20; refine (HC.out _).mono ?_; rintro e w' ⟨rfl, rfl⟩))
  go_ret
  exact ⟨rfl, rfl⟩

set_option maxHeartbeats 400000 in
theorem cut_32 (a : Int) (h : 0 ≤ a) (w : World) : Calls Tryz.prog 20 #[.int .u64 a, .int .i64 32] w fun e w' => e = .returned (.int .u64 (a % 4294967296)) ∧ w = w' := by
  go_enter Tryz.func20, Tryz.ntmps20
  go_wp2
  go_ret
  exact ⟨rfl, rfl⟩
set_option maxHeartbeats 400000 in
theorem neg_32 (a : Int) (h : 0 ≤ a) (h1 : a < 4294967296) (w : World) : Calls Tryz.prog 36 #[.int .u64 a, .int .i64 32] w fun e w' => e = .returned (.bool (decide (2147483648 ≤ a))) ∧ w = w' := by
  have hd : (bits .and .u64 (a / 2147483648) 1 == 1) = decide (2147483648 ≤ a) := by
    rw [and_one _ (by omega) (by omega), Bool.eq_iff_iff, beq_iff_eq, decide_eq_true_eq]
    omega
  have HD := put_by' hd
  clear hd
  go_enter Tryz.func36, Tryz.ntmps36
  go_wp2
  go_ret
  exact ⟨ret_b HD.out, rfl⟩
theorem neg_32_t (a : Int) (h : 2147483648 ≤ a) (h1 : a < 4294967296) (w : World) : Calls Tryz.prog 36 #[.int .u64 a, .int .i64 32] w fun e w' => e = .returned (.bool true) ∧ w = w' := by
  have := neg_32 a (by omega) h1 w
  rwa [decide_eq_true h] at this
theorem neg_32_f (a : Int) (h : 0 ≤ a) (h1 : a < 2147483648) (w : World) : Calls Tryz.prog 36 #[.int .u64 a, .int .i64 32] w fun e w' => e = .returned (.bool false) ∧ w = w' := by
  have := neg_32 a h (by omega) w
  rwa [decide_eq_false (by omega)] at this

set_option maxHeartbeats 400000 in
theorem widen_32_t (a : Int) (h : 0 ≤ a) (h1 : 2147483648 ≤ a % 4294967296) (w : World) : Calls Tryz.prog 24 #[.int .u64 a, .int .i64 32] w fun e w' => e = .returned (.int .u64 (IntKind.u64.wrap (a % 4294967296 - 4294967296))) ∧ w = w' := by
  have h2 : a % 4294967296 < 4294967296 := by omega
  have h3 : 0 ≤ a % 4294967296 := by omega
  go_enter Tryz.func24, Tryz.ntmps24
  go_wp2_with (first
    | (go_at_call 20; refine (cut_32 a h _).mono ?_; rintro e w' ⟨rfl, rfl⟩)
    | (go_at_call 36; refine (neg_32_t _ h1 h2 _).mono ?_; rintro e w' ⟨rfl, rfl⟩))
  go_ret
  exact ⟨rfl, rfl⟩
set_option maxHeartbeats 400000 in
theorem widen_32_f (a : Int) (h : 0 ≤ a) (h1 : a % 4294967296 < 2147483648) (w : World) : Calls Tryz.prog 24 #[.int .u64 a, .int .i64 32] w fun e w' => e = .returned (.int .u64 (a % 4294967296)) ∧ w = w' := by
  have h3 : 0 ≤ a % 4294967296 := by omega
  go_enter Tryz.func24, Tryz.ntmps24
  go_wp2_with (first
    | (go_at_call 20; refine (cut_32 a h _).mono ?_; rintro e w' ⟨rfl, rfl⟩)
    | (go_at_call 36; refine (neg_32_f _ h3 h1 _).mono ?_; rintro e w' ⟨rfl, rfl⟩))
  go_ret
  exact ⟨rfl, rfl⟩
/-- The lowest bits, with a sign, as a word. -/
def wideI32 (a : Int) : Int := if 2147483648 ≤ a % 4294967296 then a % 4294967296 - 4294967296 + 18446744073709551616 else a % 4294967296
theorem widen_32 (a : Int) (h : 0 ≤ a) (w : World) : Calls Tryz.prog 24 #[.int .u64 a, .int .i64 32] w fun e w' => e = .returned (.int .u64 (wideI32 a)) ∧ w = w' := by
  unfold wideI32
  by_cases h1 : 2147483648 ≤ a % 4294967296
  · rw [if_pos h1]
    have := widen_32_t a h h1 w
    rw [wrapu64, show (a % 4294967296 - 4294967296) % 18446744073709551616 = a % 4294967296 - 4294967296 + 18446744073709551616 by omega] at this
    exact this
  · rw [if_neg h1]; exact widen_32_f a h (by omega) w
theorem wideI32_eq (y : BitVec 64) : wideI32 (y.toNat : Int) = (((y.setWidth 32).signExtend 64).toNat : Int) := by
  have hs := m32_64 y
  rw [← hs, wrapu64]
  unfold wideI32 wrap32
  split <;> omega

set_option maxHeartbeats 400000 in
theorem abs_32_t (a : Int) (h : 2147483648 ≤ a) (h1 : a < 4294967296) (w : World) : Calls Tryz.prog 83 #[.int .u64 a, .int .i64 32] w fun e w' => e = .returned (.int .u64 (4294967296 - a)) ∧ w = w' := by
  have h2 : IntKind.u64.wrap (-a) = 18446744073709551616 - a := by rw [wrapu64]; omega
  have hc : ∀ W, Calls Tryz.prog 20 #[.int .u64 (IntKind.u64.wrap (-a)), .int .i64 32] W fun e w' => e = .returned (.int .u64 (4294967296 - a)) ∧ W = w' := fun W => by
    rw [h2]
    have := cut_32 (18446744073709551616 - a) (by omega) W
    rwa [show (18446744073709551616 - a) % 4294967296 = 4294967296 - a by omega] at this
  clear h2
  go_enter Tryz.func83, Tryz.ntmps83
  go_wp2_with (first
    | (go_at_call 20; refine (hc _).mono ?_; rintro e w' ⟨rfl, rfl⟩)
    | (go_at_call 36; refine (neg_32_t _ h h1 _).mono ?_; rintro e w' ⟨rfl, rfl⟩))
  go_ret
  exact ⟨rfl, rfl⟩
set_option maxHeartbeats 400000 in
theorem abs_32_f (a : Int) (h : 0 ≤ a) (h1 : a < 2147483648) (w : World) : Calls Tryz.prog 83 #[.int .u64 a, .int .i64 32] w fun e w' => e = .returned (.int .u64 a) ∧ w = w' := by
  go_enter Tryz.func83, Tryz.ntmps83
  go_wp2_with (go_at_call 36; refine (neg_32_f _ h h1 _).mono ?_; rintro e w' ⟨rfl, rfl⟩)
  go_ret
  exact ⟨rfl, rfl⟩

set_option maxHeartbeats 400000 in
theorem quot_32_tt (a b : Int) (ha : 2147483648 ≤ a) (ha1 : a < 4294967296) (hb : 2147483648 ≤ b) (hb1 : b < 4294967296) (w : World) : Calls Tryz.prog 34 #[.int .u64 a, .int .u64 b, .int .i64 32] w fun e w' => e = .returned (.int .u64 ((4294967296 - a) / (4294967296 - b))) ∧ w = w' := by
  have hB : 1 ≤ (4294967296 - b) := by omega
  have hA : 0 ≤ (4294967296 - a) := by omega
  have hA1 : (4294967296 - a) ≤ 18446744073709551615 := by omega
  have hq0 : 0 ≤ (4294967296 - a) / (4294967296 - b) := Int.ediv_nonneg hA (by omega)
  have hq1 : (4294967296 - a) / (4294967296 - b) ≤ (4294967296 - a) := Int.ediv_le_self _ hA
  have hn : ((4294967296 - b) == 0) = false := by simp; omega
  have hc : ∀ W, Calls Tryz.prog 20 #[.int .u64 ((4294967296 - a) / (4294967296 - b)), .int .i64 32] W fun e w' => e = .returned (.int .u64 ((4294967296 - a) / (4294967296 - b))) ∧ W = w' := fun W => by
    have := cut_32 ((4294967296 - a) / (4294967296 - b)) (by omega) W
    exact this.mono fun e w' ⟨he, hw⟩ => ⟨he.trans (ret_i ((by omega))), hw⟩
  have HC := put_by' hc
  clear hc hn
  go_enter Tryz.func34, Tryz.ntmps34
  go_wp2_with (first
    | (go_at_call 83; first | ((with_reducible refine (abs_32_t a ha ha1 _).mono ?_); rintro e w' ⟨rfl, rfl⟩) | ((with_reducible refine (abs_32_t b hb hb1 _).mono ?_); rintro e w' ⟨rfl, rfl⟩))
    | (go_at_call 36; first | ((with_reducible refine (neg_32_t a ha ha1 _).mono ?_); rintro e w' ⟨rfl, rfl⟩) | ((with_reducible refine (neg_32_t b hb hb1 _).mono ?_); rintro e w' ⟨rfl, rfl⟩))
    | (go_at_call 20; refine (HC.out _).mono ?_; rintro e w' ⟨rfl, rfl⟩))
  go_ret
  exact ⟨rfl, rfl⟩

set_option maxHeartbeats 400000 in
theorem rest_32_tt (a b : Int) (ha : 2147483648 ≤ a) (ha1 : a < 4294967296) (hb : 2147483648 ≤ b) (hb1 : b < 4294967296) (w : World) : Calls Tryz.prog 35 #[.int .u64 a, .int .u64 b, .int .i64 32] w fun e w' => e = .returned (.int .u64 (-((4294967296 - a) % (4294967296 - b)) % 4294967296)) ∧ w = w' := by
  have hB : 1 ≤ (4294967296 - b) := by omega
  have hA : 0 ≤ (4294967296 - a) := by omega
  have hA1 : (4294967296 - a) ≤ 18446744073709551615 := by omega
  have hq0 : 0 ≤ (4294967296 - a) % (4294967296 - b) := Int.emod_nonneg _ (by omega)
  have hq1 : (4294967296 - a) % (4294967296 - b) < (4294967296 - b) := Int.emod_lt_of_pos _ (by omega)
  have hc : ∀ W, Calls Tryz.prog 20 #[.int .u64 (IntKind.u64.wrap (-((4294967296 - a) % (4294967296 - b)))), .int .i64 32] W fun e w' => e = .returned (.int .u64 (-((4294967296 - a) % (4294967296 - b)) % 4294967296)) ∧ W = w' := fun W => by
    have := cut_32 (IntKind.u64.wrap (-((4294967296 - a) % (4294967296 - b)))) (by rw [wrapu64]; omega) W
    exact this.mono fun e w' ⟨he, hw⟩ => ⟨he.trans (ret_i ((by rw [wrapu64]; omega))), hw⟩
  have HC := put_by' hc
  clear hc
  go_enter Tryz.func35, Tryz.ntmps35
  go_wp2_with (first
    | (go_at_call 83; first | ((with_reducible refine (abs_32_t a ha ha1 _).mono ?_); rintro e w' ⟨rfl, rfl⟩) | ((with_reducible refine (abs_32_t b hb hb1 _).mono ?_); rintro e w' ⟨rfl, rfl⟩))
    | (go_at_call 36; refine (neg_32_t a ha ha1 _).mono ?_; rintro e w' ⟨rfl, rfl⟩)
    | (go_at_call 20; refine (HC.out _).mono ?_; rintro e w' ⟨rfl, rfl⟩))
  go_ret
  exact ⟨rfl, rfl⟩

set_option maxHeartbeats 400000 in
theorem quot_32_tf (a b : Int) (ha : 2147483648 ≤ a) (ha1 : a < 4294967296) (hb : 0 < b) (hb1 : b < 2147483648) (w : World) : Calls Tryz.prog 34 #[.int .u64 a, .int .u64 b, .int .i64 32] w fun e w' => e = .returned (.int .u64 (-((4294967296 - a) / b) % 4294967296)) ∧ w = w' := by
  have hB : 1 ≤ b := by omega
  have hA : 0 ≤ (4294967296 - a) := by omega
  have hA1 : (4294967296 - a) ≤ 18446744073709551615 := by omega
  have hq0 : 0 ≤ (4294967296 - a) / b := Int.ediv_nonneg hA (by omega)
  have hq1 : (4294967296 - a) / b ≤ (4294967296 - a) := Int.ediv_le_self _ hA
  have hn : (b == 0) = false := by simp; omega
  have hc : ∀ W, Calls Tryz.prog 20 #[.int .u64 (IntKind.u64.wrap (-((4294967296 - a) / b))), .int .i64 32] W fun e w' => e = .returned (.int .u64 (-((4294967296 - a) / b) % 4294967296)) ∧ W = w' := fun W => by
    have := cut_32 (IntKind.u64.wrap (-((4294967296 - a) / b))) (by rw [wrapu64]; omega) W
    exact this.mono fun e w' ⟨he, hw⟩ => ⟨he.trans (ret_i ((by rw [wrapu64]; omega))), hw⟩
  have HC := put_by' hc
  clear hc hn
  go_enter Tryz.func34, Tryz.ntmps34
  go_wp2_with (first
    | (go_at_call 83; first | ((with_reducible refine (abs_32_t a ha ha1 _).mono ?_); rintro e w' ⟨rfl, rfl⟩) | ((with_reducible refine (abs_32_f b (by omega) hb1 _).mono ?_); rintro e w' ⟨rfl, rfl⟩))
    | (go_at_call 36; first | ((with_reducible refine (neg_32_t a ha ha1 _).mono ?_); rintro e w' ⟨rfl, rfl⟩) | ((with_reducible refine (neg_32_f b (by omega) hb1 _).mono ?_); rintro e w' ⟨rfl, rfl⟩))
    | (go_at_call 20; refine (HC.out _).mono ?_; rintro e w' ⟨rfl, rfl⟩))
  go_ret
  exact ⟨rfl, rfl⟩

set_option maxHeartbeats 400000 in
theorem rest_32_tf (a b : Int) (ha : 2147483648 ≤ a) (ha1 : a < 4294967296) (hb : 0 < b) (hb1 : b < 2147483648) (w : World) : Calls Tryz.prog 35 #[.int .u64 a, .int .u64 b, .int .i64 32] w fun e w' => e = .returned (.int .u64 (-((4294967296 - a) % b) % 4294967296)) ∧ w = w' := by
  have hB : 1 ≤ b := by omega
  have hA : 0 ≤ (4294967296 - a) := by omega
  have hA1 : (4294967296 - a) ≤ 18446744073709551615 := by omega
  have hq0 : 0 ≤ (4294967296 - a) % b := Int.emod_nonneg _ (by omega)
  have hq1 : (4294967296 - a) % b < b := Int.emod_lt_of_pos _ (by omega)
  have hc : ∀ W, Calls Tryz.prog 20 #[.int .u64 (IntKind.u64.wrap (-((4294967296 - a) % b))), .int .i64 32] W fun e w' => e = .returned (.int .u64 (-((4294967296 - a) % b) % 4294967296)) ∧ W = w' := fun W => by
    have := cut_32 (IntKind.u64.wrap (-((4294967296 - a) % b))) (by rw [wrapu64]; omega) W
    exact this.mono fun e w' ⟨he, hw⟩ => ⟨he.trans (ret_i ((by rw [wrapu64]; omega))), hw⟩
  have HC := put_by' hc
  clear hc
  go_enter Tryz.func35, Tryz.ntmps35
  go_wp2_with (first
    | (go_at_call 83; first | ((with_reducible refine (abs_32_t a ha ha1 _).mono ?_); rintro e w' ⟨rfl, rfl⟩) | ((with_reducible refine (abs_32_f b (by omega) hb1 _).mono ?_); rintro e w' ⟨rfl, rfl⟩))
    | (go_at_call 36; refine (neg_32_t a ha ha1 _).mono ?_; rintro e w' ⟨rfl, rfl⟩)
    | (go_at_call 20; refine (HC.out _).mono ?_; rintro e w' ⟨rfl, rfl⟩))
  go_ret
  exact ⟨rfl, rfl⟩

set_option maxHeartbeats 400000 in
theorem quot_32_ft (a b : Int) (ha : 0 ≤ a) (ha1 : a < 2147483648) (hb : 2147483648 ≤ b) (hb1 : b < 4294967296) (w : World) : Calls Tryz.prog 34 #[.int .u64 a, .int .u64 b, .int .i64 32] w fun e w' => e = .returned (.int .u64 (-(a / (4294967296 - b)) % 4294967296)) ∧ w = w' := by
  have hB : 1 ≤ (4294967296 - b) := by omega
  have hA : 0 ≤ a := by omega
  have hA1 : a ≤ 18446744073709551615 := by omega
  have hq0 : 0 ≤ a / (4294967296 - b) := Int.ediv_nonneg hA (by omega)
  have hq1 : a / (4294967296 - b) ≤ a := Int.ediv_le_self _ hA
  have hn : ((4294967296 - b) == 0) = false := by simp; omega
  have hc : ∀ W, Calls Tryz.prog 20 #[.int .u64 (IntKind.u64.wrap (-(a / (4294967296 - b)))), .int .i64 32] W fun e w' => e = .returned (.int .u64 (-(a / (4294967296 - b)) % 4294967296)) ∧ W = w' := fun W => by
    have := cut_32 (IntKind.u64.wrap (-(a / (4294967296 - b)))) (by rw [wrapu64]; omega) W
    exact this.mono fun e w' ⟨he, hw⟩ => ⟨he.trans (ret_i ((by rw [wrapu64]; omega))), hw⟩
  have HC := put_by' hc
  clear hc hn
  go_enter Tryz.func34, Tryz.ntmps34
  go_wp2_with (first
    | (go_at_call 83; first | ((with_reducible refine (abs_32_f a ha ha1 _).mono ?_); rintro e w' ⟨rfl, rfl⟩) | ((with_reducible refine (abs_32_t b hb hb1 _).mono ?_); rintro e w' ⟨rfl, rfl⟩))
    | (go_at_call 36; first | ((with_reducible refine (neg_32_f a ha ha1 _).mono ?_); rintro e w' ⟨rfl, rfl⟩) | ((with_reducible refine (neg_32_t b hb hb1 _).mono ?_); rintro e w' ⟨rfl, rfl⟩))
    | (go_at_call 20; refine (HC.out _).mono ?_; rintro e w' ⟨rfl, rfl⟩))
  go_ret
  exact ⟨rfl, rfl⟩

set_option maxHeartbeats 400000 in
theorem rest_32_ft (a b : Int) (ha : 0 ≤ a) (ha1 : a < 2147483648) (hb : 2147483648 ≤ b) (hb1 : b < 4294967296) (w : World) : Calls Tryz.prog 35 #[.int .u64 a, .int .u64 b, .int .i64 32] w fun e w' => e = .returned (.int .u64 (a % (4294967296 - b))) ∧ w = w' := by
  have hB : 1 ≤ (4294967296 - b) := by omega
  have hA : 0 ≤ a := by omega
  have hA1 : a ≤ 18446744073709551615 := by omega
  have hq0 : 0 ≤ a % (4294967296 - b) := Int.emod_nonneg _ (by omega)
  have hq1 : a % (4294967296 - b) < (4294967296 - b) := Int.emod_lt_of_pos _ (by omega)
  have hc : ∀ W, Calls Tryz.prog 20 #[.int .u64 (a % (4294967296 - b)), .int .i64 32] W fun e w' => e = .returned (.int .u64 (a % (4294967296 - b))) ∧ W = w' := fun W => by
    have := cut_32 (a % (4294967296 - b)) (by omega) W
    exact this.mono fun e w' ⟨he, hw⟩ => ⟨he.trans (ret_i ((by omega))), hw⟩
  have HC := put_by' hc
  clear hc
  go_enter Tryz.func35, Tryz.ntmps35
  go_wp2_with (first
    | (go_at_call 83; first | ((with_reducible refine (abs_32_f a ha ha1 _).mono ?_); rintro e w' ⟨rfl, rfl⟩) | ((with_reducible refine (abs_32_t b hb hb1 _).mono ?_); rintro e w' ⟨rfl, rfl⟩))
    | (go_at_call 36; refine (neg_32_f a ha ha1 _).mono ?_; rintro e w' ⟨rfl, rfl⟩)
    | (go_at_call 20; refine (HC.out _).mono ?_; rintro e w' ⟨rfl, rfl⟩))
  go_ret
  exact ⟨rfl, rfl⟩

set_option maxHeartbeats 400000 in
theorem quot_32_ff (a b : Int) (ha : 0 ≤ a) (ha1 : a < 2147483648) (hb : 0 < b) (hb1 : b < 2147483648) (w : World) : Calls Tryz.prog 34 #[.int .u64 a, .int .u64 b, .int .i64 32] w fun e w' => e = .returned (.int .u64 (a / b)) ∧ w = w' := by
  have hB : 1 ≤ b := by omega
  have hA : 0 ≤ a := by omega
  have hA1 : a ≤ 18446744073709551615 := by omega
  have hq0 : 0 ≤ a / b := Int.ediv_nonneg hA (by omega)
  have hq1 : a / b ≤ a := Int.ediv_le_self _ hA
  have hn : (b == 0) = false := by simp; omega
  have hc : ∀ W, Calls Tryz.prog 20 #[.int .u64 (a / b), .int .i64 32] W fun e w' => e = .returned (.int .u64 (a / b)) ∧ W = w' := fun W => by
    have := cut_32 (a / b) (by omega) W
    exact this.mono fun e w' ⟨he, hw⟩ => ⟨he.trans (ret_i ((by omega))), hw⟩
  have HC := put_by' hc
  clear hc hn
  go_enter Tryz.func34, Tryz.ntmps34
  go_wp2_with (first
    | (go_at_call 83; first | ((with_reducible refine (abs_32_f a ha ha1 _).mono ?_); rintro e w' ⟨rfl, rfl⟩) | ((with_reducible refine (abs_32_f b (by omega) hb1 _).mono ?_); rintro e w' ⟨rfl, rfl⟩))
    | (go_at_call 36; first | ((with_reducible refine (neg_32_f a ha ha1 _).mono ?_); rintro e w' ⟨rfl, rfl⟩) | ((with_reducible refine (neg_32_f b (by omega) hb1 _).mono ?_); rintro e w' ⟨rfl, rfl⟩))
    | (go_at_call 20; refine (HC.out _).mono ?_; rintro e w' ⟨rfl, rfl⟩))
  go_ret
  exact ⟨rfl, rfl⟩

set_option maxHeartbeats 400000 in
theorem rest_32_ff (a b : Int) (ha : 0 ≤ a) (ha1 : a < 2147483648) (hb : 0 < b) (hb1 : b < 2147483648) (w : World) : Calls Tryz.prog 35 #[.int .u64 a, .int .u64 b, .int .i64 32] w fun e w' => e = .returned (.int .u64 (a % b)) ∧ w = w' := by
  have hB : 1 ≤ b := by omega
  have hA : 0 ≤ a := by omega
  have hA1 : a ≤ 18446744073709551615 := by omega
  have hq0 : 0 ≤ a % b := Int.emod_nonneg _ (by omega)
  have hq1 : a % b < b := Int.emod_lt_of_pos _ (by omega)
  have hc : ∀ W, Calls Tryz.prog 20 #[.int .u64 (a % b), .int .i64 32] W fun e w' => e = .returned (.int .u64 (a % b)) ∧ W = w' := fun W => by
    have := cut_32 (a % b) (by omega) W
    exact this.mono fun e w' ⟨he, hw⟩ => ⟨he.trans (ret_i ((by omega))), hw⟩
  have HC := put_by' hc
  clear hc
  go_enter Tryz.func35, Tryz.ntmps35
  go_wp2_with (first
    | (go_at_call 83; first | ((with_reducible refine (abs_32_f a ha ha1 _).mono ?_); rintro e w' ⟨rfl, rfl⟩) | ((with_reducible refine (abs_32_f b (by omega) hb1 _).mono ?_); rintro e w' ⟨rfl, rfl⟩))
    | (go_at_call 36; refine (neg_32_f a ha ha1 _).mono ?_; rintro e w' ⟨rfl, rfl⟩)
    | (go_at_call 20; refine (HC.out _).mono ?_; rintro e w' ⟨rfl, rfl⟩))
  go_ret
  exact ⟨rfl, rfl⟩

set_option maxHeartbeats 400000 in
theorem cut_16 (a : Int) (h : 0 ≤ a) (w : World) : Calls Tryz.prog 20 #[.int .u64 a, .int .i64 16] w fun e w' => e = .returned (.int .u64 (a % 65536)) ∧ w = w' := by
  go_enter Tryz.func20, Tryz.ntmps20
  go_wp2
  go_ret
  exact ⟨rfl, rfl⟩
set_option maxHeartbeats 400000 in
theorem neg_16 (a : Int) (h : 0 ≤ a) (h1 : a < 65536) (w : World) : Calls Tryz.prog 36 #[.int .u64 a, .int .i64 16] w fun e w' => e = .returned (.bool (decide (32768 ≤ a))) ∧ w = w' := by
  have hd : (bits .and .u64 (a / 32768) 1 == 1) = decide (32768 ≤ a) := by
    rw [and_one _ (by omega) (by omega), Bool.eq_iff_iff, beq_iff_eq, decide_eq_true_eq]
    omega
  have HD := put_by' hd
  clear hd
  go_enter Tryz.func36, Tryz.ntmps36
  go_wp2
  go_ret
  exact ⟨ret_b HD.out, rfl⟩
theorem neg_16_t (a : Int) (h : 32768 ≤ a) (h1 : a < 65536) (w : World) : Calls Tryz.prog 36 #[.int .u64 a, .int .i64 16] w fun e w' => e = .returned (.bool true) ∧ w = w' := by
  have := neg_16 a (by omega) h1 w
  rwa [decide_eq_true h] at this
theorem neg_16_f (a : Int) (h : 0 ≤ a) (h1 : a < 32768) (w : World) : Calls Tryz.prog 36 #[.int .u64 a, .int .i64 16] w fun e w' => e = .returned (.bool false) ∧ w = w' := by
  have := neg_16 a h (by omega) w
  rwa [decide_eq_false (by omega)] at this

set_option maxHeartbeats 400000 in
theorem widen_16_t (a : Int) (h : 0 ≤ a) (h1 : 32768 ≤ a % 65536) (w : World) : Calls Tryz.prog 24 #[.int .u64 a, .int .i64 16] w fun e w' => e = .returned (.int .u64 (IntKind.u64.wrap (a % 65536 - 65536))) ∧ w = w' := by
  have h2 : a % 65536 < 65536 := by omega
  have h3 : 0 ≤ a % 65536 := by omega
  go_enter Tryz.func24, Tryz.ntmps24
  go_wp2_with (first
    | (go_at_call 20; refine (cut_16 a h _).mono ?_; rintro e w' ⟨rfl, rfl⟩)
    | (go_at_call 36; refine (neg_16_t _ h1 h2 _).mono ?_; rintro e w' ⟨rfl, rfl⟩))
  go_ret
  exact ⟨rfl, rfl⟩
set_option maxHeartbeats 400000 in
theorem widen_16_f (a : Int) (h : 0 ≤ a) (h1 : a % 65536 < 32768) (w : World) : Calls Tryz.prog 24 #[.int .u64 a, .int .i64 16] w fun e w' => e = .returned (.int .u64 (a % 65536)) ∧ w = w' := by
  have h3 : 0 ≤ a % 65536 := by omega
  go_enter Tryz.func24, Tryz.ntmps24
  go_wp2_with (first
    | (go_at_call 20; refine (cut_16 a h _).mono ?_; rintro e w' ⟨rfl, rfl⟩)
    | (go_at_call 36; refine (neg_16_f _ h3 h1 _).mono ?_; rintro e w' ⟨rfl, rfl⟩))
  go_ret
  exact ⟨rfl, rfl⟩
/-- The lowest bits, with a sign, as a word. -/
def wideI16 (a : Int) : Int := if 32768 ≤ a % 65536 then a % 65536 - 65536 + 18446744073709551616 else a % 65536
theorem widen_16 (a : Int) (h : 0 ≤ a) (w : World) : Calls Tryz.prog 24 #[.int .u64 a, .int .i64 16] w fun e w' => e = .returned (.int .u64 (wideI16 a)) ∧ w = w' := by
  unfold wideI16
  by_cases h1 : 32768 ≤ a % 65536
  · rw [if_pos h1]
    have := widen_16_t a h h1 w
    rw [wrapu64, show (a % 65536 - 65536) % 18446744073709551616 = a % 65536 - 65536 + 18446744073709551616 by omega] at this
    exact this
  · rw [if_neg h1]; exact widen_16_f a h (by omega) w
theorem wideI16_eq (y : BitVec 64) : wideI16 (y.toNat : Int) = (((y.setWidth 16).signExtend 64).toNat : Int) := by
  have hs := m1664 y
  rw [← hs, wrapu64]
  unfold wideI16
  rw [wrapi16]
  split <;> (try split) <;> omega

set_option maxHeartbeats 400000 in
theorem cut_8 (a : Int) (h : 0 ≤ a) (w : World) : Calls Tryz.prog 20 #[.int .u64 a, .int .i64 8] w fun e w' => e = .returned (.int .u64 (a % 256)) ∧ w = w' := by
  go_enter Tryz.func20, Tryz.ntmps20
  go_wp2
  go_ret
  exact ⟨rfl, rfl⟩
set_option maxHeartbeats 400000 in
theorem neg_8 (a : Int) (h : 0 ≤ a) (h1 : a < 256) (w : World) : Calls Tryz.prog 36 #[.int .u64 a, .int .i64 8] w fun e w' => e = .returned (.bool (decide (128 ≤ a))) ∧ w = w' := by
  have hd : (bits .and .u64 (a / 128) 1 == 1) = decide (128 ≤ a) := by
    rw [and_one _ (by omega) (by omega), Bool.eq_iff_iff, beq_iff_eq, decide_eq_true_eq]
    omega
  have HD := put_by' hd
  clear hd
  go_enter Tryz.func36, Tryz.ntmps36
  go_wp2
  go_ret
  exact ⟨ret_b HD.out, rfl⟩
theorem neg_8_t (a : Int) (h : 128 ≤ a) (h1 : a < 256) (w : World) : Calls Tryz.prog 36 #[.int .u64 a, .int .i64 8] w fun e w' => e = .returned (.bool true) ∧ w = w' := by
  have := neg_8 a (by omega) h1 w
  rwa [decide_eq_true h] at this
theorem neg_8_f (a : Int) (h : 0 ≤ a) (h1 : a < 128) (w : World) : Calls Tryz.prog 36 #[.int .u64 a, .int .i64 8] w fun e w' => e = .returned (.bool false) ∧ w = w' := by
  have := neg_8 a h (by omega) w
  rwa [decide_eq_false (by omega)] at this

set_option maxHeartbeats 400000 in
theorem widen_8_t (a : Int) (h : 0 ≤ a) (h1 : 128 ≤ a % 256) (w : World) : Calls Tryz.prog 24 #[.int .u64 a, .int .i64 8] w fun e w' => e = .returned (.int .u64 (IntKind.u64.wrap (a % 256 - 256))) ∧ w = w' := by
  have h2 : a % 256 < 256 := by omega
  have h3 : 0 ≤ a % 256 := by omega
  go_enter Tryz.func24, Tryz.ntmps24
  go_wp2_with (first
    | (go_at_call 20; refine (cut_8 a h _).mono ?_; rintro e w' ⟨rfl, rfl⟩)
    | (go_at_call 36; refine (neg_8_t _ h1 h2 _).mono ?_; rintro e w' ⟨rfl, rfl⟩))
  go_ret
  exact ⟨rfl, rfl⟩
set_option maxHeartbeats 400000 in
theorem widen_8_f (a : Int) (h : 0 ≤ a) (h1 : a % 256 < 128) (w : World) : Calls Tryz.prog 24 #[.int .u64 a, .int .i64 8] w fun e w' => e = .returned (.int .u64 (a % 256)) ∧ w = w' := by
  have h3 : 0 ≤ a % 256 := by omega
  go_enter Tryz.func24, Tryz.ntmps24
  go_wp2_with (first
    | (go_at_call 20; refine (cut_8 a h _).mono ?_; rintro e w' ⟨rfl, rfl⟩)
    | (go_at_call 36; refine (neg_8_f _ h3 h1 _).mono ?_; rintro e w' ⟨rfl, rfl⟩))
  go_ret
  exact ⟨rfl, rfl⟩
/-- The lowest bits, with a sign, as a word. -/
def wideI8 (a : Int) : Int := if 128 ≤ a % 256 then a % 256 - 256 + 18446744073709551616 else a % 256
theorem widen_8 (a : Int) (h : 0 ≤ a) (w : World) : Calls Tryz.prog 24 #[.int .u64 a, .int .i64 8] w fun e w' => e = .returned (.int .u64 (wideI8 a)) ∧ w = w' := by
  unfold wideI8
  by_cases h1 : 128 ≤ a % 256
  · rw [if_pos h1]
    have := widen_8_t a h h1 w
    rw [wrapu64, show (a % 256 - 256) % 18446744073709551616 = a % 256 - 256 + 18446744073709551616 by omega] at this
    exact this
  · rw [if_neg h1]; exact widen_8_f a h (by omega) w
theorem wideI8_eq (y : BitVec 64) : wideI8 (y.toNat : Int) = (((y.setWidth 8).signExtend 64).toNat : Int) := by
  have hs := m864 y
  rw [← hs, wrapu64]
  unfold wideI8
  rw [wrapi8]
  split <;> (try split) <;> omega
end Go.Proofs.YtmlkbpmchcdldaaGreat
