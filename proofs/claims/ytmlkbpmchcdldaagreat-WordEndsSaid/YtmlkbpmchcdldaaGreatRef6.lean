/-
  The document's own answer to any comparison is what 'Test' tells.
-/
import Derived.Test.YtmlkbpmchcdldaaGreatRef5
import Derived.Test.YtmlkbpmchcdldaaGreatOrdM
namespace Go.Proofs.YtmlkbpmchcdldaaGreat
open Go.RowKit Go.Maps
set_option linter.unusedVariables false
theorem ret_bt {a b : Bool} (h : a = b) : Ending.returned (.tuple #[.bool a, .bool true]) = .returned (.tuple #[.bool b, .bool true]) := by rw [h]
theorem not_ult {n : Nat} (x y : BitVec n) : (!(y.ult x)) = x.ule y := by rw [lt_le, Bool.not_not]
theorem not_slt {n : Nat} (x y : BitVec n) : (!(y.slt x)) = x.sle y := by rw [slt_sle, Bool.not_not]
theorem set32 (x y : BitVec 32) : (bits .and .u64 (x.toNat : Int) (y.toNat : Int) != 0) = (x &&& y != 0) := by
  rw [(bit32 x y).2.1]; exact nev32 (x &&& y) 0

set_option maxHeartbeats 400000 in
theorem above_64_u (x y : BitVec 64) (w : World) : Calls Tryz.prog 27 #[.int .u64 x.toNat, .int .u64 y.toNat, .int .i64 64, .bool false] w fun e w' => e = .returned (.bool (y.ult x)) ∧ w = w' := by
  have HR := put_by' (ltv64 y x)
  generalize y.ult x = r at HR ⊢
  go_enter Tryz.func27, Tryz.ntmps27
  go_wp2
  go_ret
  exact ⟨ret_b (by simpa using HR.out), rfl⟩
set_option maxHeartbeats 400000 in
theorem above_64_tt (x y : BitVec 64) (ha : 9223372036854775808 ≤ x.toNat) (hb : 9223372036854775808 ≤ y.toNat) (w : World) : Calls Tryz.prog 27 #[.int .u64 x.toNat, .int .u64 y.toNat, .int .i64 64, .bool true] w fun e w' => e = .returned (.bool (y.slt x)) ∧ w = w' := by
  have hx := lt64 x
  have hy := lt64 y
  have hr : (decide ((y.toNat : Int) < (x.toNat : Int))) = y.slt x := by
    rw [BitVec.slt_eq_decide, BitVec.toInt_eq_toNat_cond, BitVec.toInt_eq_toNat_cond]
    apply decide_eq_decide.2
    split <;> split <;> omega
  have HX := put_by' (fun W => neg_64_t (x.toNat : Int) (by omega) (by omega) W)
  have HY := put_by' (fun W => neg_64_t (y.toNat : Int) (by omega) (by omega) W)
  have HR := put_by' hr
  clear hr hx hy ha hb
  generalize y.slt x = r at HR ⊢
  go_enter Tryz.func27, Tryz.ntmps27
  go_wp2_with (go_at_call 36; first | ((with_reducible refine (HX.out _).mono ?_); rintro e w' ⟨rfl, rfl⟩) | ((with_reducible refine (HY.out _).mono ?_); rintro e w' ⟨rfl, rfl⟩))
  go_ret
  exact ⟨ret_b (by simpa using HR.out), rfl⟩
set_option maxHeartbeats 400000 in
theorem above_64_tf (x y : BitVec 64) (ha : 9223372036854775808 ≤ x.toNat) (hb : y.toNat < 9223372036854775808) (w : World) : Calls Tryz.prog 27 #[.int .u64 x.toNat, .int .u64 y.toNat, .int .i64 64, .bool true] w fun e w' => e = .returned (.bool (y.slt x)) ∧ w = w' := by
  have hx := lt64 x
  have hy := lt64 y
  have hr : false = y.slt x := by
    rw [BitVec.slt_eq_decide, BitVec.toInt_eq_toNat_cond, BitVec.toInt_eq_toNat_cond, eq_comm]
    apply decide_eq_false
    split <;> split <;> omega
  have HX := put_by' (fun W => neg_64_t (x.toNat : Int) (by omega) (by omega) W)
  have HY := put_by' (fun W => neg_64_f (y.toNat : Int) (by omega) (by omega) W)
  have HR := put_by' hr
  clear hr hx hy ha hb
  generalize y.slt x = r at HR ⊢
  go_enter Tryz.func27, Tryz.ntmps27
  go_wp2_with (go_at_call 36; first | ((with_reducible refine (HX.out _).mono ?_); rintro e w' ⟨rfl, rfl⟩) | ((with_reducible refine (HY.out _).mono ?_); rintro e w' ⟨rfl, rfl⟩))
  go_ret
  exact ⟨ret_b (by simpa using HR.out), rfl⟩
set_option maxHeartbeats 400000 in
theorem above_64_ft (x y : BitVec 64) (ha : x.toNat < 9223372036854775808) (hb : 9223372036854775808 ≤ y.toNat) (w : World) : Calls Tryz.prog 27 #[.int .u64 x.toNat, .int .u64 y.toNat, .int .i64 64, .bool true] w fun e w' => e = .returned (.bool (y.slt x)) ∧ w = w' := by
  have hx := lt64 x
  have hy := lt64 y
  have hr : true = y.slt x := by
    rw [BitVec.slt_eq_decide, BitVec.toInt_eq_toNat_cond, BitVec.toInt_eq_toNat_cond, eq_comm]
    apply decide_eq_true
    split <;> split <;> omega
  have HX := put_by' (fun W => neg_64_f (x.toNat : Int) (by omega) (by omega) W)
  have HY := put_by' (fun W => neg_64_t (y.toNat : Int) (by omega) (by omega) W)
  have HR := put_by' hr
  clear hr hx hy ha hb
  generalize y.slt x = r at HR ⊢
  go_enter Tryz.func27, Tryz.ntmps27
  go_wp2_with (go_at_call 36; first | ((with_reducible refine (HX.out _).mono ?_); rintro e w' ⟨rfl, rfl⟩) | ((with_reducible refine (HY.out _).mono ?_); rintro e w' ⟨rfl, rfl⟩))
  go_ret
  exact ⟨ret_b (by simpa using HR.out), rfl⟩
set_option maxHeartbeats 400000 in
theorem above_64_ff (x y : BitVec 64) (ha : x.toNat < 9223372036854775808) (hb : y.toNat < 9223372036854775808) (w : World) : Calls Tryz.prog 27 #[.int .u64 x.toNat, .int .u64 y.toNat, .int .i64 64, .bool true] w fun e w' => e = .returned (.bool (y.slt x)) ∧ w = w' := by
  have hx := lt64 x
  have hy := lt64 y
  have hr : (decide ((y.toNat : Int) < (x.toNat : Int))) = y.slt x := by
    rw [BitVec.slt_eq_decide, BitVec.toInt_eq_toNat_cond, BitVec.toInt_eq_toNat_cond]
    apply decide_eq_decide.2
    split <;> split <;> omega
  have HX := put_by' (fun W => neg_64_f (x.toNat : Int) (by omega) (by omega) W)
  have HY := put_by' (fun W => neg_64_f (y.toNat : Int) (by omega) (by omega) W)
  have HR := put_by' hr
  clear hr hx hy ha hb
  generalize y.slt x = r at HR ⊢
  go_enter Tryz.func27, Tryz.ntmps27
  go_wp2_with (go_at_call 36; first | ((with_reducible refine (HX.out _).mono ?_); rintro e w' ⟨rfl, rfl⟩) | ((with_reducible refine (HY.out _).mono ?_); rintro e w' ⟨rfl, rfl⟩))
  go_ret
  exact ⟨ret_b (by simpa using HR.out), rfl⟩
theorem above_64_s (x y : BitVec 64) (w : World) : Calls Tryz.prog 27 #[.int .u64 x.toNat, .int .u64 y.toNat, .int .i64 64, .bool true] w fun e w' => e = .returned (.bool (y.slt x)) ∧ w = w' := by
  by_cases ha : 9223372036854775808 ≤ x.toNat
  · by_cases hb : 9223372036854775808 ≤ y.toNat
    · exact above_64_tt x y ha hb w
    · exact above_64_tf x y ha (by omega) w
  · by_cases hb : 9223372036854775808 ≤ y.toNat
    · exact above_64_ft x y (by omega) hb w
    · exact above_64_ff x y (by omega) (by omega) w
set_option maxHeartbeats 400000 in
theorem rtest_eq_64 (a b : Int) (x y : BitVec 64) (ha : ∀ W, Calls Tryz.prog 20 #[.int .u64 a, .int .i64 64] W fun e w' => e = .returned (.int .u64 x.toNat) ∧ W = w')
    (hb : ∀ W, Calls Tryz.prog 20 #[.int .u64 b, .int .i64 64] W fun e w' => e = .returned (.int .u64 y.toNat) ∧ W = w') (w : World) :
    Calls Tryz.prog 11 #[.int .u8 16, .bool true, .int .u64 a, .int .u64 b] w fun e w' => e = .returned (.tuple #[.bool (x == y), .bool true]) ∧ w = w' := by
  have HA := put_by' ha
  have HB := put_by' hb
  clear ha hb
  obtain ⟨r, hr⟩ : ∃ r : Bool, (x == y) = r := ⟨_, rfl⟩
  rw [hr]
  have HR := put_by' hr
  clear hr
  go_enter Tryz.func11, Tryz.ntmps11
  go_wp2_with (first
    | (go_at_call 20; first | ((with_reducible refine (HA.out _).mono ?_); rintro e w' ⟨rfl, rfl⟩) | ((with_reducible refine (HB.out _).mono ?_); rintro e w' ⟨rfl, rfl⟩)))
  go_ret2
  exact ⟨ret_bt (by rw [← HR.out]; exact eqv64 x y), rfl⟩
set_option maxHeartbeats 400000 in
theorem rtest_ne_64 (a b : Int) (x y : BitVec 64) (ha : ∀ W, Calls Tryz.prog 20 #[.int .u64 a, .int .i64 64] W fun e w' => e = .returned (.int .u64 x.toNat) ∧ W = w')
    (hb : ∀ W, Calls Tryz.prog 20 #[.int .u64 b, .int .i64 64] W fun e w' => e = .returned (.int .u64 y.toNat) ∧ W = w') (w : World) :
    Calls Tryz.prog 11 #[.int .u8 80, .bool true, .int .u64 a, .int .u64 b] w fun e w' => e = .returned (.tuple #[.bool (x != y), .bool true]) ∧ w = w' := by
  have HA := put_by' ha
  have HB := put_by' hb
  clear ha hb
  obtain ⟨r, hr⟩ : ∃ r : Bool, (x != y) = r := ⟨_, rfl⟩
  rw [hr]
  have HR := put_by' hr
  clear hr
  go_enter Tryz.func11, Tryz.ntmps11
  go_wp2_with (first
    | (go_at_call 20; first | ((with_reducible refine (HA.out _).mono ?_); rintro e w' ⟨rfl, rfl⟩) | ((with_reducible refine (HB.out _).mono ?_); rintro e w' ⟨rfl, rfl⟩)))
  go_ret2
  exact ⟨ret_bt (by rw [← HR.out]; exact nev64 x y), rfl⟩
set_option maxHeartbeats 400000 in
theorem rtest_gt_64 (a b : Int) (x y : BitVec 64) (ha : ∀ W, Calls Tryz.prog 20 #[.int .u64 a, .int .i64 64] W fun e w' => e = .returned (.int .u64 x.toNat) ∧ W = w')
    (hb : ∀ W, Calls Tryz.prog 20 #[.int .u64 b, .int .i64 64] W fun e w' => e = .returned (.int .u64 y.toNat) ∧ W = w') (w : World) :
    Calls Tryz.prog 11 #[.int .u8 32, .bool true, .int .u64 a, .int .u64 b] w fun e w' => e = .returned (.tuple #[.bool (y.ult x), .bool true]) ∧ w = w' := by
  have HA := put_by' ha
  have HB := put_by' hb
  clear ha hb
  have HT := put_by' (above_64_u x y)
  obtain ⟨m, hm⟩ : ∃ m : Bool, y.ult x = m := ⟨_, rfl⟩
  rw [hm] at HT
  have HM := put_by' hm
  clear hm
  obtain ⟨r, hr⟩ : ∃ r : Bool, (y.ult x) = r := ⟨_, rfl⟩
  rw [hr]
  have HR := put_by' hr
  clear hr
  go_enter Tryz.func11, Tryz.ntmps11
  go_wp2_with (first
    | (go_at_call 20; first | ((with_reducible refine (HA.out _).mono ?_); rintro e w' ⟨rfl, rfl⟩) | ((with_reducible refine (HB.out _).mono ?_); rintro e w' ⟨rfl, rfl⟩))
    | (go_at_call 27; refine (HT.out _).mono ?_; rintro e w' ⟨rfl, rfl⟩))
  go_ret2
  exact ⟨ret_bt (by rw [← HR.out]; exact HM.out.symm), rfl⟩
set_option maxHeartbeats 400000 in
theorem rtest_ge_64 (a b : Int) (x y : BitVec 64) (ha : ∀ W, Calls Tryz.prog 20 #[.int .u64 a, .int .i64 64] W fun e w' => e = .returned (.int .u64 x.toNat) ∧ W = w')
    (hb : ∀ W, Calls Tryz.prog 20 #[.int .u64 b, .int .i64 64] W fun e w' => e = .returned (.int .u64 y.toNat) ∧ W = w') (w : World) :
    Calls Tryz.prog 11 #[.int .u8 48, .bool true, .int .u64 a, .int .u64 b] w fun e w' => e = .returned (.tuple #[.bool (y.ule x), .bool true]) ∧ w = w' := by
  have HA := put_by' ha
  have HB := put_by' hb
  clear ha hb
  have HT := put_by' (above_64_u y x)
  obtain ⟨m, hm⟩ : ∃ m : Bool, x.ult y = m := ⟨_, rfl⟩
  rw [hm] at HT
  have HM := put_by' hm
  clear hm
  obtain ⟨r, hr⟩ : ∃ r : Bool, (y.ule x) = r := ⟨_, rfl⟩
  rw [hr]
  have HR := put_by' hr
  clear hr
  go_enter Tryz.func11, Tryz.ntmps11
  go_wp2_with (first
    | (go_at_call 20; first | ((with_reducible refine (HA.out _).mono ?_); rintro e w' ⟨rfl, rfl⟩) | ((with_reducible refine (HB.out _).mono ?_); rintro e w' ⟨rfl, rfl⟩))
    | (go_at_call 27; refine (HT.out _).mono ?_; rintro e w' ⟨rfl, rfl⟩))
  go_ret2
  exact ⟨ret_bt (by rw [← HR.out]; rw [← HM.out]; exact not_ult y x), rfl⟩
set_option maxHeartbeats 400000 in
theorem rtest_lt_64 (a b : Int) (x y : BitVec 64) (ha : ∀ W, Calls Tryz.prog 20 #[.int .u64 a, .int .i64 64] W fun e w' => e = .returned (.int .u64 x.toNat) ∧ W = w')
    (hb : ∀ W, Calls Tryz.prog 20 #[.int .u64 b, .int .i64 64] W fun e w' => e = .returned (.int .u64 y.toNat) ∧ W = w') (w : World) :
    Calls Tryz.prog 11 #[.int .u8 160, .bool true, .int .u64 a, .int .u64 b] w fun e w' => e = .returned (.tuple #[.bool (x.ult y), .bool true]) ∧ w = w' := by
  have HA := put_by' ha
  have HB := put_by' hb
  clear ha hb
  have HT := put_by' (above_64_u y x)
  obtain ⟨m, hm⟩ : ∃ m : Bool, x.ult y = m := ⟨_, rfl⟩
  rw [hm] at HT
  have HM := put_by' hm
  clear hm
  obtain ⟨r, hr⟩ : ∃ r : Bool, (x.ult y) = r := ⟨_, rfl⟩
  rw [hr]
  have HR := put_by' hr
  clear hr
  go_enter Tryz.func11, Tryz.ntmps11
  go_wp2_with (first
    | (go_at_call 20; first | ((with_reducible refine (HA.out _).mono ?_); rintro e w' ⟨rfl, rfl⟩) | ((with_reducible refine (HB.out _).mono ?_); rintro e w' ⟨rfl, rfl⟩))
    | (go_at_call 27; refine (HT.out _).mono ?_; rintro e w' ⟨rfl, rfl⟩))
  go_ret2
  exact ⟨ret_bt (by rw [← HR.out]; exact HM.out.symm), rfl⟩
set_option maxHeartbeats 400000 in
theorem rtest_le_64 (a b : Int) (x y : BitVec 64) (ha : ∀ W, Calls Tryz.prog 20 #[.int .u64 a, .int .i64 64] W fun e w' => e = .returned (.int .u64 x.toNat) ∧ W = w')
    (hb : ∀ W, Calls Tryz.prog 20 #[.int .u64 b, .int .i64 64] W fun e w' => e = .returned (.int .u64 y.toNat) ∧ W = w') (w : World) :
    Calls Tryz.prog 11 #[.int .u8 176, .bool true, .int .u64 a, .int .u64 b] w fun e w' => e = .returned (.tuple #[.bool (x.ule y), .bool true]) ∧ w = w' := by
  have HA := put_by' ha
  have HB := put_by' hb
  clear ha hb
  have HT := put_by' (above_64_u x y)
  obtain ⟨m, hm⟩ : ∃ m : Bool, y.ult x = m := ⟨_, rfl⟩
  rw [hm] at HT
  have HM := put_by' hm
  clear hm
  obtain ⟨r, hr⟩ : ∃ r : Bool, (x.ule y) = r := ⟨_, rfl⟩
  rw [hr]
  have HR := put_by' hr
  clear hr
  go_enter Tryz.func11, Tryz.ntmps11
  go_wp2_with (first
    | (go_at_call 20; first | ((with_reducible refine (HA.out _).mono ?_); rintro e w' ⟨rfl, rfl⟩) | ((with_reducible refine (HB.out _).mono ?_); rintro e w' ⟨rfl, rfl⟩))
    | (go_at_call 27; refine (HT.out _).mono ?_; rintro e w' ⟨rfl, rfl⟩))
  go_ret2
  exact ⟨ret_bt (by rw [← HR.out]; rw [← HM.out]; exact not_ult x y), rfl⟩
set_option maxHeartbeats 400000 in
theorem rtest_sgt_64 (a b : Int) (x y : BitVec 64) (ha : ∀ W, Calls Tryz.prog 20 #[.int .u64 a, .int .i64 64] W fun e w' => e = .returned (.int .u64 x.toNat) ∧ W = w')
    (hb : ∀ W, Calls Tryz.prog 20 #[.int .u64 b, .int .i64 64] W fun e w' => e = .returned (.int .u64 y.toNat) ∧ W = w') (w : World) :
    Calls Tryz.prog 11 #[.int .u8 96, .bool true, .int .u64 a, .int .u64 b] w fun e w' => e = .returned (.tuple #[.bool (y.slt x), .bool true]) ∧ w = w' := by
  have HA := put_by' ha
  have HB := put_by' hb
  clear ha hb
  have HT := put_by' (above_64_s x y)
  obtain ⟨m, hm⟩ : ∃ m : Bool, y.slt x = m := ⟨_, rfl⟩
  rw [hm] at HT
  have HM := put_by' hm
  clear hm
  obtain ⟨r, hr⟩ : ∃ r : Bool, (y.slt x) = r := ⟨_, rfl⟩
  rw [hr]
  have HR := put_by' hr
  clear hr
  go_enter Tryz.func11, Tryz.ntmps11
  go_wp2_with (first
    | (go_at_call 20; first | ((with_reducible refine (HA.out _).mono ?_); rintro e w' ⟨rfl, rfl⟩) | ((with_reducible refine (HB.out _).mono ?_); rintro e w' ⟨rfl, rfl⟩))
    | (go_at_call 27; refine (HT.out _).mono ?_; rintro e w' ⟨rfl, rfl⟩))
  go_ret2
  exact ⟨ret_bt (by rw [← HR.out]; exact HM.out.symm), rfl⟩
set_option maxHeartbeats 400000 in
theorem rtest_sge_64 (a b : Int) (x y : BitVec 64) (ha : ∀ W, Calls Tryz.prog 20 #[.int .u64 a, .int .i64 64] W fun e w' => e = .returned (.int .u64 x.toNat) ∧ W = w')
    (hb : ∀ W, Calls Tryz.prog 20 #[.int .u64 b, .int .i64 64] W fun e w' => e = .returned (.int .u64 y.toNat) ∧ W = w') (w : World) :
    Calls Tryz.prog 11 #[.int .u8 112, .bool true, .int .u64 a, .int .u64 b] w fun e w' => e = .returned (.tuple #[.bool (y.sle x), .bool true]) ∧ w = w' := by
  have HA := put_by' ha
  have HB := put_by' hb
  clear ha hb
  have HT := put_by' (above_64_s y x)
  obtain ⟨m, hm⟩ : ∃ m : Bool, x.slt y = m := ⟨_, rfl⟩
  rw [hm] at HT
  have HM := put_by' hm
  clear hm
  obtain ⟨r, hr⟩ : ∃ r : Bool, (y.sle x) = r := ⟨_, rfl⟩
  rw [hr]
  have HR := put_by' hr
  clear hr
  go_enter Tryz.func11, Tryz.ntmps11
  go_wp2_with (first
    | (go_at_call 20; first | ((with_reducible refine (HA.out _).mono ?_); rintro e w' ⟨rfl, rfl⟩) | ((with_reducible refine (HB.out _).mono ?_); rintro e w' ⟨rfl, rfl⟩))
    | (go_at_call 27; refine (HT.out _).mono ?_; rintro e w' ⟨rfl, rfl⟩))
  go_ret2
  exact ⟨ret_bt (by rw [← HR.out]; rw [← HM.out]; exact not_slt y x), rfl⟩
set_option maxHeartbeats 400000 in
theorem rtest_slt_64 (a b : Int) (x y : BitVec 64) (ha : ∀ W, Calls Tryz.prog 20 #[.int .u64 a, .int .i64 64] W fun e w' => e = .returned (.int .u64 x.toNat) ∧ W = w')
    (hb : ∀ W, Calls Tryz.prog 20 #[.int .u64 b, .int .i64 64] W fun e w' => e = .returned (.int .u64 y.toNat) ∧ W = w') (w : World) :
    Calls Tryz.prog 11 #[.int .u8 192, .bool true, .int .u64 a, .int .u64 b] w fun e w' => e = .returned (.tuple #[.bool (x.slt y), .bool true]) ∧ w = w' := by
  have HA := put_by' ha
  have HB := put_by' hb
  clear ha hb
  have HT := put_by' (above_64_s y x)
  obtain ⟨m, hm⟩ : ∃ m : Bool, x.slt y = m := ⟨_, rfl⟩
  rw [hm] at HT
  have HM := put_by' hm
  clear hm
  obtain ⟨r, hr⟩ : ∃ r : Bool, (x.slt y) = r := ⟨_, rfl⟩
  rw [hr]
  have HR := put_by' hr
  clear hr
  go_enter Tryz.func11, Tryz.ntmps11
  go_wp2_with (first
    | (go_at_call 20; first | ((with_reducible refine (HA.out _).mono ?_); rintro e w' ⟨rfl, rfl⟩) | ((with_reducible refine (HB.out _).mono ?_); rintro e w' ⟨rfl, rfl⟩))
    | (go_at_call 27; refine (HT.out _).mono ?_; rintro e w' ⟨rfl, rfl⟩))
  go_ret2
  exact ⟨ret_bt (by rw [← HR.out]; exact HM.out.symm), rfl⟩
set_option maxHeartbeats 400000 in
theorem rtest_sle_64 (a b : Int) (x y : BitVec 64) (ha : ∀ W, Calls Tryz.prog 20 #[.int .u64 a, .int .i64 64] W fun e w' => e = .returned (.int .u64 x.toNat) ∧ W = w')
    (hb : ∀ W, Calls Tryz.prog 20 #[.int .u64 b, .int .i64 64] W fun e w' => e = .returned (.int .u64 y.toNat) ∧ W = w') (w : World) :
    Calls Tryz.prog 11 #[.int .u8 208, .bool true, .int .u64 a, .int .u64 b] w fun e w' => e = .returned (.tuple #[.bool (x.sle y), .bool true]) ∧ w = w' := by
  have HA := put_by' ha
  have HB := put_by' hb
  clear ha hb
  have HT := put_by' (above_64_s x y)
  obtain ⟨m, hm⟩ : ∃ m : Bool, y.slt x = m := ⟨_, rfl⟩
  rw [hm] at HT
  have HM := put_by' hm
  clear hm
  obtain ⟨r, hr⟩ : ∃ r : Bool, (x.sle y) = r := ⟨_, rfl⟩
  rw [hr]
  have HR := put_by' hr
  clear hr
  go_enter Tryz.func11, Tryz.ntmps11
  go_wp2_with (first
    | (go_at_call 20; first | ((with_reducible refine (HA.out _).mono ?_); rintro e w' ⟨rfl, rfl⟩) | ((with_reducible refine (HB.out _).mono ?_); rintro e w' ⟨rfl, rfl⟩))
    | (go_at_call 27; refine (HT.out _).mono ?_; rintro e w' ⟨rfl, rfl⟩))
  go_ret2
  exact ⟨ret_bt (by rw [← HR.out]; rw [← HM.out]; exact not_slt x y), rfl⟩
set_option maxHeartbeats 400000 in
theorem rtest_set_64 (a b : Int) (x y : BitVec 64) (ha : ∀ W, Calls Tryz.prog 20 #[.int .u64 a, .int .i64 64] W fun e w' => e = .returned (.int .u64 x.toNat) ∧ W = w')
    (hb : ∀ W, Calls Tryz.prog 20 #[.int .u64 b, .int .i64 64] W fun e w' => e = .returned (.int .u64 y.toNat) ∧ W = w') (w : World) :
    Calls Tryz.prog 11 #[.int .u8 64, .bool true, .int .u64 a, .int .u64 b] w fun e w' => e = .returned (.tuple #[.bool (x &&& y != 0), .bool true]) ∧ w = w' := by
  have HA := put_by' ha
  have HB := put_by' hb
  clear ha hb
  obtain ⟨r, hr⟩ : ∃ r : Bool, (x &&& y != 0) = r := ⟨_, rfl⟩
  rw [hr]
  have HR := put_by' hr
  clear hr
  go_enter Tryz.func11, Tryz.ntmps11
  go_wp2_with (first
    | (go_at_call 20; first | ((with_reducible refine (HA.out _).mono ?_); rintro e w' ⟨rfl, rfl⟩) | ((with_reducible refine (HB.out _).mono ?_); rintro e w' ⟨rfl, rfl⟩)))
  go_ret2
  exact ⟨ret_bt (by rw [← HR.out]; exact setv64 x y), rfl⟩

theorem tnone_64 (op : Int) (h : tests64.find? (fun q => q.1 == op) = none) : ∀ q ∈ tests64, ¬ op = q.1 := by
  intro q hq he
  have := List.find?_eq_none.1 h q hq
  rw [he] at this
  simp at this
set_option maxHeartbeats 1000000 in
theorem rtest_no_64 (op a b : Int) (hf : tests64.find? (fun q => q.1 == op) = none) (x y : BitVec 64) (ha : ∀ W, Calls Tryz.prog 20 #[.int .u64 a, .int .i64 64] W fun e w' => e = .returned (.int .u64 x.toNat) ∧ W = w')
    (hb : ∀ W, Calls Tryz.prog 20 #[.int .u64 b, .int .i64 64] W fun e w' => e = .returned (.int .u64 y.toNat) ∧ W = w') (w : World) :
    Calls Tryz.prog 11 #[.int .u8 op, .bool true, .int .u64 a, .int .u64 b] w fun e w' => e = .returned (.tuple #[.bool false, .bool false]) ∧ w = w' := by
  have hn := tnone_64 op hf
  simp only [tests64, List.mem_cons, List.not_mem_nil, or_false, forall_eq_or_imp, forall_eq] at hn
  obtain ⟨g0, g1, g2, g3, g4, g5, g6, g7, g8, g9, g10⟩ := hn
  have d0 := ne_b g0
  have d1 := ne_b g1
  have d2 := ne_b g2
  have d3 := ne_b g3
  have d4 := ne_b g4
  have d5 := ne_b g5
  have d6 := ne_b g6
  have d7 := ne_b g7
  have d8 := ne_b g8
  have d9 := ne_b g9
  have d10 := ne_b g10
  clear g0 g1 g2 g3 g4 g5 g6 g7 g8 g9 g10 hf
  have HA := put_by' ha
  have HB := put_by' hb
  clear ha hb
  go_enter Tryz.func11, Tryz.ntmps11
  go_wp2_with (go_at_call 20; first | ((with_reducible refine (HA.out _).mono ?_); rintro e w' ⟨rfl, rfl⟩) | ((with_reducible refine (HB.out _).mono ?_); rintro e w' ⟨rfl, rfl⟩))
  go_ret2
  exact ⟨rfl, rfl⟩
theorem rtest_any_64 (op a b : Int) (x y : BitVec 64) (ha : ∀ W, Calls Tryz.prog 20 #[.int .u64 a, .int .i64 64] W fun e w' => e = .returned (.int .u64 x.toNat) ∧ W = w')
    (hb : ∀ W, Calls Tryz.prog 20 #[.int .u64 b, .int .i64 64] W fun e w' => e = .returned (.int .u64 y.toNat) ∧ W = w') (w : World) :
    Calls Tryz.prog 11 #[.int .u8 op, .bool true, .int .u64 a, .int .u64 b] w fun e w' => e = .returned (.tuple #[.bool (test64 op x y).1, .bool (test64 op x y).2]) ∧ w = w' := by
  unfold test64
  cases hf : tests64.find? (fun q => q.1 == op) with
  | none => exact rtest_no_64 op a b hf x y ha hb w
  | some q =>
    obtain ⟨k, f⟩ := q
    have hk : k = op := by simpa using List.find?_some hf
    have hm : (op, f) ∈ tests64 := hk ▸ List.mem_of_find?_eq_some hf
    simp only [tests64, List.mem_cons, List.not_mem_nil, or_false, Prod.mk.injEq] at hm
    clear hf hk
    rcases hm with ⟨rfl, rfl⟩ | ⟨rfl, rfl⟩ | ⟨rfl, rfl⟩ | ⟨rfl, rfl⟩ | ⟨rfl, rfl⟩ | ⟨rfl, rfl⟩ | ⟨rfl, rfl⟩ | ⟨rfl, rfl⟩ | ⟨rfl, rfl⟩ | ⟨rfl, rfl⟩ | ⟨rfl, rfl⟩
    · exact rtest_eq_64 a b x y ha hb w
    · exact rtest_ne_64 a b x y ha hb w
    · exact rtest_gt_64 a b x y ha hb w
    · exact rtest_ge_64 a b x y ha hb w
    · exact rtest_lt_64 a b x y ha hb w
    · exact rtest_le_64 a b x y ha hb w
    · exact rtest_sgt_64 a b x y ha hb w
    · exact rtest_sge_64 a b x y ha hb w
    · exact rtest_slt_64 a b x y ha hb w
    · exact rtest_sle_64 a b x y ha hb w
    · exact rtest_set_64 a b x y ha hb w

set_option maxHeartbeats 400000 in
theorem above_32_u (x y : BitVec 32) (w : World) : Calls Tryz.prog 27 #[.int .u64 x.toNat, .int .u64 y.toNat, .int .i64 32, .bool false] w fun e w' => e = .returned (.bool (y.ult x)) ∧ w = w' := by
  have HR := put_by' (ltv32 y x)
  generalize y.ult x = r at HR ⊢
  go_enter Tryz.func27, Tryz.ntmps27
  go_wp2
  go_ret
  exact ⟨ret_b (by simpa using HR.out), rfl⟩
set_option maxHeartbeats 400000 in
theorem above_32_tt (x y : BitVec 32) (ha : 2147483648 ≤ x.toNat) (hb : 2147483648 ≤ y.toNat) (w : World) : Calls Tryz.prog 27 #[.int .u64 x.toNat, .int .u64 y.toNat, .int .i64 32, .bool true] w fun e w' => e = .returned (.bool (y.slt x)) ∧ w = w' := by
  have hx := lt32 x
  have hy := lt32 y
  have hr : (decide ((y.toNat : Int) < (x.toNat : Int))) = y.slt x := by
    rw [BitVec.slt_eq_decide, BitVec.toInt_eq_toNat_cond, BitVec.toInt_eq_toNat_cond]
    apply decide_eq_decide.2
    split <;> split <;> omega
  have HX := put_by' (fun W => neg_32_t (x.toNat : Int) (by omega) (by omega) W)
  have HY := put_by' (fun W => neg_32_t (y.toNat : Int) (by omega) (by omega) W)
  have HR := put_by' hr
  clear hr hx hy ha hb
  generalize y.slt x = r at HR ⊢
  go_enter Tryz.func27, Tryz.ntmps27
  go_wp2_with (go_at_call 36; first | ((with_reducible refine (HX.out _).mono ?_); rintro e w' ⟨rfl, rfl⟩) | ((with_reducible refine (HY.out _).mono ?_); rintro e w' ⟨rfl, rfl⟩))
  go_ret
  exact ⟨ret_b (by simpa using HR.out), rfl⟩
set_option maxHeartbeats 400000 in
theorem above_32_tf (x y : BitVec 32) (ha : 2147483648 ≤ x.toNat) (hb : y.toNat < 2147483648) (w : World) : Calls Tryz.prog 27 #[.int .u64 x.toNat, .int .u64 y.toNat, .int .i64 32, .bool true] w fun e w' => e = .returned (.bool (y.slt x)) ∧ w = w' := by
  have hx := lt32 x
  have hy := lt32 y
  have hr : false = y.slt x := by
    rw [BitVec.slt_eq_decide, BitVec.toInt_eq_toNat_cond, BitVec.toInt_eq_toNat_cond, eq_comm]
    apply decide_eq_false
    split <;> split <;> omega
  have HX := put_by' (fun W => neg_32_t (x.toNat : Int) (by omega) (by omega) W)
  have HY := put_by' (fun W => neg_32_f (y.toNat : Int) (by omega) (by omega) W)
  have HR := put_by' hr
  clear hr hx hy ha hb
  generalize y.slt x = r at HR ⊢
  go_enter Tryz.func27, Tryz.ntmps27
  go_wp2_with (go_at_call 36; first | ((with_reducible refine (HX.out _).mono ?_); rintro e w' ⟨rfl, rfl⟩) | ((with_reducible refine (HY.out _).mono ?_); rintro e w' ⟨rfl, rfl⟩))
  go_ret
  exact ⟨ret_b (by simpa using HR.out), rfl⟩
set_option maxHeartbeats 400000 in
theorem above_32_ft (x y : BitVec 32) (ha : x.toNat < 2147483648) (hb : 2147483648 ≤ y.toNat) (w : World) : Calls Tryz.prog 27 #[.int .u64 x.toNat, .int .u64 y.toNat, .int .i64 32, .bool true] w fun e w' => e = .returned (.bool (y.slt x)) ∧ w = w' := by
  have hx := lt32 x
  have hy := lt32 y
  have hr : true = y.slt x := by
    rw [BitVec.slt_eq_decide, BitVec.toInt_eq_toNat_cond, BitVec.toInt_eq_toNat_cond, eq_comm]
    apply decide_eq_true
    split <;> split <;> omega
  have HX := put_by' (fun W => neg_32_f (x.toNat : Int) (by omega) (by omega) W)
  have HY := put_by' (fun W => neg_32_t (y.toNat : Int) (by omega) (by omega) W)
  have HR := put_by' hr
  clear hr hx hy ha hb
  generalize y.slt x = r at HR ⊢
  go_enter Tryz.func27, Tryz.ntmps27
  go_wp2_with (go_at_call 36; first | ((with_reducible refine (HX.out _).mono ?_); rintro e w' ⟨rfl, rfl⟩) | ((with_reducible refine (HY.out _).mono ?_); rintro e w' ⟨rfl, rfl⟩))
  go_ret
  exact ⟨ret_b (by simpa using HR.out), rfl⟩
set_option maxHeartbeats 400000 in
theorem above_32_ff (x y : BitVec 32) (ha : x.toNat < 2147483648) (hb : y.toNat < 2147483648) (w : World) : Calls Tryz.prog 27 #[.int .u64 x.toNat, .int .u64 y.toNat, .int .i64 32, .bool true] w fun e w' => e = .returned (.bool (y.slt x)) ∧ w = w' := by
  have hx := lt32 x
  have hy := lt32 y
  have hr : (decide ((y.toNat : Int) < (x.toNat : Int))) = y.slt x := by
    rw [BitVec.slt_eq_decide, BitVec.toInt_eq_toNat_cond, BitVec.toInt_eq_toNat_cond]
    apply decide_eq_decide.2
    split <;> split <;> omega
  have HX := put_by' (fun W => neg_32_f (x.toNat : Int) (by omega) (by omega) W)
  have HY := put_by' (fun W => neg_32_f (y.toNat : Int) (by omega) (by omega) W)
  have HR := put_by' hr
  clear hr hx hy ha hb
  generalize y.slt x = r at HR ⊢
  go_enter Tryz.func27, Tryz.ntmps27
  go_wp2_with (go_at_call 36; first | ((with_reducible refine (HX.out _).mono ?_); rintro e w' ⟨rfl, rfl⟩) | ((with_reducible refine (HY.out _).mono ?_); rintro e w' ⟨rfl, rfl⟩))
  go_ret
  exact ⟨ret_b (by simpa using HR.out), rfl⟩
theorem above_32_s (x y : BitVec 32) (w : World) : Calls Tryz.prog 27 #[.int .u64 x.toNat, .int .u64 y.toNat, .int .i64 32, .bool true] w fun e w' => e = .returned (.bool (y.slt x)) ∧ w = w' := by
  by_cases ha : 2147483648 ≤ x.toNat
  · by_cases hb : 2147483648 ≤ y.toNat
    · exact above_32_tt x y ha hb w
    · exact above_32_tf x y ha (by omega) w
  · by_cases hb : 2147483648 ≤ y.toNat
    · exact above_32_ft x y (by omega) hb w
    · exact above_32_ff x y (by omega) (by omega) w
set_option maxHeartbeats 400000 in
theorem rtest_eq_32 (a b : Int) (x y : BitVec 32) (ha : ∀ W, Calls Tryz.prog 20 #[.int .u64 a, .int .i64 32] W fun e w' => e = .returned (.int .u64 x.toNat) ∧ W = w')
    (hb : ∀ W, Calls Tryz.prog 20 #[.int .u64 b, .int .i64 32] W fun e w' => e = .returned (.int .u64 y.toNat) ∧ W = w') (w : World) :
    Calls Tryz.prog 11 #[.int .u8 16, .bool false, .int .u64 a, .int .u64 b] w fun e w' => e = .returned (.tuple #[.bool (x == y), .bool true]) ∧ w = w' := by
  have HA := put_by' ha
  have HB := put_by' hb
  clear ha hb
  obtain ⟨r, hr⟩ : ∃ r : Bool, (x == y) = r := ⟨_, rfl⟩
  rw [hr]
  have HR := put_by' hr
  clear hr
  go_enter Tryz.func11, Tryz.ntmps11
  go_wp2_with (first
    | (go_at_call 20; first | ((with_reducible refine (HA.out _).mono ?_); rintro e w' ⟨rfl, rfl⟩) | ((with_reducible refine (HB.out _).mono ?_); rintro e w' ⟨rfl, rfl⟩)))
  go_ret2
  exact ⟨ret_bt (by rw [← HR.out]; exact eqv32 x y), rfl⟩
set_option maxHeartbeats 400000 in
theorem rtest_ne_32 (a b : Int) (x y : BitVec 32) (ha : ∀ W, Calls Tryz.prog 20 #[.int .u64 a, .int .i64 32] W fun e w' => e = .returned (.int .u64 x.toNat) ∧ W = w')
    (hb : ∀ W, Calls Tryz.prog 20 #[.int .u64 b, .int .i64 32] W fun e w' => e = .returned (.int .u64 y.toNat) ∧ W = w') (w : World) :
    Calls Tryz.prog 11 #[.int .u8 80, .bool false, .int .u64 a, .int .u64 b] w fun e w' => e = .returned (.tuple #[.bool (x != y), .bool true]) ∧ w = w' := by
  have HA := put_by' ha
  have HB := put_by' hb
  clear ha hb
  obtain ⟨r, hr⟩ : ∃ r : Bool, (x != y) = r := ⟨_, rfl⟩
  rw [hr]
  have HR := put_by' hr
  clear hr
  go_enter Tryz.func11, Tryz.ntmps11
  go_wp2_with (first
    | (go_at_call 20; first | ((with_reducible refine (HA.out _).mono ?_); rintro e w' ⟨rfl, rfl⟩) | ((with_reducible refine (HB.out _).mono ?_); rintro e w' ⟨rfl, rfl⟩)))
  go_ret2
  exact ⟨ret_bt (by rw [← HR.out]; exact nev32 x y), rfl⟩
set_option maxHeartbeats 400000 in
theorem rtest_gt_32 (a b : Int) (x y : BitVec 32) (ha : ∀ W, Calls Tryz.prog 20 #[.int .u64 a, .int .i64 32] W fun e w' => e = .returned (.int .u64 x.toNat) ∧ W = w')
    (hb : ∀ W, Calls Tryz.prog 20 #[.int .u64 b, .int .i64 32] W fun e w' => e = .returned (.int .u64 y.toNat) ∧ W = w') (w : World) :
    Calls Tryz.prog 11 #[.int .u8 32, .bool false, .int .u64 a, .int .u64 b] w fun e w' => e = .returned (.tuple #[.bool (y.ult x), .bool true]) ∧ w = w' := by
  have HA := put_by' ha
  have HB := put_by' hb
  clear ha hb
  have HT := put_by' (above_32_u x y)
  obtain ⟨m, hm⟩ : ∃ m : Bool, y.ult x = m := ⟨_, rfl⟩
  rw [hm] at HT
  have HM := put_by' hm
  clear hm
  obtain ⟨r, hr⟩ : ∃ r : Bool, (y.ult x) = r := ⟨_, rfl⟩
  rw [hr]
  have HR := put_by' hr
  clear hr
  go_enter Tryz.func11, Tryz.ntmps11
  go_wp2_with (first
    | (go_at_call 20; first | ((with_reducible refine (HA.out _).mono ?_); rintro e w' ⟨rfl, rfl⟩) | ((with_reducible refine (HB.out _).mono ?_); rintro e w' ⟨rfl, rfl⟩))
    | (go_at_call 27; refine (HT.out _).mono ?_; rintro e w' ⟨rfl, rfl⟩))
  go_ret2
  exact ⟨ret_bt (by rw [← HR.out]; exact HM.out.symm), rfl⟩
set_option maxHeartbeats 400000 in
theorem rtest_ge_32 (a b : Int) (x y : BitVec 32) (ha : ∀ W, Calls Tryz.prog 20 #[.int .u64 a, .int .i64 32] W fun e w' => e = .returned (.int .u64 x.toNat) ∧ W = w')
    (hb : ∀ W, Calls Tryz.prog 20 #[.int .u64 b, .int .i64 32] W fun e w' => e = .returned (.int .u64 y.toNat) ∧ W = w') (w : World) :
    Calls Tryz.prog 11 #[.int .u8 48, .bool false, .int .u64 a, .int .u64 b] w fun e w' => e = .returned (.tuple #[.bool (y.ule x), .bool true]) ∧ w = w' := by
  have HA := put_by' ha
  have HB := put_by' hb
  clear ha hb
  have HT := put_by' (above_32_u y x)
  obtain ⟨m, hm⟩ : ∃ m : Bool, x.ult y = m := ⟨_, rfl⟩
  rw [hm] at HT
  have HM := put_by' hm
  clear hm
  obtain ⟨r, hr⟩ : ∃ r : Bool, (y.ule x) = r := ⟨_, rfl⟩
  rw [hr]
  have HR := put_by' hr
  clear hr
  go_enter Tryz.func11, Tryz.ntmps11
  go_wp2_with (first
    | (go_at_call 20; first | ((with_reducible refine (HA.out _).mono ?_); rintro e w' ⟨rfl, rfl⟩) | ((with_reducible refine (HB.out _).mono ?_); rintro e w' ⟨rfl, rfl⟩))
    | (go_at_call 27; refine (HT.out _).mono ?_; rintro e w' ⟨rfl, rfl⟩))
  go_ret2
  exact ⟨ret_bt (by rw [← HR.out]; rw [← HM.out]; exact not_ult y x), rfl⟩
set_option maxHeartbeats 400000 in
theorem rtest_lt_32 (a b : Int) (x y : BitVec 32) (ha : ∀ W, Calls Tryz.prog 20 #[.int .u64 a, .int .i64 32] W fun e w' => e = .returned (.int .u64 x.toNat) ∧ W = w')
    (hb : ∀ W, Calls Tryz.prog 20 #[.int .u64 b, .int .i64 32] W fun e w' => e = .returned (.int .u64 y.toNat) ∧ W = w') (w : World) :
    Calls Tryz.prog 11 #[.int .u8 160, .bool false, .int .u64 a, .int .u64 b] w fun e w' => e = .returned (.tuple #[.bool (x.ult y), .bool true]) ∧ w = w' := by
  have HA := put_by' ha
  have HB := put_by' hb
  clear ha hb
  have HT := put_by' (above_32_u y x)
  obtain ⟨m, hm⟩ : ∃ m : Bool, x.ult y = m := ⟨_, rfl⟩
  rw [hm] at HT
  have HM := put_by' hm
  clear hm
  obtain ⟨r, hr⟩ : ∃ r : Bool, (x.ult y) = r := ⟨_, rfl⟩
  rw [hr]
  have HR := put_by' hr
  clear hr
  go_enter Tryz.func11, Tryz.ntmps11
  go_wp2_with (first
    | (go_at_call 20; first | ((with_reducible refine (HA.out _).mono ?_); rintro e w' ⟨rfl, rfl⟩) | ((with_reducible refine (HB.out _).mono ?_); rintro e w' ⟨rfl, rfl⟩))
    | (go_at_call 27; refine (HT.out _).mono ?_; rintro e w' ⟨rfl, rfl⟩))
  go_ret2
  exact ⟨ret_bt (by rw [← HR.out]; exact HM.out.symm), rfl⟩
set_option maxHeartbeats 400000 in
theorem rtest_le_32 (a b : Int) (x y : BitVec 32) (ha : ∀ W, Calls Tryz.prog 20 #[.int .u64 a, .int .i64 32] W fun e w' => e = .returned (.int .u64 x.toNat) ∧ W = w')
    (hb : ∀ W, Calls Tryz.prog 20 #[.int .u64 b, .int .i64 32] W fun e w' => e = .returned (.int .u64 y.toNat) ∧ W = w') (w : World) :
    Calls Tryz.prog 11 #[.int .u8 176, .bool false, .int .u64 a, .int .u64 b] w fun e w' => e = .returned (.tuple #[.bool (x.ule y), .bool true]) ∧ w = w' := by
  have HA := put_by' ha
  have HB := put_by' hb
  clear ha hb
  have HT := put_by' (above_32_u x y)
  obtain ⟨m, hm⟩ : ∃ m : Bool, y.ult x = m := ⟨_, rfl⟩
  rw [hm] at HT
  have HM := put_by' hm
  clear hm
  obtain ⟨r, hr⟩ : ∃ r : Bool, (x.ule y) = r := ⟨_, rfl⟩
  rw [hr]
  have HR := put_by' hr
  clear hr
  go_enter Tryz.func11, Tryz.ntmps11
  go_wp2_with (first
    | (go_at_call 20; first | ((with_reducible refine (HA.out _).mono ?_); rintro e w' ⟨rfl, rfl⟩) | ((with_reducible refine (HB.out _).mono ?_); rintro e w' ⟨rfl, rfl⟩))
    | (go_at_call 27; refine (HT.out _).mono ?_; rintro e w' ⟨rfl, rfl⟩))
  go_ret2
  exact ⟨ret_bt (by rw [← HR.out]; rw [← HM.out]; exact not_ult x y), rfl⟩
set_option maxHeartbeats 400000 in
theorem rtest_sgt_32 (a b : Int) (x y : BitVec 32) (ha : ∀ W, Calls Tryz.prog 20 #[.int .u64 a, .int .i64 32] W fun e w' => e = .returned (.int .u64 x.toNat) ∧ W = w')
    (hb : ∀ W, Calls Tryz.prog 20 #[.int .u64 b, .int .i64 32] W fun e w' => e = .returned (.int .u64 y.toNat) ∧ W = w') (w : World) :
    Calls Tryz.prog 11 #[.int .u8 96, .bool false, .int .u64 a, .int .u64 b] w fun e w' => e = .returned (.tuple #[.bool (y.slt x), .bool true]) ∧ w = w' := by
  have HA := put_by' ha
  have HB := put_by' hb
  clear ha hb
  have HT := put_by' (above_32_s x y)
  obtain ⟨m, hm⟩ : ∃ m : Bool, y.slt x = m := ⟨_, rfl⟩
  rw [hm] at HT
  have HM := put_by' hm
  clear hm
  obtain ⟨r, hr⟩ : ∃ r : Bool, (y.slt x) = r := ⟨_, rfl⟩
  rw [hr]
  have HR := put_by' hr
  clear hr
  go_enter Tryz.func11, Tryz.ntmps11
  go_wp2_with (first
    | (go_at_call 20; first | ((with_reducible refine (HA.out _).mono ?_); rintro e w' ⟨rfl, rfl⟩) | ((with_reducible refine (HB.out _).mono ?_); rintro e w' ⟨rfl, rfl⟩))
    | (go_at_call 27; refine (HT.out _).mono ?_; rintro e w' ⟨rfl, rfl⟩))
  go_ret2
  exact ⟨ret_bt (by rw [← HR.out]; exact HM.out.symm), rfl⟩
set_option maxHeartbeats 400000 in
theorem rtest_sge_32 (a b : Int) (x y : BitVec 32) (ha : ∀ W, Calls Tryz.prog 20 #[.int .u64 a, .int .i64 32] W fun e w' => e = .returned (.int .u64 x.toNat) ∧ W = w')
    (hb : ∀ W, Calls Tryz.prog 20 #[.int .u64 b, .int .i64 32] W fun e w' => e = .returned (.int .u64 y.toNat) ∧ W = w') (w : World) :
    Calls Tryz.prog 11 #[.int .u8 112, .bool false, .int .u64 a, .int .u64 b] w fun e w' => e = .returned (.tuple #[.bool (y.sle x), .bool true]) ∧ w = w' := by
  have HA := put_by' ha
  have HB := put_by' hb
  clear ha hb
  have HT := put_by' (above_32_s y x)
  obtain ⟨m, hm⟩ : ∃ m : Bool, x.slt y = m := ⟨_, rfl⟩
  rw [hm] at HT
  have HM := put_by' hm
  clear hm
  obtain ⟨r, hr⟩ : ∃ r : Bool, (y.sle x) = r := ⟨_, rfl⟩
  rw [hr]
  have HR := put_by' hr
  clear hr
  go_enter Tryz.func11, Tryz.ntmps11
  go_wp2_with (first
    | (go_at_call 20; first | ((with_reducible refine (HA.out _).mono ?_); rintro e w' ⟨rfl, rfl⟩) | ((with_reducible refine (HB.out _).mono ?_); rintro e w' ⟨rfl, rfl⟩))
    | (go_at_call 27; refine (HT.out _).mono ?_; rintro e w' ⟨rfl, rfl⟩))
  go_ret2
  exact ⟨ret_bt (by rw [← HR.out]; rw [← HM.out]; exact not_slt y x), rfl⟩
set_option maxHeartbeats 400000 in
theorem rtest_slt_32 (a b : Int) (x y : BitVec 32) (ha : ∀ W, Calls Tryz.prog 20 #[.int .u64 a, .int .i64 32] W fun e w' => e = .returned (.int .u64 x.toNat) ∧ W = w')
    (hb : ∀ W, Calls Tryz.prog 20 #[.int .u64 b, .int .i64 32] W fun e w' => e = .returned (.int .u64 y.toNat) ∧ W = w') (w : World) :
    Calls Tryz.prog 11 #[.int .u8 192, .bool false, .int .u64 a, .int .u64 b] w fun e w' => e = .returned (.tuple #[.bool (x.slt y), .bool true]) ∧ w = w' := by
  have HA := put_by' ha
  have HB := put_by' hb
  clear ha hb
  have HT := put_by' (above_32_s y x)
  obtain ⟨m, hm⟩ : ∃ m : Bool, x.slt y = m := ⟨_, rfl⟩
  rw [hm] at HT
  have HM := put_by' hm
  clear hm
  obtain ⟨r, hr⟩ : ∃ r : Bool, (x.slt y) = r := ⟨_, rfl⟩
  rw [hr]
  have HR := put_by' hr
  clear hr
  go_enter Tryz.func11, Tryz.ntmps11
  go_wp2_with (first
    | (go_at_call 20; first | ((with_reducible refine (HA.out _).mono ?_); rintro e w' ⟨rfl, rfl⟩) | ((with_reducible refine (HB.out _).mono ?_); rintro e w' ⟨rfl, rfl⟩))
    | (go_at_call 27; refine (HT.out _).mono ?_; rintro e w' ⟨rfl, rfl⟩))
  go_ret2
  exact ⟨ret_bt (by rw [← HR.out]; exact HM.out.symm), rfl⟩
set_option maxHeartbeats 400000 in
theorem rtest_sle_32 (a b : Int) (x y : BitVec 32) (ha : ∀ W, Calls Tryz.prog 20 #[.int .u64 a, .int .i64 32] W fun e w' => e = .returned (.int .u64 x.toNat) ∧ W = w')
    (hb : ∀ W, Calls Tryz.prog 20 #[.int .u64 b, .int .i64 32] W fun e w' => e = .returned (.int .u64 y.toNat) ∧ W = w') (w : World) :
    Calls Tryz.prog 11 #[.int .u8 208, .bool false, .int .u64 a, .int .u64 b] w fun e w' => e = .returned (.tuple #[.bool (x.sle y), .bool true]) ∧ w = w' := by
  have HA := put_by' ha
  have HB := put_by' hb
  clear ha hb
  have HT := put_by' (above_32_s x y)
  obtain ⟨m, hm⟩ : ∃ m : Bool, y.slt x = m := ⟨_, rfl⟩
  rw [hm] at HT
  have HM := put_by' hm
  clear hm
  obtain ⟨r, hr⟩ : ∃ r : Bool, (x.sle y) = r := ⟨_, rfl⟩
  rw [hr]
  have HR := put_by' hr
  clear hr
  go_enter Tryz.func11, Tryz.ntmps11
  go_wp2_with (first
    | (go_at_call 20; first | ((with_reducible refine (HA.out _).mono ?_); rintro e w' ⟨rfl, rfl⟩) | ((with_reducible refine (HB.out _).mono ?_); rintro e w' ⟨rfl, rfl⟩))
    | (go_at_call 27; refine (HT.out _).mono ?_; rintro e w' ⟨rfl, rfl⟩))
  go_ret2
  exact ⟨ret_bt (by rw [← HR.out]; rw [← HM.out]; exact not_slt x y), rfl⟩
set_option maxHeartbeats 400000 in
theorem rtest_set_32 (a b : Int) (x y : BitVec 32) (ha : ∀ W, Calls Tryz.prog 20 #[.int .u64 a, .int .i64 32] W fun e w' => e = .returned (.int .u64 x.toNat) ∧ W = w')
    (hb : ∀ W, Calls Tryz.prog 20 #[.int .u64 b, .int .i64 32] W fun e w' => e = .returned (.int .u64 y.toNat) ∧ W = w') (w : World) :
    Calls Tryz.prog 11 #[.int .u8 64, .bool false, .int .u64 a, .int .u64 b] w fun e w' => e = .returned (.tuple #[.bool (x &&& y != 0), .bool true]) ∧ w = w' := by
  have HA := put_by' ha
  have HB := put_by' hb
  clear ha hb
  obtain ⟨r, hr⟩ : ∃ r : Bool, (x &&& y != 0) = r := ⟨_, rfl⟩
  rw [hr]
  have HR := put_by' hr
  clear hr
  go_enter Tryz.func11, Tryz.ntmps11
  go_wp2_with (first
    | (go_at_call 20; first | ((with_reducible refine (HA.out _).mono ?_); rintro e w' ⟨rfl, rfl⟩) | ((with_reducible refine (HB.out _).mono ?_); rintro e w' ⟨rfl, rfl⟩)))
  go_ret2
  exact ⟨ret_bt (by rw [← HR.out]; exact set32 x y), rfl⟩

theorem tnone_32 (op : Int) (h : tests32.find? (fun q => q.1 == op) = none) : ∀ q ∈ tests32, ¬ op = q.1 := by
  intro q hq he
  have := List.find?_eq_none.1 h q hq
  rw [he] at this
  simp at this
set_option maxHeartbeats 1000000 in
theorem rtest_no_32 (op a b : Int) (hf : tests32.find? (fun q => q.1 == op) = none) (x y : BitVec 32) (ha : ∀ W, Calls Tryz.prog 20 #[.int .u64 a, .int .i64 32] W fun e w' => e = .returned (.int .u64 x.toNat) ∧ W = w')
    (hb : ∀ W, Calls Tryz.prog 20 #[.int .u64 b, .int .i64 32] W fun e w' => e = .returned (.int .u64 y.toNat) ∧ W = w') (w : World) :
    Calls Tryz.prog 11 #[.int .u8 op, .bool false, .int .u64 a, .int .u64 b] w fun e w' => e = .returned (.tuple #[.bool false, .bool false]) ∧ w = w' := by
  have hn := tnone_32 op hf
  simp only [tests32, List.mem_cons, List.not_mem_nil, or_false, forall_eq_or_imp, forall_eq] at hn
  obtain ⟨g0, g1, g2, g3, g4, g5, g6, g7, g8, g9, g10⟩ := hn
  have d0 := ne_b g0
  have d1 := ne_b g1
  have d2 := ne_b g2
  have d3 := ne_b g3
  have d4 := ne_b g4
  have d5 := ne_b g5
  have d6 := ne_b g6
  have d7 := ne_b g7
  have d8 := ne_b g8
  have d9 := ne_b g9
  have d10 := ne_b g10
  clear g0 g1 g2 g3 g4 g5 g6 g7 g8 g9 g10 hf
  have HA := put_by' ha
  have HB := put_by' hb
  clear ha hb
  go_enter Tryz.func11, Tryz.ntmps11
  go_wp2_with (go_at_call 20; first | ((with_reducible refine (HA.out _).mono ?_); rintro e w' ⟨rfl, rfl⟩) | ((with_reducible refine (HB.out _).mono ?_); rintro e w' ⟨rfl, rfl⟩))
  go_ret2
  exact ⟨rfl, rfl⟩
theorem rtest_any_32 (op a b : Int) (x y : BitVec 32) (ha : ∀ W, Calls Tryz.prog 20 #[.int .u64 a, .int .i64 32] W fun e w' => e = .returned (.int .u64 x.toNat) ∧ W = w')
    (hb : ∀ W, Calls Tryz.prog 20 #[.int .u64 b, .int .i64 32] W fun e w' => e = .returned (.int .u64 y.toNat) ∧ W = w') (w : World) :
    Calls Tryz.prog 11 #[.int .u8 op, .bool false, .int .u64 a, .int .u64 b] w fun e w' => e = .returned (.tuple #[.bool (test32 op x y).1, .bool (test32 op x y).2]) ∧ w = w' := by
  unfold test32
  cases hf : tests32.find? (fun q => q.1 == op) with
  | none => exact rtest_no_32 op a b hf x y ha hb w
  | some q =>
    obtain ⟨k, f⟩ := q
    have hk : k = op := by simpa using List.find?_some hf
    have hm : (op, f) ∈ tests32 := hk ▸ List.mem_of_find?_eq_some hf
    simp only [tests32, List.mem_cons, List.not_mem_nil, or_false, Prod.mk.injEq] at hm
    clear hf hk
    rcases hm with ⟨rfl, rfl⟩ | ⟨rfl, rfl⟩ | ⟨rfl, rfl⟩ | ⟨rfl, rfl⟩ | ⟨rfl, rfl⟩ | ⟨rfl, rfl⟩ | ⟨rfl, rfl⟩ | ⟨rfl, rfl⟩ | ⟨rfl, rfl⟩ | ⟨rfl, rfl⟩ | ⟨rfl, rfl⟩
    · exact rtest_eq_32 a b x y ha hb w
    · exact rtest_ne_32 a b x y ha hb w
    · exact rtest_gt_32 a b x y ha hb w
    · exact rtest_ge_32 a b x y ha hb w
    · exact rtest_lt_32 a b x y ha hb w
    · exact rtest_le_32 a b x y ha hb w
    · exact rtest_sgt_32 a b x y ha hb w
    · exact rtest_sge_32 a b x y ha hb w
    · exact rtest_slt_32 a b x y ha hb w
    · exact rtest_sle_32 a b x y ha hb w
    · exact rtest_set_32 a b x y ha hb w
theorem rtest_any (op : Int) (wide : Bool) (x y : BitVec 64) (w : World) :
    Calls Tryz.prog 11 #[.int .u8 op, .bool wide, .int .u64 x.toNat, .int .u64 y.toNat] w fun e w' => e = .returned (.tuple #[.bool (test op wide x y).1, .bool (test op wide x y).2]) ∧ w = w' := by
  cases wide
  · exact rtest_any_32 op _ _ (x.setWidth 32) (y.setWidth 32) (cutl x) (cutl y) w
  · exact rtest_any_64 op _ _ x y (cutw x) (cutw y) w
end Go.Proofs.YtmlkbpmchcdldaaGreat
