/-
  The document's own answer to any operation is what 'Alu' tells.
-/
import Derived.Test.YtmlkbpmchcdldaaGreatRef2
import Derived.Test.YtmlkbpmchcdldaaGreatRef3
import Derived.Test.YtmlkbpmchcdldaaGreatRingM
namespace Go.Proofs.YtmlkbpmchcdldaaGreat
open Go.RowKit Go.Maps
set_option linter.unusedVariables false
theorem cutr (a : Int) (w : World) : Calls Tryz.prog 20 #[.int .u64 a, .int .i64 64] w fun e w' => e = .returned (.int .u64 a) ∧ w = w' := by
  go_enter Tryz.func20, Tryz.ntmps20
  go_wp2
  go_ret
  exact ⟨rfl, rfl⟩
theorem cutw (x : BitVec 64) (w : World) : Calls Tryz.prog 20 #[.int .u64 x.toNat, .int .i64 64] w fun e w' => e = .returned (.int .u64 x.toNat) ∧ w = w' := cut_64 _ (by omega) w
theorem cutl (x : BitVec 64) (w : World) : Calls Tryz.prog 20 #[.int .u64 x.toNat, .int .i64 32] w fun e w' => e = .returned (.int .u64 (x.setWidth 32).toNat) ∧ w = w' := by
  have := cut_32 x.toNat (by omega) w
  rwa [low32] at this
theorem timesn_64 (x y : BitVec 64) (w : World) : Calls Tryz.prog 21 #[.int .u64 x.toNat, .int .u64 y.toNat] w fun e w' => e = .returned (.int .u64 (((x.toNat * y.toNat % 18446744073709551616 : Nat)) : Int)) ∧ w = w' := by
  have := times_any x y w
  rwa [BitVec.toNat_mul] at this
theorem timesn_32 (x y : BitVec 32) (w : World) : Calls Tryz.prog 21 #[.int .u64 x.toNat, .int .u64 y.toNat] w fun e w' => e = .returned (.int .u64 (((x.toNat * y.toNat % 18446744073709551616 : Nat)) : Int)) ∧ w = w' := by
  have := timesn_64 (x.setWidth 64) (y.setWidth 64) w
  rwa [up_nat, up_nat] at this
theorem ret_t {a b : Int} (h : a = b) : Ending.returned (.tuple #[.int .u64 a, .bool true]) = .returned (.tuple #[.int .u64 b, .bool true]) := by rw [h]
theorem bits_nn (op : BinOp) (x y : BitVec 64) (h : op = .or ∨ op = .and ∨ op = .xor) : 0 ≤ bits op .u64 (x.toNat : Int) (y.toNat : Int) := by
  rcases h with rfl | rfl | rfl
  · rw [or64]; omega
  · rw [and64]; omega
  · rw [xor64]; omega
theorem nn_wrap (n : Int) : 0 ≤ IntKind.u64.wrap n := by rw [wrapu64]; omega
theorem bit32 (x y : BitVec 32) : bits .or .u64 (x.toNat : Int) (y.toNat : Int) = ((x ||| y).toNat : Int) ∧ bits .and .u64 (x.toNat : Int) (y.toNat : Int) = ((x &&& y).toNat : Int) ∧ bits .xor .u64 (x.toNat : Int) (y.toNat : Int) = ((x ^^^ y).toNat : Int) := by
  have hx := lt32 x
  have hy := lt32 y
  refine ⟨?_, ?_, ?_⟩
  · rw [u64_or_nat _ _ (by omega) (by omega), BitVec.toNat_or]
  · rw [u64_and_nat _ _ (by omega) (by omega), BitVec.toNat_and]
  · rw [u64_xor_nat _ _ (by omega) (by omega), BitVec.toNat_xor]

set_option maxHeartbeats 400000 in
theorem ref_add_64 (a b : Int) (x y : BitVec 64) (ha : ∀ W, Calls Tryz.prog 20 #[.int .u64 a, .int .i64 64] W fun e w' => e = .returned (.int .u64 x.toNat) ∧ W = w')
    (hb : ∀ W, Calls Tryz.prog 20 #[.int .u64 b, .int .i64 64] W fun e w' => e = .returned (.int .u64 y.toNat) ∧ W = w') (w : World) :
    Calls Tryz.prog 9 #[.int .u8 0, .int .i16 0, .bool true, .int .u64 a, .int .u64 b] w fun e w' => e = .returned (.tuple #[.int .u64 ((x + y).toNat : Int), .bool true]) ∧ w = w' := by
  have HA := put_by' ha
  have HB := put_by' hb
  clear ha hb
  have hb0 : 0 ≤ (y.toNat : Int) % 64 := by omega
  have hb1 : (y.toNat : Int) % 64 < 64 := by omega
  obtain ⟨r, hr⟩ : ∃ r : Int, ((x + y).toNat : Int) = r := ⟨_, rfl⟩
  rw [hr]
  have HR := put_by' hr
  clear hr
  go_enter Tryz.func9, Tryz.ntmps9
  go_wp2_with (first
    | (go_at_call 20; first | ((with_reducible refine (HA.out _).mono ?_); rintro e w' ⟨rfl, rfl⟩) | ((with_reducible refine (HB.out _).mono ?_); rintro e w' ⟨rfl, rfl⟩) | (refine (cutr _ _).mono ?_; rintro e w' ⟨rfl, rfl⟩))
    | (go_at_call 19; go_in))
  go_ret2
  exact ⟨ret_t (by rw [← HR.out]; exact add64 x y), rfl⟩

set_option maxHeartbeats 400000 in
theorem ref_sub_64 (a b : Int) (x y : BitVec 64) (ha : ∀ W, Calls Tryz.prog 20 #[.int .u64 a, .int .i64 64] W fun e w' => e = .returned (.int .u64 x.toNat) ∧ W = w')
    (hb : ∀ W, Calls Tryz.prog 20 #[.int .u64 b, .int .i64 64] W fun e w' => e = .returned (.int .u64 y.toNat) ∧ W = w') (w : World) :
    Calls Tryz.prog 9 #[.int .u8 16, .int .i16 0, .bool true, .int .u64 a, .int .u64 b] w fun e w' => e = .returned (.tuple #[.int .u64 ((x - y).toNat : Int), .bool true]) ∧ w = w' := by
  have HA := put_by' ha
  have HB := put_by' hb
  clear ha hb
  have hb0 : 0 ≤ (y.toNat : Int) % 64 := by omega
  have hb1 : (y.toNat : Int) % 64 < 64 := by omega
  obtain ⟨r, hr⟩ : ∃ r : Int, ((x - y).toNat : Int) = r := ⟨_, rfl⟩
  rw [hr]
  have HR := put_by' hr
  clear hr
  go_enter Tryz.func9, Tryz.ntmps9
  go_wp2_with (first
    | (go_at_call 20; first | ((with_reducible refine (HA.out _).mono ?_); rintro e w' ⟨rfl, rfl⟩) | ((with_reducible refine (HB.out _).mono ?_); rintro e w' ⟨rfl, rfl⟩) | (refine (cutr _ _).mono ?_; rintro e w' ⟨rfl, rfl⟩))
    | (go_at_call 19; go_in))
  go_ret2
  exact ⟨ret_t (by rw [← HR.out]; exact sub64 x y), rfl⟩

set_option maxHeartbeats 400000 in
theorem ref_mul_64 (a b : Int) (x y : BitVec 64) (ha : ∀ W, Calls Tryz.prog 20 #[.int .u64 a, .int .i64 64] W fun e w' => e = .returned (.int .u64 x.toNat) ∧ W = w')
    (hb : ∀ W, Calls Tryz.prog 20 #[.int .u64 b, .int .i64 64] W fun e w' => e = .returned (.int .u64 y.toNat) ∧ W = w') (w : World) :
    Calls Tryz.prog 9 #[.int .u8 32, .int .i16 0, .bool true, .int .u64 a, .int .u64 b] w fun e w' => e = .returned (.tuple #[.int .u64 ((x * y).toNat : Int), .bool true]) ∧ w = w' := by
  have HA := put_by' ha
  have HB := put_by' hb
  clear ha hb
  have hb0 : 0 ≤ (y.toNat : Int) % 64 := by omega
  have hb1 : (y.toNat : Int) % 64 < 64 := by omega
  have HT := put_by' (timesn_64 x y)
  obtain ⟨m, hm⟩ : ∃ m : Int, (((x.toNat * y.toNat % 18446744073709551616 : Nat)) : Int) = m := ⟨_, rfl⟩
  rw [hm] at HT
  have hm0 : 0 ≤ m := by omega
  have HM := put_by' hm
  clear hm
  obtain ⟨r, hr⟩ : ∃ r : Int, ((x * y).toNat : Int) = r := ⟨_, rfl⟩
  rw [hr]
  have HR := put_by' hr
  clear hr
  go_enter Tryz.func9, Tryz.ntmps9
  go_wp2_with (first
    | (go_at_call 20; first | ((with_reducible refine (HA.out _).mono ?_); rintro e w' ⟨rfl, rfl⟩) | ((with_reducible refine (HB.out _).mono ?_); rintro e w' ⟨rfl, rfl⟩) | (refine (cutr _ _).mono ?_; rintro e w' ⟨rfl, rfl⟩))
    | (go_at_call 21; refine (HT.out _).mono ?_; rintro e w' ⟨rfl, rfl⟩)
    | (go_at_call 19; go_in))
  go_ret2
  exact ⟨ret_t (by rw [← HR.out]; rw [← HM.out, BitVec.toNat_mul]), rfl⟩

set_option maxHeartbeats 400000 in
theorem ref_quo_64 (a b : Int) (x y : BitVec 64) (ha : ∀ W, Calls Tryz.prog 20 #[.int .u64 a, .int .i64 64] W fun e w' => e = .returned (.int .u64 x.toNat) ∧ W = w')
    (hb : ∀ W, Calls Tryz.prog 20 #[.int .u64 b, .int .i64 64] W fun e w' => e = .returned (.int .u64 y.toNat) ∧ W = w') (w : World) :
    Calls Tryz.prog 9 #[.int .u8 48, .int .i16 0, .bool true, .int .u64 a, .int .u64 b] w fun e w' => e = .returned (.tuple #[.int .u64 ((x / y).toNat : Int), .bool true]) ∧ w = w' := by
  have HA := put_by' ha
  have HB := put_by' hb
  clear ha hb
  have hb0 : 0 ≤ (y.toNat : Int) % 64 := by omega
  have hb1 : (y.toNat : Int) % 64 < 64 := by omega
  have HT := put_by' (divided_64_48_0 x y)
  obtain ⟨m, hm⟩ : ∃ m : Int, ((x / y).toNat : Int) = m := ⟨_, rfl⟩
  rw [hm] at HT
  have hm0 : 0 ≤ m := by omega
  have hm1 : m < 18446744073709551616 := by have := lt64 (x / y); omega
  have HM := put_by' hm
  clear hm
  obtain ⟨r, hr⟩ : ∃ r : Int, ((x / y).toNat : Int) = r := ⟨_, rfl⟩
  rw [hr]
  have HR := put_by' hr
  clear hr
  go_enter Tryz.func9, Tryz.ntmps9
  go_wp2_with (first
    | (go_at_call 20; first | ((with_reducible refine (HA.out _).mono ?_); rintro e w' ⟨rfl, rfl⟩) | ((with_reducible refine (HB.out _).mono ?_); rintro e w' ⟨rfl, rfl⟩) | (refine (cutr _ _).mono ?_; rintro e w' ⟨rfl, rfl⟩))
    | (go_at_call 22; refine (HT.out _).mono ?_; rintro e w' ⟨rfl, rfl⟩)
    | (go_at_call 19; go_in))
  go_ret2
  exact ⟨ret_t (by rw [← HR.out]; exact HM.out.symm), rfl⟩

set_option maxHeartbeats 400000 in
theorem ref_sdiv_64 (a b : Int) (x y : BitVec 64) (ha : ∀ W, Calls Tryz.prog 20 #[.int .u64 a, .int .i64 64] W fun e w' => e = .returned (.int .u64 x.toNat) ∧ W = w')
    (hb : ∀ W, Calls Tryz.prog 20 #[.int .u64 b, .int .i64 64] W fun e w' => e = .returned (.int .u64 y.toNat) ∧ W = w') (w : World) :
    Calls Tryz.prog 9 #[.int .u8 48, .int .i16 1, .bool true, .int .u64 a, .int .u64 b] w fun e w' => e = .returned (.tuple #[.int .u64 ((x.sdiv y).toNat : Int), .bool true]) ∧ w = w' := by
  have HA := put_by' ha
  have HB := put_by' hb
  clear ha hb
  have hb0 : 0 ≤ (y.toNat : Int) % 64 := by omega
  have hb1 : (y.toNat : Int) % 64 < 64 := by omega
  have HT := put_by' (divided_64_48_1 x y)
  obtain ⟨m, hm⟩ : ∃ m : Int, ((x.sdiv y).toNat : Int) = m := ⟨_, rfl⟩
  rw [hm] at HT
  have hm0 : 0 ≤ m := by omega
  have hm1 : m < 18446744073709551616 := by have := lt64 (x.sdiv y); omega
  have HM := put_by' hm
  clear hm
  obtain ⟨r, hr⟩ : ∃ r : Int, ((x.sdiv y).toNat : Int) = r := ⟨_, rfl⟩
  rw [hr]
  have HR := put_by' hr
  clear hr
  go_enter Tryz.func9, Tryz.ntmps9
  go_wp2_with (first
    | (go_at_call 20; first | ((with_reducible refine (HA.out _).mono ?_); rintro e w' ⟨rfl, rfl⟩) | ((with_reducible refine (HB.out _).mono ?_); rintro e w' ⟨rfl, rfl⟩) | (refine (cutr _ _).mono ?_; rintro e w' ⟨rfl, rfl⟩))
    | (go_at_call 22; refine (HT.out _).mono ?_; rintro e w' ⟨rfl, rfl⟩)
    | (go_at_call 19; go_in))
  go_ret2
  exact ⟨ret_t (by rw [← HR.out]; exact HM.out.symm), rfl⟩

set_option maxHeartbeats 400000 in
theorem ref_rem_64 (a b : Int) (x y : BitVec 64) (ha : ∀ W, Calls Tryz.prog 20 #[.int .u64 a, .int .i64 64] W fun e w' => e = .returned (.int .u64 x.toNat) ∧ W = w')
    (hb : ∀ W, Calls Tryz.prog 20 #[.int .u64 b, .int .i64 64] W fun e w' => e = .returned (.int .u64 y.toNat) ∧ W = w') (w : World) :
    Calls Tryz.prog 9 #[.int .u8 144, .int .i16 0, .bool true, .int .u64 a, .int .u64 b] w fun e w' => e = .returned (.tuple #[.int .u64 ((x % y).toNat : Int), .bool true]) ∧ w = w' := by
  have HA := put_by' ha
  have HB := put_by' hb
  clear ha hb
  have hb0 : 0 ≤ (y.toNat : Int) % 64 := by omega
  have hb1 : (y.toNat : Int) % 64 < 64 := by omega
  have HT := put_by' (divided_64_144_0 x y)
  obtain ⟨m, hm⟩ : ∃ m : Int, ((x % y).toNat : Int) = m := ⟨_, rfl⟩
  rw [hm] at HT
  have hm0 : 0 ≤ m := by omega
  have hm1 : m < 18446744073709551616 := by have := lt64 (x % y); omega
  have HM := put_by' hm
  clear hm
  obtain ⟨r, hr⟩ : ∃ r : Int, ((x % y).toNat : Int) = r := ⟨_, rfl⟩
  rw [hr]
  have HR := put_by' hr
  clear hr
  go_enter Tryz.func9, Tryz.ntmps9
  go_wp2_with (first
    | (go_at_call 20; first | ((with_reducible refine (HA.out _).mono ?_); rintro e w' ⟨rfl, rfl⟩) | ((with_reducible refine (HB.out _).mono ?_); rintro e w' ⟨rfl, rfl⟩) | (refine (cutr _ _).mono ?_; rintro e w' ⟨rfl, rfl⟩))
    | (go_at_call 22; refine (HT.out _).mono ?_; rintro e w' ⟨rfl, rfl⟩)
    | (go_at_call 19; go_in))
  go_ret2
  exact ⟨ret_t (by rw [← HR.out]; exact HM.out.symm), rfl⟩

set_option maxHeartbeats 400000 in
theorem ref_srem_64 (a b : Int) (x y : BitVec 64) (ha : ∀ W, Calls Tryz.prog 20 #[.int .u64 a, .int .i64 64] W fun e w' => e = .returned (.int .u64 x.toNat) ∧ W = w')
    (hb : ∀ W, Calls Tryz.prog 20 #[.int .u64 b, .int .i64 64] W fun e w' => e = .returned (.int .u64 y.toNat) ∧ W = w') (w : World) :
    Calls Tryz.prog 9 #[.int .u8 144, .int .i16 1, .bool true, .int .u64 a, .int .u64 b] w fun e w' => e = .returned (.tuple #[.int .u64 ((x.srem y).toNat : Int), .bool true]) ∧ w = w' := by
  have HA := put_by' ha
  have HB := put_by' hb
  clear ha hb
  have hb0 : 0 ≤ (y.toNat : Int) % 64 := by omega
  have hb1 : (y.toNat : Int) % 64 < 64 := by omega
  have HT := put_by' (divided_64_144_1 x y)
  obtain ⟨m, hm⟩ : ∃ m : Int, ((x.srem y).toNat : Int) = m := ⟨_, rfl⟩
  rw [hm] at HT
  have hm0 : 0 ≤ m := by omega
  have hm1 : m < 18446744073709551616 := by have := lt64 (x.srem y); omega
  have HM := put_by' hm
  clear hm
  obtain ⟨r, hr⟩ : ∃ r : Int, ((x.srem y).toNat : Int) = r := ⟨_, rfl⟩
  rw [hr]
  have HR := put_by' hr
  clear hr
  go_enter Tryz.func9, Tryz.ntmps9
  go_wp2_with (first
    | (go_at_call 20; first | ((with_reducible refine (HA.out _).mono ?_); rintro e w' ⟨rfl, rfl⟩) | ((with_reducible refine (HB.out _).mono ?_); rintro e w' ⟨rfl, rfl⟩) | (refine (cutr _ _).mono ?_; rintro e w' ⟨rfl, rfl⟩))
    | (go_at_call 22; refine (HT.out _).mono ?_; rintro e w' ⟨rfl, rfl⟩)
    | (go_at_call 19; go_in))
  go_ret2
  exact ⟨ret_t (by rw [← HR.out]; exact HM.out.symm), rfl⟩

set_option maxHeartbeats 400000 in
theorem ref_or_64 (a b : Int) (x y : BitVec 64) (ha : ∀ W, Calls Tryz.prog 20 #[.int .u64 a, .int .i64 64] W fun e w' => e = .returned (.int .u64 x.toNat) ∧ W = w')
    (hb : ∀ W, Calls Tryz.prog 20 #[.int .u64 b, .int .i64 64] W fun e w' => e = .returned (.int .u64 y.toNat) ∧ W = w') (w : World) :
    Calls Tryz.prog 9 #[.int .u8 64, .int .i16 0, .bool true, .int .u64 a, .int .u64 b] w fun e w' => e = .returned (.tuple #[.int .u64 ((x ||| y).toNat : Int), .bool true]) ∧ w = w' := by
  have HA := put_by' ha
  have HB := put_by' hb
  clear ha hb
  have hb0 : 0 ≤ (y.toNat : Int) % 64 := by omega
  have hb1 : (y.toNat : Int) % 64 < 64 := by omega
  obtain ⟨r, hr⟩ : ∃ r : Int, ((x ||| y).toNat : Int) = r := ⟨_, rfl⟩
  rw [hr]
  have HR := put_by' hr
  clear hr
  go_enter Tryz.func9, Tryz.ntmps9
  go_wp2_with (first
    | (go_at_call 20; first | ((with_reducible refine (HA.out _).mono ?_); rintro e w' ⟨rfl, rfl⟩) | ((with_reducible refine (HB.out _).mono ?_); rintro e w' ⟨rfl, rfl⟩) | (refine (cutr _ _).mono ?_; rintro e w' ⟨rfl, rfl⟩))
    | (go_at_call 19; go_in))
  go_ret2
  exact ⟨ret_t (by rw [← HR.out]; exact or64 x y), rfl⟩

set_option maxHeartbeats 400000 in
theorem ref_and_64 (a b : Int) (x y : BitVec 64) (ha : ∀ W, Calls Tryz.prog 20 #[.int .u64 a, .int .i64 64] W fun e w' => e = .returned (.int .u64 x.toNat) ∧ W = w')
    (hb : ∀ W, Calls Tryz.prog 20 #[.int .u64 b, .int .i64 64] W fun e w' => e = .returned (.int .u64 y.toNat) ∧ W = w') (w : World) :
    Calls Tryz.prog 9 #[.int .u8 80, .int .i16 0, .bool true, .int .u64 a, .int .u64 b] w fun e w' => e = .returned (.tuple #[.int .u64 ((x &&& y).toNat : Int), .bool true]) ∧ w = w' := by
  have HA := put_by' ha
  have HB := put_by' hb
  clear ha hb
  have hb0 : 0 ≤ (y.toNat : Int) % 64 := by omega
  have hb1 : (y.toNat : Int) % 64 < 64 := by omega
  obtain ⟨r, hr⟩ : ∃ r : Int, ((x &&& y).toNat : Int) = r := ⟨_, rfl⟩
  rw [hr]
  have HR := put_by' hr
  clear hr
  go_enter Tryz.func9, Tryz.ntmps9
  go_wp2_with (first
    | (go_at_call 20; first | ((with_reducible refine (HA.out _).mono ?_); rintro e w' ⟨rfl, rfl⟩) | ((with_reducible refine (HB.out _).mono ?_); rintro e w' ⟨rfl, rfl⟩) | (refine (cutr _ _).mono ?_; rintro e w' ⟨rfl, rfl⟩))
    | (go_at_call 19; go_in))
  go_ret2
  exact ⟨ret_t (by rw [← HR.out]; exact and64 x y), rfl⟩

set_option maxHeartbeats 400000 in
theorem ref_xor_64 (a b : Int) (x y : BitVec 64) (ha : ∀ W, Calls Tryz.prog 20 #[.int .u64 a, .int .i64 64] W fun e w' => e = .returned (.int .u64 x.toNat) ∧ W = w')
    (hb : ∀ W, Calls Tryz.prog 20 #[.int .u64 b, .int .i64 64] W fun e w' => e = .returned (.int .u64 y.toNat) ∧ W = w') (w : World) :
    Calls Tryz.prog 9 #[.int .u8 160, .int .i16 0, .bool true, .int .u64 a, .int .u64 b] w fun e w' => e = .returned (.tuple #[.int .u64 ((x ^^^ y).toNat : Int), .bool true]) ∧ w = w' := by
  have HA := put_by' ha
  have HB := put_by' hb
  clear ha hb
  have hb0 : 0 ≤ (y.toNat : Int) % 64 := by omega
  have hb1 : (y.toNat : Int) % 64 < 64 := by omega
  obtain ⟨r, hr⟩ : ∃ r : Int, ((x ^^^ y).toNat : Int) = r := ⟨_, rfl⟩
  rw [hr]
  have HR := put_by' hr
  clear hr
  go_enter Tryz.func9, Tryz.ntmps9
  go_wp2_with (first
    | (go_at_call 20; first | ((with_reducible refine (HA.out _).mono ?_); rintro e w' ⟨rfl, rfl⟩) | ((with_reducible refine (HB.out _).mono ?_); rintro e w' ⟨rfl, rfl⟩) | (refine (cutr _ _).mono ?_; rintro e w' ⟨rfl, rfl⟩))
    | (go_at_call 19; go_in))
  go_ret2
  exact ⟨ret_t (by rw [← HR.out]; exact xor64 x y), rfl⟩

set_option maxHeartbeats 400000 in
theorem ref_shl_64 (a b : Int) (x y : BitVec 64) (ha : ∀ W, Calls Tryz.prog 20 #[.int .u64 a, .int .i64 64] W fun e w' => e = .returned (.int .u64 x.toNat) ∧ W = w')
    (hb : ∀ W, Calls Tryz.prog 20 #[.int .u64 b, .int .i64 64] W fun e w' => e = .returned (.int .u64 y.toNat) ∧ W = w') (w : World) :
    Calls Tryz.prog 9 #[.int .u8 96, .int .i16 0, .bool true, .int .u64 a, .int .u64 b] w fun e w' => e = .returned (.tuple #[.int .u64 ((x <<< (y.toNat % 64)).toNat : Int), .bool true]) ∧ w = w' := by
  have HA := put_by' ha
  have HB := put_by' hb
  clear ha hb
  have hb0 : 0 ≤ (y.toNat : Int) % 64 := by omega
  have hb1 : (y.toNat : Int) % 64 < 64 := by omega
  obtain ⟨r, hr⟩ : ∃ r : Int, ((x <<< (y.toNat % 64)).toNat : Int) = r := ⟨_, rfl⟩
  rw [hr]
  have HR := put_by' hr
  clear hr
  go_enter Tryz.func9, Tryz.ntmps9
  go_wp2_with (first
    | (go_at_call 20; first | ((with_reducible refine (HA.out _).mono ?_); rintro e w' ⟨rfl, rfl⟩) | ((with_reducible refine (HB.out _).mono ?_); rintro e w' ⟨rfl, rfl⟩) | (refine (cutr _ _).mono ?_; rintro e w' ⟨rfl, rfl⟩))
    | (go_at_call 19; go_in))
  go_ret2
  exact ⟨ret_t (by rw [← HR.out]; exact shl_n x _), rfl⟩

set_option maxHeartbeats 400000 in
theorem ref_shr_64 (a b : Int) (x y : BitVec 64) (ha : ∀ W, Calls Tryz.prog 20 #[.int .u64 a, .int .i64 64] W fun e w' => e = .returned (.int .u64 x.toNat) ∧ W = w')
    (hb : ∀ W, Calls Tryz.prog 20 #[.int .u64 b, .int .i64 64] W fun e w' => e = .returned (.int .u64 y.toNat) ∧ W = w') (w : World) :
    Calls Tryz.prog 9 #[.int .u8 112, .int .i16 0, .bool true, .int .u64 a, .int .u64 b] w fun e w' => e = .returned (.tuple #[.int .u64 ((x >>> (y.toNat % 64)).toNat : Int), .bool true]) ∧ w = w' := by
  have HA := put_by' ha
  have HB := put_by' hb
  clear ha hb
  have hb0 : 0 ≤ (y.toNat : Int) % 64 := by omega
  have hb1 : (y.toNat : Int) % 64 < 64 := by omega
  obtain ⟨r, hr⟩ : ∃ r : Int, ((x >>> (y.toNat % 64)).toNat : Int) = r := ⟨_, rfl⟩
  rw [hr]
  have HR := put_by' hr
  clear hr
  go_enter Tryz.func9, Tryz.ntmps9
  go_wp2_with (first
    | (go_at_call 20; first | ((with_reducible refine (HA.out _).mono ?_); rintro e w' ⟨rfl, rfl⟩) | ((with_reducible refine (HB.out _).mono ?_); rintro e w' ⟨rfl, rfl⟩) | (refine (cutr _ _).mono ?_; rintro e w' ⟨rfl, rfl⟩))
    | (go_at_call 19; go_in))
  go_ret2
  exact ⟨ret_t (by rw [← HR.out]; exact shr_n x _), rfl⟩

set_option maxHeartbeats 400000 in
theorem ref_sar_64 (a b : Int) (x y : BitVec 64) (ha : ∀ W, Calls Tryz.prog 20 #[.int .u64 a, .int .i64 64] W fun e w' => e = .returned (.int .u64 x.toNat) ∧ W = w')
    (hb : ∀ W, Calls Tryz.prog 20 #[.int .u64 b, .int .i64 64] W fun e w' => e = .returned (.int .u64 y.toNat) ∧ W = w') (w : World) :
    Calls Tryz.prog 9 #[.int .u8 192, .int .i16 0, .bool true, .int .u64 a, .int .u64 b] w fun e w' => e = .returned (.tuple #[.int .u64 ((x.sshiftRight (y.toNat % 64)).toNat : Int), .bool true]) ∧ w = w' := by
  have HA := put_by' ha
  have HB := put_by' hb
  clear ha hb
  have hb0 : 0 ≤ (y.toNat : Int) % 64 := by omega
  have hb1 : (y.toNat : Int) % 64 < 64 := by omega
  have HT := put_by' (fun W => arsh_64 x (y.toNat % 64) (by omega) W)
  obtain ⟨m, hm⟩ : ∃ m : Int, ((x.sshiftRight (y.toNat % 64)).toNat : Int) = m := ⟨_, rfl⟩
  rw [hm] at HT
  rw [show ((y.toNat % 64 : Nat) : Int) = (y.toNat : Int) % 64 by omega] at HT
  have hm0 : 0 ≤ m := by omega
  have hm1 : m < 18446744073709551616 := by have := lt64 (x.sshiftRight (y.toNat % 64)); omega
  have HM := put_by' hm
  clear hm
  obtain ⟨r, hr⟩ : ∃ r : Int, ((x.sshiftRight (y.toNat % 64)).toNat : Int) = r := ⟨_, rfl⟩
  rw [hr]
  have HR := put_by' hr
  clear hr
  go_enter Tryz.func9, Tryz.ntmps9
  go_wp2_with (first
    | (go_at_call 20; first | ((with_reducible refine (HA.out _).mono ?_); rintro e w' ⟨rfl, rfl⟩) | ((with_reducible refine (HB.out _).mono ?_); rintro e w' ⟨rfl, rfl⟩) | (refine (cutr _ _).mono ?_; rintro e w' ⟨rfl, rfl⟩))
    | (go_at_call 23; refine (HT.out _).mono ?_; rintro e w' ⟨rfl, rfl⟩)
    | (go_at_call 19; go_in))
  go_ret2
  exact ⟨ret_t (by rw [← HR.out]; exact HM.out.symm), rfl⟩

set_option maxHeartbeats 400000 in
theorem ref_neg_64 (a b : Int) (x y : BitVec 64) (ha : ∀ W, Calls Tryz.prog 20 #[.int .u64 a, .int .i64 64] W fun e w' => e = .returned (.int .u64 x.toNat) ∧ W = w')
    (hb : ∀ W, Calls Tryz.prog 20 #[.int .u64 b, .int .i64 64] W fun e w' => e = .returned (.int .u64 y.toNat) ∧ W = w') (w : World) :
    Calls Tryz.prog 9 #[.int .u8 128, .int .i16 0, .bool true, .int .u64 a, .int .u64 b] w fun e w' => e = .returned (.tuple #[.int .u64 ((-x).toNat : Int), .bool true]) ∧ w = w' := by
  have HA := put_by' ha
  have HB := put_by' hb
  clear ha hb
  have hb0 : 0 ≤ (y.toNat : Int) % 64 := by omega
  have hb1 : (y.toNat : Int) % 64 < 64 := by omega
  obtain ⟨r, hr⟩ : ∃ r : Int, ((-x).toNat : Int) = r := ⟨_, rfl⟩
  rw [hr]
  have HR := put_by' hr
  clear hr
  go_enter Tryz.func9, Tryz.ntmps9
  go_wp2_with (first
    | (go_at_call 20; first | ((with_reducible refine (HA.out _).mono ?_); rintro e w' ⟨rfl, rfl⟩) | ((with_reducible refine (HB.out _).mono ?_); rintro e w' ⟨rfl, rfl⟩) | (refine (cutr _ _).mono ?_; rintro e w' ⟨rfl, rfl⟩))
    | (go_at_call 19; go_in))
  go_ret2
  exact ⟨ret_t (by rw [← HR.out]; exact neg64 x), rfl⟩

set_option maxHeartbeats 400000 in
theorem ref_mov_64 (a b : Int) (x y : BitVec 64) (ha : ∀ W, Calls Tryz.prog 20 #[.int .u64 a, .int .i64 64] W fun e w' => e = .returned (.int .u64 x.toNat) ∧ W = w')
    (hb : ∀ W, Calls Tryz.prog 20 #[.int .u64 b, .int .i64 64] W fun e w' => e = .returned (.int .u64 y.toNat) ∧ W = w') (w : World) :
    Calls Tryz.prog 9 #[.int .u8 176, .int .i16 0, .bool true, .int .u64 a, .int .u64 b] w fun e w' => e = .returned (.tuple #[.int .u64 ((y).toNat : Int), .bool true]) ∧ w = w' := by
  have HA := put_by' ha
  have HB := put_by' hb
  clear ha hb
  have hb0 : 0 ≤ (y.toNat : Int) % 64 := by omega
  have hb1 : (y.toNat : Int) % 64 < 64 := by omega
  obtain ⟨r, hr⟩ : ∃ r : Int, ((y).toNat : Int) = r := ⟨_, rfl⟩
  rw [hr]
  have HR := put_by' hr
  clear hr
  go_enter Tryz.func9, Tryz.ntmps9
  go_wp2_with (first
    | (go_at_call 20; first | ((with_reducible refine (HA.out _).mono ?_); rintro e w' ⟨rfl, rfl⟩) | ((with_reducible refine (HB.out _).mono ?_); rintro e w' ⟨rfl, rfl⟩) | (refine (cutr _ _).mono ?_; rintro e w' ⟨rfl, rfl⟩))
    | (go_at_call 19; go_in))
  go_ret2
  exact ⟨ret_t (by rw [← HR.out]; try rfl), rfl⟩

set_option maxHeartbeats 400000 in
theorem ref_m8_64 (a b : Int) (x y : BitVec 64) (ha : ∀ W, Calls Tryz.prog 20 #[.int .u64 a, .int .i64 64] W fun e w' => e = .returned (.int .u64 x.toNat) ∧ W = w')
    (hb : ∀ W, Calls Tryz.prog 20 #[.int .u64 b, .int .i64 64] W fun e w' => e = .returned (.int .u64 y.toNat) ∧ W = w') (w : World) :
    Calls Tryz.prog 9 #[.int .u8 176, .int .i16 8, .bool true, .int .u64 a, .int .u64 b] w fun e w' => e = .returned (.tuple #[.int .u64 (((y.setWidth 8).signExtend 64).toNat : Int), .bool true]) ∧ w = w' := by
  have HA := put_by' ha
  have HB := put_by' hb
  clear ha hb
  have hb0 : 0 ≤ (y.toNat : Int) % 64 := by omega
  have hb1 : (y.toNat : Int) % 64 < 64 := by omega
  have HT := put_by' (widen_8 (y.toNat : Int) (by omega))
  obtain ⟨m, hm⟩ : ∃ m : Int, wideI8 (y.toNat : Int) = m := ⟨_, rfl⟩
  rw [hm] at HT
  have hm0 : 0 ≤ m := by rw [← hm]; unfold wideI8; split <;> omega
  have HM := put_by' hm
  clear hm
  obtain ⟨r, hr⟩ : ∃ r : Int, (((y.setWidth 8).signExtend 64).toNat : Int) = r := ⟨_, rfl⟩
  rw [hr]
  have HR := put_by' hr
  clear hr
  go_enter Tryz.func9, Tryz.ntmps9
  go_wp2_with (first
    | (go_at_call 20; first | ((with_reducible refine (HA.out _).mono ?_); rintro e w' ⟨rfl, rfl⟩) | ((with_reducible refine (HB.out _).mono ?_); rintro e w' ⟨rfl, rfl⟩) | (refine (cutr _ _).mono ?_; rintro e w' ⟨rfl, rfl⟩))
    | (go_at_call 24; refine (HT.out _).mono ?_; rintro e w' ⟨rfl, rfl⟩)
    | (go_at_call 19; go_in))
  go_ret2
  exact ⟨ret_t (by rw [← HR.out]; rw [← HM.out]; exact wideI8_eq y), rfl⟩

set_option maxHeartbeats 400000 in
theorem ref_m16_64 (a b : Int) (x y : BitVec 64) (ha : ∀ W, Calls Tryz.prog 20 #[.int .u64 a, .int .i64 64] W fun e w' => e = .returned (.int .u64 x.toNat) ∧ W = w')
    (hb : ∀ W, Calls Tryz.prog 20 #[.int .u64 b, .int .i64 64] W fun e w' => e = .returned (.int .u64 y.toNat) ∧ W = w') (w : World) :
    Calls Tryz.prog 9 #[.int .u8 176, .int .i16 16, .bool true, .int .u64 a, .int .u64 b] w fun e w' => e = .returned (.tuple #[.int .u64 (((y.setWidth 16).signExtend 64).toNat : Int), .bool true]) ∧ w = w' := by
  have HA := put_by' ha
  have HB := put_by' hb
  clear ha hb
  have hb0 : 0 ≤ (y.toNat : Int) % 64 := by omega
  have hb1 : (y.toNat : Int) % 64 < 64 := by omega
  have HT := put_by' (widen_16 (y.toNat : Int) (by omega))
  obtain ⟨m, hm⟩ : ∃ m : Int, wideI16 (y.toNat : Int) = m := ⟨_, rfl⟩
  rw [hm] at HT
  have hm0 : 0 ≤ m := by rw [← hm]; unfold wideI16; split <;> omega
  have HM := put_by' hm
  clear hm
  obtain ⟨r, hr⟩ : ∃ r : Int, (((y.setWidth 16).signExtend 64).toNat : Int) = r := ⟨_, rfl⟩
  rw [hr]
  have HR := put_by' hr
  clear hr
  go_enter Tryz.func9, Tryz.ntmps9
  go_wp2_with (first
    | (go_at_call 20; first | ((with_reducible refine (HA.out _).mono ?_); rintro e w' ⟨rfl, rfl⟩) | ((with_reducible refine (HB.out _).mono ?_); rintro e w' ⟨rfl, rfl⟩) | (refine (cutr _ _).mono ?_; rintro e w' ⟨rfl, rfl⟩))
    | (go_at_call 24; refine (HT.out _).mono ?_; rintro e w' ⟨rfl, rfl⟩)
    | (go_at_call 19; go_in))
  go_ret2
  exact ⟨ret_t (by rw [← HR.out]; rw [← HM.out]; exact wideI16_eq y), rfl⟩

set_option maxHeartbeats 400000 in
theorem ref_m32_64 (a b : Int) (x y : BitVec 64) (ha : ∀ W, Calls Tryz.prog 20 #[.int .u64 a, .int .i64 64] W fun e w' => e = .returned (.int .u64 x.toNat) ∧ W = w')
    (hb : ∀ W, Calls Tryz.prog 20 #[.int .u64 b, .int .i64 64] W fun e w' => e = .returned (.int .u64 y.toNat) ∧ W = w') (w : World) :
    Calls Tryz.prog 9 #[.int .u8 176, .int .i16 32, .bool true, .int .u64 a, .int .u64 b] w fun e w' => e = .returned (.tuple #[.int .u64 (((y.setWidth 32).signExtend 64).toNat : Int), .bool true]) ∧ w = w' := by
  have HA := put_by' ha
  have HB := put_by' hb
  clear ha hb
  have hb0 : 0 ≤ (y.toNat : Int) % 64 := by omega
  have hb1 : (y.toNat : Int) % 64 < 64 := by omega
  have HT := put_by' (widen_32 (y.toNat : Int) (by omega))
  obtain ⟨m, hm⟩ : ∃ m : Int, wideI32 (y.toNat : Int) = m := ⟨_, rfl⟩
  rw [hm] at HT
  have hm0 : 0 ≤ m := by rw [← hm]; unfold wideI32; split <;> omega
  have HM := put_by' hm
  clear hm
  obtain ⟨r, hr⟩ : ∃ r : Int, (((y.setWidth 32).signExtend 64).toNat : Int) = r := ⟨_, rfl⟩
  rw [hr]
  have HR := put_by' hr
  clear hr
  go_enter Tryz.func9, Tryz.ntmps9
  go_wp2_with (first
    | (go_at_call 20; first | ((with_reducible refine (HA.out _).mono ?_); rintro e w' ⟨rfl, rfl⟩) | ((with_reducible refine (HB.out _).mono ?_); rintro e w' ⟨rfl, rfl⟩) | (refine (cutr _ _).mono ?_; rintro e w' ⟨rfl, rfl⟩))
    | (go_at_call 24; refine (HT.out _).mono ?_; rintro e w' ⟨rfl, rfl⟩)
    | (go_at_call 19; go_in))
  go_ret2
  exact ⟨ret_t (by rw [← HR.out]; rw [← HM.out]; exact wideI32_eq y), rfl⟩

set_option maxHeartbeats 400000 in
theorem ref_add_32 (a b : Int) (x y : BitVec 32) (ha : ∀ W, Calls Tryz.prog 20 #[.int .u64 a, .int .i64 32] W fun e w' => e = .returned (.int .u64 x.toNat) ∧ W = w')
    (hb : ∀ W, Calls Tryz.prog 20 #[.int .u64 b, .int .i64 32] W fun e w' => e = .returned (.int .u64 y.toNat) ∧ W = w') (w : World) :
    Calls Tryz.prog 9 #[.int .u8 0, .int .i16 0, .bool false, .int .u64 a, .int .u64 b] w fun e w' => e = .returned (.tuple #[.int .u64 ((x + y).toNat : Int), .bool true]) ∧ w = w' := by
  have HA := put_by' ha
  have HB := put_by' hb
  clear ha hb
  have hb0 : 0 ≤ (y.toNat : Int) % 32 := by omega
  have hb1 : (y.toNat : Int) % 32 < 32 := by omega
  obtain ⟨r, hr⟩ : ∃ r : Int, ((x + y).toNat : Int) = r := ⟨_, rfl⟩
  rw [hr]
  have HR := put_by' hr
  clear hr
  go_enter Tryz.func9, Tryz.ntmps9
  go_wp2_with (first
    | (go_at_call 20; first | ((with_reducible refine (HA.out _).mono ?_); rintro e w' ⟨rfl, rfl⟩) | ((with_reducible refine (HB.out _).mono ?_); rintro e w' ⟨rfl, rfl⟩) | (refine (cut_32 _ (by first | omega | exact nn_wrap _ | (exact Int.ediv_nonneg (by omega) (Int.le_of_lt (Int.pow_pos (by decide))))) _).mono ?_; rintro e w' ⟨rfl, rfl⟩))
    | (go_at_call 19; go_in))
  go_ret2
  exact ⟨ret_t (by rw [← HR.out]; rw [← add32, wrapu32]; try (first | rfl | (rw [wrapu64]; omega))), rfl⟩

set_option maxHeartbeats 400000 in
theorem ref_sub_32 (a b : Int) (x y : BitVec 32) (ha : ∀ W, Calls Tryz.prog 20 #[.int .u64 a, .int .i64 32] W fun e w' => e = .returned (.int .u64 x.toNat) ∧ W = w')
    (hb : ∀ W, Calls Tryz.prog 20 #[.int .u64 b, .int .i64 32] W fun e w' => e = .returned (.int .u64 y.toNat) ∧ W = w') (w : World) :
    Calls Tryz.prog 9 #[.int .u8 16, .int .i16 0, .bool false, .int .u64 a, .int .u64 b] w fun e w' => e = .returned (.tuple #[.int .u64 ((x - y).toNat : Int), .bool true]) ∧ w = w' := by
  have HA := put_by' ha
  have HB := put_by' hb
  clear ha hb
  have hb0 : 0 ≤ (y.toNat : Int) % 32 := by omega
  have hb1 : (y.toNat : Int) % 32 < 32 := by omega
  obtain ⟨r, hr⟩ : ∃ r : Int, ((x - y).toNat : Int) = r := ⟨_, rfl⟩
  rw [hr]
  have HR := put_by' hr
  clear hr
  go_enter Tryz.func9, Tryz.ntmps9
  go_wp2_with (first
    | (go_at_call 20; first | ((with_reducible refine (HA.out _).mono ?_); rintro e w' ⟨rfl, rfl⟩) | ((with_reducible refine (HB.out _).mono ?_); rintro e w' ⟨rfl, rfl⟩) | (refine (cut_32 _ (by first | omega | exact nn_wrap _ | (exact Int.ediv_nonneg (by omega) (Int.le_of_lt (Int.pow_pos (by decide))))) _).mono ?_; rintro e w' ⟨rfl, rfl⟩))
    | (go_at_call 19; go_in))
  go_ret2
  exact ⟨ret_t (by rw [← HR.out]; rw [← sub32, wrapu32]; try (first | rfl | (rw [wrapu64]; omega))), rfl⟩

set_option maxHeartbeats 400000 in
theorem ref_mul_32 (a b : Int) (x y : BitVec 32) (ha : ∀ W, Calls Tryz.prog 20 #[.int .u64 a, .int .i64 32] W fun e w' => e = .returned (.int .u64 x.toNat) ∧ W = w')
    (hb : ∀ W, Calls Tryz.prog 20 #[.int .u64 b, .int .i64 32] W fun e w' => e = .returned (.int .u64 y.toNat) ∧ W = w') (w : World) :
    Calls Tryz.prog 9 #[.int .u8 32, .int .i16 0, .bool false, .int .u64 a, .int .u64 b] w fun e w' => e = .returned (.tuple #[.int .u64 ((x * y).toNat : Int), .bool true]) ∧ w = w' := by
  have HA := put_by' ha
  have HB := put_by' hb
  clear ha hb
  have hb0 : 0 ≤ (y.toNat : Int) % 32 := by omega
  have hb1 : (y.toNat : Int) % 32 < 32 := by omega
  have HT := put_by' (timesn_32 x y)
  obtain ⟨m, hm⟩ : ∃ m : Int, (((x.toNat * y.toNat % 18446744073709551616 : Nat)) : Int) = m := ⟨_, rfl⟩
  rw [hm] at HT
  have hm0 : 0 ≤ m := by omega
  have HM := put_by' hm
  clear hm
  obtain ⟨r, hr⟩ : ∃ r : Int, ((x * y).toNat : Int) = r := ⟨_, rfl⟩
  rw [hr]
  have HR := put_by' hr
  clear hr
  go_enter Tryz.func9, Tryz.ntmps9
  go_wp2_with (first
    | (go_at_call 20; first | ((with_reducible refine (HA.out _).mono ?_); rintro e w' ⟨rfl, rfl⟩) | ((with_reducible refine (HB.out _).mono ?_); rintro e w' ⟨rfl, rfl⟩) | (refine (cut_32 _ (by first | omega | exact nn_wrap _ | (exact Int.ediv_nonneg (by omega) (Int.le_of_lt (Int.pow_pos (by decide))))) _).mono ?_; rintro e w' ⟨rfl, rfl⟩))
    | (go_at_call 21; refine (HT.out _).mono ?_; rintro e w' ⟨rfl, rfl⟩)
    | (go_at_call 19; go_in))
  go_ret2
  exact ⟨ret_t (by rw [← HR.out]; rw [← HM.out, BitVec.toNat_mul]; omega), rfl⟩

set_option maxHeartbeats 400000 in
theorem ref_quo_32 (a b : Int) (x y : BitVec 32) (ha : ∀ W, Calls Tryz.prog 20 #[.int .u64 a, .int .i64 32] W fun e w' => e = .returned (.int .u64 x.toNat) ∧ W = w')
    (hb : ∀ W, Calls Tryz.prog 20 #[.int .u64 b, .int .i64 32] W fun e w' => e = .returned (.int .u64 y.toNat) ∧ W = w') (w : World) :
    Calls Tryz.prog 9 #[.int .u8 48, .int .i16 0, .bool false, .int .u64 a, .int .u64 b] w fun e w' => e = .returned (.tuple #[.int .u64 ((x / y).toNat : Int), .bool true]) ∧ w = w' := by
  have HA := put_by' ha
  have HB := put_by' hb
  clear ha hb
  have hb0 : 0 ≤ (y.toNat : Int) % 32 := by omega
  have hb1 : (y.toNat : Int) % 32 < 32 := by omega
  have HT := put_by' (divided_32_48_0 x y)
  obtain ⟨m, hm⟩ : ∃ m : Int, ((x / y).toNat : Int) = m := ⟨_, rfl⟩
  rw [hm] at HT
  have hm0 : 0 ≤ m := by omega
  have hm1 : m < 4294967296 := by have := lt32 (x / y); omega
  have HM := put_by' hm
  clear hm
  obtain ⟨r, hr⟩ : ∃ r : Int, ((x / y).toNat : Int) = r := ⟨_, rfl⟩
  rw [hr]
  have HR := put_by' hr
  clear hr
  go_enter Tryz.func9, Tryz.ntmps9
  go_wp2_with (first
    | (go_at_call 20; first | ((with_reducible refine (HA.out _).mono ?_); rintro e w' ⟨rfl, rfl⟩) | ((with_reducible refine (HB.out _).mono ?_); rintro e w' ⟨rfl, rfl⟩) | (refine (cut_32 _ (by first | omega | exact nn_wrap _ | (exact Int.ediv_nonneg (by omega) (Int.le_of_lt (Int.pow_pos (by decide))))) _).mono ?_; rintro e w' ⟨rfl, rfl⟩))
    | (go_at_call 22; refine (HT.out _).mono ?_; rintro e w' ⟨rfl, rfl⟩)
    | (go_at_call 19; go_in))
  go_ret2
  exact ⟨ret_t (by rw [← HR.out]; rw [HM.out]; omega), rfl⟩

set_option maxHeartbeats 400000 in
theorem ref_sdiv_32 (a b : Int) (x y : BitVec 32) (ha : ∀ W, Calls Tryz.prog 20 #[.int .u64 a, .int .i64 32] W fun e w' => e = .returned (.int .u64 x.toNat) ∧ W = w')
    (hb : ∀ W, Calls Tryz.prog 20 #[.int .u64 b, .int .i64 32] W fun e w' => e = .returned (.int .u64 y.toNat) ∧ W = w') (w : World) :
    Calls Tryz.prog 9 #[.int .u8 48, .int .i16 1, .bool false, .int .u64 a, .int .u64 b] w fun e w' => e = .returned (.tuple #[.int .u64 ((x.sdiv y).toNat : Int), .bool true]) ∧ w = w' := by
  have HA := put_by' ha
  have HB := put_by' hb
  clear ha hb
  have hb0 : 0 ≤ (y.toNat : Int) % 32 := by omega
  have hb1 : (y.toNat : Int) % 32 < 32 := by omega
  have HT := put_by' (divided_32_48_1 x y)
  obtain ⟨m, hm⟩ : ∃ m : Int, ((x.sdiv y).toNat : Int) = m := ⟨_, rfl⟩
  rw [hm] at HT
  have hm0 : 0 ≤ m := by omega
  have hm1 : m < 4294967296 := by have := lt32 (x.sdiv y); omega
  have HM := put_by' hm
  clear hm
  obtain ⟨r, hr⟩ : ∃ r : Int, ((x.sdiv y).toNat : Int) = r := ⟨_, rfl⟩
  rw [hr]
  have HR := put_by' hr
  clear hr
  go_enter Tryz.func9, Tryz.ntmps9
  go_wp2_with (first
    | (go_at_call 20; first | ((with_reducible refine (HA.out _).mono ?_); rintro e w' ⟨rfl, rfl⟩) | ((with_reducible refine (HB.out _).mono ?_); rintro e w' ⟨rfl, rfl⟩) | (refine (cut_32 _ (by first | omega | exact nn_wrap _ | (exact Int.ediv_nonneg (by omega) (Int.le_of_lt (Int.pow_pos (by decide))))) _).mono ?_; rintro e w' ⟨rfl, rfl⟩))
    | (go_at_call 22; refine (HT.out _).mono ?_; rintro e w' ⟨rfl, rfl⟩)
    | (go_at_call 19; go_in))
  go_ret2
  exact ⟨ret_t (by rw [← HR.out]; rw [HM.out]; omega), rfl⟩

set_option maxHeartbeats 400000 in
theorem ref_rem_32 (a b : Int) (x y : BitVec 32) (ha : ∀ W, Calls Tryz.prog 20 #[.int .u64 a, .int .i64 32] W fun e w' => e = .returned (.int .u64 x.toNat) ∧ W = w')
    (hb : ∀ W, Calls Tryz.prog 20 #[.int .u64 b, .int .i64 32] W fun e w' => e = .returned (.int .u64 y.toNat) ∧ W = w') (w : World) :
    Calls Tryz.prog 9 #[.int .u8 144, .int .i16 0, .bool false, .int .u64 a, .int .u64 b] w fun e w' => e = .returned (.tuple #[.int .u64 ((x % y).toNat : Int), .bool true]) ∧ w = w' := by
  have HA := put_by' ha
  have HB := put_by' hb
  clear ha hb
  have hb0 : 0 ≤ (y.toNat : Int) % 32 := by omega
  have hb1 : (y.toNat : Int) % 32 < 32 := by omega
  have HT := put_by' (divided_32_144_0 x y)
  obtain ⟨m, hm⟩ : ∃ m : Int, ((x % y).toNat : Int) = m := ⟨_, rfl⟩
  rw [hm] at HT
  have hm0 : 0 ≤ m := by omega
  have hm1 : m < 4294967296 := by have := lt32 (x % y); omega
  have HM := put_by' hm
  clear hm
  obtain ⟨r, hr⟩ : ∃ r : Int, ((x % y).toNat : Int) = r := ⟨_, rfl⟩
  rw [hr]
  have HR := put_by' hr
  clear hr
  go_enter Tryz.func9, Tryz.ntmps9
  go_wp2_with (first
    | (go_at_call 20; first | ((with_reducible refine (HA.out _).mono ?_); rintro e w' ⟨rfl, rfl⟩) | ((with_reducible refine (HB.out _).mono ?_); rintro e w' ⟨rfl, rfl⟩) | (refine (cut_32 _ (by first | omega | exact nn_wrap _ | (exact Int.ediv_nonneg (by omega) (Int.le_of_lt (Int.pow_pos (by decide))))) _).mono ?_; rintro e w' ⟨rfl, rfl⟩))
    | (go_at_call 22; refine (HT.out _).mono ?_; rintro e w' ⟨rfl, rfl⟩)
    | (go_at_call 19; go_in))
  go_ret2
  exact ⟨ret_t (by rw [← HR.out]; rw [HM.out]; omega), rfl⟩

set_option maxHeartbeats 400000 in
theorem ref_srem_32 (a b : Int) (x y : BitVec 32) (ha : ∀ W, Calls Tryz.prog 20 #[.int .u64 a, .int .i64 32] W fun e w' => e = .returned (.int .u64 x.toNat) ∧ W = w')
    (hb : ∀ W, Calls Tryz.prog 20 #[.int .u64 b, .int .i64 32] W fun e w' => e = .returned (.int .u64 y.toNat) ∧ W = w') (w : World) :
    Calls Tryz.prog 9 #[.int .u8 144, .int .i16 1, .bool false, .int .u64 a, .int .u64 b] w fun e w' => e = .returned (.tuple #[.int .u64 ((x.srem y).toNat : Int), .bool true]) ∧ w = w' := by
  have HA := put_by' ha
  have HB := put_by' hb
  clear ha hb
  have hb0 : 0 ≤ (y.toNat : Int) % 32 := by omega
  have hb1 : (y.toNat : Int) % 32 < 32 := by omega
  have HT := put_by' (divided_32_144_1 x y)
  obtain ⟨m, hm⟩ : ∃ m : Int, ((x.srem y).toNat : Int) = m := ⟨_, rfl⟩
  rw [hm] at HT
  have hm0 : 0 ≤ m := by omega
  have hm1 : m < 4294967296 := by have := lt32 (x.srem y); omega
  have HM := put_by' hm
  clear hm
  obtain ⟨r, hr⟩ : ∃ r : Int, ((x.srem y).toNat : Int) = r := ⟨_, rfl⟩
  rw [hr]
  have HR := put_by' hr
  clear hr
  go_enter Tryz.func9, Tryz.ntmps9
  go_wp2_with (first
    | (go_at_call 20; first | ((with_reducible refine (HA.out _).mono ?_); rintro e w' ⟨rfl, rfl⟩) | ((with_reducible refine (HB.out _).mono ?_); rintro e w' ⟨rfl, rfl⟩) | (refine (cut_32 _ (by first | omega | exact nn_wrap _ | (exact Int.ediv_nonneg (by omega) (Int.le_of_lt (Int.pow_pos (by decide))))) _).mono ?_; rintro e w' ⟨rfl, rfl⟩))
    | (go_at_call 22; refine (HT.out _).mono ?_; rintro e w' ⟨rfl, rfl⟩)
    | (go_at_call 19; go_in))
  go_ret2
  exact ⟨ret_t (by rw [← HR.out]; rw [HM.out]; omega), rfl⟩

set_option maxHeartbeats 400000 in
theorem ref_or_32 (a b : Int) (x y : BitVec 32) (ha : ∀ W, Calls Tryz.prog 20 #[.int .u64 a, .int .i64 32] W fun e w' => e = .returned (.int .u64 x.toNat) ∧ W = w')
    (hb : ∀ W, Calls Tryz.prog 20 #[.int .u64 b, .int .i64 32] W fun e w' => e = .returned (.int .u64 y.toNat) ∧ W = w') (w : World) :
    Calls Tryz.prog 9 #[.int .u8 64, .int .i16 0, .bool false, .int .u64 a, .int .u64 b] w fun e w' => e = .returned (.tuple #[.int .u64 ((x ||| y).toNat : Int), .bool true]) ∧ w = w' := by
  have HA := put_by' ha
  have HB := put_by' hb
  clear ha hb
  have hb0 : 0 ≤ (y.toNat : Int) % 32 := by omega
  have hb1 : (y.toNat : Int) % 32 < 32 := by omega
  obtain ⟨r, hr⟩ : ∃ r : Int, ((x ||| y).toNat : Int) = r := ⟨_, rfl⟩
  rw [hr]
  have HR := put_by' hr
  clear hr
  go_enter Tryz.func9, Tryz.ntmps9
  go_wp2_with (first
    | (go_at_call 20; first | ((with_reducible refine (HA.out _).mono ?_); rintro e w' ⟨rfl, rfl⟩) | ((with_reducible refine (HB.out _).mono ?_); rintro e w' ⟨rfl, rfl⟩) | (refine (cut_32 _ (by rw [(bit32 x y).1]; omega) _).mono ?_; rintro e w' ⟨rfl, rfl⟩))
    | (go_at_call 19; go_in))
  go_ret2
  exact ⟨ret_t (by rw [← HR.out]; rw [(bit32 x y).1]; have := lt32 (x ||| y); omega), rfl⟩

set_option maxHeartbeats 400000 in
theorem ref_and_32 (a b : Int) (x y : BitVec 32) (ha : ∀ W, Calls Tryz.prog 20 #[.int .u64 a, .int .i64 32] W fun e w' => e = .returned (.int .u64 x.toNat) ∧ W = w')
    (hb : ∀ W, Calls Tryz.prog 20 #[.int .u64 b, .int .i64 32] W fun e w' => e = .returned (.int .u64 y.toNat) ∧ W = w') (w : World) :
    Calls Tryz.prog 9 #[.int .u8 80, .int .i16 0, .bool false, .int .u64 a, .int .u64 b] w fun e w' => e = .returned (.tuple #[.int .u64 ((x &&& y).toNat : Int), .bool true]) ∧ w = w' := by
  have HA := put_by' ha
  have HB := put_by' hb
  clear ha hb
  have hb0 : 0 ≤ (y.toNat : Int) % 32 := by omega
  have hb1 : (y.toNat : Int) % 32 < 32 := by omega
  obtain ⟨r, hr⟩ : ∃ r : Int, ((x &&& y).toNat : Int) = r := ⟨_, rfl⟩
  rw [hr]
  have HR := put_by' hr
  clear hr
  go_enter Tryz.func9, Tryz.ntmps9
  go_wp2_with (first
    | (go_at_call 20; first | ((with_reducible refine (HA.out _).mono ?_); rintro e w' ⟨rfl, rfl⟩) | ((with_reducible refine (HB.out _).mono ?_); rintro e w' ⟨rfl, rfl⟩) | (refine (cut_32 _ (by rw [(bit32 x y).2.1]; omega) _).mono ?_; rintro e w' ⟨rfl, rfl⟩))
    | (go_at_call 19; go_in))
  go_ret2
  exact ⟨ret_t (by rw [← HR.out]; rw [(bit32 x y).2.1]; have := lt32 (x &&& y); omega), rfl⟩

set_option maxHeartbeats 400000 in
theorem ref_xor_32 (a b : Int) (x y : BitVec 32) (ha : ∀ W, Calls Tryz.prog 20 #[.int .u64 a, .int .i64 32] W fun e w' => e = .returned (.int .u64 x.toNat) ∧ W = w')
    (hb : ∀ W, Calls Tryz.prog 20 #[.int .u64 b, .int .i64 32] W fun e w' => e = .returned (.int .u64 y.toNat) ∧ W = w') (w : World) :
    Calls Tryz.prog 9 #[.int .u8 160, .int .i16 0, .bool false, .int .u64 a, .int .u64 b] w fun e w' => e = .returned (.tuple #[.int .u64 ((x ^^^ y).toNat : Int), .bool true]) ∧ w = w' := by
  have HA := put_by' ha
  have HB := put_by' hb
  clear ha hb
  have hb0 : 0 ≤ (y.toNat : Int) % 32 := by omega
  have hb1 : (y.toNat : Int) % 32 < 32 := by omega
  obtain ⟨r, hr⟩ : ∃ r : Int, ((x ^^^ y).toNat : Int) = r := ⟨_, rfl⟩
  rw [hr]
  have HR := put_by' hr
  clear hr
  go_enter Tryz.func9, Tryz.ntmps9
  go_wp2_with (first
    | (go_at_call 20; first | ((with_reducible refine (HA.out _).mono ?_); rintro e w' ⟨rfl, rfl⟩) | ((with_reducible refine (HB.out _).mono ?_); rintro e w' ⟨rfl, rfl⟩) | (refine (cut_32 _ (by rw [(bit32 x y).2.2]; omega) _).mono ?_; rintro e w' ⟨rfl, rfl⟩))
    | (go_at_call 19; go_in))
  go_ret2
  exact ⟨ret_t (by rw [← HR.out]; rw [(bit32 x y).2.2]; have := lt32 (x ^^^ y); omega), rfl⟩
theorem low_shl (x : BitVec 32) (n : Nat) : IntKind.u64.wrap ((x.toNat : Int) * 2 ^ n) % 4294967296 = ((x <<< n).toNat : Int) := by
  rw [wrapu64, BitVec.toNat_shiftLeft, Nat.shiftLeft_eq, Int.natCast_emod, Int.natCast_mul, Int.natCast_pow, Int.emod_emod_of_dvd _ (by decide)]; rfl
theorem low_shr (x : BitVec 32) (n : Nat) : (x.toNat : Int) / 2 ^ n % 4294967296 = ((x >>> n).toNat : Int) := by
  have h : (x.toNat : Int) / 2 ^ n = ((x >>> n).toNat : Int) := by
    rw [BitVec.toNat_ushiftRight, Nat.shiftRight_eq_div_pow, Int.natCast_ediv, Int.natCast_pow]; rfl
  have := lt32 (x >>> n)
  rw [h]; omega

set_option maxHeartbeats 400000 in
theorem ref_shl_32 (a b : Int) (x y : BitVec 32) (ha : ∀ W, Calls Tryz.prog 20 #[.int .u64 a, .int .i64 32] W fun e w' => e = .returned (.int .u64 x.toNat) ∧ W = w')
    (hb : ∀ W, Calls Tryz.prog 20 #[.int .u64 b, .int .i64 32] W fun e w' => e = .returned (.int .u64 y.toNat) ∧ W = w') (w : World) :
    Calls Tryz.prog 9 #[.int .u8 96, .int .i16 0, .bool false, .int .u64 a, .int .u64 b] w fun e w' => e = .returned (.tuple #[.int .u64 ((x <<< (y.toNat % 32)).toNat : Int), .bool true]) ∧ w = w' := by
  have HA := put_by' ha
  have HB := put_by' hb
  clear ha hb
  have hb0 : 0 ≤ (y.toNat : Int) % 32 := by omega
  have hb1 : (y.toNat : Int) % 32 < 32 := by omega
  obtain ⟨r, hr⟩ : ∃ r : Int, ((x <<< (y.toNat % 32)).toNat : Int) = r := ⟨_, rfl⟩
  rw [hr]
  have HR := put_by' hr
  clear hr
  go_enter Tryz.func9, Tryz.ntmps9
  go_wp2_with (first
    | (go_at_call 20; first | ((with_reducible refine (HA.out _).mono ?_); rintro e w' ⟨rfl, rfl⟩) | ((with_reducible refine (HB.out _).mono ?_); rintro e w' ⟨rfl, rfl⟩) | (refine (cut_32 _ (by first | omega | exact nn_wrap _ | (exact Int.ediv_nonneg (by omega) (Int.le_of_lt (Int.pow_pos (by decide))))) _).mono ?_; rintro e w' ⟨rfl, rfl⟩))
    | (go_at_call 19; go_in))
  go_ret2
  exact ⟨ret_t (by rw [← HR.out]; exact low_shl x _), rfl⟩

set_option maxHeartbeats 400000 in
theorem ref_shr_32 (a b : Int) (x y : BitVec 32) (ha : ∀ W, Calls Tryz.prog 20 #[.int .u64 a, .int .i64 32] W fun e w' => e = .returned (.int .u64 x.toNat) ∧ W = w')
    (hb : ∀ W, Calls Tryz.prog 20 #[.int .u64 b, .int .i64 32] W fun e w' => e = .returned (.int .u64 y.toNat) ∧ W = w') (w : World) :
    Calls Tryz.prog 9 #[.int .u8 112, .int .i16 0, .bool false, .int .u64 a, .int .u64 b] w fun e w' => e = .returned (.tuple #[.int .u64 ((x >>> (y.toNat % 32)).toNat : Int), .bool true]) ∧ w = w' := by
  have HA := put_by' ha
  have HB := put_by' hb
  clear ha hb
  have hb0 : 0 ≤ (y.toNat : Int) % 32 := by omega
  have hb1 : (y.toNat : Int) % 32 < 32 := by omega
  obtain ⟨r, hr⟩ : ∃ r : Int, ((x >>> (y.toNat % 32)).toNat : Int) = r := ⟨_, rfl⟩
  rw [hr]
  have HR := put_by' hr
  clear hr
  go_enter Tryz.func9, Tryz.ntmps9
  go_wp2_with (first
    | (go_at_call 20; first | ((with_reducible refine (HA.out _).mono ?_); rintro e w' ⟨rfl, rfl⟩) | ((with_reducible refine (HB.out _).mono ?_); rintro e w' ⟨rfl, rfl⟩) | (refine (cut_32 _ (by first | omega | exact nn_wrap _ | (exact Int.ediv_nonneg (by omega) (Int.le_of_lt (Int.pow_pos (by decide))))) _).mono ?_; rintro e w' ⟨rfl, rfl⟩))
    | (go_at_call 19; go_in))
  go_ret2
  exact ⟨ret_t (by rw [← HR.out]; exact low_shr x _), rfl⟩

set_option maxHeartbeats 400000 in
theorem ref_sar_32 (a b : Int) (x y : BitVec 32) (ha : ∀ W, Calls Tryz.prog 20 #[.int .u64 a, .int .i64 32] W fun e w' => e = .returned (.int .u64 x.toNat) ∧ W = w')
    (hb : ∀ W, Calls Tryz.prog 20 #[.int .u64 b, .int .i64 32] W fun e w' => e = .returned (.int .u64 y.toNat) ∧ W = w') (w : World) :
    Calls Tryz.prog 9 #[.int .u8 192, .int .i16 0, .bool false, .int .u64 a, .int .u64 b] w fun e w' => e = .returned (.tuple #[.int .u64 ((x.sshiftRight (y.toNat % 32)).toNat : Int), .bool true]) ∧ w = w' := by
  have HA := put_by' ha
  have HB := put_by' hb
  clear ha hb
  have hb0 : 0 ≤ (y.toNat : Int) % 32 := by omega
  have hb1 : (y.toNat : Int) % 32 < 32 := by omega
  have HT := put_by' (fun W => arsh_32 x (y.toNat % 32) (by omega) W)
  obtain ⟨m, hm⟩ : ∃ m : Int, ((x.sshiftRight (y.toNat % 32)).toNat : Int) = m := ⟨_, rfl⟩
  rw [hm] at HT
  rw [show ((y.toNat % 32 : Nat) : Int) = (y.toNat : Int) % 32 by omega] at HT
  have hm0 : 0 ≤ m := by omega
  have hm1 : m < 4294967296 := by have := lt32 (x.sshiftRight (y.toNat % 32)); omega
  have HM := put_by' hm
  clear hm
  obtain ⟨r, hr⟩ : ∃ r : Int, ((x.sshiftRight (y.toNat % 32)).toNat : Int) = r := ⟨_, rfl⟩
  rw [hr]
  have HR := put_by' hr
  clear hr
  go_enter Tryz.func9, Tryz.ntmps9
  go_wp2_with (first
    | (go_at_call 20; first | ((with_reducible refine (HA.out _).mono ?_); rintro e w' ⟨rfl, rfl⟩) | ((with_reducible refine (HB.out _).mono ?_); rintro e w' ⟨rfl, rfl⟩) | (refine (cut_32 _ (by first | omega | exact nn_wrap _ | (exact Int.ediv_nonneg (by omega) (Int.le_of_lt (Int.pow_pos (by decide))))) _).mono ?_; rintro e w' ⟨rfl, rfl⟩))
    | (go_at_call 23; refine (HT.out _).mono ?_; rintro e w' ⟨rfl, rfl⟩)
    | (go_at_call 19; go_in))
  go_ret2
  exact ⟨ret_t (by rw [← HR.out]; rw [HM.out]; omega), rfl⟩

set_option maxHeartbeats 400000 in
theorem ref_neg_32 (a b : Int) (x y : BitVec 32) (ha : ∀ W, Calls Tryz.prog 20 #[.int .u64 a, .int .i64 32] W fun e w' => e = .returned (.int .u64 x.toNat) ∧ W = w')
    (hb : ∀ W, Calls Tryz.prog 20 #[.int .u64 b, .int .i64 32] W fun e w' => e = .returned (.int .u64 y.toNat) ∧ W = w') (w : World) :
    Calls Tryz.prog 9 #[.int .u8 128, .int .i16 0, .bool false, .int .u64 a, .int .u64 b] w fun e w' => e = .returned (.tuple #[.int .u64 ((-x).toNat : Int), .bool true]) ∧ w = w' := by
  have HA := put_by' ha
  have HB := put_by' hb
  clear ha hb
  have hb0 : 0 ≤ (y.toNat : Int) % 32 := by omega
  have hb1 : (y.toNat : Int) % 32 < 32 := by omega
  obtain ⟨r, hr⟩ : ∃ r : Int, ((-x).toNat : Int) = r := ⟨_, rfl⟩
  rw [hr]
  have HR := put_by' hr
  clear hr
  go_enter Tryz.func9, Tryz.ntmps9
  go_wp2_with (first
    | (go_at_call 20; first | ((with_reducible refine (HA.out _).mono ?_); rintro e w' ⟨rfl, rfl⟩) | ((with_reducible refine (HB.out _).mono ?_); rintro e w' ⟨rfl, rfl⟩) | (refine (cut_32 _ (by first | omega | exact nn_wrap _ | (exact Int.ediv_nonneg (by omega) (Int.le_of_lt (Int.pow_pos (by decide))))) _).mono ?_; rintro e w' ⟨rfl, rfl⟩))
    | (go_at_call 19; go_in))
  go_ret2
  exact ⟨ret_t (by rw [← HR.out]; rw [← neg32, wrapu32]; try (first | rfl | (rw [wrapu64]; omega))), rfl⟩

set_option maxHeartbeats 400000 in
theorem ref_mov_32 (a b : Int) (x y : BitVec 32) (ha : ∀ W, Calls Tryz.prog 20 #[.int .u64 a, .int .i64 32] W fun e w' => e = .returned (.int .u64 x.toNat) ∧ W = w')
    (hb : ∀ W, Calls Tryz.prog 20 #[.int .u64 b, .int .i64 32] W fun e w' => e = .returned (.int .u64 y.toNat) ∧ W = w') (w : World) :
    Calls Tryz.prog 9 #[.int .u8 176, .int .i16 0, .bool false, .int .u64 a, .int .u64 b] w fun e w' => e = .returned (.tuple #[.int .u64 ((y).toNat : Int), .bool true]) ∧ w = w' := by
  have HA := put_by' ha
  have HB := put_by' hb
  clear ha hb
  have hb0 : 0 ≤ (y.toNat : Int) % 32 := by omega
  have hb1 : (y.toNat : Int) % 32 < 32 := by omega
  obtain ⟨r, hr⟩ : ∃ r : Int, ((y).toNat : Int) = r := ⟨_, rfl⟩
  rw [hr]
  have HR := put_by' hr
  clear hr
  go_enter Tryz.func9, Tryz.ntmps9
  go_wp2_with (first
    | (go_at_call 20; first | ((with_reducible refine (HA.out _).mono ?_); rintro e w' ⟨rfl, rfl⟩) | ((with_reducible refine (HB.out _).mono ?_); rintro e w' ⟨rfl, rfl⟩) | (refine (cut_32 _ (by first | omega | exact nn_wrap _ | (exact Int.ediv_nonneg (by omega) (Int.le_of_lt (Int.pow_pos (by decide))))) _).mono ?_; rintro e w' ⟨rfl, rfl⟩))
    | (go_at_call 19; go_in))
  go_ret2
  exact ⟨ret_t (by rw [← HR.out]; have := lt32 y; omega), rfl⟩

set_option maxHeartbeats 400000 in
theorem ref_m8_32 (a b : Int) (x y : BitVec 32) (ha : ∀ W, Calls Tryz.prog 20 #[.int .u64 a, .int .i64 32] W fun e w' => e = .returned (.int .u64 x.toNat) ∧ W = w')
    (hb : ∀ W, Calls Tryz.prog 20 #[.int .u64 b, .int .i64 32] W fun e w' => e = .returned (.int .u64 y.toNat) ∧ W = w') (w : World) :
    Calls Tryz.prog 9 #[.int .u8 176, .int .i16 8, .bool false, .int .u64 a, .int .u64 b] w fun e w' => e = .returned (.tuple #[.int .u64 (((y.setWidth 8).signExtend 32).toNat : Int), .bool true]) ∧ w = w' := by
  have HA := put_by' ha
  have HB := put_by' hb
  clear ha hb
  have hb0 : 0 ≤ (y.toNat : Int) % 32 := by omega
  have hb1 : (y.toNat : Int) % 32 < 32 := by omega
  have HT := put_by' (widen_8 (y.toNat : Int) (by omega))
  obtain ⟨m, hm⟩ : ∃ m : Int, wideI8 (y.toNat : Int) = m := ⟨_, rfl⟩
  rw [hm] at HT
  have hm0 : 0 ≤ m := by rw [← hm]; unfold wideI8; split <;> omega
  have HM := put_by' hm
  clear hm
  obtain ⟨r, hr⟩ : ∃ r : Int, (((y.setWidth 8).signExtend 32).toNat : Int) = r := ⟨_, rfl⟩
  rw [hr]
  have HR := put_by' hr
  clear hr
  go_enter Tryz.func9, Tryz.ntmps9
  go_wp2_with (first
    | (go_at_call 20; first | ((with_reducible refine (HA.out _).mono ?_); rintro e w' ⟨rfl, rfl⟩) | ((with_reducible refine (HB.out _).mono ?_); rintro e w' ⟨rfl, rfl⟩) | (refine (cut_32 _ (by first | omega | exact nn_wrap _ | (exact Int.ediv_nonneg (by omega) (Int.le_of_lt (Int.pow_pos (by decide))))) _).mono ?_; rintro e w' ⟨rfl, rfl⟩))
    | (go_at_call 24; refine (HT.out _).mono ?_; rintro e w' ⟨rfl, rfl⟩)
    | (go_at_call 19; go_in))
  go_ret2
  exact ⟨ret_t (by rw [← HR.out]; rw [← HM.out, ← m832, wrapu32, wrapi8]; unfold wideI8; split <;> (try split) <;> omega), rfl⟩

set_option maxHeartbeats 400000 in
theorem ref_m16_32 (a b : Int) (x y : BitVec 32) (ha : ∀ W, Calls Tryz.prog 20 #[.int .u64 a, .int .i64 32] W fun e w' => e = .returned (.int .u64 x.toNat) ∧ W = w')
    (hb : ∀ W, Calls Tryz.prog 20 #[.int .u64 b, .int .i64 32] W fun e w' => e = .returned (.int .u64 y.toNat) ∧ W = w') (w : World) :
    Calls Tryz.prog 9 #[.int .u8 176, .int .i16 16, .bool false, .int .u64 a, .int .u64 b] w fun e w' => e = .returned (.tuple #[.int .u64 (((y.setWidth 16).signExtend 32).toNat : Int), .bool true]) ∧ w = w' := by
  have HA := put_by' ha
  have HB := put_by' hb
  clear ha hb
  have hb0 : 0 ≤ (y.toNat : Int) % 32 := by omega
  have hb1 : (y.toNat : Int) % 32 < 32 := by omega
  have HT := put_by' (widen_16 (y.toNat : Int) (by omega))
  obtain ⟨m, hm⟩ : ∃ m : Int, wideI16 (y.toNat : Int) = m := ⟨_, rfl⟩
  rw [hm] at HT
  have hm0 : 0 ≤ m := by rw [← hm]; unfold wideI16; split <;> omega
  have HM := put_by' hm
  clear hm
  obtain ⟨r, hr⟩ : ∃ r : Int, (((y.setWidth 16).signExtend 32).toNat : Int) = r := ⟨_, rfl⟩
  rw [hr]
  have HR := put_by' hr
  clear hr
  go_enter Tryz.func9, Tryz.ntmps9
  go_wp2_with (first
    | (go_at_call 20; first | ((with_reducible refine (HA.out _).mono ?_); rintro e w' ⟨rfl, rfl⟩) | ((with_reducible refine (HB.out _).mono ?_); rintro e w' ⟨rfl, rfl⟩) | (refine (cut_32 _ (by first | omega | exact nn_wrap _ | (exact Int.ediv_nonneg (by omega) (Int.le_of_lt (Int.pow_pos (by decide))))) _).mono ?_; rintro e w' ⟨rfl, rfl⟩))
    | (go_at_call 24; refine (HT.out _).mono ?_; rintro e w' ⟨rfl, rfl⟩)
    | (go_at_call 19; go_in))
  go_ret2
  exact ⟨ret_t (by rw [← HR.out]; rw [← HM.out, ← m1632, wrapu32, wrapi16]; unfold wideI16; split <;> (try split) <;> omega), rfl⟩
end Go.Proofs.YtmlkbpmchcdldaaGreat
