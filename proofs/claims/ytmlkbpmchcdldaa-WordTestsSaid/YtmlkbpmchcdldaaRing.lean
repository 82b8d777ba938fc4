/-
  The law WordRing, walked.
-/
import Derived.Test.YtmlkbpmchcdldaaBase
namespace Go.Proofs.Ytmlkbpmchcdldaa
open Go.RowKit Go.Maps
set_option linter.unusedVariables false

theorem nat_beq {x y : BitVec 64} (h : x = y) : (((x.toNat : Int)) == ((y.toNat : Int))) = true := by rw [h]; simp
theorem nat_bne {x y : BitVec 64} (h : x = y) : (((x.toNat : Int)) != ((y.toNat : Int))) = false := by rw [h]; simp
theorem aluI_nat (op off : Int) (wide : Bool) (x y : BitVec 64) : aluI op off wide (x.toNat : Int) (y.toNat : Int) = ((alu op off wide x y).1.toNat : Int) := by unfold aluI; rw [bv_nat, bv_nat]
theorem zero_nat : (0 : Int) = ((0#64).toNat : Int) := rfl
/-- The low part of a word, as a word. -/
def lo (x : BitVec 64) : BitVec 64 := (x.setWidth 32).setWidth 64
theorem lo_low (x : BitVec 64) : (lo x).setWidth 32 = x.setWidth 32 := by
  unfold lo
  rw [BitVec.setWidth_setWidth_of_le _ (by decide), BitVec.setWidth_eq]
theorem low_up (z : BitVec 32) : (z.setWidth 64).setWidth 32 = z := by
  rw [BitVec.setWidth_setWidth_of_le _ (by decide), BitVec.setWidth_eq]
theorem up_nat (z : BitVec 32) : (z.setWidth 64).toNat = z.toNat := by
  have := lt32 z
  rw [BitVec.toNat_setWidth]; exact Nat.mod_eq_of_lt (by omega)
theorem lo_nat (x : BitVec 64) : (x.toNat : Int) % 4294967296 = ((lo x).toNat : Int) := by
  rw [low32]; unfold lo; rw [up_nat]
theorem w_low (a : Int) (h : W64 a) : W64 (a % 4294967296) := by
  obtain ⟨x, rfl⟩ := of64 h
  rw [lo_nat]; exact w64 _
theorem W_add (x y : BitVec 64) : aluI 0 0 true (x.toNat : Int) (y.toNat : Int) = ((x + y).toNat : Int) := aluI_nat _ _ _ _ _
theorem L_add (x y : BitVec 64) : aluI 0 0 false (x.toNat : Int) (y.toNat : Int) = ((((x.setWidth 32) + (y.setWidth 32)).setWidth 64).toNat : Int) := aluI_nat _ _ _ _ _
theorem W_sub (x y : BitVec 64) : aluI 16 0 true (x.toNat : Int) (y.toNat : Int) = ((x - y).toNat : Int) := aluI_nat _ _ _ _ _
theorem L_sub (x y : BitVec 64) : aluI 16 0 false (x.toNat : Int) (y.toNat : Int) = ((((x.setWidth 32) - (y.setWidth 32)).setWidth 64).toNat : Int) := aluI_nat _ _ _ _ _
theorem W_mul (x y : BitVec 64) : aluI 32 0 true (x.toNat : Int) (y.toNat : Int) = ((x * y).toNat : Int) := aluI_nat _ _ _ _ _
theorem L_mul (x y : BitVec 64) : aluI 32 0 false (x.toNat : Int) (y.toNat : Int) = ((((x.setWidth 32) * (y.setWidth 32)).setWidth 64).toNat : Int) := aluI_nat _ _ _ _ _
theorem W_quo (x y : BitVec 64) : aluI 48 0 true (x.toNat : Int) (y.toNat : Int) = ((x / y).toNat : Int) := aluI_nat _ _ _ _ _
theorem L_quo (x y : BitVec 64) : aluI 48 0 false (x.toNat : Int) (y.toNat : Int) = ((((x.setWidth 32) / (y.setWidth 32)).setWidth 64).toNat : Int) := aluI_nat _ _ _ _ _
theorem W_sdiv (x y : BitVec 64) : aluI 48 1 true (x.toNat : Int) (y.toNat : Int) = ((x.sdiv y).toNat : Int) := aluI_nat _ _ _ _ _
theorem L_sdiv (x y : BitVec 64) : aluI 48 1 false (x.toNat : Int) (y.toNat : Int) = ((((x.setWidth 32).sdiv (y.setWidth 32)).setWidth 64).toNat : Int) := aluI_nat _ _ _ _ _
theorem W_rem (x y : BitVec 64) : aluI 144 0 true (x.toNat : Int) (y.toNat : Int) = ((x % y).toNat : Int) := aluI_nat _ _ _ _ _
theorem L_rem (x y : BitVec 64) : aluI 144 0 false (x.toNat : Int) (y.toNat : Int) = ((((x.setWidth 32) % (y.setWidth 32)).setWidth 64).toNat : Int) := aluI_nat _ _ _ _ _
theorem W_srem (x y : BitVec 64) : aluI 144 1 true (x.toNat : Int) (y.toNat : Int) = ((x.srem y).toNat : Int) := aluI_nat _ _ _ _ _
theorem L_srem (x y : BitVec 64) : aluI 144 1 false (x.toNat : Int) (y.toNat : Int) = ((((x.setWidth 32).srem (y.setWidth 32)).setWidth 64).toNat : Int) := aluI_nat _ _ _ _ _
theorem W_or (x y : BitVec 64) : aluI 64 0 true (x.toNat : Int) (y.toNat : Int) = ((x ||| y).toNat : Int) := aluI_nat _ _ _ _ _
theorem L_or (x y : BitVec 64) : aluI 64 0 false (x.toNat : Int) (y.toNat : Int) = ((((x.setWidth 32) ||| (y.setWidth 32)).setWidth 64).toNat : Int) := aluI_nat _ _ _ _ _
theorem W_and (x y : BitVec 64) : aluI 80 0 true (x.toNat : Int) (y.toNat : Int) = ((x &&& y).toNat : Int) := aluI_nat _ _ _ _ _
theorem L_and (x y : BitVec 64) : aluI 80 0 false (x.toNat : Int) (y.toNat : Int) = ((((x.setWidth 32) &&& (y.setWidth 32)).setWidth 64).toNat : Int) := aluI_nat _ _ _ _ _
theorem W_xor (x y : BitVec 64) : aluI 160 0 true (x.toNat : Int) (y.toNat : Int) = ((x ^^^ y).toNat : Int) := aluI_nat _ _ _ _ _
theorem L_xor (x y : BitVec 64) : aluI 160 0 false (x.toNat : Int) (y.toNat : Int) = ((((x.setWidth 32) ^^^ (y.setWidth 32)).setWidth 64).toNat : Int) := aluI_nat _ _ _ _ _
theorem W_shl (x y : BitVec 64) : aluI 96 0 true (x.toNat : Int) (y.toNat : Int) = ((x <<< (y.toNat % 64)).toNat : Int) := aluI_nat _ _ _ _ _
theorem L_shl (x y : BitVec 64) : aluI 96 0 false (x.toNat : Int) (y.toNat : Int) = ((((x.setWidth 32) <<< ((y.setWidth 32).toNat % 32)).setWidth 64).toNat : Int) := aluI_nat _ _ _ _ _
theorem W_shr (x y : BitVec 64) : aluI 112 0 true (x.toNat : Int) (y.toNat : Int) = ((x >>> (y.toNat % 64)).toNat : Int) := aluI_nat _ _ _ _ _
theorem L_shr (x y : BitVec 64) : aluI 112 0 false (x.toNat : Int) (y.toNat : Int) = ((((x.setWidth 32) >>> ((y.setWidth 32).toNat % 32)).setWidth 64).toNat : Int) := aluI_nat _ _ _ _ _
theorem W_sar (x y : BitVec 64) : aluI 192 0 true (x.toNat : Int) (y.toNat : Int) = ((x.sshiftRight (y.toNat % 64)).toNat : Int) := aluI_nat _ _ _ _ _
theorem L_sar (x y : BitVec 64) : aluI 192 0 false (x.toNat : Int) (y.toNat : Int) = ((((x.setWidth 32).sshiftRight ((y.setWidth 32).toNat % 32)).setWidth 64).toNat : Int) := aluI_nat _ _ _ _ _
theorem W_neg (x y : BitVec 64) : aluI 128 0 true (x.toNat : Int) (y.toNat : Int) = ((-x).toNat : Int) := aluI_nat _ _ _ _ _
theorem L_neg (x y : BitVec 64) : aluI 128 0 false (x.toNat : Int) (y.toNat : Int) = (((-(x.setWidth 32)).setWidth 64).toNat : Int) := aluI_nat _ _ _ _ _
theorem W_mov (x y : BitVec 64) : aluI 176 0 true (x.toNat : Int) (y.toNat : Int) = ((y).toNat : Int) := aluI_nat _ _ _ _ _
theorem L_mov (x y : BitVec 64) : aluI 176 0 false (x.toNat : Int) (y.toNat : Int) = ((((y.setWidth 32)).setWidth 64).toNat : Int) := aluI_nat _ _ _ _ _
theorem W_m8 (x y : BitVec 64) : aluI 176 8 true (x.toNat : Int) (y.toNat : Int) = (((y.setWidth 8).signExtend 64).toNat : Int) := aluI_nat _ _ _ _ _
theorem L_m8 (x y : BitVec 64) : aluI 176 8 false (x.toNat : Int) (y.toNat : Int) = (((((y.setWidth 32).setWidth 8).signExtend 32).setWidth 64).toNat : Int) := aluI_nat _ _ _ _ _

/-- A quotient times b, and the rest, are a. -/
theorem div_rest {n : Nat} (x y : BitVec n) : x / y * y + x % y = x := by
  apply BitVec.eq_of_toNat_eq
  have hm : x.toNat / y.toNat * y.toNat + x.toNat % y.toNat = x.toNat := by
    have := Nat.div_add_mod x.toNat y.toNat
    rw [Nat.mul_comm] at this
    exact this
  have hlt := x.isLt
  rw [BitVec.toNat_add, BitVec.toNat_mul, BitVec.toNat_udiv, BitVec.toNat_umod, Nat.mod_add_mod, hm]
  exact Nat.mod_eq_of_lt hlt
theorem sdiv_srest {n : Nat} (x y : BitVec n) : x.sdiv y * y + x.srem y = x := by
  apply BitVec.eq_of_toInt_eq
  rw [BitVec.toInt_add, BitVec.toInt_mul, BitVec.toInt_sdiv, BitVec.toInt_srem, Int.bmod_mul_bmod, Int.bmod_add_bmod]
  have h : x.toInt.tdiv y.toInt * y.toInt + x.toInt.tmod y.toInt = x.toInt := by
    have := Int.mul_tdiv_add_tmod x.toInt y.toInt
    rw [Int.mul_comm] at this
    exact this
  rw [h]
  exact BitVec.toInt_bmod_cancel x
theorem ring_W_e1 (a b c : Int) (w0 : W64 a) (w1 : W64 b) (w2 : W64 c) : (aluI 0 0 true a b == aluI 0 0 true b a) = true := by
  obtain ⟨x, rfl⟩ := of64 w0
  obtain ⟨y, rfl⟩ := of64 w1
  obtain ⟨z, rfl⟩ := of64 w2
  rw [W_add, W_add, BitVec.add_comm]; simp
theorem ring_W_e2 (a b c : Int) (w0 : W64 a) (w1 : W64 b) (w2 : W64 c) : (aluI 0 0 true (aluI 0 0 true a b) c == aluI 0 0 true a (aluI 0 0 true b c)) = true := by
  obtain ⟨x, rfl⟩ := of64 w0
  obtain ⟨y, rfl⟩ := of64 w1
  obtain ⟨z, rfl⟩ := of64 w2
  rw [W_add, W_add, W_add, W_add, BitVec.add_assoc]; simp
theorem ring_W_e3 (a b c : Int) (w0 : W64 a) (w1 : W64 b) (w2 : W64 c) : (aluI 32 0 true a (aluI 0 0 true b c) != aluI 0 0 true (aluI 32 0 true a b) (aluI 32 0 true a c)) = false := by
  obtain ⟨x, rfl⟩ := of64 w0
  obtain ⟨y, rfl⟩ := of64 w1
  obtain ⟨z, rfl⟩ := of64 w2
  rw [W_add, W_mul, W_mul, W_mul, W_add, BitVec.mul_add]; simp
theorem ring_W_e4 (a b c : Int) (w0 : W64 a) (w1 : W64 b) (w2 : W64 c) : (aluI 16 0 true (aluI 0 0 true a b) b != a) = false := by
  obtain ⟨x, rfl⟩ := of64 w0
  obtain ⟨y, rfl⟩ := of64 w1
  obtain ⟨z, rfl⟩ := of64 w2
  rw [W_add, W_sub, BitVec.add_sub_cancel]; simp
theorem ring_W_e5 (a b c : Int) (w0 : W64 a) (w1 : W64 b) (w2 : W64 c) : (aluI 128 0 true a c != aluI 16 0 true 0 a) = false := by
  obtain ⟨x, rfl⟩ := of64 w0
  obtain ⟨y, rfl⟩ := of64 w1
  obtain ⟨z, rfl⟩ := of64 w2
  have h : aluI 16 0 true 0 (x.toNat : Int) = ((0#64 - x).toNat : Int) := W_sub 0#64 x
  rw [W_neg, h, BitVec.zero_sub]; simp
theorem ring_W_e6 (a b c : Int) (w0 : W64 a) (w1 : W64 b) (w2 : W64 c) : (aluI 0 0 true (aluI 32 0 true (aluI 48 0 true a b) b) (aluI 144 0 true a b) != a) = false := by
  obtain ⟨x, rfl⟩ := of64 w0
  obtain ⟨y, rfl⟩ := of64 w1
  obtain ⟨z, rfl⟩ := of64 w2
  rw [W_quo, W_rem, W_mul, W_add, div_rest]; simp
theorem ring_W_e7 (a b c : Int) (w0 : W64 a) (w1 : W64 b) (w2 : W64 c) : (aluI 0 0 true (aluI 32 0 true (aluI 48 1 true a b) b) (aluI 144 1 true a b) != a) = false := by
  obtain ⟨x, rfl⟩ := of64 w0
  obtain ⟨y, rfl⟩ := of64 w1
  obtain ⟨z, rfl⟩ := of64 w2
  rw [W_sdiv, W_srem, W_mul, W_add, sdiv_srest]; simp

set_option maxRecDepth 100000 in
set_option maxHeartbeats 1000000 in
theorem ring_W (a b c : Int) (w0 : W64 a) (w1 : W64 b) (w2 : W64 c) (w : World) :
    Calls Try.prog 5 #[.int .u64 a, .int .u64 b, .int .u64 c, .bool true] w fun e w' => e = .returned (.bool true) ∧ Below w.heap.size w w' := by
  have HB := put_by (Below.refl w.heap.size w)
  have hz : W64 0 := show (Lit.int .u64 0).wf = true by decide
  have hpos : 0 ≤ a := by
    obtain ⟨x, rfl⟩ := of64 w0
    omega
  have hpos' : 0 ≤ b := by
    obtain ⟨x, rfl⟩ := of64 w1
    omega
  have e1 := ring_W_e1 a b c w0 w1 w2
  have e2 := ring_W_e2 a b c w0 w1 w2
  have e3 := ring_W_e3 a b c w0 w1 w2
  have e4 := ring_W_e4 a b c w0 w1 w2
  have e5 := ring_W_e5 a b c w0 w1 w2
  have e6 := ring_W_e6 a b c w0 w1 w2
  have e7 := ring_W_e7 a b c w0 w1 w2
  go_enter Try.func5, Try.ntmps5
  go_wp2_with (first
    | (go_at_call 9; refine (from_w HB.out (awake_any _)).mono ?_; clear HB; rintro e w' ⟨rfl, hb⟩; have HB := put_by hb; clear hb)
    | (go_at_call 18; refine (from_w HB.out (al _ _ _ _ _ (by kernel_rfl) (by first | assumption | exact w_aluI _ _ _ _ _) (by first | assumption | exact w_aluI _ _ _ _ _) _)).mono ?_; clear HB; rintro e w' ⟨rfl, hb⟩; have HB := put_by hb; clear hb))
  refine wp_loop_rounds 3 ?_
  rw [rounds_succ]
  go_wp2_with (go_at_call 18; refine (from_w HB.out (al _ _ _ _ _ (by kernel_rfl) (by first | assumption | exact w_aluI _ _ _ _ _) (by first | assumption | exact w_aluI _ _ _ _ _) _)).mono ?_; clear HB; rintro e w' ⟨rfl, hb⟩; have HB := put_by hb; clear hb)
  rw [rounds_succ]
  go_wp2_with (go_at_call 18; refine (from_w HB.out (al _ _ _ _ _ (by kernel_rfl) (by first | assumption | exact w_aluI _ _ _ _ _) (by first | assumption | exact w_aluI _ _ _ _ _) _)).mono ?_; clear HB; rintro e w' ⟨rfl, hb⟩; have HB := put_by hb; clear hb)
  rw [rounds_succ]
  go_wp2_with (go_at_call 18; refine (from_w HB.out (al _ _ _ _ _ (by kernel_rfl) (by first | assumption | exact w_aluI _ _ _ _ _) (by first | assumption | exact w_aluI _ _ _ _ _) _)).mono ?_; clear HB; rintro e w' ⟨rfl, hb⟩; have HB := put_by hb; clear hb)
  go_ret
  exact ⟨rfl, HB.out⟩
theorem ring_L_e1 (a b c : Int) (w0 : W64 a) (w1 : W64 b) (w2 : W64 c) : (aluI 0 0 false a b == aluI 0 0 false b a) = true := by
  obtain ⟨x, rfl⟩ := of64 w0
  obtain ⟨y, rfl⟩ := of64 w1
  obtain ⟨z, rfl⟩ := of64 w2
  rw [L_add, L_add, BitVec.add_comm]; simp
theorem ring_L_e2 (a b c : Int) (w0 : W64 a) (w1 : W64 b) (w2 : W64 c) : (aluI 0 0 false (aluI 0 0 false a b) c == aluI 0 0 false a (aluI 0 0 false b c)) = true := by
  obtain ⟨x, rfl⟩ := of64 w0
  obtain ⟨y, rfl⟩ := of64 w1
  obtain ⟨z, rfl⟩ := of64 w2
  simp only [L_add, low_up, BitVec.add_assoc]
  simp
theorem ring_L_e3 (a b c : Int) (w0 : W64 a) (w1 : W64 b) (w2 : W64 c) : (aluI 32 0 false a (aluI 0 0 false b c) != aluI 0 0 false (aluI 32 0 false a b) (aluI 32 0 false a c)) = false := by
  obtain ⟨x, rfl⟩ := of64 w0
  obtain ⟨y, rfl⟩ := of64 w1
  obtain ⟨z, rfl⟩ := of64 w2
  simp only [L_add, L_mul, low_up, BitVec.mul_add]
  simp
theorem ring_L_e4 (a b c : Int) (w0 : W64 a) (w1 : W64 b) (w2 : W64 c) : (aluI 16 0 false (aluI 0 0 false a b) b != a % 4294967296) = false := by
  obtain ⟨x, rfl⟩ := of64 w0
  obtain ⟨y, rfl⟩ := of64 w1
  obtain ⟨z, rfl⟩ := of64 w2
  rw [lo_nat]
  simp only [L_add, L_sub, low_up, lo, BitVec.add_sub_cancel]
  simp
theorem ring_L_e5 (a b c : Int) (w0 : W64 a) (w1 : W64 b) (w2 : W64 c) : (aluI 128 0 false a c != aluI 16 0 false 0 a) = false := by
  obtain ⟨x, rfl⟩ := of64 w0
  obtain ⟨y, rfl⟩ := of64 w1
  obtain ⟨z, rfl⟩ := of64 w2
  have h : aluI 16 0 false 0 (x.toNat : Int) = ((((0#64).setWidth 32 - x.setWidth 32).setWidth 64).toNat : Int) := L_sub 0#64 x
  rw [L_neg, h]; simp
theorem ring_L_e6 (a b c : Int) (w0 : W64 a) (w1 : W64 b) (w2 : W64 c) : (aluI 0 0 false (aluI 32 0 false (aluI 48 0 false a b) b) (aluI 144 0 false a b) != a % 4294967296) = false := by
  obtain ⟨x, rfl⟩ := of64 w0
  obtain ⟨y, rfl⟩ := of64 w1
  obtain ⟨z, rfl⟩ := of64 w2
  rw [lo_nat]
  simp only [L_quo, L_rem, L_mul, L_add, low_up, lo, div_rest]
  simp
theorem ring_L_e7 (a b c : Int) (w0 : W64 a) (w1 : W64 b) (w2 : W64 c) : (aluI 0 0 false (aluI 32 0 false (aluI 48 1 false a b) b) (aluI 144 1 false a b) != a % 4294967296) = false := by
  obtain ⟨x, rfl⟩ := of64 w0
  obtain ⟨y, rfl⟩ := of64 w1
  obtain ⟨z, rfl⟩ := of64 w2
  rw [lo_nat]
  simp only [L_sdiv, L_srem, L_mul, L_add, low_up, lo, sdiv_srest]
  simp
theorem ring_L_e8 (a b : Int) (w0 : W64 a) (w1 : W64 b) : aluI 32 0 false a b < 4294967296 := by
  obtain ⟨x, rfl⟩ := of64 w0
  obtain ⟨y, rfl⟩ := of64 w1
  rw [L_mul, BitVec.toNat_setWidth]
  have := lt32 (x.setWidth 32 * y.setWidth 32)
  omega
theorem ring_L_e9 (a b : Int) (w0 : W64 a) (w1 : W64 b) : aluI 176 8 false a b < 4294967296 := by
  obtain ⟨x, rfl⟩ := of64 w0
  obtain ⟨y, rfl⟩ := of64 w1
  rw [L_m8, BitVec.toNat_setWidth]
  have := lt32 (((y.setWidth 32).setWidth 8).signExtend 32)
  omega
theorem ring_L_e10 (a b : Int) (w0 : W64 a) (w1 : W64 b) : (aluI 160 0 false a b == aluI 160 0 false (a % 4294967296) (b % 4294967296)) = true := by
  obtain ⟨x, rfl⟩ := of64 w0
  obtain ⟨y, rfl⟩ := of64 w1
  rw [lo_nat, lo_nat, L_xor, L_xor, lo_low, lo_low]
  simp

set_option maxRecDepth 100000 in
set_option maxHeartbeats 1000000 in
theorem ring_L (a b c : Int) (w0 : W64 a) (w1 : W64 b) (w2 : W64 c) (w : World) :
    Calls Try.prog 5 #[.int .u64 a, .int .u64 b, .int .u64 c, .bool false] w fun e w' => e = .returned (.bool true) ∧ Below w.heap.size w w' := by
  have HB := put_by (Below.refl w.heap.size w)
  have hz : W64 0 := show (Lit.int .u64 0).wf = true by decide
  have hpos : 0 ≤ a := by
    obtain ⟨x, rfl⟩ := of64 w0
    omega
  have hpos' : 0 ≤ b := by
    obtain ⟨x, rfl⟩ := of64 w1
    omega
  have e1 := ring_L_e1 a b c w0 w1 w2
  have e2 := ring_L_e2 a b c w0 w1 w2
  have e3 := ring_L_e3 a b c w0 w1 w2
  have e4 := ring_L_e4 a b c w0 w1 w2
  have e5 := ring_L_e5 a b c w0 w1 w2
  have e6 := ring_L_e6 a b c w0 w1 w2
  have e7 := ring_L_e7 a b c w0 w1 w2
  have e8 := ring_L_e8 a b w0 w1
  have e9 := ring_L_e9 a b w0 w1
  have e10 := ring_L_e10 a b w0 w1
  have w3 := w_low a w0
  have w4 := w_low b w1
  go_enter Try.func5, Try.ntmps5
  go_wp2_with (first
    | (go_at_call 9; refine (from_w HB.out (awake_any _)).mono ?_; clear HB; rintro e w' ⟨rfl, hb⟩; have HB := put_by hb; clear hb)
    | (go_at_call 18; refine (from_w HB.out (al _ _ _ _ _ (by kernel_rfl) (by first | assumption | exact w_aluI _ _ _ _ _) (by first | assumption | exact w_aluI _ _ _ _ _) _)).mono ?_; clear HB; rintro e w' ⟨rfl, hb⟩; have HB := put_by hb; clear hb))
  refine wp_loop_rounds 3 ?_
  rw [rounds_succ]
  go_wp2_with (go_at_call 18; refine (from_w HB.out (al _ _ _ _ _ (by kernel_rfl) (by first | assumption | exact w_aluI _ _ _ _ _) (by first | assumption | exact w_aluI _ _ _ _ _) _)).mono ?_; clear HB; rintro e w' ⟨rfl, hb⟩; have HB := put_by hb; clear hb)
  rw [rounds_succ]
  go_wp2_with (go_at_call 18; refine (from_w HB.out (al _ _ _ _ _ (by kernel_rfl) (by first | assumption | exact w_aluI _ _ _ _ _) (by first | assumption | exact w_aluI _ _ _ _ _) _)).mono ?_; clear HB; rintro e w' ⟨rfl, hb⟩; have HB := put_by hb; clear hb)
  rw [rounds_succ]
  go_wp2_with (go_at_call 18; refine (from_w HB.out (al _ _ _ _ _ (by kernel_rfl) (by first | assumption | exact w_aluI _ _ _ _ _) (by first | assumption | exact w_aluI _ _ _ _ _) _)).mono ?_; clear HB; rintro e w' ⟨rfl, hb⟩; have HB := put_by hb; clear hb)
  go_ret
  exact ⟨rfl, HB.out⟩
end Go.Proofs.Ytmlkbpmchcdldaa
