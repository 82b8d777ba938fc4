/-
  The law WordOrders, walked.
-/
import Derived.Test.YtmlkbpmchcdldaaRing
namespace Go.Proofs.Ytmlkbpmchcdldaa
open Go.RowKit Go.Maps
set_option linter.unusedVariables false

theorem test_ok (op : Int) (wide : Bool) (x y : BitVec 64) : (test op wide x y).2 = (test op wide 0 0).2 := by
  unfold test
  cases wide
  · simp only [Bool.false_eq_true, if_false]
    unfold test32
    split <;> rfl
  · simp only [if_true]
    unfold test64
    split <;> rfl
theorem ts (op : Int) (wide : Bool) (a b : Int) (ho : okTest op = true) (ha : W64 a) (hb : W64 b) (W : World) :
    Calls Try.prog 12 #[.int .u8 op, .bool wide, .int .u64 a, .int .u64 b] W fun e w' => e = .returned (.tuple #[.bool (testI op wide a b), .bool true]) ∧ Below W.heap.size W w' := by
  unfold okTest at ho
  rw [Bool.and_eq_true, Bool.and_eq_true] at ho
  have := test_any op ho.1.1 wide (bv a) (bv b) W
  rw [nat_bv ha, nat_bv hb, test_ok, show (test op wide 0 0).2 = true by cases wide; exact ho.2; exact ho.1.2] at this
  exact this
theorem testI_nat (op : Int) (wide : Bool) (x y : BitVec 64) : testI op wide (x.toNat : Int) (y.toNat : Int) = (test op wide x y).1 := by unfold testI; rw [bv_nat, bv_nat]
theorem bcells {W w1 : World} (hb : Below W.heap.size W w1) : ∀ b o, b < W.heap.size → w1.cell? ⟨b, o, none⟩ = W.cell? ⟨b, o, none⟩ := fun b o h => hb.cell (p := ⟨b, o, none⟩) h

theorem top_bits64 (x : BitVec 64) : x ^^^ 9223372036854775808#64 = x + 9223372036854775808#64 := by
  apply BitVec.eq_of_getLsbD_eq
  intro i hi
  rw [BitVec.getLsbD_xor, ← BitVec.testBit_toNat (x + _), BitVec.toNat_add, Nat.testBit_mod_two_pow, show (9223372036854775808#64).toNat = 2 ^ 63 from rfl, Nat.add_comm]
  by_cases h : i = 63
  · subst h
    rw [Nat.testBit_two_pow_add_eq, BitVec.testBit_toNat]
    simp
  · have h1 : ∀ j, j < 63 → (9223372036854775808#64).getLsbD j = false := by decide
    rw [Nat.testBit_two_pow_add_gt (by omega), h1 i (by omega), BitVec.testBit_toNat]
    simp [hi]
theorem top_bits32 (x : BitVec 32) : x ^^^ 2147483648#32 = x + 2147483648#32 := by
  apply BitVec.eq_of_getLsbD_eq
  intro i hi
  rw [BitVec.getLsbD_xor, ← BitVec.testBit_toNat (x + _), BitVec.toNat_add, Nat.testBit_mod_two_pow, show (2147483648#32).toNat = 2 ^ 31 from rfl, Nat.add_comm]
  by_cases h : i = 31
  · subst h
    rw [Nat.testBit_two_pow_add_eq, BitVec.testBit_toNat]
    simp
  · have h1 : ∀ j, j < 31 → (2147483648#32).getLsbD j = false := by decide
    rw [Nat.testBit_two_pow_add_gt (by omega), h1 i (by omega), BitVec.testBit_toNat]
    simp [hi]
theorem slt_top64 (x y : BitVec 64) : y.slt x = (y ^^^ 9223372036854775808#64).ult (x ^^^ 9223372036854775808#64) := by
  rw [top_bits64, top_bits64, BitVec.slt_eq_decide, BitVec.ult_eq_decide, BitVec.toNat_add, BitVec.toNat_add, BitVec.toInt_eq_toNat_cond, BitVec.toInt_eq_toNat_cond]
  have hx := lt64 x
  have hy := lt64 y
  have h : (9223372036854775808#64).toNat = 9223372036854775808 := rfl
  rw [h]
  apply decide_eq_decide.2
  split <;> split <;> omega
theorem slt_top32 (x y : BitVec 32) : y.slt x = (y ^^^ 2147483648#32).ult (x ^^^ 2147483648#32) := by
  rw [top_bits32, top_bits32, BitVec.slt_eq_decide, BitVec.ult_eq_decide, BitVec.toNat_add, BitVec.toNat_add, BitVec.toInt_eq_toNat_cond, BitVec.toInt_eq_toNat_cond]
  have hx := lt32 x
  have hy := lt32 y
  have h : (2147483648#32).toNat = 2147483648 := rfl
  rw [h]
  apply decide_eq_decide.2
  split <;> split <;> omega
theorem xor_top (c : Nat) (hc : c < 18446744073709551616) (x : BitVec 64) : bits .xor .u64 (x.toNat : Int) (c : Int) = ((x ^^^ BitVec.ofNat 64 c).toNat : Int) := by
  have h := xor64 x (BitVec.ofNat 64 c)
  rw [BitVec.toNat_ofNat, Nat.mod_eq_of_lt (by omega)] at h
  exact h
theorem opp (b c : Bool) (h : b = !c) : (b == c) = false := by subst h; cases c <;> rfl
theorem eq_ne {n : Nat} (x y : BitVec n) : (x == y) = !(x != y) := by unfold bne; simp
theorem lt_le {n : Nat} (x y : BitVec n) : y.ult x = !(x.ule y) := by
  rw [BitVec.ult_eq_decide, BitVec.ule_eq_decide, ← decide_not]; exact decide_eq_decide.2 (by omega)
theorem le_lt {n : Nat} (x y : BitVec n) : y.ule x = !(x.ult y) := by
  rw [BitVec.ult_eq_decide, BitVec.ule_eq_decide, ← decide_not]; exact decide_eq_decide.2 (by omega)
theorem slt_sle {n : Nat} (x y : BitVec n) : y.slt x = !(x.sle y) := by
  rw [BitVec.slt_eq_decide, BitVec.sle_eq_decide, ← decide_not]; exact decide_eq_decide.2 (by omega)
theorem sle_slt {n : Nat} (x y : BitVec n) : y.sle x = !(x.slt y) := by
  rw [BitVec.slt_eq_decide, BitVec.sle_eq_decide, ← decide_not]; exact decide_eq_decide.2 (by omega)
theorem ord_W_0 (a b : Int) (w0 : W64 a) (w1 : W64 b) : (testI 16 true a b == testI 80 true a b) = false := by
  obtain ⟨x, rfl⟩ := of64 w0
  obtain ⟨y, rfl⟩ := of64 w1
  rw [testI_nat, testI_nat]
  exact opp _ _ (eq_ne x y)
theorem ord_W_1 (a b : Int) (w0 : W64 a) (w1 : W64 b) : (testI 32 true a b == testI 176 true a b) = false := by
  obtain ⟨x, rfl⟩ := of64 w0
  obtain ⟨y, rfl⟩ := of64 w1
  rw [testI_nat, testI_nat]
  exact opp _ _ (lt_le x y)
theorem ord_W_2 (a b : Int) (w0 : W64 a) (w1 : W64 b) : (testI 48 true a b == testI 160 true a b) = false := by
  obtain ⟨x, rfl⟩ := of64 w0
  obtain ⟨y, rfl⟩ := of64 w1
  rw [testI_nat, testI_nat]
  exact opp _ _ (le_lt x y)
theorem ord_W_3 (a b : Int) (w0 : W64 a) (w1 : W64 b) : (testI 96 true a b == testI 208 true a b) = false := by
  obtain ⟨x, rfl⟩ := of64 w0
  obtain ⟨y, rfl⟩ := of64 w1
  rw [testI_nat, testI_nat]
  exact opp _ _ (slt_sle x y)
theorem ord_W_4 (a b : Int) (w0 : W64 a) (w1 : W64 b) : (testI 112 true a b == testI 192 true a b) = false := by
  obtain ⟨x, rfl⟩ := of64 w0
  obtain ⟨y, rfl⟩ := of64 w1
  rw [testI_nat, testI_nat]
  exact opp _ _ (sle_slt x y)
theorem ord_W_s (a b : Int) (w0 : W64 a) (w1 : W64 b) : (testI 96 true a b == testI 32 true (bits .xor .u64 a 9223372036854775808) (bits .xor .u64 b 9223372036854775808)) = true := by
  obtain ⟨x, rfl⟩ := of64 w0
  obtain ⟨y, rfl⟩ := of64 w1
  have hx := xor_top 9223372036854775808 (by decide) x
  have hy := xor_top 9223372036854775808 (by decide) y
  rw [show (((9223372036854775808 : Nat) : Int)) = 9223372036854775808 from rfl] at hx hy
  rw [hx, hy, testI_nat, testI_nat, beq_iff_eq]
  exact slt_top64 x y
theorem ord_W_m (a b : Int) (w0 : W64 a) (w1 : W64 b) : (testI 160 true b a == testI 32 true a b) = true := by
  obtain ⟨x, rfl⟩ := of64 w0
  obtain ⟨y, rfl⟩ := of64 w1
  rw [testI_nat, testI_nat, beq_iff_eq]
  rfl
theorem ord_W_w (a : Int) (w0 : W64 a) : W64 (bits .xor .u64 a 9223372036854775808) := by
  obtain ⟨x, rfl⟩ := of64 w0
  have hx := xor_top 9223372036854775808 (by decide) x
  rw [show (((9223372036854775808 : Nat) : Int)) = 9223372036854775808 from rfl] at hx
  rw [hx]; exact w64 _

set_option maxRecDepth 100000 in
set_option maxHeartbeats 2000000 in
theorem ord_W (a b : Int) (w0 : W64 a) (w1 : W64 b) (w : World) :
    Calls Try.prog 7 #[.int .u64 a, .int .u64 b, .bool true] w fun e w' => e = .returned (.bool true) ∧ Below w.heap.size w w' := by
  have HB := put_by (Below.refl w.heap.size w)
  have c0 := ord_W_0 a b w0 w1
  have c1 := ord_W_1 a b w0 w1
  have c2 := ord_W_2 a b w0 w1
  have c3 := ord_W_3 a b w0 w1
  have c4 := ord_W_4 a b w0 w1
  have c5 := ord_W_s a b w0 w1
  have c6 := ord_W_m a b w0 w1
  have wa := ord_W_w a w0
  have wb := ord_W_w b w1
  go_enter Try.func7, Try.ntmps7
  go_wp2_with (go_at_call 9; refine (from_w HB.out (awake_any _)).mono ?_; clear HB; rintro e w' ⟨rfl, hb⟩; have HB := put_by hb; clear hb)
  refine wp_loop_rounds 6 ?_
  rw [rounds_succ]
  go_wp2_with (first | (go_at_call 12; refine (from_w HX.out (ts _ _ _ _ (by kernel_rfl) (by with_reducible assumption) (by with_reducible assumption) _)).mono ?_; try clear RW; clear HX; rintro e v1 ⟨rfl, hb⟩; have RW := bcells hb; have HX := put_by hb; clear hb) | (go_at_call 12; refine (ts _ _ _ _ (by kernel_rfl) (by with_reducible assumption) (by with_reducible assumption) _).mono ?_; rintro e v1 ⟨rfl, hb⟩; have RW := bcells hb; have HX := put_by hb; clear hb))
  rw [rounds_succ]
  go_wp2_with (go_at_call 12; refine (from_w HX.out (ts _ _ _ _ (by kernel_rfl) (by with_reducible assumption) (by with_reducible assumption) _)).mono ?_; try clear RW; clear HX; rintro e v1 ⟨rfl, hb⟩; have RW := bcells hb; have HX := put_by hb; clear hb)
  rw [rounds_succ]
  go_wp2_with (go_at_call 12; refine (from_w HX.out (ts _ _ _ _ (by kernel_rfl) (by with_reducible assumption) (by with_reducible assumption) _)).mono ?_; try clear RW; clear HX; rintro e v1 ⟨rfl, hb⟩; have RW := bcells hb; have HX := put_by hb; clear hb)
  rw [rounds_succ]
  go_wp2_with (go_at_call 12; refine (from_w HX.out (ts _ _ _ _ (by kernel_rfl) (by with_reducible assumption) (by with_reducible assumption) _)).mono ?_; try clear RW; clear HX; rintro e v1 ⟨rfl, hb⟩; have RW := bcells hb; have HX := put_by hb; clear hb)
  rw [rounds_succ]
  go_wp2_with (go_at_call 12; refine (from_w HX.out (ts _ _ _ _ (by kernel_rfl) (by with_reducible assumption) (by with_reducible assumption) _)).mono ?_; try clear RW; clear HX; rintro e v1 ⟨rfl, hb⟩; have RW := bcells hb; have HX := put_by hb; clear hb)
  rw [rounds_succ]
  go_wp2_with (go_at_call 12; refine (from_w HX.out (ts _ _ _ _ (by kernel_rfl) (by with_reducible assumption) (by with_reducible assumption) _)).mono ?_; try clear RW; clear HX; rintro e v1 ⟨rfl, hb⟩; have RW := bcells hb; have HX := put_by hb; clear hb)
  go_ret
  have hs := HB.out.size
  refine ⟨rfl, ?_⟩
  exact (((((((HB.out).alloc hs _).alloc (by simp; omega) _).alloc (by simp; omega) _).alloc (by simp; omega) _).alloc (by simp; omega) _).alloc (by simp; omega) _).trans (HX.out.mono (by simp; omega))
theorem ord_L_0 (a b : Int) (w0 : W64 a) (w1 : W64 b) : (testI 16 false a b == testI 80 false a b) = false := by
  obtain ⟨x, rfl⟩ := of64 w0
  obtain ⟨y, rfl⟩ := of64 w1
  rw [testI_nat, testI_nat]
  exact opp _ _ (eq_ne (x.setWidth 32) (y.setWidth 32))
theorem ord_L_1 (a b : Int) (w0 : W64 a) (w1 : W64 b) : (testI 32 false a b == testI 176 false a b) = false := by
  obtain ⟨x, rfl⟩ := of64 w0
  obtain ⟨y, rfl⟩ := of64 w1
  rw [testI_nat, testI_nat]
  exact opp _ _ (lt_le (x.setWidth 32) (y.setWidth 32))
theorem ord_L_2 (a b : Int) (w0 : W64 a) (w1 : W64 b) : (testI 48 false a b == testI 160 false a b) = false := by
  obtain ⟨x, rfl⟩ := of64 w0
  obtain ⟨y, rfl⟩ := of64 w1
  rw [testI_nat, testI_nat]
  exact opp _ _ (le_lt (x.setWidth 32) (y.setWidth 32))
theorem ord_L_3 (a b : Int) (w0 : W64 a) (w1 : W64 b) : (testI 96 false a b == testI 208 false a b) = false := by
  obtain ⟨x, rfl⟩ := of64 w0
  obtain ⟨y, rfl⟩ := of64 w1
  rw [testI_nat, testI_nat]
  exact opp _ _ (slt_sle (x.setWidth 32) (y.setWidth 32))
theorem ord_L_4 (a b : Int) (w0 : W64 a) (w1 : W64 b) : (testI 112 false a b == testI 192 false a b) = false := by
  obtain ⟨x, rfl⟩ := of64 w0
  obtain ⟨y, rfl⟩ := of64 w1
  rw [testI_nat, testI_nat]
  exact opp _ _ (sle_slt (x.setWidth 32) (y.setWidth 32))
theorem ord_L_s (a b : Int) (w0 : W64 a) (w1 : W64 b) : (testI 96 false a b == testI 32 false (bits .xor .u64 a 2147483648) (bits .xor .u64 b 2147483648)) = true := by
  obtain ⟨x, rfl⟩ := of64 w0
  obtain ⟨y, rfl⟩ := of64 w1
  have hx := xor_top 2147483648 (by decide) x
  have hy := xor_top 2147483648 (by decide) y
  rw [show (((2147483648 : Nat) : Int)) = 2147483648 from rfl] at hx hy
  rw [hx, hy, testI_nat, testI_nat, beq_iff_eq]
  have h : ∀ z : BitVec 64, (z ^^^ BitVec.ofNat 64 2147483648).setWidth 32 = z.setWidth 32 ^^^ 2147483648#32 := fun z => by rw [BitVec.setWidth_xor]; rfl
  show (y.setWidth 32).slt (x.setWidth 32) = ((y ^^^ BitVec.ofNat 64 2147483648).setWidth 32).ult ((x ^^^ BitVec.ofNat 64 2147483648).setWidth 32)
  rw [h, h]
  exact slt_top32 _ _
theorem ord_L_m (a b : Int) (w0 : W64 a) (w1 : W64 b) : (testI 160 false b a == testI 32 false a b) = true := by
  obtain ⟨x, rfl⟩ := of64 w0
  obtain ⟨y, rfl⟩ := of64 w1
  rw [testI_nat, testI_nat, beq_iff_eq]
  rfl
theorem ord_L_w (a : Int) (w0 : W64 a) : W64 (bits .xor .u64 a 2147483648) := by
  obtain ⟨x, rfl⟩ := of64 w0
  have hx := xor_top 2147483648 (by decide) x
  rw [show (((2147483648 : Nat) : Int)) = 2147483648 from rfl] at hx
  rw [hx]; exact w64 _

set_option maxRecDepth 100000 in
set_option maxHeartbeats 2000000 in
theorem ord_L (a b : Int) (w0 : W64 a) (w1 : W64 b) (w : World) :
    Calls Try.prog 7 #[.int .u64 a, .int .u64 b, .bool false] w fun e w' => e = .returned (.bool true) ∧ Below w.heap.size w w' := by
  have HB := put_by (Below.refl w.heap.size w)
  have c0 := ord_L_0 a b w0 w1
  have c1 := ord_L_1 a b w0 w1
  have c2 := ord_L_2 a b w0 w1
  have c3 := ord_L_3 a b w0 w1
  have c4 := ord_L_4 a b w0 w1
  have c5 := ord_L_s a b w0 w1
  have c6 := ord_L_m a b w0 w1
  have wa := ord_L_w a w0
  have wb := ord_L_w b w1
  go_enter Try.func7, Try.ntmps7
  go_wp2_with (go_at_call 9; refine (from_w HB.out (awake_any _)).mono ?_; clear HB; rintro e w' ⟨rfl, hb⟩; have HB := put_by hb; clear hb)
  refine wp_loop_rounds 6 ?_
  rw [rounds_succ]
  go_wp2_with (first | (go_at_call 12; refine (from_w HX.out (ts _ _ _ _ (by kernel_rfl) (by with_reducible assumption) (by with_reducible assumption) _)).mono ?_; try clear RW; clear HX; rintro e v1 ⟨rfl, hb⟩; have RW := bcells hb; have HX := put_by hb; clear hb) | (go_at_call 12; refine (ts _ _ _ _ (by kernel_rfl) (by with_reducible assumption) (by with_reducible assumption) _).mono ?_; rintro e v1 ⟨rfl, hb⟩; have RW := bcells hb; have HX := put_by hb; clear hb))
  rw [rounds_succ]
  go_wp2_with (go_at_call 12; refine (from_w HX.out (ts _ _ _ _ (by kernel_rfl) (by with_reducible assumption) (by with_reducible assumption) _)).mono ?_; try clear RW; clear HX; rintro e v1 ⟨rfl, hb⟩; have RW := bcells hb; have HX := put_by hb; clear hb)
  rw [rounds_succ]
  go_wp2_with (go_at_call 12; refine (from_w HX.out (ts _ _ _ _ (by kernel_rfl) (by with_reducible assumption) (by with_reducible assumption) _)).mono ?_; try clear RW; clear HX; rintro e v1 ⟨rfl, hb⟩; have RW := bcells hb; have HX := put_by hb; clear hb)
  rw [rounds_succ]
  go_wp2_with (go_at_call 12; refine (from_w HX.out (ts _ _ _ _ (by kernel_rfl) (by with_reducible assumption) (by with_reducible assumption) _)).mono ?_; try clear RW; clear HX; rintro e v1 ⟨rfl, hb⟩; have RW := bcells hb; have HX := put_by hb; clear hb)
  rw [rounds_succ]
  go_wp2_with (go_at_call 12; refine (from_w HX.out (ts _ _ _ _ (by kernel_rfl) (by with_reducible assumption) (by with_reducible assumption) _)).mono ?_; try clear RW; clear HX; rintro e v1 ⟨rfl, hb⟩; have RW := bcells hb; have HX := put_by hb; clear hb)
  rw [rounds_succ]
  go_wp2_with (go_at_call 12; refine (from_w HX.out (ts _ _ _ _ (by kernel_rfl) (by with_reducible assumption) (by with_reducible assumption) _)).mono ?_; try clear RW; clear HX; rintro e v1 ⟨rfl, hb⟩; have RW := bcells hb; have HX := put_by hb; clear hb)
  go_ret
  have hs := HB.out.size
  refine ⟨rfl, ?_⟩
  exact (((((((HB.out).alloc hs _).alloc (by simp; omega) _).alloc (by simp; omega) _).alloc (by simp; omega) _).alloc (by simp; omega) _).alloc (by simp; omega) _).trans (HX.out.mono (by simp; omega))
theorem ord_any (a b : Int) (wide : Bool) (w0 : W64 a) (w1 : W64 b) (w : World) :
    Calls Try.prog 7 #[.int .u64 a, .int .u64 b, .bool wide] w fun e w' => e = .returned (.bool true) ∧ Below w.heap.size w w' := by
  cases wide
  · exact ord_L a b w0 w1 w
  · exact ord_W a b w0 w1 w
end Go.Proofs.Ytmlkbpmchcdldaa
