/-
  The law WordBits, walked.
-/
import Derived.Test.YtmlkbpmchcdldaaRing
namespace Go.Proofs.Ytmlkbpmchcdldaa
open Go.RowKit Go.Maps
set_option linter.unusedVariables false

theorem and_xor {n : Nat} (x y : BitVec n) : (x &&& y) + (x ^^^ y) = x ||| y := by
  rw [BitVec.add_eq_or_of_and_eq_zero]
  · apply BitVec.eq_of_getLsbD_eq
    intro i hi
    simp only [BitVec.getLsbD_or, BitVec.getLsbD_and, BitVec.getLsbD_xor]
    cases x.getLsbD i <;> cases y.getLsbD i <;> rfl
  · apply BitVec.eq_of_getLsbD_eq
    intro i hi
    simp only [BitVec.getLsbD_and, BitVec.getLsbD_xor, BitVec.getLsbD_zero]
    cases x.getLsbD i <;> cases y.getLsbD i <;> rfl
theorem xor_xor {n : Nat} (x y : BitVec n) : (x ^^^ y) ^^^ y = x := by
  rw [BitVec.xor_assoc, BitVec.xor_self, BitVec.xor_zero]
theorem there_back (x : BitVec 64) (n : Nat) (h : n < 64) : (x <<< n) >>> n = x &&& (18446744073709551615#64 >>> n) := by
  apply BitVec.eq_of_getLsbD_eq
  intro i hi
  have h1 : ∀ j, j < 64 → (18446744073709551615#64).getLsbD j = true := by decide
  rw [BitVec.getLsbD_ushiftRight, BitVec.getLsbD_shiftLeft, BitVec.getLsbD_and, BitVec.getLsbD_ushiftRight]
  by_cases hn : n + i < 64
  · rw [h1 _ hn]
    simp [hn]
  · rw [BitVec.getLsbD_of_ge 18446744073709551615#64 (n + i) (by omega)]
    simp [hn]
theorem there_back32 (x : BitVec 64) (n : Nat) (h : n < 32) : ((((x.setWidth 32) <<< n) >>> n).setWidth 64) = x &&& (4294967295#64 >>> n) := by
  apply BitVec.eq_of_getLsbD_eq
  intro i hi
  have h1 : ∀ j, j < 32 → (4294967295#64).getLsbD j = true := by decide
  have h2 : ∀ j, j < 96 → 32 ≤ j → (4294967295#64).getLsbD j = false := by decide
  rw [BitVec.getLsbD_setWidth, BitVec.getLsbD_ushiftRight, BitVec.getLsbD_shiftLeft, BitVec.getLsbD_and, BitVec.getLsbD_ushiftRight, BitVec.getLsbD_setWidth]
  by_cases hn : n + i < 32
  · rw [h1 _ hn]
    have : i < 32 := by omega
    simp [hn, hi, this]
  · rw [h2 (n + i) (by omega) (by omega)]
    simp [hn]
theorem shl_zero {n : Nat} (x : BitVec n) : x <<< 0 = x := by simp
theorem cnt_add64 (y : BitVec 64) : (y + 64#64).toNat % 64 = y.toNat % 64 := by
  have h : (64#64).toNat = 64 := rfl
  rw [BitVec.toNat_add, h]; omega
theorem cnt_add32 (y : BitVec 64) : ((y + 64#64).setWidth 32).toNat % 32 = (y.setWidth 32).toNat % 32 := by
  have h : (64#64).toNat = 64 := rfl
  rw [BitVec.toNat_setWidth, BitVec.toNat_setWidth, BitVec.toNat_add, h]; omega
theorem plus64 (s : BitVec 64) : IntKind.u64.wrap ((s.toNat : Int) + 64) = ((s + 64#64).toNat : Int) := add64 s 64#64
theorem w_plus (s : Int) (h : W64 s) : W64 (IntKind.u64.wrap (s + 64)) := by
  obtain ⟨x, rfl⟩ := of64 h
  rw [plus64]; exact w64 _
theorem bits_W_e1 (a b s : Int) (w0 : W64 a) (w1 : W64 b) (w2 : W64 s) : (aluI 0 0 true (aluI 80 0 true a b) (aluI 160 0 true a b) != aluI 64 0 true a b) = false := by
  obtain ⟨x, rfl⟩ := of64 w0
  obtain ⟨y, rfl⟩ := of64 w1
  obtain ⟨z, rfl⟩ := of64 w2
  rw [W_and, W_xor, W_or, W_add, and_xor]; simp
theorem bits_W_e2 (a b s : Int) (w0 : W64 a) (w1 : W64 b) (w2 : W64 s) : (aluI 160 0 true (aluI 160 0 true a b) b != aluI 176 0 true 0 a) = false := by
  obtain ⟨x, rfl⟩ := of64 w0
  obtain ⟨y, rfl⟩ := of64 w1
  obtain ⟨z, rfl⟩ := of64 w2
  have hm : aluI 176 0 true 0 (x.toNat : Int) = ((x).toNat : Int) := W_mov 0#64 x
  rw [W_xor, W_xor, hm, xor_xor]; simp
theorem bits_W_e4 (a b s : Int) (w0 : W64 a) (w1 : W64 b) (w2 : W64 s) : (aluI 96 0 true a 0 == aluI 176 0 true 0 a) = true := by
  obtain ⟨x, rfl⟩ := of64 w0
  obtain ⟨y, rfl⟩ := of64 w1
  obtain ⟨z, rfl⟩ := of64 w2
  have hm : aluI 176 0 true 0 (x.toNat : Int) = ((x).toNat : Int) := W_mov 0#64 x
  have hs : aluI 96 0 true (x.toNat : Int) 0 = ((x <<< ((0#64).toNat % 64)).toNat : Int) := W_shl x 0#64
  rw [hm, hs]; simp
theorem bits_W_e5 (a b s : Int) (w0 : W64 a) (w1 : W64 b) (w2 : W64 s) : (aluI 192 0 true a (IntKind.u64.wrap (s + 64)) == aluI 192 0 true a s) = true := by
  obtain ⟨x, rfl⟩ := of64 w0
  obtain ⟨y, rfl⟩ := of64 w1
  obtain ⟨z, rfl⟩ := of64 w2
  rw [plus64, W_sar, W_sar, cnt_add64]; simp
theorem bits_W_e3 (a s : Int) (w0 : W64 a) (w2 : W64 s) : (aluI 112 0 true (aluI 96 0 true a s) s == bits .and .u64 a (18446744073709551615 / 2 ^ (s % 64).toNat)) = true := by
  obtain ⟨x, rfl⟩ := of64 w0
  obtain ⟨z, rfl⟩ := of64 w2
  have hmask : (18446744073709551615 : Int) / 2 ^ ((z.toNat : Int) % 64).toNat = ((18446744073709551615#64 >>> (z.toNat % 64)).toNat : Int) := by
    have := shr_n 18446744073709551615#64 (z.toNat % 64)
    rw [show ((z.toNat : Int) % 64).toNat = z.toNat % 64 by omega]
    exact this
  rw [hmask, and64]
  rw [W_shl, W_shr, there_back x _ (by omega)]; simp

set_option maxRecDepth 100000 in
set_option maxHeartbeats 1000000 in
theorem bits_W (a b s : Int) (w0 : W64 a) (w1 : W64 b) (w2 : W64 s) (w : World) :
    Calls Try.prog 6 #[.int .u64 a, .int .u64 b, .int .u64 s, .bool true] w fun e w' => e = .returned (.bool true) ∧ Below w.heap.size w w' := by
  have HB := put_by (Below.refl w.heap.size w)
  have hz : W64 0 := show (Lit.int .u64 0).wf = true by decide
  have hp : W64 (IntKind.u64.wrap (s + 64)) := w_plus s w2
  have hpos : 0 ≤ s := by
    obtain ⟨x, rfl⟩ := of64 w2
    omega
  have hm1 : 0 ≤ s % 32 := by omega
  have hm2 : 0 ≤ s % 64 := by omega
  have e1 := bits_W_e1 a b s w0 w1 w2
  have e2 := bits_W_e2 a b s w0 w1 w2
  have e4 := bits_W_e4 a b s w0 w1 w2
  have e5 := bits_W_e5 a b s w0 w1 w2
  have e3 := bits_W_e3 a s w0 w2
  go_enter Try.func6, Try.ntmps6
  go_wp2_with (first
    | (go_at_call 9; refine (from_w HB.out (awake_any _)).mono ?_; clear HB; rintro e w' ⟨rfl, hb⟩; have HB := put_by hb; clear hb)
    | (go_at_call 18; refine (from_w HB.out (al _ _ _ _ _ (by kernel_rfl) (by first | exact w_aluI _ _ _ _ _ | (with_reducible assumption)) (by first | exact w_aluI _ _ _ _ _ | (with_reducible assumption)) _)).mono ?_; clear HB; rintro e w' ⟨rfl, hb⟩; have HB := put_by hb; clear hb))
  go_ret
  exact ⟨rfl, HB.out⟩
theorem bits_L_e1 (a b s : Int) (w0 : W64 a) (w1 : W64 b) (w2 : W64 s) : (aluI 0 0 false (aluI 80 0 false a b) (aluI 160 0 false a b) != aluI 64 0 false a b) = false := by
  obtain ⟨x, rfl⟩ := of64 w0
  obtain ⟨y, rfl⟩ := of64 w1
  obtain ⟨z, rfl⟩ := of64 w2
  simp only [L_and, L_xor, L_or, L_add, low_up, and_xor]; simp
theorem bits_L_e2 (a b s : Int) (w0 : W64 a) (w1 : W64 b) (w2 : W64 s) : (aluI 160 0 false (aluI 160 0 false a b) b != aluI 176 0 false 0 a) = false := by
  obtain ⟨x, rfl⟩ := of64 w0
  obtain ⟨y, rfl⟩ := of64 w1
  obtain ⟨z, rfl⟩ := of64 w2
  have hm : aluI 176 0 false 0 (x.toNat : Int) = (((x.setWidth 32).setWidth 64).toNat : Int) := L_mov 0#64 x
  rw [hm]; simp only [L_xor, low_up, xor_xor]; simp
theorem bits_L_e4 (a b s : Int) (w0 : W64 a) (w1 : W64 b) (w2 : W64 s) : (aluI 96 0 false a 0 == aluI 176 0 false 0 a) = true := by
  obtain ⟨x, rfl⟩ := of64 w0
  obtain ⟨y, rfl⟩ := of64 w1
  obtain ⟨z, rfl⟩ := of64 w2
  have hm : aluI 176 0 false 0 (x.toNat : Int) = (((x.setWidth 32).setWidth 64).toNat : Int) := L_mov 0#64 x
  have hs : aluI 96 0 false (x.toNat : Int) 0 = ((((x.setWidth 32) <<< (((0#64).setWidth 32).toNat % 32)).setWidth 64).toNat : Int) := L_shl x 0#64
  rw [hm, hs]; simp
theorem bits_L_e5 (a b s : Int) (w0 : W64 a) (w1 : W64 b) (w2 : W64 s) : (aluI 192 0 false a (IntKind.u64.wrap (s + 64)) == aluI 192 0 false a s) = true := by
  obtain ⟨x, rfl⟩ := of64 w0
  obtain ⟨y, rfl⟩ := of64 w1
  obtain ⟨z, rfl⟩ := of64 w2
  rw [plus64, L_sar, L_sar, cnt_add32]; simp
theorem bits_L_e3 (a s : Int) (w0 : W64 a) (w2 : W64 s) : (aluI 112 0 false (aluI 96 0 false a s) s == bits .and .u64 a (4294967295 / 2 ^ (s % 32).toNat)) = true := by
  obtain ⟨x, rfl⟩ := of64 w0
  obtain ⟨z, rfl⟩ := of64 w2
  have hmask : (4294967295 : Int) / 2 ^ ((z.toNat : Int) % 32).toNat = ((4294967295#64 >>> (z.toNat % 32)).toNat : Int) := by
    have := shr_n 4294967295#64 (z.toNat % 32)
    rw [show ((z.toNat : Int) % 32).toNat = z.toNat % 32 by omega]
    exact this
  rw [hmask, and64]
  have hz : (z.setWidth 32).toNat % 32 = z.toNat % 32 := by rw [BitVec.toNat_setWidth]; omega
  simp only [L_shl, L_shr, low_up, hz]
  rw [there_back32 x _ (by omega)]; simp

set_option maxRecDepth 100000 in
set_option maxHeartbeats 1000000 in
theorem bits_L (a b s : Int) (w0 : W64 a) (w1 : W64 b) (w2 : W64 s) (w : World) :
    Calls Try.prog 6 #[.int .u64 a, .int .u64 b, .int .u64 s, .bool false] w fun e w' => e = .returned (.bool true) ∧ Below w.heap.size w w' := by
  have HB := put_by (Below.refl w.heap.size w)
  have hz : W64 0 := show (Lit.int .u64 0).wf = true by decide
  have hp : W64 (IntKind.u64.wrap (s + 64)) := w_plus s w2
  have hpos : 0 ≤ s := by
    obtain ⟨x, rfl⟩ := of64 w2
    omega
  have hm1 : 0 ≤ s % 32 := by omega
  have hm2 : 0 ≤ s % 64 := by omega
  have e1 := bits_L_e1 a b s w0 w1 w2
  have e2 := bits_L_e2 a b s w0 w1 w2
  have e4 := bits_L_e4 a b s w0 w1 w2
  have e5 := bits_L_e5 a b s w0 w1 w2
  have e3 := bits_L_e3 a s w0 w2
  go_enter Try.func6, Try.ntmps6
  go_wp2_with (first
    | (go_at_call 9; refine (from_w HB.out (awake_any _)).mono ?_; clear HB; rintro e w' ⟨rfl, hb⟩; have HB := put_by hb; clear hb)
    | (go_at_call 18; refine (from_w HB.out (al _ _ _ _ _ (by kernel_rfl) (by first | exact w_aluI _ _ _ _ _ | (with_reducible assumption)) (by first | exact w_aluI _ _ _ _ _ | (with_reducible assumption)) _)).mono ?_; clear HB; rintro e w' ⟨rfl, hb⟩; have HB := put_by hb; clear hb))
  go_ret
  exact ⟨rfl, HB.out⟩
theorem bits_any (a b s : Int) (wide : Bool) (w0 : W64 a) (w1 : W64 b) (w2 : W64 s) (w : World) :
    Calls Try.prog 6 #[.int .u64 a, .int .u64 b, .int .u64 s, .bool wide] w fun e w' => e = .returned (.bool true) ∧ Below w.heap.size w w' := by
  cases wide
  · exact bits_L a b s w0 w1 w2 w
  · exact bits_W a b s w0 w1 w2 w
end Go.Proofs.Ytmlkbpmchcdldaa
