/-
  Numbers' heads: how many bits, how many bytes.
-/
import Derived.Test.YtolmjnoaiiodlaaKB
import Derived.Laws.Rows
import Derived.Shelf.Strconv.Itoa0
import Derived.Laws.BitsAllLaws
namespace Go.Proofs.Ytolmjnoaiiodlaa
open Go.RowKit Go.Maps
set_option linter.unusedVariables false
def ren46 : Go.Shelf.Ren := ⟨fun x => if x = 129 then 46 else x, fun x => if x = 46 then 80 else if x = 53 then 59 else x, fun x => x⟩
theorem lays46 : Go.Proofs.Lays.n129 Try.prog ren46 := {
  mixed := by kernel_rfl
  f129 := by kernel_rfl
  t3 := by kernel_rfl
  a3 := fun w => by kernel_rfl
  z3 := fun w => by kernel_rfl
  v3 := fun w => by kernel_rfl
  t4 := by kernel_rfl
  a4 := fun w => by kernel_rfl
  z4 := fun w => by kernel_rfl
  v4 := fun w => by kernel_rfl
  t5 := by kernel_rfl
  a5 := fun w => by kernel_rfl
  z5 := fun w => by kernel_rfl
  v5 := fun w => by kernel_rfl
  t9 := by kernel_rfl
  a9 := fun w => by kernel_rfl
  z9 := fun w => by kernel_rfl
  v9 := fun w => by kernel_rfl
  t46 := by kernel_rfl
  a46 := fun w => by kernel_rfl
  z46 := fun w => by kernel_rfl
  v46 := fun w => by kernel_rfl
  t53 := by kernel_rfl
  a53 := fun w => by kernel_rfl
  z53 := fun w => by kernel_rfl
  v53 := fun w => by kernel_rfl
}
theorem len64_any (v : Nat) (w : World) (hv : v < 18446744073709551616) : Calls Try.prog 46 #[.int .u64 v] w fun e w' => e = .returned (.int .i64 (Lib.bitLen v)) ∧ w = w' := by
  have h := Any.bits_Len64 lays46 v w (by omega) (by omega)
  rw [Int.toNat_natCast] at h
  exact h.mono fun e w' ⟨h1, h2⟩ => ⟨h1, h2.symm⟩
theorem aux_le : ∀ (f x : Nat), Lib.bitLenAux f x ≤ f := by
  intro f
  induction f with
  | zero => intro x; simp [Lib.bitLenAux]
  | succ f ih =>
    intro x
    simp only [Lib.bitLenAux]
    split
    · omega
    · have := ih (x / 2); omega
theorem aux_mono : ∀ (f : Nat) {x y : Nat}, x ≤ y → Lib.bitLenAux f x ≤ Lib.bitLenAux f y := by
  intro f
  induction f with
  | zero => intro x y _; simp [Lib.bitLenAux]
  | succ f ih =>
    intro x y h
    simp only [Lib.bitLenAux]
    by_cases hx : x = 0
    · simp [hx]
    · rw [if_neg hx, if_neg (by omega)]
      have := ih (Nat.div_le_div_right (c := 2) h)
      omega
theorem aux_succ (f x : Nat) : Lib.bitLenAux (f + 1) x = if x = 0 then 0 else 1 + Lib.bitLenAux f (x / 2) := rfl
theorem bitLen_odd {k : Nat} (h : 0 < k) : Lib.bitLen (2 * k + 1) = Lib.bitLen (2 * k) := by
  unfold Lib.bitLen
  rw [show (64 : Nat) = 63 + 1 from rfl, aux_succ 63 (2 * k + 1), aux_succ 63 (2 * k), if_neg (by omega), if_neg (by omega), show (2 * k + 1) / 2 = k by omega, show 2 * k / 2 = k by omega]
/-- How many bytes stand behind a head. -/
def bytesM (v : Nat) : Nat := (Lib.bitLen v + 7) / 8
def headM (v : Nat) : Nat := if v ≤ 55 then 1 else 1 + bytesM v
theorem bytesM_le (v : Nat) : bytesM v ≤ 8 := by
  unfold bytesM Lib.bitLen
  have := aux_le 64 v
  omega
theorem headM_mono {x y : Nat} (h : x ≤ y) : headM x ≤ headM y := by
  have h1 : Lib.bitLen x ≤ Lib.bitLen y := aux_mono 64 h
  unfold headM bytesM
  split
  · split <;> omega
  · rw [if_neg (by omega)]
    have : (Lib.bitLen x + 7) / 8 ≤ (Lib.bitLen y + 7) / 8 := Nat.div_le_div_right (by omega)
    omega
theorem headM_odd (k : Nat) : headM (2 * k + 1) = headM (2 * k) := by
  unfold headM bytesM
  by_cases h : 2 * k ≤ 55
  · rw [if_pos h, if_pos (by omega)]
  · rw [if_neg h, if_neg (by omega), bitLen_odd (by omega)]
set_option maxRecDepth 100000 in
theorem bytesOf_any (v : Nat) (w : World) (hv : v < 18446744073709551616) : Calls Try.prog 44 #[.int .u64 v] w fun e w' => e = .returned (.int .i64 (bytesM v)) ∧ w = w' := by
  have hb : Lib.bitLen v ≤ 64 := aux_le 64 v
  have HL := hide (len64_any v w hv)
  unfold bytesM
  generalize Lib.bitLen v = b at hb HL ⊢
  go_enter Try.func44, Try.ntmps44
  go_wp2_with fail
  refine HL.out.mono ?_
  rintro e w' ⟨rfl, rfl⟩
  go_wp2_with fail
  go_ret
  exact ⟨by simp, rfl⟩
set_option maxRecDepth 100000 in
theorem headSize_any (v : Nat) (w : World) (hv : v < 18446744073709551616) : Calls Try.prog 37 #[.int .u64 v] w fun e w' => e = .returned (.int .i64 (headM v)) ∧ w = w' := by
  unfold headM
  have hb := bytesM_le v
  have HB := hide (bytesOf_any v w hv)
  by_cases h : v ≤ 55
  · rw [if_pos h]
    go_enter Try.func37, Try.ntmps37
    go_wp2_with fail
    go_ret
    exact ⟨rfl, rfl⟩
  · rw [if_neg h]
    generalize bytesM v = b at hb HB ⊢
    have hw : IntKind.i64.wrap (1 + (b : Int)) = 1 + (b : Int) := by rw [IntWalk.i64_in _ (by omega)]
    go_enter Try.func37, Try.ntmps37
    go_wp2_with fail
    refine HB.out.mono ?_
    rintro e w' ⟨rfl, rfl⟩
    go_wp2_with fail
    go_ret
    exact ⟨by simp, rfl⟩
theorem wrapU (n : Int) : IntKind.u64.wrap n = n % 18446744073709551616 := by simp [IntKind.wrap, IntKind.bits, IntKind.signed]
theorem xor_zero (a : Nat) (h : a < 18446744073709551616) : bits BinOp.xor IntKind.u64 (a : Int) 0 = (a : Int) := by
  have := u64_xor_nat a 0 h (by decide)
  rw [Nat.xor_zero] at this
  exact this
theorem xor_ones (a : Nat) (h : a < 18446744073709551616) : bits BinOp.xor IntKind.u64 (a : Int) 18446744073709551615 = ((18446744073709551615 - a : Nat) : Int) := by
  have h1 : (BitVec.ofNat 64 a ^^^ BitVec.allOnes 64).toNat = 2 ^ 64 - 1 - (BitVec.ofNat 64 a).toNat := by rw [BitVec.xor_allOnes, BitVec.toNat_not]
  rw [BitVec.toNat_xor, BitVec.toNat_ofNat, BitVec.toNat_allOnes, Nat.mod_eq_of_lt h] at h1
  have := u64_xor_nat a 18446744073709551615 h (by decide)
  rw [h1] at this
  exact this
set_option maxRecDepth 100000 in
theorem folded_pos (n : Nat) (w : World) (hn : n < 9223372036854775808) : Calls Try.prog 43 #[.int .i64 n] w fun e w' => e = .returned (.int .u64 (2 * n : Nat)) ∧ w = w' := by
  have h0 : (n : Int) / 9223372036854775808 = 0 := by omega
  have hx : bits BinOp.xor IntKind.u64 ((n : Int) * 2) 0 = ((2 * n : Nat) : Int) := by
    have := xor_zero (2 * n) (by omega)
    rw [show (n : Int) * 2 = ((2 * n : Nat) : Int) by omega]
    exact this
  go_enter Try.func43, Try.ntmps43
  go_wp2_with fail
  go_ret
  exact ⟨by simp, rfl⟩
set_option maxRecDepth 100000 in
theorem folded_neg (m : Nat) (w : World) (hm : m < 9223372036854775808) : Calls Try.prog 43 #[.int .i64 (-1 - (m : Int))] w fun e w' => e = .returned (.int .u64 (2 * m + 1 : Nat)) ∧ w = w' := by
  have h0 : (-1 - (m : Int)) / 9223372036854775808 = -1 := by omega
  have e1 : IntKind.u64.wrap (-1 - (m : Int)) = 18446744073709551615 - m := by rw [wrapU]; omega
  have e2 : IntKind.u64.wrap ((18446744073709551615 - (m : Int)) * 2) = ((18446744073709551614 - 2 * m : Nat) : Int) := by rw [wrapU]; omega
  have e3 : IntKind.u64.wrap (-1) = 18446744073709551615 := by rw [wrapU]; rfl
  have hx := xor_ones (18446744073709551614 - 2 * m) (by omega)
  go_enter Try.func43, Try.ntmps43
  go_wp2_with fail
  go_ret
  exact ⟨by simp; omega, rfl⟩
end Go.Proofs.Ytolmjnoaiiodlaa
