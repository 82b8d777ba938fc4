/-
  Words as rows of bits: what Go's arithmetic makes of their numbers is what the rows' own operations make. No program is named here.
-/
import Derived.WalkKit
import Derived.Laws.BitsAllLaws
namespace Go.Proofs.YtmlkbpmchcdldaaGreat
open Go.RowKit
theorem wrapi8 (n : Int) : IntKind.i8.wrap n = if 128 ≤ n % 256 then n % 256 - 256 else n % 256 := by simp [IntKind.wrap, IntKind.bits, IntKind.signed]
theorem wrapi16 (n : Int) : IntKind.i16.wrap n = if 32768 ≤ n % 65536 then n % 65536 - 65536 else n % 65536 := by simp [IntKind.wrap, IntKind.bits, IntKind.signed]

section
/-- A word of 64 bits, as a value. -/
def U64 (x : BitVec 64) : Value := .int .u64 (x.toNat : Int)
theorem wrapu64 (n : Int) : IntKind.u64.wrap n = n % 18446744073709551616 := by simp [IntKind.wrap, IntKind.bits, IntKind.signed]
theorem lt64 (x : BitVec 64) : x.toNat < 18446744073709551616 := x.isLt
theorem wf64 (x : BitVec 64) : (Lit.int .u64 (x.toNat : Int)).wf = true := by
  have := lt64 x
  simp [Lit.wf, IntKind.min, IntKind.max, IntKind.bits, IntKind.signed]
  omega
theorem of64 {a : Int} (h : (Lit.int .u64 a).wf = true) : ∃ x : BitVec 64, a = (x.toNat : Int) := by
  simp [Lit.wf, IntKind.min, IntKind.max, IntKind.bits, IntKind.signed] at h
  refine ⟨BitVec.ofInt 64 a, ?_⟩
  simp [BitVec.toNat_ofInt]
  omega
theorem add64 (x y : BitVec 64) : IntKind.u64.wrap ((x.toNat : Int) + y.toNat) = ((x + y).toNat : Int) := by
  rw [wrapu64, BitVec.toNat_add]; omega
theorem sub64 (x y : BitVec 64) : IntKind.u64.wrap ((x.toNat : Int) - y.toNat) = ((x - y).toNat : Int) := by
  have := lt64 x
  have := lt64 y
  rw [wrapu64, BitVec.toNat_sub]; omega
theorem mul64 (x y : BitVec 64) : IntKind.u64.wrap ((x.toNat : Int) * y.toNat) = ((x * y).toNat : Int) := by
  rw [wrapu64, BitVec.toNat_mul, Int.natCast_emod, Int.natCast_mul]; rfl
theorem neg64 (x : BitVec 64) : IntKind.u64.wrap (-(x.toNat : Int)) = ((-x).toNat : Int) := by
  have := lt64 x
  rw [wrapu64, BitVec.toNat_neg]; omega
theorem quo64 (x y : BitVec 64) : (if (y.toNat : Int) = 0 then 0 else IntKind.u64.wrap ((x.toNat : Int).tdiv y.toNat)) = ((x / y).toNat : Int) := by
  have hx := lt64 x
  have hd : x.toNat / y.toNat ≤ x.toNat := Nat.div_le_self _ _
  rw [wrapu64, BitVec.toNat_udiv, ← Int.ofNat_tdiv]
  split
  · rename_i h
    have : y.toNat = 0 := by omega
    rw [this]; simp
  · generalize x.toNat / y.toNat = q at hd ⊢
    omega
theorem rem64 (x y : BitVec 64) : (if (y.toNat : Int) = 0 then (x.toNat : Int) else (x.toNat : Int).tmod y.toNat) = ((x % y).toNat : Int) := by
  rw [BitVec.toNat_umod, ← Int.ofNat_tmod]
  split
  · rename_i h
    have : y.toNat = 0 := by omega
    rw [this]; simp
  · rfl
theorem sg64 (x : BitVec 64) : wrap64 (x.toNat : Int) = x.toInt := by
  have := lt64 x
  rw [BitVec.toInt_eq_toNat_cond]
  unfold wrap64
  split <;> omega
theorem us64 (x : BitVec 64) : IntKind.u64.wrap x.toInt = (x.toNat : Int) := by
  have := lt64 x
  rw [wrapu64, BitVec.toInt_eq_toNat_cond]
  split <;> omega
theorem bmod64 (n : Int) : wrap64 n = n.bmod (2 ^ 64) := by
  unfold wrap64
  rw [Int.bmod_def]
  simp only [Nat.reducePow]
  split <;> omega
theorem zero64 (y : BitVec 64) : y.toInt = 0 ↔ y = 0#64 := by
  constructor
  · intro h
    apply BitVec.eq_of_toInt_eq
    rw [h]; rfl
  · rintro rfl; rfl
theorem sdiv64 (x y : BitVec 64) : IntKind.u64.wrap (if wrap64 (y.toNat : Int) = 0 then 0 else wrap64 ((wrap64 (x.toNat : Int)).tdiv (wrap64 (y.toNat : Int)))) = ((x.sdiv y).toNat : Int) := by
  rw [sg64, sg64, ← us64]
  congr 1
  split
  · rename_i h
    rw [(zero64 y).1 h, BitVec.sdiv_zero]; rfl
  · rw [bmod64, BitVec.toInt_sdiv]
theorem smod64 (x y : BitVec 64) : IntKind.u64.wrap (if wrap64 (y.toNat : Int) = 0 then wrap64 (x.toNat : Int) else (wrap64 (x.toNat : Int)).tmod (wrap64 (y.toNat : Int))) = ((x.srem y).toNat : Int) := by
  rw [sg64, sg64, ← us64]
  congr 1
  split
  · rename_i h
    rw [(zero64 y).1 h, BitVec.srem_zero]
  · rw [BitVec.toInt_srem]
theorem or64 (x y : BitVec 64) : bits .or .u64 (x.toNat : Int) (y.toNat : Int) = ((x ||| y).toNat : Int) := by
  rw [u64_or_nat _ _ (lt64 x) (lt64 y), BitVec.toNat_or]
theorem and64 (x y : BitVec 64) : bits .and .u64 (x.toNat : Int) (y.toNat : Int) = ((x &&& y).toNat : Int) := by
  rw [u64_and_nat _ _ (lt64 x) (lt64 y), BitVec.toNat_and]
theorem xor64 (x y : BitVec 64) : bits .xor .u64 (x.toNat : Int) (y.toNat : Int) = ((x ^^^ y).toNat : Int) := by
  rw [u64_xor_nat _ _ (lt64 x) (lt64 y), BitVec.toNat_xor]
theorem cnt64 (y : BitVec 64) : ((y.toNat : Int) % 64).toNat = y.toNat % 64 := by omega
theorem shl64 (x y : BitVec 64) : IntKind.u64.wrap ((x.toNat : Int) * 2 ^ ((y.toNat : Int) % 64).toNat) = ((x <<< (y.toNat % 64)).toNat : Int) := by
  rw [wrapu64, BitVec.toNat_shiftLeft, Nat.shiftLeft_eq, Int.natCast_emod, Int.natCast_mul, cnt64, Int.natCast_pow]; rfl
theorem shr64 (x y : BitVec 64) : (x.toNat : Int) / 2 ^ ((y.toNat : Int) % 64).toNat = ((x >>> (y.toNat % 64)).toNat : Int) := by
  rw [BitVec.toNat_ushiftRight, Nat.shiftRight_eq_div_pow, Int.natCast_ediv, cnt64, Int.natCast_pow]; rfl
theorem sar64 (x y : BitVec 64) : IntKind.u64.wrap (wrap64 (x.toNat : Int) / 2 ^ ((y.toNat : Int) % 64).toNat) = ((x.sshiftRight (y.toNat % 64)).toNat : Int) := by
  refine Eq.trans ?_ (us64 _)
  rw [sg64, cnt64, BitVec.toInt_sshiftRight, Int.shiftRight_eq_div_pow, Int.natCast_pow]; rfl
theorem m864 (y : BitVec 64) : IntKind.u64.wrap (IntKind.i8.wrap (y.toNat : Int)) = (((y.setWidth 8).signExtend 64).toNat : Int) := by
  refine Eq.trans ?_ (us64 _)
  rw [BitVec.toInt_signExtend_of_le (by decide), BitVec.toInt_eq_toNat_cond, BitVec.toNat_setWidth]
  congr 1
  rw [wrapi8]
  simp only [Nat.reducePow]
  split <;> split <;> omega
theorem m1664 (y : BitVec 64) : IntKind.u64.wrap (IntKind.i16.wrap (y.toNat : Int)) = (((y.setWidth 16).signExtend 64).toNat : Int) := by
  refine Eq.trans ?_ (us64 _)
  rw [BitVec.toInt_signExtend_of_le (by decide), BitVec.toInt_eq_toNat_cond, BitVec.toNat_setWidth]
  congr 1
  rw [wrapi16]
  simp only [Nat.reducePow]
  split <;> split <;> omega
end

section
/-- A word of 32 bits, as a value. -/
def U32 (x : BitVec 32) : Value := .int .u32 (x.toNat : Int)
theorem wrapu32 (n : Int) : IntKind.u32.wrap n = n % 4294967296 := by simp [IntKind.wrap, IntKind.bits, IntKind.signed]
theorem lt32 (x : BitVec 32) : x.toNat < 4294967296 := x.isLt
theorem wf32 (x : BitVec 32) : (Lit.int .u32 (x.toNat : Int)).wf = true := by
  have := lt32 x
  simp [Lit.wf, IntKind.min, IntKind.max, IntKind.bits, IntKind.signed]
  omega
theorem of32 {a : Int} (h : (Lit.int .u32 a).wf = true) : ∃ x : BitVec 32, a = (x.toNat : Int) := by
  simp [Lit.wf, IntKind.min, IntKind.max, IntKind.bits, IntKind.signed] at h
  refine ⟨BitVec.ofInt 32 a, ?_⟩
  simp [BitVec.toNat_ofInt]
  omega
theorem add32 (x y : BitVec 32) : IntKind.u32.wrap ((x.toNat : Int) + y.toNat) = ((x + y).toNat : Int) := by
  rw [wrapu32, BitVec.toNat_add]; omega
theorem sub32 (x y : BitVec 32) : IntKind.u32.wrap ((x.toNat : Int) - y.toNat) = ((x - y).toNat : Int) := by
  have := lt32 x
  have := lt32 y
  rw [wrapu32, BitVec.toNat_sub]; omega
theorem mul32 (x y : BitVec 32) : IntKind.u32.wrap ((x.toNat : Int) * y.toNat) = ((x * y).toNat : Int) := by
  rw [wrapu32, BitVec.toNat_mul, Int.natCast_emod, Int.natCast_mul]; rfl
theorem neg32 (x : BitVec 32) : IntKind.u32.wrap (-(x.toNat : Int)) = ((-x).toNat : Int) := by
  have := lt32 x
  rw [wrapu32, BitVec.toNat_neg]; omega
theorem quo32 (x y : BitVec 32) : (if (y.toNat : Int) = 0 then 0 else IntKind.u32.wrap ((x.toNat : Int).tdiv y.toNat)) = ((x / y).toNat : Int) := by
  have hx := lt32 x
  have hd : x.toNat / y.toNat ≤ x.toNat := Nat.div_le_self _ _
  rw [wrapu32, BitVec.toNat_udiv, ← Int.ofNat_tdiv]
  split
  · rename_i h
    have : y.toNat = 0 := by omega
    rw [this]; simp
  · generalize x.toNat / y.toNat = q at hd ⊢
    omega
theorem rem32 (x y : BitVec 32) : (if (y.toNat : Int) = 0 then (x.toNat : Int) else (x.toNat : Int).tmod y.toNat) = ((x % y).toNat : Int) := by
  rw [BitVec.toNat_umod, ← Int.ofNat_tmod]
  split
  · rename_i h
    have : y.toNat = 0 := by omega
    rw [this]; simp
  · rfl
theorem sg32 (x : BitVec 32) : wrap32 (x.toNat : Int) = x.toInt := by
  have := lt32 x
  rw [BitVec.toInt_eq_toNat_cond]
  unfold wrap32
  split <;> omega
theorem us32 (x : BitVec 32) : IntKind.u32.wrap x.toInt = (x.toNat : Int) := by
  have := lt32 x
  rw [wrapu32, BitVec.toInt_eq_toNat_cond]
  split <;> omega
theorem bmod32 (n : Int) : wrap32 n = n.bmod (2 ^ 32) := by
  unfold wrap32
  rw [Int.bmod_def]
  simp only [Nat.reducePow]
  split <;> omega
theorem zero32 (y : BitVec 32) : y.toInt = 0 ↔ y = 0#32 := by
  constructor
  · intro h
    apply BitVec.eq_of_toInt_eq
    rw [h]; rfl
  · rintro rfl; rfl
theorem sdiv32 (x y : BitVec 32) : IntKind.u32.wrap (if wrap32 (y.toNat : Int) = 0 then 0 else wrap32 ((wrap32 (x.toNat : Int)).tdiv (wrap32 (y.toNat : Int)))) = ((x.sdiv y).toNat : Int) := by
  rw [sg32, sg32, ← us32]
  congr 1
  split
  · rename_i h
    rw [(zero32 y).1 h, BitVec.sdiv_zero]; rfl
  · rw [bmod32, BitVec.toInt_sdiv]
theorem smod32 (x y : BitVec 32) : IntKind.u32.wrap (if wrap32 (y.toNat : Int) = 0 then wrap32 (x.toNat : Int) else (wrap32 (x.toNat : Int)).tmod (wrap32 (y.toNat : Int))) = ((x.srem y).toNat : Int) := by
  rw [sg32, sg32, ← us32]
  congr 1
  split
  · rename_i h
    rw [(zero32 y).1 h, BitVec.srem_zero]
  · rw [BitVec.toInt_srem]
theorem or32 (x y : BitVec 32) : bits .or .u32 (x.toNat : Int) (y.toNat : Int) = ((x ||| y).toNat : Int) := by
  rw [u32_or_nat _ _ (lt32 x) (lt32 y), BitVec.toNat_or]
theorem and32 (x y : BitVec 32) : bits .and .u32 (x.toNat : Int) (y.toNat : Int) = ((x &&& y).toNat : Int) := by
  rw [u32_and_nat _ _ (lt32 x) (lt32 y), BitVec.toNat_and]
theorem xor32 (x y : BitVec 32) : bits .xor .u32 (x.toNat : Int) (y.toNat : Int) = ((x ^^^ y).toNat : Int) := by
  rw [u32_xor_nat _ _ (lt32 x) (lt32 y), BitVec.toNat_xor]
theorem cnt32 (y : BitVec 32) : ((y.toNat : Int) % 32).toNat = y.toNat % 32 := by omega
theorem shl32 (x y : BitVec 32) : IntKind.u32.wrap ((x.toNat : Int) * 2 ^ ((y.toNat : Int) % 32).toNat) = ((x <<< (y.toNat % 32)).toNat : Int) := by
  rw [wrapu32, BitVec.toNat_shiftLeft, Nat.shiftLeft_eq, Int.natCast_emod, Int.natCast_mul, cnt32, Int.natCast_pow]; rfl
theorem shr32 (x y : BitVec 32) : (x.toNat : Int) / 2 ^ ((y.toNat : Int) % 32).toNat = ((x >>> (y.toNat % 32)).toNat : Int) := by
  rw [BitVec.toNat_ushiftRight, Nat.shiftRight_eq_div_pow, Int.natCast_ediv, cnt32, Int.natCast_pow]; rfl
theorem sar32 (x y : BitVec 32) : IntKind.u32.wrap (wrap32 (x.toNat : Int) / 2 ^ ((y.toNat : Int) % 32).toNat) = ((x.sshiftRight (y.toNat % 32)).toNat : Int) := by
  refine Eq.trans ?_ (us32 _)
  rw [sg32, cnt32, BitVec.toInt_sshiftRight, Int.shiftRight_eq_div_pow, Int.natCast_pow]; rfl
theorem m832 (y : BitVec 32) : IntKind.u32.wrap (IntKind.i8.wrap (y.toNat : Int)) = (((y.setWidth 8).signExtend 32).toNat : Int) := by
  refine Eq.trans ?_ (us32 _)
  rw [BitVec.toInt_signExtend_of_le (by decide), BitVec.toInt_eq_toNat_cond, BitVec.toNat_setWidth]
  congr 1
  rw [wrapi8]
  simp only [Nat.reducePow]
  split <;> split <;> omega
theorem m1632 (y : BitVec 32) : IntKind.u32.wrap (IntKind.i16.wrap (y.toNat : Int)) = (((y.setWidth 16).signExtend 32).toNat : Int) := by
  refine Eq.trans ?_ (us32 _)
  rw [BitVec.toInt_signExtend_of_le (by decide), BitVec.toInt_eq_toNat_cond, BitVec.toNat_setWidth]
  congr 1
  rw [wrapi16]
  simp only [Nat.reducePow]
  split <;> split <;> omega
end

theorem m32_64 (y : BitVec 64) : IntKind.u64.wrap (wrap32 (y.toNat : Int)) = (((y.setWidth 32).signExtend 64).toNat : Int) := by
  refine Eq.trans ?_ (us64 _)
  rw [BitVec.toInt_signExtend_of_le (by decide), BitVec.toInt_eq_toNat_cond, BitVec.toNat_setWidth]
  congr 1
  unfold wrap32
  simp only [Nat.reducePow]
  split <;> omega
theorem low32 (x : BitVec 64) : (x.toNat : Int) % 4294967296 = ((x.setWidth 32).toNat : Int) := by
  rw [BitVec.toNat_setWidth]; omega
end Go.Proofs.YtmlkbpmchcdldaaGreat
