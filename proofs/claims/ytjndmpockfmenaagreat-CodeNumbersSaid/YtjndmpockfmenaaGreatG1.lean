/-
  Numbers of two and four bytes are read.
-/
import Derived.Test.YtjndmpockfmenaaGreatS6
namespace Go.Proofs.YtjndmpockfmenaaGreat
open Go.RowKit
set_option linter.unusedVariables false

theorem or16 (a b : Int) (h0 : 0 ≤ a) (h1 : a < 256) (h2 : 0 ≤ b) (h3 : b < 256) : bits .or .u16 a (b * 256) = a + 256 * b := by
  rw [u16_or a (b * 256) h0 (by omega) (by omega) (by omega)]
  obtain ⟨a, rfl⟩ := Int.eq_ofNat_of_zero_le h0
  obtain ⟨b, rfl⟩ := Int.eq_ofNat_of_zero_le h2
  have := Nat.two_pow_add_eq_or_of_lt (i := 8) (b := a) (by omega) b
  rw [show ((b : Int) * 256).toNat = 2 ^ 8 * b by omega, Int.toNat_natCast, Nat.or_comm, ← this]
  omega
theorem or32 (k : Nat) (hk : k ≤ 24) (a b : Int) (h0 : 0 ≤ a) (h1 : a < 2 ^ k) (h2 : 0 ≤ b) (h3 : b < 256) : bits .or .u32 a (b * 2 ^ k) = a + 2 ^ k * b := by
  have hp : (2 : Int) ^ k ≤ 2 ^ 24 := by
    have : 2 ^ k ≤ 2 ^ 24 := Nat.pow_le_pow_right (by omega) hk
    exact_mod_cast this
  have hq : (0 : Int) < 2 ^ k := by
    have : 0 < 2 ^ k := Nat.pow_pos (by omega)
    exact_mod_cast this
  have h5 : b * 2 ^ k ≤ 255 * 2 ^ 24 := Int.mul_le_mul (by omega) hp (by omega) (by omega)
  have h6 : 0 ≤ b * 2 ^ k := Int.mul_nonneg h2 (by omega)
  rw [u32_or a (b * 2 ^ k) h0 (by omega) h6 (by omega)]
  obtain ⟨a, rfl⟩ := Int.eq_ofNat_of_zero_le h0
  obtain ⟨b, rfl⟩ := Int.eq_ofNat_of_zero_le h2
  have h7 : a < 2 ^ k := by exact_mod_cast h1
  have := Nat.two_pow_add_eq_or_of_lt (i := k) (b := a) h7 b
  have h8 : ((b : Int) * 2 ^ k).toNat = 2 ^ k * b := by
    have : ((b : Int) * 2 ^ k) = ((2 ^ k * b : Nat) : Int) := by push_cast; rw [Int.mul_comm]
    rw [this, Int.toNat_natCast]
  rw [h8, Int.toNat_natCast, Nat.or_comm, ← this]
  push_cast
  omega

theorem or_nil16 (b : Int) (h0 : 0 ≤ b) (h1 : b < 256) : bits .or .u16 0 b = b := by
  have := or16 b 0 h0 h1 (by omega) (by omega)
  rw [u16_or 0 b (by omega) (by omega) h0 (by omega)]
  simp; omega
theorem or_nil32 (b : Int) (h0 : 0 ≤ b) (h1 : b < 256) : bits .or .u32 0 b = b := by
  rw [u32_or 0 b (by omega) (by omega) h0 (by omega)]
  simp; omega
set_option maxRecDepth 100000 in
set_option maxHeartbeats 1000000 in
theorem get16_walk (b o n c : Nat) (b0 b1 : Int) (w : World) (hn : 2 ≤ n) (h0 : 0 ≤ b0 ∧ b0 < 256) (h1 : 0 ≤ b1 ∧ b1 < 256) (c0 : w.cell? ⟨b, o, none⟩ = some (.int .u8 b0)) (c1 : w.cell? ⟨b, o + 1, none⟩ = some (.int .u8 b1)) :
    Calls Tryz.prog 67 #[.slice (some ⟨b, o, none⟩) n c] w fun e w' => e = .returned (.int .u16 (bits .or .u16 (bits .or .u16 0 b0) (b1 * 256))) ∧ w = w' := by
  have l0 : 0 < n := by omega
  have l1 : 1 < n := by omega
  go_enter Tryz.func67, Tryz.ntmps67
  go_wp2_with (go_at_call 70; refine (size16 _).mono ?_; rintro e w' ⟨rfl, rfl⟩)
  refine wp_loop_rounds 3 ?_
  rw [rounds_succ]
  go_wp2
  rw [rounds_succ]
  go_wp2
  rw [rounds_succ]
  go_wp2
  go_ret
  exact ⟨rfl, rfl⟩
theorem get16_any (b o n c : Nat) (b0 b1 : Int) (w : World) (hn : 2 ≤ n) (h0 : 0 ≤ b0 ∧ b0 < 256) (h1 : 0 ≤ b1 ∧ b1 < 256) (c0 : w.cell? ⟨b, o, none⟩ = some (.int .u8 b0)) (c1 : w.cell? ⟨b, o + 1, none⟩ = some (.int .u8 b1)) :
    Calls Tryz.prog 67 #[.slice (some ⟨b, o, none⟩) n c] w fun e w' => e = .returned (.int .u16 (b0 + 256 * b1)) ∧ w = w' := by
  have := get16_walk b o n c b0 b1 w hn h0 h1 c0 c1
  rw [or_nil16 b0 h0.1 h0.2, or16 b0 b1 h0.1 h0.2 h1.1 h1.2] at this
  exact this
set_option maxRecDepth 100000 in
set_option maxHeartbeats 1000000 in
theorem get32_walk (b o n c : Nat) (b0 b1 b2 b3 : Int) (w : World) (hn : 4 ≤ n) (h0 : 0 ≤ b0 ∧ b0 < 256) (h1 : 0 ≤ b1 ∧ b1 < 256) (h2 : 0 ≤ b2 ∧ b2 < 256) (h3 : 0 ≤ b3 ∧ b3 < 256) (c0 : w.cell? ⟨b, o, none⟩ = some (.int .u8 b0)) (c1 : w.cell? ⟨b, o + 1, none⟩ = some (.int .u8 b1))
    (c2 : w.cell? ⟨b, o + 2, none⟩ = some (.int .u8 b2)) (c3 : w.cell? ⟨b, o + 3, none⟩ = some (.int .u8 b3)) :
    Calls Tryz.prog 68 #[.slice (some ⟨b, o, none⟩) n c] w fun e w' => e = .returned (.int .u32 (bits .or .u32 (bits .or .u32 (bits .or .u32 (bits .or .u32 0 b0) (b1 * 256)) (b2 * 65536)) (b3 * 16777216))) ∧ w = w' := by
  have l0 : 0 < n := by omega
  have l1 : 1 < n := by omega
  have l2 : 2 < n := by omega
  have l3 : 3 < n := by omega
  go_enter Tryz.func68, Tryz.ntmps68
  go_wp2_with (go_at_call 71; refine (size32 _).mono ?_; rintro e w' ⟨rfl, rfl⟩)
  refine wp_loop_rounds 5 ?_
  rw [rounds_succ]
  go_wp2
  rw [rounds_succ]
  go_wp2
  rw [rounds_succ]
  go_wp2
  rw [rounds_succ]
  go_wp2
  rw [rounds_succ]
  go_wp2
  go_ret
  exact ⟨rfl, rfl⟩
theorem get32_any (b o n c : Nat) (b0 b1 b2 b3 : Int) (w : World) (hn : 4 ≤ n) (h0 : 0 ≤ b0 ∧ b0 < 256) (h1 : 0 ≤ b1 ∧ b1 < 256) (h2 : 0 ≤ b2 ∧ b2 < 256) (h3 : 0 ≤ b3 ∧ b3 < 256) (c0 : w.cell? ⟨b, o, none⟩ = some (.int .u8 b0)) (c1 : w.cell? ⟨b, o + 1, none⟩ = some (.int .u8 b1))
    (c2 : w.cell? ⟨b, o + 2, none⟩ = some (.int .u8 b2)) (c3 : w.cell? ⟨b, o + 3, none⟩ = some (.int .u8 b3)) :
    Calls Tryz.prog 68 #[.slice (some ⟨b, o, none⟩) n c] w fun e w' => e = .returned (.int .u32 (b0 + 256 * b1 + 65536 * b2 + 16777216 * b3)) ∧ w = w' := by
  have := get32_walk b o n c b0 b1 b2 b3 w hn h0 h1 h2 h3 c0 c1 c2 c3
  have e1 := or32 8 (by omega) b0 b1 h0.1 (by simpa using h0.2) h1.1 h1.2
  have e2 := or32 16 (by omega) (b0 + 256 * b1) b2 (by omega) (by simp; omega) h2.1 h2.2
  have e3 := or32 24 (by omega) (b0 + 256 * b1 + 65536 * b2) b3 (by omega) (by simp; omega) h3.1 h3.2
  simp only [Int.reducePow] at e1 e2 e3
  rw [or_nil32 b0 h0.1 h0.2, e1, e2, e3] at this
  exact this
end Go.Proofs.YtjndmpockfmenaaGreat
