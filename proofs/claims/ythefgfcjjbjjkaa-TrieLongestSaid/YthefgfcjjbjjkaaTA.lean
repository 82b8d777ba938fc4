/-
  A key: how many bits it says it has, and its bits.
-/
import Derived.Test.YthefgfcjjbjjkaaTQ
import Derived.Test.YthefgfcjjbjjkaaK2
import Derived.Test.YthefgfcjjbjjkaaAA
namespace Go.Proofs.Ythefgfcjjbjjkaa
open Go.RowKit
set_option linter.unusedVariables false

theorem i64_or_nat (a b : Nat) (ha : a < 1099511627776) (hb : b < 1099511627776) : bits .or .i64 (a : Int) (b : Int) = ((a ||| b : Nat) : Int) := by
  have hx : a ||| b < 2 ^ 40 := Nat.or_lt_two_pow (by omega) (by omega)
  show IntKind.i64.wrap ((BitVec.ofInt 64 (a : Int) ||| BitVec.ofInt 64 (b : Int)).toNat : Int) = _
  rw [BitVec.toNat_or, ofInt_u64 a (by omega), ofInt_u64 b (by omega)]
  exact IntWalk.i64_in _ (by omega)
theorem or_up (x z k : Nat) (hx : x < 2 ^ k) (h : x + z * 2 ^ k < 1099511627776) : bits .or .i64 (x : Int) ((z * 2 ^ k : Nat) : Int) = ((x + z * 2 ^ k : Nat) : Int) := by
  rw [i64_or_nat x (z * 2 ^ k) (by omega) (by omega)]
  congr 1
  have := Nat.two_pow_add_eq_or_of_lt hx z
  rw [Nat.or_comm, Nat.mul_comm z, ← this, Nat.add_comm]
theorem i64_and1 (n : Int) : bits .and .i64 n 1 = n % 2 := by
  have h1 : (BitVec.ofInt 64 1).toNat = 2 ^ 1 - 1 := by decide
  have key : (BitVec.ofInt 64 n &&& BitVec.ofInt 64 1).toNat = (n % ((2 ^ 64 : Nat) : Int)).toNat % 2 ^ 1 := by
    rw [BitVec.toNat_and, BitVec.toNat_ofInt, h1, Nat.and_two_pow_sub_one_eq_mod]
  show IntKind.i64.wrap ((BitVec.ofInt 64 n &&& BitVec.ofInt 64 1).toNat : Nat) = n % 2
  rw [key, IntKind.wrap_i64]
  omega
/-- Byte i of a row. -/
def byN (k : List Int) (i : Nat) : Nat := (k[i]?.getD 0).toNat
/-- How many bits a key says it has. -/
def bcN (k : List Int) : Nat := byN k 0 + byN k 1 * 256 + byN k 2 * 65536 + byN k 3 * 16777216
/-- Bit i of a key. -/
def btN (k : List Int) (i : Nat) : Bool := byN k (4 + i / 8) / 2 ^ (7 - i % 8) % 2 == 1
/-- A key's bits. -/
def kb (k : List Int) : List Bool := (List.range (bcN k)).map (btN k)
/-- It has as many bits as it says. -/
def kRight (k : List Int) : Prop := bcN k ≤ 8 * (k.length - 4)
theorem kb_len (k : List Int) : (kb k).length = bcN k := by simp [kb]
theorem byN_lt {k : List Int} (h : ∀ b ∈ k, IsByte b) (i : Nat) : byN k i < 256 := by
  unfold byN
  cases hi : k[i]? with
  | none => simp
  | some b =>
    have := h b (List.mem_of_getElem? hi)
    unfold IsByte at this
    simp
    omega
theorem byN_at {k : List Int} (h : ∀ b ∈ k, IsByte b) {i : Nat} {b : Int} (hi : k[i]? = some b) : b = (byN k i : Int) ∧ 0 ≤ b ∧ b < 256 := by
  have := h b (List.mem_of_getElem? hi)
  unfold IsByte at this
  unfold byN
  rw [hi]
  simp
  omega
theorem bcN_lt {k : List Int} (h : ∀ b ∈ k, IsByte b) : bcN k < 4294967296 := by
  have := byN_lt h 0; have := byN_lt h 1; have := byN_lt h 2; have := byN_lt h 3
  unfold bcN
  omega
set_option maxRecDepth 100000 in
set_option maxHeartbeats 1000000 in
theorem count_any (A : Option Addr) (n c B : Nat) (k : List Int) (w : World) (hk : ∀ b ∈ k, IsByte b) (hr : Rd w B 1 A n (u8s k)) (hn : 4 ≤ n) (hc : n ≤ c) :
    Calls Try.prog 59 #[.slice A n c] w fun e w' => e = .returned (.int .i64 (bcN k)) ∧ w = w' := by
  obtain ⟨ad, b0, rfl, h0, c0⟩ := hr.byte (show 0 < n by omega)
  obtain ⟨ad1, b1, e1, h1, c1⟩ := hr.byte (show 1 < n by omega)
  obtain ⟨ad2, b2, e2, h2, c2⟩ := hr.byte (show 2 < n by omega)
  obtain ⟨ad3, b3, e3, h3, c3⟩ := hr.byte (show 3 < n by omega)
  injection e1 with e1; injection e2 with e2; injection e3 with e3
  subst e1 e2 e3
  obtain ⟨r0, l0, u0⟩ := byN_at hk h0
  obtain ⟨r1, l1, u1⟩ := byN_at hk h1
  obtain ⟨r2, l2, u2⟩ := byN_at hk h2
  obtain ⟨r3, l3, u3⟩ := byN_at hk h3
  have HR := hide (And.intro r0 (And.intro r1 (And.intro r2 r3)))
  have HH := hide (And.intro h0 (And.intro h1 (And.intro h2 h3)))
  have l4 : 4 ≤ c := by omega
  have HV : Hid (bits BinOp.or IntKind.i64 (bits BinOp.or IntKind.i64 (bits BinOp.or IntKind.i64 (bits BinOp.or IntKind.i64 0 b0) (b1 * 256)) (b2 * 65536)) (b3 * 16777216) = (bcN k : Int)) := hide (by
    rw [r0, r1, r2, r3]
    have g0 := byN_lt hk 0; have g1 := byN_lt hk 1; have g2 := byN_lt hk 2; have g3 := byN_lt hk 3
    have e0 := i64_or_nat 0 (byN k 0) (by omega) (by omega)
    have e1 := or_up (byN k 0) (byN k 1) 8 (by omega) (by omega)
    have e2 := or_up (byN k 0 + byN k 1 * 2 ^ 8) (byN k 2) 16 (by omega) (by omega)
    have e3 := or_up (byN k 0 + byN k 1 * 2 ^ 8 + byN k 2 * 2 ^ 16) (byN k 3) 24 (by omega) (by omega)
    simp only [Nat.zero_or, Int.ofNat_zero, Int.natCast_mul, Int.natCast_pow] at e0 e1 e2 e3
    unfold bcN
    rw [e0, show (256 : Int) = ((2 : Nat) : Int) ^ 8 from rfl, e1, show (65536 : Int) = ((2 : Nat) : Int) ^ 16 from rfl, e2, show (16777216 : Int) = ((2 : Nat) : Int) ^ 24 from rfl, e3])
  clear r0 r1 r2 r3 h0 h1 h2 h3 hr hk
  rw [show ad.add 0 = ad by simp [Addr.add]] at c0
  rw [show ad.add 1 = { block := ad.block, off := ad.off + 1 } by simp [Addr.add]] at c1
  rw [show ad.add 2 = { block := ad.block, off := ad.off + 2 } by simp [Addr.add]] at c2
  rw [show ad.add 3 = { block := ad.block, off := ad.off + 3 } by simp [Addr.add]] at c3
  go_enter Try.func59, Try.ntmps59
  go_wp2
  refine wp_loop_rounds 5 ?_
  rw [rounds_succ]
  go_wp2
  rw [rounds_succ]
  go_wp2
  rw [rounds_succ]
  go_wp2
  rw [rounds_succ]
  go_wp2
  rw [rounds_succ]
  go_wp2
  go_ret
  exact ⟨congrArg (fun x => Ending.returned (.int .i64 x)) HV.out, rfl⟩
set_option maxRecDepth 100000 in
theorem right_any (A : Option Addr) (n c B : Nat) (k : List Int) (w : World) (hk : ∀ b ∈ k, IsByte b) (hr : Rd w B 1 A n (u8s k)) (hn : 4 ≤ n) (hc : n ≤ c) (hb : n ≤ 1000000) :
    Calls Try.prog 56 #[.slice A n c] w fun e w' => e = .returned (.bool (decide (bcN k ≤ 8 * (n - 4)))) ∧ w = w' := by
  have h0 : bcN k < 4294967296 := bcN_lt hk
  go_enter Try.func56, Try.ntmps56
  go_wp2_with (go_at_call 59; refine (count_any A n c B k w hk hr hn hc).mono ?_; rintro e w' ⟨rfl, rfl⟩)
  go_ret
  refine ⟨congrArg (fun x => Ending.returned (.bool x)) (decide_eq_decide.2 ?_), rfl⟩
  omega
set_option maxRecDepth 100000 in
theorem bits_any (A : Option Addr) (n c : Nat) (w : World) : Calls Try.prog 39 #[.slice A n c] w fun e w' => e = .returned (.func (.func 58) #[] #[.pointer (some ⟨w.heap.size, 0, none⟩)]) ∧ w' = w.alloc (.cells #[.slice A n c] 35) := by
  go_enter Try.func39, Try.ntmps39
  go_wp2
  go_ret
  exact ⟨rfl, rfl⟩
end Go.Proofs.Ythefgfcjjbjjkaa
