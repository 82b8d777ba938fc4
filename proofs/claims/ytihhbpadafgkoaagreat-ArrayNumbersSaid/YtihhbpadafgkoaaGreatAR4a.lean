/-
  The place that a key's four bytes say.
-/
import Derived.Test.YtihhbpadafgkoaaGreatAR3
import Derived.Laws.BitsAllLaws
namespace Go.Proofs.YtihhbpadafgkoaaGreat
open Go.RowKit
set_option linter.unusedVariables false
attribute [local go_sem] Oper.semAt_some

theorem i64_or_nat (a b : Nat) (ha : a < 1099511627776) (hb : b < 1099511627776) : bits .or .i64 (a : Int) (b : Int) = ((a ||| b : Nat) : Int) := by
  have hx : a ||| b < 2 ^ 40 := Nat.or_lt_two_pow (by omega) (by omega)
  show IntKind.i64.wrap ((BitVec.ofInt 64 (a : Int) ||| BitVec.ofInt 64 (b : Int)).toNat : Int) = _
  rw [BitVec.toNat_or, ofInt_u64 a (by omega), ofInt_u64 b (by omega)]
  exact IntWalk.i64_in _ (by omega)
theorem or_up (x z k : Nat) (hx : x < 2 ^ k) (h : x + z * 2 ^ k < 1099511627776) : bits .or .i64 (x : Int) ((z * 2 ^ k : Nat) : Int) = ((x + z * 2 ^ k : Nat) : Int) := by
  rw [i64_or_nat x (z * 2 ^ k) (by omega) (by omega)]
  congr 1
  have := Nat.two_pow_add_eq_or_of_lt hx z
  rw [Nat.or_comm, Nat.mul_comm z, ← this, Nat.add_comm]
/-- The bytes of a key, each with how many bits count less. -/
def els (b : Nat → Nat) : List (Nat × Nat) := [(b 0, 0), (b 1, 8), (b 2, 16), (b 3, 24)]
def accM (l : List (Nat × Nat)) : Nat := (l.map fun x => x.1 * 2 ^ x.2).sum
def encE (x : Nat × Nat) : Array Value := #[.int .u8 x.1, .int .i64 x.2]
/-- All blocks below K lie as they lay but block p. -/
def KeepX (K p : Nat) (W W' : World) : Prop := W.heap.size ≤ W'.heap.size ∧ ∀ k, k < K → k ≠ p → W'.heap[k]? = W.heap[k]?
theorem KeepX.rd {K p B sz n : Nat} {A : Option Addr} {W W' : World} {xs : List Value} (h : KeepX K p W W') (hB : B ≤ K) (hp : B ≤ p) (hr : Rd W B sz A n xs) : Rd W' B sz A n xs :=
  hr.kept (fun q hq => World.cell?_of_block (h.2 q.block (by omega) (by omega)))
set_option maxRecDepth 100000 in
set_option maxHeartbeats 1000000 in
theorem bytes_iter (n Bx p c B : Nat) (A : Option Addr) (b : Nat → Nat) (w0 : World) (hbox : Boxed w0 Bx 34 (.slice A 4 c)) (hr : Rd w0 B 1 A 4 (u8s [(b 0 : Int), b 1, b 2, b 3])) (hBx : Bx ≠ p) (hBp : B ≤ p) (hB : B ≤ w0.heap.size) :
    Iter Fence.wide n Tryz.prog 171 #[.pointer (some ⟨Bx, 0, none⟩)] encE (fun _ => KeepX w0.heap.size p) (fun pre x => pre ++ [x] <+: els b) (fun xs => xs = els b) (fun _ _ => False) w0 := by
  intro lp J W hW hJ hY h0
  have hc0 : W.cell? ⟨Bx, 0, none⟩ = some (.slice A 4 c) := (hW.cell (p := ⟨Bx, 0, none⟩) hbox.lt).trans hbox.cell
  have hrW : Rd W B 1 A 4 (u8s [(b 0 : Int), b 1, b 2, b 3]) := hr.below (hW.mono hB)
  refine callsIn_of_wp Tryz.func171 rfl trivial ?_ rfl
  simp only [Tryz.ntmps171, List.size_toArray, List.length_cons, List.length_nil, Nat.reduceAdd, Nat.reduceSub, Array.replicate_succ, Array.replicate_zero, List.push_toArray, List.append_toArray, List.nil_append, List.cons_append]
  have HRW := hide hrW
  clear hrW hr
  gi_wp2
  gi_loopw [7] (fun q wr => ∃ k : Nat, k ≤ 4 ∧ q = .int .i64 k ∧ J ((els b).take k) wr ∧ Rd wr B 1 A 4 (u8s [(b 0 : Int), b 1, b 2, b 3]) ∧ W.heap.size ≤ wr.heap.size) (fun q _ => 4 - (intOf q).toNat)
  case atStart => exact ⟨0, Nat.zero_le _, rfl, by simpa using h0, HRW.out, Nat.le_refl _⟩
  case round =>
    obtain ⟨k, hk, rfl, hJk, hrk, hws⟩ := hrel
    by_cases hlt : k < 4
    · obtain ⟨ad, v, rfl, hv, hc⟩ := hrk.byte hlt
      have hx : (els b)[k]? = some (b k, 8 * k) ∧ v = (b k : Int) := by
        have : k = 0 ∨ k = 1 ∨ k = 2 ∨ k = 3 := by omega
        rcases this with rfl | rfl | rfl | rfl <;> (simp at hv; exact ⟨rfl, hv.symm⟩)
      obtain ⟨hx, rfl⟩ := hx
      have htk : (els b).take k ++ [(b k, 8 * k)] = (els b).take (k + 1) := by rw [List.take_add_one, hx]; rfl
      obtain ⟨fn, tmps, assign, body, hy, hR⟩ := hY ((els b).take k) (b k, 8 * k) wr hJk (by rw [htk]; exact List.take_prefix _ _) hws
      simp only [encE] at hy
      rw [show ((8 * k : Nat) : Int) = (k : Int) * 8 by omega] at hy
      have HT := hide htk
      have HRK := hide hrk
      clear htk hx hrk hv
      gi_wp2
      refine ⟨fun h => by simp [Fence.wide] at h, hR.mono ?_⟩
      rintro e W' ⟨rfl, hJ', hs', hk'⟩
      gi_wp2
      go_roundw
      case rel =>
        exact ⟨k + 1, by omega, by go_num, by rw [← HT.out]; exact hJ', hk'.rd hB hBp HRK.out, Nat.le_trans hws hs'⟩
      case measure => clear hk' ; simp only [intOf, Int.toNat_natCast]; omega
    · have hkm : (els b).take k = els b := List.take_of_length_le (by simp [els]; omega)
      rw [hkm] at hJk
      gi_wp2
      go_end0
      exact .inl ⟨_, _, rfl, rfl, hJk⟩
theorem els_round {b : Nat → Nat} {pre : List (Nat × Nat)} {x : Nat × Nat} (h : pre ++ [x] <+: els b) : (pre = [] ∧ x = (b 0, 0)) ∨ (pre = [(b 0, 0)] ∧ x = (b 1, 8)) ∨ (pre = [(b 0, 0), (b 1, 8)] ∧ x = (b 2, 16)) ∨ (pre = [(b 0, 0), (b 1, 8), (b 2, 16)] ∧ x = (b 3, 24)) := by
  obtain ⟨t, ht⟩ := h
  have hl : pre.length < 4 := by
    have := congrArg List.length ht
    simp [els] at this
    omega
  match pre, hl with
  | [], _ => simp [els] at ht; simp [ht.1]
  | [a], _ => simp [els] at ht; simp [ht.1, ht.2.1]
  | [a, c], _ => simp [els] at ht; simp [ht.1, ht.2.1, ht.2.2.1]
  | [a, c, d], _ => simp [els] at ht; simp [ht.1, ht.2.1, ht.2.2.1, ht.2.2.2.1]
def keyN (b : Nat → Nat) : Nat := b 0 + b 1 * 256 + b 2 * 65536 + b 3 * 16777216
theorem acc4 (x0 x1 x2 x3 s0 s1 s2 s3 : Nat) : accM [(x0, s0), (x1, s1), (x2, s2), (x3, s3)] = x0 * 2 ^ s0 + (x1 * 2 ^ s1 + (x2 * 2 ^ s2 + x3 * 2 ^ s3)) := by simp [accM]
theorem acc_els (b : Nat → Nat) : accM (els b) = keyN b := by
  unfold els
  rw [acc4]
  unfold keyN
  have e0 : (2 : Nat) ^ 0 = 1 := rfl
  have e1 : (2 : Nat) ^ 8 = 256 := rfl
  have e2 : (2 : Nat) ^ 16 = 65536 := rfl
  have e3 : (2 : Nat) ^ 24 = 16777216 := rfl
  rw [e0, e1, e2, e3]
  generalize b 0 = x0
  generalize b 1 = x1
  generalize b 2 = x2
  generalize b 3 = x3
  omega
end Go.Proofs.YtihhbpadafgkoaaGreat
