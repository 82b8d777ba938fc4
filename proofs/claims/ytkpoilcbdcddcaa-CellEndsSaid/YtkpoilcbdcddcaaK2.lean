/-
  Which of so many; rows of bytes that are the same.
-/
import Derived.Test.YtkpoilcbdcddcaaAW
namespace Go.Proofs.Ytkpoilcbdcddcaa
open Go.RowKit
set_option linter.unusedVariables false
set_option linter.unusedSimpArgs false

theorem tmod_pos (x m : Int) (hm : 0 < m) : x % m = if x.tmod m < 0 then x.tmod m + m else x.tmod m := by
  have h1 := Int.tmod_eq_emod (a := x) (b := m)
  have h2 := Int.emod_nonneg x (Int.ne_of_gt hm)
  have h3 := Int.emod_lt_of_pos x hm
  have h4 : (m.natAbs : Int) = m := by omega
  split at h1 <;> split <;> omega
theorem ret_int {k : IntKind} {a b : Int} (h : a = b) : Ending.returned (.int k a) = .returned (.int k b) := by rw [h]
theorem pick_any (x : Int) (m : Nat) (w : World) (hm : 0 < m) (hm2 : m ≤ 1000) (h1 : -9223372036854775808 ≤ x) (h2 : x ≤ 9223372036854775807) :
    Calls Try.prog 11 #[.int .i64 x, .int .i64 m] w fun e w' => e = .returned (.int .i64 (x % m)) ∧ w = w' := by
  have hp := tmod_pos x m (by omega)
  have hb : x.tmod m < m ∧ -(m : Int) < x.tmod m := by
    have h0 := Int.tmod_lt_of_pos x (show (0 : Int) < m by omega)
    have h3 := Int.lt_tmod_of_pos x (show (0 : Int) < m by omega)
    omega
  by_cases hn : x.tmod m < 0
  · rw [if_pos hn] at hp
    rw [hp]
    clear hp
    go_enter Try.func11, Try.ntmps11
    go_wp2
    go_ret
    exact ⟨ret_int rfl, rfl⟩
  · rw [if_neg hn] at hp
    rw [hp]
    clear hp
    go_enter Try.func11, Try.ntmps11
    go_wp2
    go_ret
    exact ⟨ret_int rfl, rfl⟩
set_option maxRecDepth 100000 in
set_option maxHeartbeats 1000000 in
theorem sameBytes_yes (A A' : Option Addr) (n c c' B : Nat) (l : List Int) (w : World) (h : Rd w B 1 A n (u8s l)) (h' : Rd w B 1 A' n (u8s l)) (hB : B ≤ w.heap.size) (hn : n ≤ 1000000) :
    Calls Try.prog 16 #[.slice A n c, .slice A' n c'] w fun e w' => e = .returned (.bool true) ∧ Below w.heap.size w w' := by
  go_enter Try.func16, Try.ntmps16
  go_wp2
  go_loopw [5] (fun p wr => ∃ k : Nat, k ≤ n ∧ p = .int .i64 k ∧ Below w.heap.size w wr) (fun p _ => n - (intOf p).toNat)
  case atStart => exact ⟨0, Nat.zero_le _, rfl, Below.refl _ _⟩
  case round =>
    obtain ⟨k, hk, rfl, hb⟩ := hrel
    by_cases hlt : k < n
    · obtain ⟨ad, b, rfl, hl, hc⟩ := (h.below (hb.mono hB)).byte hlt
      obtain ⟨ad', b', rfl, hl', hc'⟩ := (h'.below (hb.mono hB)).byte hlt
      rw [hl] at hl'
      cases hl'
      have HB := hide hb
      have HL := hide hl
      clear hb h h' hl
      go_wp2
      go_region
      go_wp2
      go_roundw
      case rel => exact ⟨k + 1, by omega, by go_num, HB.out.drew⟩
      case measure => simp [intOf]; omega
    · have HB := hide hb
      clear hb h h'
      go_wp2
      go_ret
      exact ⟨rfl, HB.out⟩
theorem Rd.src {w : World} {B b q : Nat} {S : Option Addr} {l : List Int} (h : Rd w B 1 S q (u8s l)) (hB : B ≤ b) (hw : B ≤ w.heap.size) : Src w b S q l := by
  refine ⟨by have := h.1; simpa [u8s] using this, fun hq => ?_⟩
  obtain ⟨ad, e, hb, hc⟩ := h.2 hq
  exact ⟨ad, e, by omega, by omega, hc⟩
theorem Rd.of_own {w : World} {e : TypeId} {sz n c : Nat} {A : Option Addr} {xs : List Value} (h : w.ownsRow 0 e sz (.slice A n c) n xs) : Rd w w.heap.size sz A n xs := by
  obtain ⟨A', c', e1, hr⟩ := owns_slice h
  cases e1
  exact hr
end Go.Proofs.Ytkpoilcbdcddcaa
