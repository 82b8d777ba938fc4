/-
  Rows of ints that are the same are found to be so.
-/
import Derived.Test.YtjnmfgkjeofneaaMm
import Derived.Test.YtjnmfgkjeofneaaL5a
import Derived.BigQuiet
namespace Go.Proofs.Ytjnmfgkjeofneaa
open Go.RowKit
set_option linter.unusedVariables false

theorem intInfo : (Try.prog.info? 3).map (fun i => (i.zero, i.size, i.bytes)) = some (some (.int .i64 0), 1, 8) := by kernel_rfl
theorem ints_one (l : List Int) : ∀ u ∈ l.map (Value.int .i64), u.oneCell' = true := by
  intro u hu
  rw [List.mem_map] at hu
  obtain ⟨x, _, rfl⟩ := hu
  rfl
theorem slots_one (l : List Ins) : ∀ u ∈ pcells l, u.oneCell' = true := by
  intro u hu
  unfold pcells at hu
  rw [List.mem_flatMap] at hu
  obtain ⟨s, _, hs⟩ := hu
  simp only [Ins.cells, List.mem_cons, List.not_mem_nil, or_false] at hs
  rcases hs with rfl | rfl | rfl | rfl | rfl <;> rfl
theorem Rd.int {w : World} {B n k : Nat} {A : Option Addr} {l : List Int} (h : Rd w B 1 A n (l.map (Value.int .i64))) (hk : k < n) : ∃ ad b, A = some ad ∧ l[k]? = some b ∧ w.cell? (ad.add k) = some (.int .i64 b) := by
  obtain ⟨ad, e, _, hc⟩ := h.2 (by omega)
  have hl : k < l.length := by have := h.1; simp at this; omega
  exact ⟨ad, l[k], e, List.getElem?_eq_getElem hl, hc k _ (by simp [List.getElem?_eq_getElem hl])⟩
set_option maxRecDepth 100000 in
set_option maxHeartbeats 1000000 in
theorem sameInts_yes (A A' : Option Addr) (n c c' B : Nat) (l : List Int) (w : World) (h : Rd w B 1 A n (l.map (Value.int .i64))) (h' : Rd w B 1 A' n (l.map (Value.int .i64))) (hB : B ≤ w.heap.size) (hn : n ≤ 1000000) :
    Calls Try.prog 16 #[.slice A n c, .slice A' n c'] w fun e w' => e = .returned (.bool true) ∧ Below w.heap.size w w' := by
  go_enter Try.func16, Try.ntmps16
  go_wp2
  go_loopw [5] (fun p wr => ∃ k : Nat, k ≤ n ∧ p = .int .i64 k ∧ Below w.heap.size w wr) (fun p _ => n - (intOf p).toNat)
  case atStart => exact ⟨0, Nat.zero_le _, rfl, Below.refl _ _⟩
  case round =>
    obtain ⟨k, hk, rfl, hb⟩ := hrel
    by_cases hlt : k < n
    · obtain ⟨ad, b, rfl, hl, hc⟩ := (h.below (hb.mono hB)).int hlt
      obtain ⟨ad', b', rfl, hl', hc'⟩ := (h'.below (hb.mono hB)).int hlt
      rw [hl] at hl'
      cases hl'
      have HB := hide hb
      have HL := hide hl
      clear hb h h' hl
      go_wp2
      go_region
      go_wp2
      go_roundw
      case rel => exact ⟨k + 1, by omega, by go_num, HB.out.drew⟩
      case measure => simp [intOf]; omega
    · have HB := hide hb
      clear hb h h'
      go_wp2
      go_ret
      exact ⟨rfl, HB.out⟩
theorem both_rd {w : World} {A : Option Addr} {n0 n1 : Nat} {l m : List Ins} (h : Rd w w.heap.size 5 A (0 + n0 + n1) ([] ++ pcells l ++ pcells m)) : Rd w w.heap.size 5 A (n0 + n1) (pcells (l ++ m)) := by
  have e : pcells (l ++ m) = [] ++ pcells l ++ pcells m := by simp [pcells]
  rw [e]
  rwa [Nat.zero_add] at h
theorem both_fits {l m : List Ins} (h : ∀ s ∈ l, s.Fits) (k : ∀ s ∈ m, s.Fits) : ∀ s ∈ l ++ m, s.Fits := fun s hs => (List.mem_append.1 hs).elim (h s) (k s)
end Go.Proofs.Ytjnmfgkjeofneaa
