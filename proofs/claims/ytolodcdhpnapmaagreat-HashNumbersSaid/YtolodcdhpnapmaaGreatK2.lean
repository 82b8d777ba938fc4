/-
  Rows of bytes, and of slots, that are the same are found to be so.
-/
import Derived.Test.YtolodcdhpnapmaaGreatWB
import Derived.WalkSpells
import Derived.Laws.StructEq
import Derived.BigQuiet
import Derived.Deep.QuietTactic
namespace Go.Proofs.YtolodcdhpnapmaaGreat
open Go.RowKit
set_option linter.unusedVariables false

theorem Rd.byte {w : World} {B n k : Nat} {A : Option Addr} {l : List Int} (h : Rd w B 1 A n (u8s l)) (hk : k < n) : ∃ ad b, A = some ad ∧ l[k]? = some b ∧ w.cell? (ad.add k) = some (.int .u8 b) := by
  obtain ⟨ad, e, _, hc⟩ := h.2 (by omega)
  have hl : k < l.length := by have := h.1; simp [u8s] at this; omega
  exact ⟨ad, l[k], e, List.getElem?_eq_getElem hl, hc k _ (by simp [u8s, List.getElem?_eq_getElem hl])⟩
set_option maxRecDepth 100000 in
set_option maxHeartbeats 1000000 in
theorem sameBytes_yes (A A' : Option Addr) (n c c' B : Nat) (l : List Int) (w : World) (h : Rd w B 1 A n (u8s l)) (h' : Rd w B 1 A' n (u8s l)) (hB : B ≤ w.heap.size) (hn : n ≤ 1000000) :
    Calls Tryz.prog 19 #[.slice A n c, .slice A' n c'] w fun e w' => e = .returned (.bool true) ∧ Below w.heap.size w w' := by
  go_enter Tryz.func19, Tryz.ntmps19
  go_wp2
  go_loopw [5] (fun p wr => ∃ k : Nat, k ≤ n ∧ p = .int .i64 k ∧ Below w.heap.size w wr) (fun p _ => n - (intOf p).toNat)
  case atStart => exact ⟨0, Nat.zero_le _, rfl, Below.refl _ _⟩
  case round =>
    obtain ⟨k, hk, rfl, hb⟩ := hrel
    by_cases hlt : k < n
    · obtain ⟨ad, b, rfl, hl, hc⟩ := (h.below (hb.mono hB)).byte hlt
      obtain ⟨ad', b', rfl, hl', hc'⟩ := (h'.below (hb.mono hB)).byte hlt
      rw [hl] at hl'
      cases hl'
      have HB := hide hb
      have HL := hide hl
      clear hb h h' hl
      go_wp2
      go_region
      go_wp2
      go_roundw
      case rel => exact ⟨k + 1, by omega, by go_num, HB.out.drew⟩
      case measure => simp [intOf]; omega
    · have HB := hide hb
      clear hb h h'
      go_wp2
      go_ret
      exact ⟨rfl, HB.out⟩
end Go.Proofs.YtolodcdhpnapmaaGreat
