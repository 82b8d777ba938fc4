/-
  Rows of bytes, and of slots, that are the same are found to be so.
-/
import Derived.Test.YtgancfllpmgciaaGreatWB
import Derived.WalkSpells
import Derived.Laws.StructEq
import Derived.BigQuiet
import Derived.Deep.QuietTactic
namespace Go.Proofs.YtgancfllpmgciaaGreat
open Go.RowKit
set_option linter.unusedVariables false

theorem Rd.byte {w : World} {B n k : Nat} {A : Option Addr} {l : List Int} (h : Rd w B 1 A n (u8s l)) (hk : k < n) : ∃ ad b, A = some ad ∧ l[k]? = some b ∧ w.cell? (ad.add k) = some (.int .u8 b) := by
  obtain ⟨ad, e, _, hc⟩ := h.2 (by omega)
  have hl : k < l.length := by have := h.1; simp [u8s] at this; omega
  exact ⟨ad, l[k], e, List.getElem?_eq_getElem hl, hc k _ (by simp [u8s, List.getElem?_eq_getElem hl])⟩
end Go.Proofs.YtgancfllpmgciaaGreat
