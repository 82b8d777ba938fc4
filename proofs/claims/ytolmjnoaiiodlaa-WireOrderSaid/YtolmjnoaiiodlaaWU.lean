/-
  Rows of bytes. No program is named here.
-/
import Derived.Test.YtolmjnoaiiodlaaKB
namespace Go.Proofs.Ytolmjnoaiiodlaa
open Go.RowKit
set_option linter.unusedVariables false

def u8s (l : List Int) : List Value := l.map (.int .u8 ·)
theorem u8s_one (l : List Int) : ∀ u ∈ u8s l, u.oneCell' = true := by
  intro u hu
  simp only [u8s, List.mem_map] at hu
  obtain ⟨m, _, rfl⟩ := hu
  rfl
theorem blk_free {W : World} {b : Nat} {cs : Array Value} {t : TypeId} (h : W.heap[b]? = some (.cells cs t (0, 0))) (i : Nat) : W.frozen? ⟨b, i, none⟩ = false := by simp [World.frozen?, h]
theorem add_own (g i : Nat) : (⟨g, 0, none⟩ : Addr).add i = ⟨g, i, none⟩ := by unfold Addr.add; split <;> simp_all
end Go.Proofs.Ytolmjnoaiiodlaa
