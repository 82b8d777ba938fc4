/-
  A place's key.
-/
import Derived.Test.YtihhbpadafgkoaaGreatAR7
namespace Go.Proofs.YtihhbpadafgkoaaGreat
open Go.RowKit
set_option linter.unusedVariables false

def keyB (n : Int) : List Int := [n % 256, n / 256 % 256, n / 65536 % 256, n / 16777216 % 256]
theorem keyB_byte (n : Int) : ∀ x ∈ keyB n, IsByte x := by
  intro x hx
  simp only [keyB, List.mem_cons, List.not_mem_nil, or_false] at hx
  unfold IsByte
  rcases hx with rfl | rfl | rfl | rfl <;> omega
theorem keyV_keyB (n : Nat) (h : n < 4294967296) : keyV (keyB n) = n := by
  unfold keyV keyN keyB
  simp
  omega
set_option maxRecDepth 100000 in
theorem key_any (n : Int) (w : World) : Calls Tryz.prog 8 #[.int .i64 n] w fun e w' => e = .returned (.slice (some ⟨w.heap.size, 0, none⟩) 4 4) ∧ w' = w.alloc (.cells (u8s (keyB n)).toArray 5) := by
  have h1 : ∀ m : Int, IntKind.u8.wrap m = m % 256 := fun m => by simp [IntKind.wrap, IntKind.bits, IntKind.signed]
  go_enter Tryz.func8, Tryz.ntmps8
  go_wp2
  go_ret
  exact ⟨rfl, rfl⟩
end Go.Proofs.YtihhbpadafgkoaaGreat
