/-
  The reference's Get: what is too long, or not in eights, is refused.
-/
import Derived.Test.YtjndmpockfmenaaGreatR1
import Derived.Test.YtjndmpockfmenaaGreatQL
namespace Go.Proofs.YtjndmpockfmenaaGreat
open Go.RowKit
set_option linter.unusedVariables false

set_option maxRecDepth 100000 in
theorem refGet_long (A : Option Addr) (n c : Nat) (w : World) (hn : 32768 < n) (r : n ≤ 140737488351232) : Calls Tryz.prog 7 #[.slice A n c] w fun e w' => e = .returned (.tuple #[.slice none 0 0, .int .i64 3]) ∧ Below w.heap.size w w' := by
  have hd : decide (32768 < (n : Int)) = true := by simp; omega
  go_enter Tryz.func7, Tryz.ntmps7
  go_wp2
  go_ret2
  exact ⟨rfl, Below.refl _ _⟩
set_option maxRecDepth 100000 in
theorem refGet_odd (A : Option Addr) (n c : Nat) (w : World) (hn : n ≤ 32768) (h8 : n % 8 ≠ 0) : Calls Tryz.prog 7 #[.slice A n c] w fun e w' => e = .returned (.tuple #[.slice none 0 0, .int .i64 4]) ∧ Below w.heap.size w w' := by
  have hd : decide (32768 < (n : Int)) = false := by simp; omega
  have hd2 : ((n : Int) % 8 != 0) = true := by simp; omega
  go_enter Tryz.func7, Tryz.ntmps7
  go_wp2
  go_ret2
  exact ⟨rfl, Below.refl _ _⟩
theorem byte_cell {w : World} {B n i : Nat} {ad : Addr} {l : List Int} (h : Rd w B 1 (some ad) n (u8s l)) (hi : i < n) : w.cell? (ad.add i) = some (.int .u8 (l.getD i 0)) := by
  obtain ⟨ad', e, _, hc⟩ := h.2 (by omega)
  cases e
  have hl : l.length = n := by have := h.1; simpa [u8s] using this
  exact hc i _ (by simp [u8s, List.getD_eq_getElem?_getD, List.getElem?_eq_getElem (show i < l.length by omega)])
theorem byte_next {w : World} {B n i : Nat} {ad : Addr} {l : List Int} (h : Rd w B 1 (some ad) n (u8s l)) (hi : i + 1 < n) : w.cell? ⟨ad.block, ad.off + (i + 1), none⟩ = some (.int .u8 (l.getD (i + 1) 0)) := byte_cell h hi
end Go.Proofs.YtjndmpockfmenaaGreat
