/-
  Lent bytes, written over.
-/
import Derived.Test.YtdbflopfcnkjbaaGreatAA
import Derived.Test.YtdbflopfcnkjbaaGreatN4
import Derived.Test.YtdbflopfcnkjbaaGreatF2
namespace Go.Proofs.YtdbflopfcnkjbaaGreat
open Go.RowKit
set_option linter.unusedVariables false

set_option maxRecDepth 100000 in
set_option maxHeartbeats 1000000 in
theorem over_any (g n : Nat) (xs : List Value) (w : World) (h : Row w g (n + 12) 5 1 (n + 12) xs) (hn : n ≤ 1000000) :
    Calls Tryz.prog 18 #[.slice (some ⟨g, 0, none⟩) n (n + 12)] w fun e w' => e = .returned (.tuple #[]) ∧ Kept (fun b => b ≠ g) w w' := by
  have HR := hide h
  clear h
  have hcut : ∀ W, (Instr.slice 27 (.slice (some ⟨g, 0, none⟩) n (n + 12)) none (some (.int .i64 ((n : Int) + 12))) none).run Tryz.prog W = .ok (.slice (some ⟨g, 0, none⟩) (n + 12) (n + 12)) W := fun W => cut_head (some ⟨g, 0, none⟩) n (n + 12) (n + 12) (by omega) W
  have hmin : min ((n : Int) + 12) ((n : Int) + 12) = (n : Int) + 12 := by omega
  have hcw := hcut w
  clear hcut
  go_enter Tryz.func18, Tryz.ntmps18
  go_wp2
  go_loopw [3] (fun u wr => ∃ k : Nat, k ≤ n + 12 ∧ u = .int .i64 k ∧ (∃ ys, Row wr g (n + 12) 5 1 (n + 12) ys) ∧ Kept (fun b => b ≠ g) w wr) (fun u _ => n + 12 - (intOf u).toNat)
  case atStart => exact ⟨0, Nat.zero_le _, rfl, ⟨_, HR.out⟩, Kept.refl _ _⟩
  case round =>
    obtain ⟨k, hk, rfl, ⟨ys, hy⟩, hkk⟩ := hrel
    have HY := hide hy
    have HK := hide hkk
    clear hy hkk HR hcw hmin
    by_cases hlt : k < n + 12
    · obtain ⟨u, _, cu⟩ := owns_at HY.out (show k < (n + 12) * 1 by omega)
      have hf : wr.frozen? ⟨g, k, none⟩ = false := owns_free HY.out k
      go_wp2_with (go_at_call 28; refine (markByte_any 2 k (by omega) (by omega) _).mono ?_; rintro e w2 ⟨rfl, rfl⟩)
      go_roundw
      case rel => exact ⟨k + 1, by omega, by go_num, ⟨_, owns_set HY.out (by omega) _⟩, HK.out.setCell (fun _ hn => hn rfl) _⟩
      case measure => simp [intOf]; omega
    · have hk2 : k = n + 12 := by omega
      subst hk2
      go_wp2
      exact bodyPost_end (results_none rfl _ _ _) rfl ⟨rfl, HK.out⟩
end Go.Proofs.YtdbflopfcnkjbaaGreat
