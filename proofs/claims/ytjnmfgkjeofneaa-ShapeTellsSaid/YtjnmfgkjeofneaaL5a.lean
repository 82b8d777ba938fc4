/-
  The law's walk: whichever ways are gone.
-/
import Derived.Test.YtjnmfgkjeofneaaMw
import Derived.Test.YtjnmfgkjeofneaaAw
namespace Go.Proofs.Ytjnmfgkjeofneaa
open Go.RowKit
set_option linter.unusedVariables false

theorem small_any (A : Option Addr) (n c : Nat) (w : World) (r : n ≤ 140737488351232) : Calls Try.prog 8 #[.slice A n c] w fun e w' => e = .returned (.bool (decide (n ≤ 300))) ∧ w = w' := by
  go_enter Try.func8, Try.ntmps8
  go_wp2
  go_ret
  exact ⟨by simp; omega, rfl⟩
theorem targets_le (l : List Ins) : (targetsM l).length ≤ l.length := by
  unfold targetsM
  split
  · unfold risen
    rw [List.length_map]
    have := List.length_filter_le (fun i : Nat => decide ((i : Int) ∈ jumps l l.length)) (List.range l.length)
    simpa using this
  · simp
/-- Each target is one of those that are told. -/
theorem jump_told {l : List Ins} (h : (checkM l).2 = 0) {p : Nat × Ins} (hp : p ∈ fsts 0 false l) (hj : jumpI p ≠ -1) : jumpI p ∈ targetsM l := by
  obtain ⟨_, h1, _⟩ := fsts_mem _ _ _ _ hp
  unfold targetsM
  rw [if_pos h, mem_risen (jumps_in h _)]
  unfold jumps
  rw [List.mem_filter, List.mem_map]
  refine ⟨⟨p.1, List.mem_range.2 (by omega), ?_⟩, by simpa using hj⟩
  rw [wayOf_own (fsts_rise l 0 false) hp]
theorem take_mem {T : List Int} {i : Nat} {x y : Int} (h : T[i]? = some y) : decide (x ∈ T.take (i + 1)) = (decide (x ∈ T.take i) || (y == x)) := by
  rw [List.take_add_one, h, Bool.eq_iff_iff, Bool.or_eq_true, decide_eq_true_eq, decide_eq_true_eq, beq_iff_eq, List.mem_append, Option.toList_some, List.mem_singleton]
  exact or_congr Iff.rfl ⟨Eq.symm, Eq.symm⟩
end Go.Proofs.Ytjnmfgkjeofneaa
