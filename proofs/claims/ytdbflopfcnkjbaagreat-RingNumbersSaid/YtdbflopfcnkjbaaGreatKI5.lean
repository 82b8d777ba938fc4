/-
  The make of a map: is it right? The document's answer.
-/
import Derived.Test.YtdbflopfcnkjbaaGreatKI4
namespace Go.Proofs.YtdbflopfcnkjbaaGreat
open Go.RowKit Go.Maps
set_option linter.unusedVariables false

theorem within_any (n lo hi : Int) (w : World) : Calls Tryz.prog 37 #[.int .i64 n, .int .i64 lo, .int .i64 hi] w fun e w' => e = .returned (.bool (inI lo hi n)) ∧ w = w' := by
  go_enter Tryz.func37, Tryz.ntmps37
  go_wp2
  all_goals
    go_ret
    exact ⟨by first | (simp [inI, *]; done) | (simp [inI]; intros; omega), rfl⟩
theorem inI_zero (n : Int) : inI 0 0 n = (n == 0) := by
  unfold inI
  by_cases h : n = 0
  · subst h; rfl
  · rw [beq_eq_false_iff_ne.2 h]; simp; omega
theorem inI_four (n : Int) : inI 4 4 n = (n == 4) := by
  unfold inI
  by_cases h : n = 4
  · subst h; rfl
  · rw [beq_eq_false_iff_ne.2 h]; simp; omega
theorem inI_eight (n : Int) : inI 8 8 n = (n == 8) := by
  unfold inI
  by_cases h : n = 8
  · subst h; rfl
  · rw [beq_eq_false_iff_ne.2 h]; simp; omega
set_option maxRecDepth 100000 in
set_option maxHeartbeats 1000000 in
theorem rspec_0 (k key val ent : Int) (w : World) (hk : 0 ≤ k ∧ k < 256) (hn : ¬ (1 ≤ k ∧ k ≤ 8)) : Calls Tryz.prog 27 #[.agg #[.int .u8 k, .int .i64 key, .int .i64 val, .int .i64 ent]] w fun e w' => e = .returned (.int .i64 (specM k key val ent)) ∧ Below w.heap.size w w' := by
  have hV := hide (fun w => within_any val 1 1024 w)
  have hN := hide (fun w => within_any ent 1 1024 w)
  have hX := hide (fun w => within_any key 1 64 w)
  obtain ⟨sv, hM⟩ : ∃ sv, specM k key val ent = sv := ⟨_, rfl⟩
  rw [hM]
  replace hM := hM.symm
  have e1 : (k == 1) = false := by simp; omega
  have e2 : (k == 2) = false := by simp; omega
  have e3 : (k == 3) = false := by simp; omega
  have e4 : (k == 4) = false := by simp; omega
  have e5 : (k == 5) = false := by simp; omega
  have e6 : (k == 6) = false := by simp; omega
  have e7 : (k == 7) = false := by simp; omega
  have e8 : (k == 8) = false := by simp; omega
  have hp : ptM k = none := by
    unfold ptM
    simp [show ¬ k = 1 by omega, show ¬ k = 2 by omega, show ¬ k = 3 by omega, show ¬ k = 4 by omega, show ¬ k = 5 by omega, show ¬ k = 6 by omega, show ¬ k = 7 by omega, show ¬ k = 8 by omega]
  unfold specM at hM
  rw [hp] at hM
  replace hM := hide hM
  clear hp hk hn
  generalize inI 1 1024 val = bv at *
  generalize inI 1 1024 ent = bn at *
  generalize inI 1 64 key = bx at *
  cases bv
  all_goals
    go_enter Tryz.func27, Tryz.ntmps27
    go_wp2_with (go_at_call 37; (first | (with_reducible refine (hV.out _).mono ?_) | (with_reducible refine (hN.out _).mono ?_) | (with_reducible refine (hX.out _).mono ?_)); rintro e w1 ⟨rfl, rfl⟩)
    all_goals
      go_ret
      exact ⟨by rw [hM.out]; simp [*], below1 _ _⟩
set_option maxRecDepth 100000 in
set_option maxHeartbeats 1000000 in
theorem rspec_1 (key val ent : Int) (w : World) : Calls Tryz.prog 27 #[.agg #[.int .u8 1, .int .i64 key, .int .i64 val, .int .i64 ent]] w fun e w' => e = .returned (.int .i64 (specM 1 key val ent)) ∧ Below w.heap.size w w' := by
  have hV := hide (fun w => within_any val 1 1024 w)
  have hN := hide (fun w => within_any ent 1 1024 w)
  have hX := hide (fun w => within_any key 1 64 w)
  obtain ⟨sv, hM⟩ : ∃ sv, specM 1 key val ent = sv := ⟨_, rfl⟩
  rw [hM]
  replace hM := hM.symm
  unfold specM ptM at hM
  simp (config := {decide := true}) only [if_true, if_false] at hM
  try simp only [inI_zero] at hM
  try simp only [inI_four] at hM
  try simp only [inI_eight] at hM
  generalize inI 1 1024 val = bv at *
  generalize inI 1 1024 ent = bn at *
  generalize inI 1 64 key = bx at *
  replace hM := hide hM
  cases bv
  all_goals cases bn
  all_goals
    go_enter Tryz.func27, Tryz.ntmps27
    go_wp2_with (go_at_call 37; (first | (with_reducible refine (hV.out _).mono ?_) | (with_reducible refine (hN.out _).mono ?_) | (with_reducible refine (hX.out _).mono ?_)); rintro e w1 ⟨rfl, rfl⟩)
    all_goals
      go_ret
      exact ⟨by rw [hM.out]; simp [*], below1 _ _⟩
set_option maxRecDepth 100000 in
set_option maxHeartbeats 1000000 in
theorem rspec_2 (key val ent : Int) (w : World) : Calls Tryz.prog 27 #[.agg #[.int .u8 2, .int .i64 key, .int .i64 val, .int .i64 ent]] w fun e w' => e = .returned (.int .i64 (specM 2 key val ent)) ∧ Below w.heap.size w w' := by
  have hV := hide (fun w => within_any val 1 1024 w)
  have hN := hide (fun w => within_any ent 1 1024 w)
  have hX := hide (fun w => within_any key 1 64 w)
  obtain ⟨sv, hM⟩ : ∃ sv, specM 2 key val ent = sv := ⟨_, rfl⟩
  rw [hM]
  replace hM := hM.symm
  unfold specM ptM at hM
  simp (config := {decide := true}) only [if_true, if_false] at hM
  try simp only [inI_zero] at hM
  try simp only [inI_four] at hM
  try simp only [inI_eight] at hM
  generalize inI 1 1024 val = bv at *
  generalize inI 1 1024 ent = bn at *
  generalize inI 1 64 key = bx at *
  replace hM := hide hM
  cases bv
  all_goals cases bn
  all_goals cases bx
  all_goals
    go_enter Tryz.func27, Tryz.ntmps27
    go_wp2_with (go_at_call 37; (first | (with_reducible refine (hV.out _).mono ?_) | (with_reducible refine (hN.out _).mono ?_) | (with_reducible refine (hX.out _).mono ?_)); rintro e w1 ⟨rfl, rfl⟩)
    all_goals
      go_ret
      exact ⟨by rw [hM.out]; simp [*], below1 _ _⟩
set_option maxRecDepth 100000 in
set_option maxHeartbeats 1000000 in
theorem rspec_3 (key val ent : Int) (w : World) : Calls Tryz.prog 27 #[.agg #[.int .u8 3, .int .i64 key, .int .i64 val, .int .i64 ent]] w fun e w' => e = .returned (.int .i64 (specM 3 key val ent)) ∧ Below w.heap.size w w' := by
  have hV := hide (fun w => within_any val 1 1024 w)
  have hN := hide (fun w => within_any ent 1 1024 w)
  have hX := hide (fun w => within_any key 1 64 w)
  obtain ⟨sv, hM⟩ : ∃ sv, specM 3 key val ent = sv := ⟨_, rfl⟩
  rw [hM]
  replace hM := hM.symm
  unfold specM ptM at hM
  simp (config := {decide := true}) only [if_true, if_false] at hM
  try simp only [inI_zero] at hM
  try simp only [inI_four] at hM
  try simp only [inI_eight] at hM
  generalize inI 1 1024 val = bv at *
  generalize inI 1 1024 ent = bn at *
  generalize inI 1 64 key = bx at *
  replace hM := hide hM
  cases bv
  all_goals cases bn
  all_goals cases bx
  all_goals
    go_enter Tryz.func27, Tryz.ntmps27
    go_wp2_with (go_at_call 37; (first | (with_reducible refine (hV.out _).mono ?_) | (with_reducible refine (hN.out _).mono ?_) | (with_reducible refine (hX.out _).mono ?_)); rintro e w1 ⟨rfl, rfl⟩)
    all_goals
      go_ret
      exact ⟨by rw [hM.out]; simp [*], below1 _ _⟩
set_option maxRecDepth 100000 in
set_option maxHeartbeats 1000000 in
theorem rspec_4 (key val ent : Int) (w : World) : Calls Tryz.prog 27 #[.agg #[.int .u8 4, .int .i64 key, .int .i64 val, .int .i64 ent]] w fun e w' => e = .returned (.int .i64 (specM 4 key val ent)) ∧ Below w.heap.size w w' := by
  have hV := hide (fun w => within_any val 1 1024 w)
  have hN := hide (fun w => within_any ent 1 1024 w)
  have hX := hide (fun w => within_any key 5 36 w)
  obtain ⟨sv, hM⟩ : ∃ sv, specM 4 key val ent = sv := ⟨_, rfl⟩
  rw [hM]
  replace hM := hM.symm
  unfold specM ptM at hM
  simp (config := {decide := true}) only [if_true, if_false] at hM
  try simp only [inI_zero] at hM
  try simp only [inI_four] at hM
  try simp only [inI_eight] at hM
  generalize inI 1 1024 val = bv at *
  generalize inI 1 1024 ent = bn at *
  generalize inI 5 36 key = bx at *
  replace hM := hide hM
  cases bv
  all_goals cases bn
  all_goals cases bx
  all_goals
    go_enter Tryz.func27, Tryz.ntmps27
    go_wp2_with (go_at_call 37; (first | (with_reducible refine (hV.out _).mono ?_) | (with_reducible refine (hN.out _).mono ?_) | (with_reducible refine (hX.out _).mono ?_)); rintro e w1 ⟨rfl, rfl⟩)
    all_goals
      go_ret
      exact ⟨by rw [hM.out]; simp [*], below1 _ _⟩
set_option maxRecDepth 100000 in
set_option maxHeartbeats 1000000 in
theorem rspec_5 (key val ent : Int) (w : World) : Calls Tryz.prog 27 #[.agg #[.int .u8 5, .int .i64 key, .int .i64 val, .int .i64 ent]] w fun e w' => e = .returned (.int .i64 (specM 5 key val ent)) ∧ Below w.heap.size w w' := by
  have hV := hide (fun w => within_any val 1 1024 w)
  have hN := hide (fun w => within_any ent 1 1024 w)
  have hX := hide (fun w => within_any key 1 64 w)
  obtain ⟨sv, hM⟩ : ∃ sv, specM 5 key val ent = sv := ⟨_, rfl⟩
  rw [hM]
  replace hM := hM.symm
  unfold specM ptM at hM
  simp (config := {decide := true}) only [if_true, if_false] at hM
  try simp only [inI_zero] at hM
  try simp only [inI_four] at hM
  try simp only [inI_eight] at hM
  generalize inI 1 1024 val = bv at *
  generalize inI 1 1024 ent = bn at *
  generalize inI 1 64 key = bx at *
  replace hM := hide hM
  cases bv
  all_goals cases bn
  all_goals
    go_enter Tryz.func27, Tryz.ntmps27
    go_wp2_with (go_at_call 37; (first | (with_reducible refine (hV.out _).mono ?_) | (with_reducible refine (hN.out _).mono ?_) | (with_reducible refine (hX.out _).mono ?_)); rintro e w1 ⟨rfl, rfl⟩)
    all_goals
      go_ret
      exact ⟨by rw [hM.out]; simp [*], below1 _ _⟩
set_option maxRecDepth 100000 in
set_option maxHeartbeats 1000000 in
theorem rspec_6 (key val ent : Int) (w : World) : Calls Tryz.prog 27 #[.agg #[.int .u8 6, .int .i64 key, .int .i64 val, .int .i64 ent]] w fun e w' => e = .returned (.int .i64 (specM 6 key val ent)) ∧ Below w.heap.size w w' := by
  have hV := hide (fun w => within_any val 1 1024 w)
  have hN := hide (fun w => within_any ent 1 1024 w)
  have hX := hide (fun w => within_any key 1 64 w)
  obtain ⟨sv, hM⟩ : ∃ sv, specM 6 key val ent = sv := ⟨_, rfl⟩
  rw [hM]
  replace hM := hM.symm
  unfold specM ptM at hM
  simp (config := {decide := true}) only [if_true, if_false] at hM
  try simp only [inI_zero] at hM
  try simp only [inI_four] at hM
  try simp only [inI_eight] at hM
  generalize inI 1 1024 val = bv at *
  generalize inI 1 1024 ent = bn at *
  generalize inI 1 64 key = bx at *
  replace hM := hide hM
  cases bv
  all_goals cases bn
  all_goals
    go_enter Tryz.func27, Tryz.ntmps27
    go_wp2_with (go_at_call 37; (first | (with_reducible refine (hV.out _).mono ?_) | (with_reducible refine (hN.out _).mono ?_) | (with_reducible refine (hX.out _).mono ?_)); rintro e w1 ⟨rfl, rfl⟩)
    all_goals
      go_ret
      exact ⟨by rw [hM.out]; simp [*], below1 _ _⟩
set_option maxRecDepth 100000 in
set_option maxHeartbeats 1000000 in
theorem rspec_7 (key val ent : Int) (w : World) : Calls Tryz.prog 27 #[.agg #[.int .u8 7, .int .i64 key, .int .i64 val, .int .i64 ent]] w fun e w' => e = .returned (.int .i64 (specM 7 key val ent)) ∧ Below w.heap.size w w' := by
  have hV := hide (fun w => within_any val 1 1024 w)
  have hN := hide (fun w => within_any ent 1 1024 w)
  have hX := hide (fun w => within_any ent 16 16384 w)
  obtain ⟨sv, hM⟩ : ∃ sv, specM 7 key val ent = sv := ⟨_, rfl⟩
  rw [hM]
  replace hM := hM.symm
  unfold specM ptM at hM
  simp (config := {decide := true}) only [if_true, if_false] at hM
  try simp only [inI_zero] at hM
  try simp only [inI_four] at hM
  try simp only [inI_eight] at hM
  generalize inI 1 1024 val = bv at *
  generalize inI 1 1024 ent = bn at *
  generalize inI 16 16384 ent = bx at *
  replace hM := hide hM
  cases bv
  all_goals cases bx
  all_goals
    go_enter Tryz.func27, Tryz.ntmps27
    go_wp2_with (go_at_call 37; (first | (with_reducible refine (hV.out _).mono ?_) | (with_reducible refine (hN.out _).mono ?_) | (with_reducible refine (hX.out _).mono ?_)); rintro e w1 ⟨rfl, rfl⟩)
    all_goals
      go_ret
      exact ⟨by rw [hM.out]; simp [*], below1 _ _⟩
set_option maxRecDepth 100000 in
set_option maxHeartbeats 1000000 in
theorem rspec_8 (key val ent : Int) (w : World) : Calls Tryz.prog 27 #[.agg #[.int .u8 8, .int .i64 key, .int .i64 val, .int .i64 ent]] w fun e w' => e = .returned (.int .i64 (specM 8 key val ent)) ∧ Below w.heap.size w w' := by
  have hV := hide (fun w => within_any val 1 1024 w)
  have hN := hide (fun w => within_any ent 1 1024 w)
  have hX := hide (fun w => within_any ent 1 64 w)
  obtain ⟨sv, hM⟩ : ∃ sv, specM 8 key val ent = sv := ⟨_, rfl⟩
  rw [hM]
  replace hM := hM.symm
  unfold specM ptM at hM
  simp (config := {decide := true}) only [if_true, if_false] at hM
  try simp only [inI_zero] at hM
  try simp only [inI_four] at hM
  try simp only [inI_eight] at hM
  generalize inI 1 1024 val = bv at *
  generalize inI 1 1024 ent = bn at *
  generalize inI 1 64 ent = bx at *
  replace hM := hide hM
  cases bv
  all_goals cases bx
  all_goals
    go_enter Tryz.func27, Tryz.ntmps27
    go_wp2_with (go_at_call 37; (first | (with_reducible refine (hV.out _).mono ?_) | (with_reducible refine (hN.out _).mono ?_) | (with_reducible refine (hX.out _).mono ?_)); rintro e w1 ⟨rfl, rfl⟩)
    all_goals
      go_ret
      exact ⟨by rw [hM.out]; simp [*], below1 _ _⟩
theorem rspec_any (k key val ent : Int) (w : World) (hk : 0 ≤ k ∧ k < 256) : Calls Tryz.prog 27 #[.agg #[.int .u8 k, .int .i64 key, .int .i64 val, .int .i64 ent]] w fun e w' => e = .returned (.int .i64 (specM k key val ent)) ∧ Below w.heap.size w w' := by
  by_cases h8 : 1 ≤ k ∧ k ≤ 8
  · have h9 : k = 1 ∨ k = 2 ∨ k = 3 ∨ k = 4 ∨ k = 5 ∨ k = 6 ∨ k = 7 ∨ k = 8 := by omega
    rcases h9 with rfl | rfl | rfl | rfl | rfl | rfl | rfl | rfl
    · exact rspec_1 _ _ _ _
    · exact rspec_2 _ _ _ _
    · exact rspec_3 _ _ _ _
    · exact rspec_4 _ _ _ _
    · exact rspec_5 _ _ _ _
    · exact rspec_6 _ _ _ _
    · exact rspec_7 _ _ _ _
    · exact rspec_8 _ _ _ _
  · exact rspec_0 k key val ent w hk h8
end Go.Proofs.YtdbflopfcnkjbaaGreat
