/-
  The texts KI5, HF8, HF9, HF7, HF10, HF11, HF12 as one.
-/
import Derived.Test.YtolodcdhpnapmaaGreatKI4
import Derived.Test.YtolodcdhpnapmaaGreatHF4
import Derived.Test.YtolodcdhpnapmaaGreatHR6
import Derived.Deep.RegionLaw
import Derived.Test.YtolodcdhpnapmaaGreatMB

/-
  The make of a map: is it right? The document's answer.
-/
namespace Go.Proofs.YtolodcdhpnapmaaGreat
open Go.RowKit Go.Maps
set_option linter.unusedVariables false

theorem within_any (n lo hi : Int) (w : World) : Calls Tryz.prog 33 #[.int .i64 n, .int .i64 lo, .int .i64 hi] w fun e w' => e = .returned (.bool (inI lo hi n)) ∧ w = w' := by
  go_enter Tryz.func33, Tryz.ntmps33
  go_wp2
  all_goals
    go_ret
    exact ⟨by first | (simp [inI, *]; done) | (simp [inI]; intros; omega), rfl⟩
theorem inI_zero (n : Int) : inI 0 0 n = (n == 0) := by
  unfold inI
  by_cases h : n = 0
  · subst h; rfl
  · rw [beq_eq_false_iff_ne.2 h]; simp; omega
theorem inI_four (n : Int) : inI 4 4 n = (n == 4) := by
  unfold inI
  by_cases h : n = 4
  · subst h; rfl
  · rw [beq_eq_false_iff_ne.2 h]; simp; omega
theorem inI_eight (n : Int) : inI 8 8 n = (n == 8) := by
  unfold inI
  by_cases h : n = 8
  · subst h; rfl
  · rw [beq_eq_false_iff_ne.2 h]; simp; omega
set_option maxRecDepth 100000 in
set_option maxHeartbeats 1000000 in
theorem rspec_0 (k key val ent : Int) (w : World) (hk : 0 ≤ k ∧ k < 256) (hn : ¬ (1 ≤ k ∧ k ≤ 8)) : Calls Tryz.prog 14 #[.agg #[.int .u8 k, .int .i64 key, .int .i64 val, .int .i64 ent]] w fun e w' => e = .returned (.int .i64 (specM k key val ent)) ∧ Below w.heap.size w w' := by
  have hV := hide (fun w => within_any val 1 1024 w)
  have hN := hide (fun w => within_any ent 1 1024 w)
  have hX := hide (fun w => within_any key 1 64 w)
  obtain ⟨sv, hM⟩ : ∃ sv, specM k key val ent = sv := ⟨_, rfl⟩
  rw [hM]
  replace hM := hM.symm
  have e1 : (k == 1) = false := by simp; omega
  have e2 : (k == 2) = false := by simp; omega
  have e3 : (k == 3) = false := by simp; omega
  have e4 : (k == 4) = false := by simp; omega
  have e5 : (k == 5) = false := by simp; omega
  have e6 : (k == 6) = false := by simp; omega
  have e7 : (k == 7) = false := by simp; omega
  have e8 : (k == 8) = false := by simp; omega
  have hp : ptM k = none := by
    unfold ptM
    simp [show ¬ k = 1 by omega, show ¬ k = 2 by omega, show ¬ k = 3 by omega, show ¬ k = 4 by omega, show ¬ k = 5 by omega, show ¬ k = 6 by omega, show ¬ k = 7 by omega, show ¬ k = 8 by omega]
  unfold specM at hM
  rw [hp] at hM
  replace hM := hide hM
  clear hp hk hn
  generalize inI 1 1024 val = bv at *
  generalize inI 1 1024 ent = bn at *
  generalize inI 1 64 key = bx at *
  cases bv
  all_goals
    go_enter Tryz.func14, Tryz.ntmps14
    go_wp2_with (go_at_call 33; (first | (with_reducible refine (hV.out _).mono ?_) | (with_reducible refine (hN.out _).mono ?_) | (with_reducible refine (hX.out _).mono ?_)); rintro e w1 ⟨rfl, rfl⟩)
    all_goals
      go_ret
      exact ⟨by rw [hM.out]; simp [*], below1 _ _⟩
set_option maxRecDepth 100000 in
set_option maxHeartbeats 1000000 in
theorem rspec_1 (key val ent : Int) (w : World) : Calls Tryz.prog 14 #[.agg #[.int .u8 1, .int .i64 key, .int .i64 val, .int .i64 ent]] w fun e w' => e = .returned (.int .i64 (specM 1 key val ent)) ∧ Below w.heap.size w w' := by
  have hV := hide (fun w => within_any val 1 1024 w)
  have hN := hide (fun w => within_any ent 1 1024 w)
  have hX := hide (fun w => within_any key 1 64 w)
  obtain ⟨sv, hM⟩ : ∃ sv, specM 1 key val ent = sv := ⟨_, rfl⟩
  rw [hM]
  replace hM := hM.symm
  unfold specM ptM at hM
  simp (config := {decide := true}) only [if_true, if_false] at hM
  try simp only [inI_zero] at hM
  try simp only [inI_four] at hM
  try simp only [inI_eight] at hM
  generalize inI 1 1024 val = bv at *
  generalize inI 1 1024 ent = bn at *
  generalize inI 1 64 key = bx at *
  replace hM := hide hM
  cases bv
  all_goals cases bn
  all_goals
    go_enter Tryz.func14, Tryz.ntmps14
    go_wp2_with (go_at_call 33; (first | (with_reducible refine (hV.out _).mono ?_) | (with_reducible refine (hN.out _).mono ?_) | (with_reducible refine (hX.out _).mono ?_)); rintro e w1 ⟨rfl, rfl⟩)
    all_goals
      go_ret
      exact ⟨by rw [hM.out]; simp [*], below1 _ _⟩
set_option maxRecDepth 100000 in
set_option maxHeartbeats 1000000 in
theorem rspec_2 (key val ent : Int) (w : World) : Calls Tryz.prog 14 #[.agg #[.int .u8 2, .int .i64 key, .int .i64 val, .int .i64 ent]] w fun e w' => e = .returned (.int .i64 (specM 2 key val ent)) ∧ Below w.heap.size w w' := by
  have hV := hide (fun w => within_any val 1 1024 w)
  have hN := hide (fun w => within_any ent 1 1024 w)
  have hX := hide (fun w => within_any key 1 64 w)
  obtain ⟨sv, hM⟩ : ∃ sv, specM 2 key val ent = sv := ⟨_, rfl⟩
  rw [hM]
  replace hM := hM.symm
  unfold specM ptM at hM
  simp (config := {decide := true}) only [if_true, if_false] at hM
  try simp only [inI_zero] at hM
  try simp only [inI_four] at hM
  try simp only [inI_eight] at hM
  generalize inI 1 1024 val = bv at *
  generalize inI 1 1024 ent = bn at *
  generalize inI 1 64 key = bx at *
  replace hM := hide hM
  cases bv
  all_goals cases bn
  all_goals cases bx
  all_goals
    go_enter Tryz.func14, Tryz.ntmps14
    go_wp2_with (go_at_call 33; (first | (with_reducible refine (hV.out _).mono ?_) | (with_reducible refine (hN.out _).mono ?_) | (with_reducible refine (hX.out _).mono ?_)); rintro e w1 ⟨rfl, rfl⟩)
    all_goals
      go_ret
      exact ⟨by rw [hM.out]; simp [*], below1 _ _⟩
set_option maxRecDepth 100000 in
set_option maxHeartbeats 1000000 in
theorem rspec_3 (key val ent : Int) (w : World) : Calls Tryz.prog 14 #[.agg #[.int .u8 3, .int .i64 key, .int .i64 val, .int .i64 ent]] w fun e w' => e = .returned (.int .i64 (specM 3 key val ent)) ∧ Below w.heap.size w w' := by
  have hV := hide (fun w => within_any val 1 1024 w)
  have hN := hide (fun w => within_any ent 1 1024 w)
  have hX := hide (fun w => within_any key 1 64 w)
  obtain ⟨sv, hM⟩ : ∃ sv, specM 3 key val ent = sv := ⟨_, rfl⟩
  rw [hM]
  replace hM := hM.symm
  unfold specM ptM at hM
  simp (config := {decide := true}) only [if_true, if_false] at hM
  try simp only [inI_zero] at hM
  try simp only [inI_four] at hM
  try simp only [inI_eight] at hM
  generalize inI 1 1024 val = bv at *
  generalize inI 1 1024 ent = bn at *
  generalize inI 1 64 key = bx at *
  replace hM := hide hM
  cases bv
  all_goals cases bn
  all_goals cases bx
  all_goals
    go_enter Tryz.func14, Tryz.ntmps14
    go_wp2_with (go_at_call 33; (first | (with_reducible refine (hV.out _).mono ?_) | (with_reducible refine (hN.out _).mono ?_) | (with_reducible refine (hX.out _).mono ?_)); rintro e w1 ⟨rfl, rfl⟩)
    all_goals
      go_ret
      exact ⟨by rw [hM.out]; simp [*], below1 _ _⟩
set_option maxRecDepth 100000 in
set_option maxHeartbeats 1000000 in
theorem rspec_4 (key val ent : Int) (w : World) : Calls Tryz.prog 14 #[.agg #[.int .u8 4, .int .i64 key, .int .i64 val, .int .i64 ent]] w fun e w' => e = .returned (.int .i64 (specM 4 key val ent)) ∧ Below w.heap.size w w' := by
  have hV := hide (fun w => within_any val 1 1024 w)
  have hN := hide (fun w => within_any ent 1 1024 w)
  have hX := hide (fun w => within_any key 5 36 w)
  obtain ⟨sv, hM⟩ : ∃ sv, specM 4 key val ent = sv := ⟨_, rfl⟩
  rw [hM]
  replace hM := hM.symm
  unfold specM ptM at hM
  simp (config := {decide := true}) only [if_true, if_false] at hM
  try simp only [inI_zero] at hM
  try simp only [inI_four] at hM
  try simp only [inI_eight] at hM
  generalize inI 1 1024 val = bv at *
  generalize inI 1 1024 ent = bn at *
  generalize inI 5 36 key = bx at *
  replace hM := hide hM
  cases bv
  all_goals cases bn
  all_goals cases bx
  all_goals
    go_enter Tryz.func14, Tryz.ntmps14
    go_wp2_with (go_at_call 33; (first | (with_reducible refine (hV.out _).mono ?_) | (with_reducible refine (hN.out _).mono ?_) | (with_reducible refine (hX.out _).mono ?_)); rintro e w1 ⟨rfl, rfl⟩)
    all_goals
      go_ret
      exact ⟨by rw [hM.out]; simp [*], below1 _ _⟩
set_option maxRecDepth 100000 in
set_option maxHeartbeats 1000000 in
theorem rspec_5 (key val ent : Int) (w : World) : Calls Tryz.prog 14 #[.agg #[.int .u8 5, .int .i64 key, .int .i64 val, .int .i64 ent]] w fun e w' => e = .returned (.int .i64 (specM 5 key val ent)) ∧ Below w.heap.size w w' := by
  have hV := hide (fun w => within_any val 1 1024 w)
  have hN := hide (fun w => within_any ent 1 1024 w)
  have hX := hide (fun w => within_any key 1 64 w)
  obtain ⟨sv, hM⟩ : ∃ sv, specM 5 key val ent = sv := ⟨_, rfl⟩
  rw [hM]
  replace hM := hM.symm
  unfold specM ptM at hM
  simp (config := {decide := true}) only [if_true, if_false] at hM
  try simp only [inI_zero] at hM
  try simp only [inI_four] at hM
  try simp only [inI_eight] at hM
  generalize inI 1 1024 val = bv at *
  generalize inI 1 1024 ent = bn at *
  generalize inI 1 64 key = bx at *
  replace hM := hide hM
  cases bv
  all_goals cases bn
  all_goals
    go_enter Tryz.func14, Tryz.ntmps14
    go_wp2_with (go_at_call 33; (first | (with_reducible refine (hV.out _).mono ?_) | (with_reducible refine (hN.out _).mono ?_) | (with_reducible refine (hX.out _).mono ?_)); rintro e w1 ⟨rfl, rfl⟩)
    all_goals
      go_ret
      exact ⟨by rw [hM.out]; simp [*], below1 _ _⟩
set_option maxRecDepth 100000 in
set_option maxHeartbeats 1000000 in
theorem rspec_6 (key val ent : Int) (w : World) : Calls Tryz.prog 14 #[.agg #[.int .u8 6, .int .i64 key, .int .i64 val, .int .i64 ent]] w fun e w' => e = .returned (.int .i64 (specM 6 key val ent)) ∧ Below w.heap.size w w' := by
  have hV := hide (fun w => within_any val 1 1024 w)
  have hN := hide (fun w => within_any ent 1 1024 w)
  have hX := hide (fun w => within_any key 1 64 w)
  obtain ⟨sv, hM⟩ : ∃ sv, specM 6 key val ent = sv := ⟨_, rfl⟩
  rw [hM]
  replace hM := hM.symm
  unfold specM ptM at hM
  simp (config := {decide := true}) only [if_true, if_false] at hM
  try simp only [inI_zero] at hM
  try simp only [inI_four] at hM
  try simp only [inI_eight] at hM
  generalize inI 1 1024 val = bv at *
  generalize inI 1 1024 ent = bn at *
  generalize inI 1 64 key = bx at *
  replace hM := hide hM
  cases bv
  all_goals cases bn
  all_goals
    go_enter Tryz.func14, Tryz.ntmps14
    go_wp2_with (go_at_call 33; (first | (with_reducible refine (hV.out _).mono ?_) | (with_reducible refine (hN.out _).mono ?_) | (with_reducible refine (hX.out _).mono ?_)); rintro e w1 ⟨rfl, rfl⟩)
    all_goals
      go_ret
      exact ⟨by rw [hM.out]; simp [*], below1 _ _⟩
set_option maxRecDepth 100000 in
set_option maxHeartbeats 1000000 in
theorem rspec_7 (key val ent : Int) (w : World) : Calls Tryz.prog 14 #[.agg #[.int .u8 7, .int .i64 key, .int .i64 val, .int .i64 ent]] w fun e w' => e = .returned (.int .i64 (specM 7 key val ent)) ∧ Below w.heap.size w w' := by
  have hV := hide (fun w => within_any val 1 1024 w)
  have hN := hide (fun w => within_any ent 1 1024 w)
  have hX := hide (fun w => within_any ent 16 16384 w)
  obtain ⟨sv, hM⟩ : ∃ sv, specM 7 key val ent = sv := ⟨_, rfl⟩
  rw [hM]
  replace hM := hM.symm
  unfold specM ptM at hM
  simp (config := {decide := true}) only [if_true, if_false] at hM
  try simp only [inI_zero] at hM
  try simp only [inI_four] at hM
  try simp only [inI_eight] at hM
  generalize inI 1 1024 val = bv at *
  generalize inI 1 1024 ent = bn at *
  generalize inI 16 16384 ent = bx at *
  replace hM := hide hM
  cases bv
  all_goals cases bx
  all_goals
    go_enter Tryz.func14, Tryz.ntmps14
    go_wp2_with (go_at_call 33; (first | (with_reducible refine (hV.out _).mono ?_) | (with_reducible refine (hN.out _).mono ?_) | (with_reducible refine (hX.out _).mono ?_)); rintro e w1 ⟨rfl, rfl⟩)
    all_goals
      go_ret
      exact ⟨by rw [hM.out]; simp [*], below1 _ _⟩
set_option maxRecDepth 100000 in
set_option maxHeartbeats 1000000 in
theorem rspec_8 (key val ent : Int) (w : World) : Calls Tryz.prog 14 #[.agg #[.int .u8 8, .int .i64 key, .int .i64 val, .int .i64 ent]] w fun e w' => e = .returned (.int .i64 (specM 8 key val ent)) ∧ Below w.heap.size w w' := by
  have hV := hide (fun w => within_any val 1 1024 w)
  have hN := hide (fun w => within_any ent 1 1024 w)
  have hX := hide (fun w => within_any ent 1 64 w)
  obtain ⟨sv, hM⟩ : ∃ sv, specM 8 key val ent = sv := ⟨_, rfl⟩
  rw [hM]
  replace hM := hM.symm
  unfold specM ptM at hM
  simp (config := {decide := true}) only [if_true, if_false] at hM
  try simp only [inI_zero] at hM
  try simp only [inI_four] at hM
  try simp only [inI_eight] at hM
  generalize inI 1 1024 val = bv at *
  generalize inI 1 1024 ent = bn at *
  generalize inI 1 64 ent = bx at *
  replace hM := hide hM
  cases bv
  all_goals cases bx
  all_goals
    go_enter Tryz.func14, Tryz.ntmps14
    go_wp2_with (go_at_call 33; (first | (with_reducible refine (hV.out _).mono ?_) | (with_reducible refine (hN.out _).mono ?_) | (with_reducible refine (hX.out _).mono ?_)); rintro e w1 ⟨rfl, rfl⟩)
    all_goals
      go_ret
      exact ⟨by rw [hM.out]; simp [*], below1 _ _⟩
theorem rspec_any (k key val ent : Int) (w : World) (hk : 0 ≤ k ∧ k < 256) : Calls Tryz.prog 14 #[.agg #[.int .u8 k, .int .i64 key, .int .i64 val, .int .i64 ent]] w fun e w' => e = .returned (.int .i64 (specM k key val ent)) ∧ Below w.heap.size w w' := by
  by_cases h8 : 1 ≤ k ∧ k ≤ 8
  · have h9 : k = 1 ∨ k = 2 ∨ k = 3 ∨ k = 4 ∨ k = 5 ∨ k = 6 ∨ k = 7 ∨ k = 8 := by omega
    rcases h9 with rfl | rfl | rfl | rfl | rfl | rfl | rfl | rfl
    · exact rspec_1 _ _ _ _
    · exact rspec_2 _ _ _ _
    · exact rspec_3 _ _ _ _
    · exact rspec_4 _ _ _ _
    · exact rspec_5 _ _ _ _
    · exact rspec_6 _ _ _ _
    · exact rspec_7 _ _ _ _
    · exact rspec_8 _ _ _ _
  · exact rspec_0 k key val ent w hk h8
end Go.Proofs.YtolodcdhpnapmaaGreat

/-
  The document's New.
-/
namespace Go.Proofs.YtolodcdhpnapmaaGreat
open Go.RowKit Go.Maps Go.Sort
set_option linter.unusedVariables false

theorem rnew_no (k key val ent : Int) (w : World) (hk : 0 ≤ k ∧ k < 256) (he : newE k key val ent ≠ 0) :
    Calls Tryz.prog 5 #[.agg #[.int .u8 k, .int .i64 key, .int .i64 val, .int .i64 ent]] w fun e w' => e = .returned (.tuple #[.pointer none, .int .i64 (newE k key val ent)]) ∧ Below w.heap.size w w' := by
  have hx := World.alloc_heap_new w (.cells #[.int .u8 k, .int .i64 key, .int .i64 val, .int .i64 ent] 25)
  have hb0 := below1 w (.cells #[.int .u8 k, .int .i64 key, .int .i64 val, .int .i64 ent] 25)
  have HS := hide (rspec_any k key val ent (w.alloc (.cells #[.int .u8 k, .int .i64 key, .int .i64 val, .int .i64 ent] 25)) hk)
  have HX := hide hx
  have HB0 := hide hb0
  have HE : Hid (newE k key val ent = if specM k key val ent = 0 then (if k = 2 then 0 else 9) else specM k key val ent) := hide rfl
  generalize newE k key val ent = ne at *
  generalize specM k key val ent = sm at *
  by_cases hs : sm = 0
  · subst hs
    have hk1 : k ≠ 2 := fun h => he (by rw [HE.out, if_pos rfl, if_pos h])
    obtain rfl : ne = 9 := by rw [HE.out, if_pos rfl, if_neg hk1]
    have hkb : (k != 2) = true := by simpa using hk1
    clear he HE hk1 hx hb0
    go_enter Tryz.func5, Tryz.ntmps5
    go_wp2_with (go_at_call 14; refine HS.out.mono ?_; rintro e w1 ⟨rfl, hb⟩; have HB := hide hb; have d0 := (blk_cell ((hb.block _ (at_lt HX.out)).trans HX.out) 0).trans rfl; clear hb)
    go_ret2
    exact ⟨rfl, HB0.out.trans (HB.out.mono HB0.out.size)⟩
  · obtain rfl : ne = sm := by rw [HE.out, if_neg hs]
    have hkb : (ne != 0) = true := by simpa using hs
    clear he HE hs hx hb0
    go_enter Tryz.func5, Tryz.ntmps5
    go_wp2_with (go_at_call 14; refine HS.out.mono ?_; rintro e w1 ⟨rfl, hb⟩; have HB := hide hb; clear hb)
    go_ret2
    exact ⟨rfl, HB0.out.trans (HB.out.mono HB0.out.size)⟩
/-- A document's hash while it is made: of its n places the first stand. -/
structure RNew (w wr : World) (Bp x ks sz n : Nat) (v : Value) (M : List HS) : Prop where
  box : wr.heap[Bp]? = some (.cells #[.int .u8 2, .int .i64 ks, .int .i64 sz, .int .i64 n] 25 (0, 0))
  blk : wr.heap[x]? = some (.cells #[.int .u8 2, .int .i64 ks, .int .i64 sz, .int .i64 n, v] 55 (0, 0))
  row : wr.ownsRow 0 57 3 v M.length (cellsR sz M)
  each : ∀ (i : Nat) (r : HS), M[i]? = some r → wr.ownsRow 0 5 1 (.slice r.A sz r.c) sz (u8s r.bs)
  vlow : ∀ g, v.ownBlock = some g → x < g
  elow : ∀ r ∈ M, ∀ g, (r.sl sz).ownBlock = some g → x < g
  sep : ∀ (i j : Nat) (r s : HS), M[i]? = some r → M[j]? = some s → i ≠ j → ∀ g, (r.sl sz).ownBlock = some g → (s.sl sz).ownBlock ≠ some g
  zero : ∀ r ∈ M, r.key = none ∧ r.bs = List.replicate sz 0
  low : w.heap.size ≤ Bp ∧ Bp < x
  below : Below w.heap.size w wr
theorem rplaceInfo : (Tryz.prog.info? 57).map (fun i => (i.zero, i.size, i.bytes)) = some (some (.agg #[.bool false, .string ⟨#[]⟩, .slice none 0 0]), 3, 48) := by kernel_rfl
theorem rplace_parts : ∃ i, Tryz.prog.info? 57 = some i ∧ i.zero = some (.agg #[.bool false, .string ⟨#[]⟩, .slice none 0 0]) ∧ i.size = 3 ∧ i.bytes = 48 := by
  have h := rplaceInfo
  cases hi : Tryz.prog.info? 57 with
  | none => rw [hi] at h; cases h
  | some i =>
    rw [hi] at h
    simp only [Option.map_some, Option.some.injEq, Prod.mk.injEq] at h
    exact ⟨i, rfl, h.1, h.2.1, h.2.2⟩
/-- A place of zeros. -/
def zPl (sz g : Nat) : HS := ⟨some ⟨g, 0, none⟩, sz, List.replicate sz 0, none⟩
theorem at_snoc {M : List HS} {z r : HS} {i : Nat} (h : (M ++ [z])[i]? = some r) : M[i]? = some r ∨ (i = M.length ∧ r = z) := by
  rw [List.getElem?_append] at h
  split at h
  · exact .inl h
  · rename_i hn
    have : i - M.length = 0 := by
      have := (List.getElem?_eq_some_iff.1 h).1
      simp at this
      omega
    rw [this] at h
    exact .inr ⟨by omega, by simpa using h.symm⟩
theorem set_heap {w : World} {b i : Nat} {cs : Array Value} {t : TypeId} (h : w.heap[b]? = some (.cells cs t (0, 0))) (u : Value) : (w.setCell ⟨b, i, none⟩ u).heap[b]? = some (.cells (cs.setIfInBounds i u) t (0, 0)) := by
  simp [World.setCell, Array.getElem?_modify, h]
theorem RNew.more {w wr W2 w3 : World} {Bp x ks sz n : Nat} {v v' : Value} {M : List HS} (h : RNew w wr Bp x ks sz n v M) (hs : sz ≤ 1024) (hb : RowKit.Below wr.heap.size wr W2) (hz : W2.heap[wr.heap.size]? = some (Obj.cells (u8s (List.replicate sz 0)).toArray 5 (0, 0)))
    (hl : Longer W2 w3 57 3 v v' (M.length + 1) (cellsR sz (M ++ [zPl sz wr.heap.size]))) :
    RNew w (w3.setCell ⟨x, 4, none⟩ v') Bp x ks sz n v' (M ++ [zPl sz wr.heap.size]) := by
  have hx := at_lt h.blk
  have hB := at_lt h.box
  have hlow := h.low
  have hzl := at_lt hz
  have hvz : ∀ g, v.ownBlock = some g → g < wr.heap.size := fun g hg => (h.row.lt g hg).2
  have hv' : ∀ g, v'.ownBlock = some g → x < g := fun g hg => by
    rcases hl.2.2 with e | e
    · exact h.vlow g (by rw [← e]; exact hg)
    · rw [e] at hg; injection hg with hg; omega
  have hvr : ∀ (i : Nat) (r : HS) (g : Nat), M[i]? = some r → (r.sl sz).ownBlock = some g → v.ownBlock ≠ some g := fun i r g hr hg e => by
    obtain ⟨cur, hc⟩ := owns_cells (h.each i r hr) hg
    obtain ⟨cur2, hc2⟩ := owns_cells h.row e
    rw [hc] at hc2
    injection hc2 with hc2
    injection hc2 with _ hc2
    exact absurd hc2 (by decide)
  have K2 : Kept (fun g => g ≠ x ∧ v.ownBlock ≠ some g) W2 (w3.setCell ⟨x, 4, none⟩ v') := ((Kept.refl _ W2).grown hl.2.1 (fun q e _ hF => hF.2 e)).setCell (fun _ hF => hF.1 rfl) v'
  have K4 := below_then hb K2
  have hblk3 : w3.heap[x]? = some (.cells #[.int .u8 2, .int .i64 ks, .int .i64 sz, .int .i64 n, v] 55 (0, 0)) := (hl.2.1.block x (Nat.lt_of_lt_of_le hx hb.size) (fun e => by have := h.vlow x e.symm; omega)).trans ((hb.block x hx).trans h.blk)
  have hnew : ∀ g, ((zPl sz wr.heap.size).sl sz).ownBlock = some g → g = wr.heap.size := fun g hg => by
    simp [zPl, HS.sl, Value.ownBlock] at hg
    exact hg.symm
  refine ⟨(K4.block Bp hB ⟨by omega, fun e => by have := h.vlow Bp e; omega⟩).trans h.box, (set_heap hblk3 v').trans rfl, ?_, fun i r hr => ?_, hv', fun r hr g hg => ?_, fun i j r s hi hj hne g hg hg' => ?_, fun r hr => ?_, hlow, h.below.trans (K4.to_below (fun g hg => ⟨by omega, fun e => by have := h.vlow g e; omega⟩) h.below.size)⟩
  · rw [List.length_append]
    exact owns_kept (F := fun g => g ≠ x) hl.1 ((Kept.refl _ w3).setCell (fun _ e => e rfl) v') (fun g hg e => by have := hv' g hg; omega)
  · rcases at_snoc hr with hr | ⟨rfl, rfl⟩
    · exact owns_kept (h.each i r hr) K4 (fun g hg => ⟨fun e => by have := h.elow r (List.mem_of_getElem? hr) g hg; omega, hvr i r g hr hg⟩)
    · exact owns_kept (owns_new hz hs) K2 (fun g hg => by
        obtain rfl := hnew g hg
        exact ⟨by omega, fun e => by have := hvz _ e; omega⟩)
  · rcases List.mem_append.1 hr with hr | hr
    · exact h.elow r hr g hg
    · rw [List.mem_singleton] at hr
      subst hr
      have := hnew g hg
      omega
  · rcases at_snoc hi with hi | ⟨rfl, rfl⟩
    · rcases at_snoc hj with hj | ⟨rfl, rfl⟩
      · exact h.sep i j r s hi hj hne g hg hg'
      · have := hnew g hg'
        have := ((h.each i r hi).lt g hg).2
        omega
    · rcases at_snoc hj with hj | ⟨rfl, rfl⟩
      · have := hnew g hg
        have := ((h.each j s hj).lt g hg').2
        omega
      · exact hne rfl
  · rcases List.mem_append.1 hr with hr | hr
    · exact h.zero r hr
    · rw [List.mem_singleton] at hr
      subst hr
      exact ⟨rfl, rfl⟩
/-- It is made. -/
theorem RNew.done {w wr : World} {Bp x ks sz n : Nat} {v : Value} {M : List HS} (h : RNew w wr Bp x ks sz n v M) (hM : M.length = n) (hs : 1 ≤ sz ∧ sz ≤ 1024) (hn : 1 ≤ n ∧ n ≤ 1024) (hk : 1 ≤ ks ∧ ks ≤ 64) : ∃ y lc, RHsh wr w.heap.size x y lc ks sz M := by
  rcases h.row.2 with ⟨h0, h1⟩ | ⟨g, cap, cur, rfl, rest⟩
  · exfalso; omega
  · have hlow := h.low
    refine ⟨g, cap, ?_, h.row, h.each, fun q hq => ?_, h.sep, fun i r k hr hk' => ?_, hs, by omega, hk⟩
    · have := h.blk
      rw [← hM] at this
      exact this
    · rcases hq with rfl | rfl | ⟨r, hr, hg⟩
      · omega
      · have := h.vlow q rfl
        omega
      · have := h.elow r hr q hg
        omega
    · rw [(h.zero r (List.mem_of_getElem? hr)).1] at hk'
      cases hk'
end Go.Proofs.YtolodcdhpnapmaaGreat

/-
  The document's New of a right make.
-/
namespace Go.Proofs.YtolodcdhpnapmaaGreat
open Go.RowKit Go.Maps Go.Sort
set_option linter.unusedVariables false

theorem step_append_run1 {P : Program} (w w2 : World) {ops : Array Oper} {o : Oper} {a : Act} {K : Act → World → Prop} {Q : Exit → Act → World → Prop} {E : Prop} (hgd : o.guard = none) (s x : Operand) (t : TypeId)
    (ho : o.op = .call { callee := .builtin .append, args := #[s, x], argTypes := #[t, t] }) (v vx v' : Value) (hs : a.eval s = v) (hx : a.eval x = vx) (hrun : (Builtin.append_ #[t, t] o.type #[v, vx]).run P w = .ok v' w2)
    (h : K (a.put o.dst v') w2) : if Region.wanted o (yielded ops a.tmps) = true then Oper.wp P o a w K Q else E := by
  have hw : Region.wanted o (yielded ops a.tmps) = true := by simp [Region.wanted, hgd]
  rw [if_pos hw]
  unfold Oper.wp execOp
  simp only [ho, resolve, invoke, builtin, Sem.run_bind, Sem.run_pure, Result.andThen_ok, List.map_toArray, List.map_cons, List.map_nil, hs, hx, hrun]
  exact h
theorem cellsR_snoc (sz : Nat) (M : List HS) (z : HS) : cellsR sz (M ++ [z]) = cellsR sz M ++ z.vals3 sz := by simp [cellsR]
theorem vals3_one (sz : Nat) (r : HS) : ∀ u ∈ r.vals3 sz, u.oneCell' = true := by
  intro u hu
  simp only [HS.vals3, List.mem_cons, List.not_mem_nil, or_false] at hu
  rcases hu with rfl | rfl | rfl <;> rfl
/-- What the document's New tells of a right make. -/
def RNewTold (n ks sz : Nat) (w : World) (e : Ending) (w' : World) : Prop := ∃ x y lc M, e = .returned (.tuple #[.pointer (some ⟨x, 0, none⟩), .int .i64 0]) ∧ RHsh w' w.heap.size x y lc ks sz M ∧ M.length = n ∧ (∀ r ∈ M, r.key = none ∧ r.bs = List.replicate sz 0) ∧ Below w.heap.size w w'
set_option maxRecDepth 100000 in
set_option maxHeartbeats 4000000 in
theorem rnew_yes (n ks sz : Nat) (w : World) (hsp : specM 2 ks sz n = 0) (hk : 1 ≤ ks ∧ ks ≤ 64) (hs : 1 ≤ sz ∧ sz ≤ 1024) (hn : 1 ≤ n ∧ n ≤ 1024) :
    Calls Tryz.prog 5 #[.agg #[.int .u8 2, .int .i64 ks, .int .i64 sz, .int .i64 n]] w (RNewTold n ks sz w) := by
  have hx := World.alloc_heap_new w (.cells #[.int .u8 2, .int .i64 ks, .int .i64 sz, .int .i64 n] 25)
  have hb0 := below1 w (.cells #[.int .u8 2, .int .i64 ks, .int .i64 sz, .int .i64 n] 25)
  have hz0 : (w.alloc (.cells #[.int .u8 2, .int .i64 ks, .int .i64 sz, .int .i64 n] 25)).heap.size = w.heap.size + 1 := by simp
  have hS := rspec_any 2 ks sz n (w.alloc (.cells #[.int .u8 2, .int .i64 ks, .int .i64 sz, .int .i64 n] 25)) (by decide)
  rw [hsp] at hS
  have HSP := hide hS
  have HX0 := hide hx
  have HB0 := hide hb0
  have HZ0 := hide hz0
  clear hx hb0 hS hsp hz0
  go_enter Tryz.func5, Tryz.ntmps5
  go_wp2_with (go_at_call 14; refine HSP.out.mono ?_; rintro e w1 ⟨rfl, hb⟩; have HB := hide hb; have hxx := (hb.block _ (at_lt HX0.out)).trans HX0.out; have d0 := (blk_cell hxx 0).trans rfl; have d1 := (blk_cell hxx 1).trans rfl; have d2 := (blk_cell hxx 2).trans rfl; have d3 := (blk_cell hxx 3).trans rfl; have HX := hide hxx; clear hb hxx)
  clear d0 d1 d2 d3
  have HN0 : Hid (RNew w (w1.alloc (.cells #[.int .u8 2, .int .i64 ks, .int .i64 sz, .int .i64 n, .slice none 0 0] 55)) w.heap.size w1.heap.size ks sz n (.slice none 0 0) []) := hide (by
    have hb := below1 w1 (.cells #[.int .u8 2, .int .i64 ks, .int .i64 sz, .int .i64 n, .slice none 0 0] 55)
    have hw := HB.out.size
    have hz := HZ0.out
    refine ⟨(hb.block _ (at_lt HX.out)).trans HX.out, World.alloc_heap_new w1 _, owns_nil _ _ _, fun i r hr => ?_, (fun g hg => by cases hg), fun r hr => ?_, fun i j r s hi => ?_, fun r hr => ?_, ⟨Nat.le_refl _, by omega⟩, (HB0.out.trans (HB.out.mono HB0.out.size)).trans (hb.mono (by omega))⟩
    · simp at hr
    · simp at hr
    · simp at hi
    · simp at hr)
  go_loopw [6] (fun u wr => ∃ (i : Nat) (v : Value) (M : List HS), i ≤ n ∧ u = .int .i64 i ∧ M.length = i ∧ RNew w wr w.heap.size w1.heap.size ks sz n v M) (fun u _ => n - (intOf u).toNat)
  case atStart => exact ⟨0, _, [], Nat.zero_le _, rfl, rfl, HN0.out⟩
  case round =>
    obtain ⟨i, v, M, hi, rfl, hM, hK⟩ := hrel
    clear HN0
    have b3 : wr.cell? ⟨w.heap.size, 3, none⟩ = some (.int .i64 n) := (blk_cell hK.box 3).trans rfl
    have HK := hide hK
    have jb : (i : Int) ≤ 1024 := by omega
    by_cases hin : i < n
    · obtain ⟨i0, hinf, hz0, hz1, hz2⟩ := rplace_parts
      have b2 : wr.cell? ⟨w.heap.size, 2, none⟩ = some (.int .i64 sz) := (blk_cell hK.box 2).trans rfl
      have hzz := fun W => zeros_made Tryz.underlying34 sz (by omega) W
      have hba := below1 wr (.cells (u8s (List.replicate sz 0)).toArray 5)
      have hbb := below2 wr (.cells (u8s (List.replicate sz 0)).toArray 5) (.cells #[.bool false, .string ⟨#[]⟩, .slice (some ⟨wr.heap.size, 0, none⟩) sz sz] 57)
      obtain ⟨q0, q1⟩ := two_boxes wr (.cells (u8s (List.replicate sz 0)).toArray 5) (.cells #[.bool false, .string ⟨#[]⟩, .slice (some ⟨wr.heap.size, 0, none⟩) sz sz] 57)
      have hsize : ((wr.alloc (.cells (u8s (List.replicate sz 0)).toArray 5)).alloc (.cells #[.bool false, .string ⟨#[]⟩, .slice (some ⟨wr.heap.size, 0, none⟩) sz sz] 57)).drew.heap.size = wr.heap.size + 2 := by
        show ((wr.alloc (.cells (u8s (List.replicate sz 0)).toArray 5)).alloc (.cells #[.bool false, .string ⟨#[]⟩, .slice (some ⟨wr.heap.size, 0, none⟩) sz sz] 57)).heap.size = _
        simp
      have c0 : wr.cell? ⟨w1.heap.size, 4, none⟩ = some v := (blk_cell hK.blk 4).trans rfl
      have ca := (hba.cell (World.block_lt_of_cell? wr _ c0)).trans c0
      have cb := (hbb.cell (World.block_lt_of_cell? wr _ c0)).trans c0
      have hown : ((wr.alloc (.cells (u8s (List.replicate sz 0)).toArray 5)).alloc (.cells #[.bool false, .string ⟨#[]⟩, .slice (some ⟨wr.heap.size, 0, none⟩) sz sz] 57)).drew.ownsRow 0 57 3 (.slice (some ⟨wr.heap.size + 1, 0, none⟩) 1 1) 1 ((zPl sz wr.heap.size).vals3 sz) :=
        ⟨rfl, .inr ⟨wr.heap.size + 1, 1, _, rfl, Nat.zero_le _, q1, Nat.le_refl _, by unfold maxLen; omega, rfl, rfl⟩⟩
      obtain ⟨v', w3, hrun, hl⟩ := run_append_rd (P := Tryz.prog) ((wr.alloc (.cells (u8s (List.replicate sz 0)).toArray 5)).alloc (.cells #[.bool false, .string ⟨#[]⟩, .slice (some ⟨wr.heap.size, 0, none⟩) sz sz] 57)).drew 53 53 57 i0 _ 3 48 Tryz.underlying53 hinf hz0 hz1 hz2 rfl (by decide) v M.length (cellsR sz M) (owns_kept_below hK.row hbb.drew) _ (some ⟨wr.heap.size + 1, 0, none⟩) 1 1 ((zPl sz wr.heap.size).vals3 sz) (Rd.of_own hown) nofun (vals3_one sz _) (by unfold maxLen; omega) (by omega)
      rw [← cellsR_snoc] at hl
      obtain ⟨A', c', rfl, _⟩ := owns_slice hl.1
      have hvx : v.ownBlock ≠ some w1.heap.size := fun e => by have := hK.vlow _ e; omega
      have hx3 := (hl.2.1.block w1.heap.size (by rw [hsize]; have := at_lt hK.blk; omega) (fun e => hvx e.symm)).trans ((hbb.drew.block _ (at_lt hK.blk)).trans hK.blk)
      have c3 : w3.cell? ⟨w1.heap.size, 4, none⟩ = some v := (blk_cell hx3 4).trans rfl
      have f3 : w3.frozen? ⟨w1.heap.size, 4, none⟩ = false := by simp [World.frozen?, hx3]
      have HM := hide (hK.more hs.2 hbb.drew q0 hl)
      have HML := hide hM
      have j0 : (0 : Int) ≤ (i : Int) := by omega
      have j1 : (i : Int) < (n : Int) := by omega
      clear hinf hz0 hz1 hz2 hK hba hbb q0 q1 hsize hown hl hvx hx3 hM
      go_wp2_with fail
      clear b3
      go_region_law (refine step_append_run1 _ w3 (by rfl) (.tmp 28) (.tmp 33) 53 (by rfl) _ _ _ (by rfl) (by rfl) hrun ?_)
      all_goals (
        clear b2 hzz c0 ca cb hrun c3 f3
        generalize w3.setCell ⟨w1.heap.size, 4, none⟩ (.slice A' (M.length + 1) c') = w4 at *
        go_wp2_with fail
        go_roundw
        case rel => exact ⟨i + 1, _, _, by omega, by go_num, by rw [List.length_append, HML.out]; rfl, HM.out⟩
        case measure => simp [intOf]; omega)
    · obtain rfl : i = n := by omega
      obtain ⟨y, lc, hR⟩ := hK.done hM hs hn hk
      have HR := hide hR
      have HZE := hide hK.zero
      have HML := hide hM
      clear hK hR hM
      go_wp2_with fail
      go_ret2
      exact ⟨_, y, lc, M, rfl, HR.out, HML.out, HZE.out, HK.out.below⟩
end Go.Proofs.YtolodcdhpnapmaaGreat

/-
  What is asked of a hash hangs on its keys and bytes alone, not on where they stand.
-/
namespace Go.Proofs.YtolodcdhpnapmaaGreat
open Go.RowKit Go.Maps Go.Sort
set_option linter.unusedVariables false

/-- Two rows of places hold the same keys and bytes. -/
def Par (L M : List HS) : Prop := L.map (fun r => (r.key, r.bs)) = M.map (fun r => (r.key, r.bs))
section
variable {L M : List HS}
theorem Par.refl (L : List HS) : Par L L := rfl
theorem Par.len (h : Par L M) : L.length = M.length := by
  have := congrArg List.length h
  simpa using this
theorem Par.at (h : Par L M) {i : Nat} {r : HS} (hr : L[i]? = some r) : ∃ s, M[i]? = some s ∧ s.key = r.key ∧ s.bs = r.bs := by
  have e : (L.map (fun r => (r.key, r.bs)))[i]? = (M.map (fun r => (r.key, r.bs)))[i]? := by rw [show L.map (fun r => (r.key, r.bs)) = M.map (fun r => (r.key, r.bs)) from h]
  rw [List.getElem?_map, List.getElem?_map, hr] at e
  cases hm : M[i]? with
  | none => rw [hm] at e; cases e
  | some s =>
    rw [hm] at e
    injection e with e
    injection e with e1 e2
    exact ⟨s, rfl, e1.symm, e2.symm⟩
theorem Par.none (h : Par L M) {i : Nat} (hr : L[i]? = none) : M[i]? = none := by
  rw [List.getElem?_eq_none_iff] at hr ⊢
  rw [← h.len]
  exact hr
theorem Par.find (h : Par L M) (k : List UInt8) : findK L k = findK M k := by
  have e : ∀ N : List HS, findK N k = (N.map (fun r => (r.key, r.bs))).findIdx? (fun p => p.1 == some k) := fun N => by
    unfold findK
    rw [List.findIdx?_map]
    rfl
  rw [e, e, show L.map (fun r => (r.key, r.bs)) = M.map (fun r => (r.key, r.bs)) from h]
theorem Par.free (h : Par L M) : freeK L = freeK M := by
  have e : ∀ N : List HS, freeK N = (N.map (fun r => (r.key, r.bs))).findIdx? (fun p => p.1.isNone) := fun N => by
    unfold freeK
    rw [List.findIdx?_map]
    rfl
  rw [e, e, show L.map (fun r => (r.key, r.bs)) = M.map (fun r => (r.key, r.bs)) from h]
theorem Par.keys (h : Par L M) : keysM L = keysM M := by
  have e : ∀ N : List HS, N.filterMap (·.key) = (N.map (fun r => (r.key, r.bs))).filterMap (·.1) := fun N => by
    rw [List.filterMap_map]
    rfl
  unfold keysM
  rw [e, e, show L.map (fun r => (r.key, r.bs)) = M.map (fun r => (r.key, r.bs)) from h]
theorem Par.set (h : Par L M) (i : Nat) {t u : HS} (hk : t.key = u.key) (hb : t.bs = u.bs) : Par (L.set i t) (M.set i u) := by
  unfold Par at h ⊢
  rw [List.map_set, List.map_set, h, hk, hb]
theorem Par.putB (h : Par L M) (i off : Nat) (d : List Int) : Par (putB L i off d) (putB M i off d) := by
  unfold YtolodcdhpnapmaaGreat.putB
  cases hr : L[i]? with
  | none => rw [h.none hr]; exact h
  | some r =>
    obtain ⟨s, hs, h1, h2⟩ := h.at hr
    rw [hs]
    exact h.set i h1.symm (by simp only [h2])
theorem Par.dropK (h : Par L M) (i : Nat) : Par (dropK L i) (dropK M i) := by
  unfold YtolodcdhpnapmaaGreat.dropK
  cases hr : L[i]? with
  | none => rw [h.none hr]; exact h
  | some r =>
    obtain ⟨s, hs, h1, h2⟩ := h.at hr
    rw [hs]
    exact h.set i rfl h2.symm
theorem Par.putK (h : Par L M) (k : List UInt8) : Par (putK L k) (putK M k) := by
  unfold YtolodcdhpnapmaaGreat.putK
  rw [← h.find, ← h.free]
  cases findK L k with
  | some i => exact h
  | none =>
    cases freeK L with
    | none => exact h
    | some j =>
      simp only
      cases hr : L[j]? with
      | none => rw [h.none hr]; exact h
      | some r =>
        obtain ⟨s, hs, h1, h2⟩ := h.at hr
        rw [hs]
        exact h.set j rfl h2.symm
theorem Par.putAt (h : Par L M) (k : List UInt8) : putAt L k = putAt M k := by
  unfold YtolodcdhpnapmaaGreat.putAt
  rw [← h.find, ← h.free]
theorem Par.pickE (h : Par L M) (k : List UInt8) (fl : Int) : pickE L k fl = pickE M k fl := by
  unfold YtolodcdhpnapmaaGreat.pickE
  rw [← h.find, ← h.free]
theorem Par.lookE (h : Par L M) (ks n : Nat) (k : List UInt8) : lookE ks n L k = lookE ks n M k := by
  unfold YtolodcdhpnapmaaGreat.lookE
  rw [← h.find]
theorem Par.updE (h : Par L M) (ks sz n q : Nat) (k : List UInt8) (fl : Int) : updE ks sz n q L k fl = updE ks sz n q M k fl := by
  unfold YtolodcdhpnapmaaGreat.updE
  rw [h.pickE]
theorem Par.delE (h : Par L M) (ks n : Nat) (k : List UInt8) : delE ks n L k = delE ks n M k := by
  unfold YtolodcdhpnapmaaGreat.delE
  rw [← h.find]
theorem Par.updL (h : Par L M) (ks sz n q : Nat) (k : List UInt8) (fl : Int) (d : List Int) : Par (updL ks sz n q L k fl d) (updL ks sz n q M k fl d) := by
  unfold YtolodcdhpnapmaaGreat.updL
  rw [h.updE, h.putAt]
  split
  · exact (h.putK k).putB _ _ _
  · exact h
theorem Par.delL (h : Par L M) (ks n : Nat) (k : List UInt8) : Par (delL ks n L k) (delL ks n M k) := by
  unfold YtolodcdhpnapmaaGreat.delL
  rw [← h.find]
  split
  · cases findK L k with
    | some i => exact h.dropK i
    | none => exact h
  · exact h
theorem Par.setL (h : Par L M) (sz : Nat) (i off : Int) (k : Nat) (d : List Int) : Par (setL L sz i off k d) (setL M sz i off k d) := by
  unfold YtolodcdhpnapmaaGreat.setL
  rw [h.len]
  split
  · exact h.putB _ _ _
  · exact h
end
end Go.Proofs.YtolodcdhpnapmaaGreat

/-
  Keys put in one by one, each at its place: the keys, rising. No program is named here but the hash's model.
-/
namespace Go.Proofs.YtolodcdhpnapmaaGreat
open Go.RowKit Go.Maps Go.Sort
set_option linter.unusedVariables false

/-- How many of the first of l are less than k. -/
def spotK (k : List UInt8) : List (List UInt8) → Nat
  | [] => 0
  | x :: l => if x < k then spotK k l + 1 else 0
def insM (k : List UInt8) (l : List (List UInt8)) : List (List UInt8) := l.take (spotK k l) ++ k :: l.drop (spotK k l)
theorem spotK_le (k : List UInt8) : ∀ l, spotK k l ≤ l.length
  | [] => Nat.le_refl _
  | x :: l => by
    unfold spotK
    have := spotK_le k l
    split
    · simp; omega
    · simp
theorem spotK_less (k : List UInt8) : ∀ (l : List (List UInt8)) (j : Nat) (x : List UInt8), j < spotK k l → l[j]? = some x → x < k
  | [], j, x, h, _ => by simp [spotK] at h
  | y :: l, j, x, h, hx => by
    unfold spotK at h
    split at h
    · rename_i hy
      cases j with
      | zero => simp at hx; rw [← hx]; exact hy
      | succ j => exact spotK_less k l j x (by omega) (by simpa using hx)
    · omega
theorem spotK_stop (k : List UInt8) : ∀ (l : List (List UInt8)) (x : List UInt8), l[spotK k l]? = some x → ¬ x < k
  | [], x, h => by simp at h
  | y :: l, x, h => by
    unfold spotK at h
    split at h
    · rename_i hy
      exact spotK_stop k l x (by simpa using h)
    · rename_i hy
      simp at h
      rw [← h]
      exact hy
/-- It is found by going on while they are less. -/
theorem spotK_is {k : List UInt8} {l : List (List UInt8)} {j : Nat} (hj : j ≤ l.length) (h : ∀ (i : Nat) (x : List UInt8), i < j → l[i]? = some x → x < k) (hs : ∀ x, l[j]? = some x → ¬ x < k) : spotK k l = j := by
  rcases Nat.lt_trichotomy (spotK k l) j with h1 | h1 | h1
  · obtain ⟨x, hx⟩ : ∃ x, l[spotK k l]? = some x := ⟨_, List.getElem?_eq_getElem (by omega)⟩
    exact absurd (h _ x h1 hx) (spotK_stop k l x hx)
  · exact h1
  · obtain ⟨x, hx⟩ : ∃ x, l[j]? = some x := ⟨_, List.getElem?_eq_getElem (by have := spotK_le k l; omega)⟩
    exact absurd (spotK_less k l j x h1 hx) (hs x hx)
theorem insM_perm (k : List UInt8) (l : List (List UInt8)) : (insM k l).Perm (k :: l) := by
  unfold insM
  refine (List.perm_middle).trans (List.Perm.cons k ?_)
  rw [List.take_append_drop]
theorem insM_sorted {k : List UInt8} : ∀ {l : List (List UInt8)}, l.Pairwise (fun a b => a ≤ b) → (insM k l).Pairwise (fun a b => a ≤ b)
  | [], _ => by simp [insM, spotK]
  | x :: l, h => by
    rw [List.pairwise_cons] at h
    have ih := insM_sorted (k := k) h.2
    unfold insM spotK
    split
    · rename_i hx
      show (x :: (l.take (spotK k l) ++ k :: l.drop (spotK k l))).Pairwise _
      rw [List.pairwise_cons]
      refine ⟨fun y hy => ?_, ih⟩
      have : y ∈ k :: l := (insM_perm k l).mem_iff.1 hy
      rcases List.mem_cons.1 this with rfl | hy
      · exact List.le_of_lt hx
      · exact h.1 y hy
    · rename_i hx
      show (k :: x :: l).Pairwise _
      rw [List.pairwise_cons]
      refine ⟨fun y hy => ?_, List.pairwise_cons.2 h⟩
      have hkx : k ≤ x := List.not_lt.1 hx
      rcases List.mem_cons.1 hy with rfl | hy
      · exact hkx
      · exact List.le_trans hkx (h.1 y hy)
/-- The keys of the first j places, put in one by one. -/
def insT (M : List HS) (j : Nat) : List (List UInt8) := (M.take j).foldl (fun l r => match r.key with | some k => insM k l | none => l) []
theorem insT_0 (M : List HS) : insT M 0 = [] := rfl
theorem insT_succ {M : List HS} {j : Nat} {r : HS} (hr : M[j]? = some r) : insT M (j + 1) = match r.key with | some k => insM k (insT M j) | none => insT M j := by
  unfold insT
  rw [List.take_add_one, hr]
  simp [List.foldl_append]
theorem insT_facts (M : List HS) : ∀ j, j ≤ M.length → (insT M j).Perm ((M.take j).filterMap (·.key)) ∧ (insT M j).Pairwise (fun a b => a ≤ b)
  | 0, _ => by simp [insT]
  | j + 1, h => by
    obtain ⟨r, hr⟩ : ∃ r, M[j]? = some r := ⟨_, List.getElem?_eq_getElem (by omega)⟩
    obtain ⟨h1, h2⟩ := insT_facts M j (by omega)
    rw [insT_succ hr, List.take_add_one, hr, List.filterMap_append]
    cases hk : r.key with
    | none => simpa [hk] using ⟨h1, h2⟩
    | some k =>
      refine ⟨?_, insM_sorted h2⟩
      have e : (some r).toList.filterMap (·.key) = [k] := by simp [hk]
      rw [e]
      exact ((insM_perm k _).trans (List.Perm.cons k h1)).trans (List.perm_append_singleton k _).symm
theorem insT_all (M : List HS) : insT M M.length = keysM M := by
  obtain ⟨h1, h2⟩ := insT_facts M M.length (Nat.le_refl _)
  rw [List.take_length] at h1
  have tr : ∀ a b c : List UInt8, leB a b = true → leB b c = true → leB a c = true := fun a b c h1 h2 => by simp only [leB, decide_eq_true_eq] at *; exact List.le_trans h1 h2
  have to : ∀ a b : List UInt8, (leB a b || leB b a) = true := fun a b => by simp only [leB, Bool.or_eq_true, decide_eq_true_eq]; exact List.le_total a b
  unfold keysM
  refine List.Perm.eq_of_pairwise (le := fun a b => leB a b = true) (fun a b _ _ h1 h2 => ?_) (h2.imp (fun h => by simpa [leB] using h)) (List.pairwise_mergeSort tr to _) (h1.trans (List.mergeSort_perm _ leB).symm)
  simp only [leB, decide_eq_true_eq] at h1 h2
  exact List.le_antisymm h1 h2
end Go.Proofs.YtolodcdhpnapmaaGreat

/-
  The first elements of a row of the call's own are a row of its own.
-/
namespace Go.Proofs.YtolodcdhpnapmaaGreat
open Go.RowKit
set_option linter.unusedVariables false
section
variable {P : Program} {w : World} {t e : TypeId} {n : Nat} {xs : List Value}
theorem owns_first {A : Option Addr} {c : Nat} (h : w.ownsRow 0 e 1 (.slice A n c) n xs) (k : Nat) (hk : k ≤ n) : w.ownsRow 0 e 1 (.slice A k c) k (xs.take k) := by
  have hl := h.1
  refine ⟨by simp; omega, ?_⟩
  rcases h.2 with ⟨h0, h1⟩ | ⟨g, cap, cur, h1, hb, hg, hnc, hcm, hcs, htake⟩
  · injection h0 with h2 h3 h4
    subst h2
    subst h4
    exact .inl ⟨by rw [show k = 0 by omega], by omega⟩
  · injection h1 with h2 h3 h4
    subst h2
    subst h4
    refine .inr ⟨g, c, cur, rfl, hb, hg, by omega, hcm, hcs, ?_⟩
    rw [← htake, List.take_take]
    congr 1
    omega
theorem cut_first {A : Option Addr} {c : Nat} (ht : P.underlying t = some (.slice e)) (hs : (P.info? e).map (·.size) = some 1) (h : w.ownsRow 0 e 1 (.slice A n c) n xs) (k : Nat) (hk : k ≤ n) :
    ∀ W, (Instr.slice t (.slice A n c) none (some (.int .i64 k)) none).run P W = .ok (.slice A k c) W := by
  obtain ⟨i, hi, hsi⟩ : ∃ i, P.info? e = some i ∧ i.size = 1 := by
    cases hq : P.info? e with
    | none => rw [hq] at hs; cases hs
    | some i => rw [hq] at hs; exact ⟨i, rfl, by simpa using hs⟩
  have hcap : n ≤ c := by
    rcases h.2 with ⟨h0, h1⟩ | ⟨g, cap, cur, h0, _, _, hnc, _⟩
    · injection h0 with _ _ h2; omega
    · injection h0 with _ _ h2; omega
  intro W
  have hht : P.underlying t = some (.slice (P.elem t)) := by simp [Program.elem, ht]
  rw [run_slice_h (P := P) W t A n c hht .i64 k (by omega) (by omega)]
  have : P.elem t = e := by simp [Program.elem, ht]
  rw [this]
  simp only [sizeOf, typeInfo]
  simp [hi, hsi, Result.andThen, sliced]
  intro _
  rcases h.2 with ⟨h0, _⟩ | ⟨g, cap, cur, h0, _⟩
  · injection h0 with h1
    subst h1
    rfl
  · injection h0 with h1
    subst h1
    rw [Option.map_some, add_own]
end
/-- A key is put in among the keys that are told. -/
theorem KeysTold.ins {w w2 : World} {B at_ : Nat} {v v2 : Value} {rs : List KR} {r : KR} (h : KeysTold w B v rs) (hB : B ≤ w.heap.size) (hk : Kept (fun g => v.ownBlock ≠ some g) w w2) (hr : r.At w2) (hg : w.heap.size ≤ r.g)
    (ho : w2.ownsRow 0 34 1 v2 (rs.length + 1) ((rs.take at_ ++ r :: rs.drop at_).map KR.sl)) (hv2 : ∀ g, v2.ownBlock = some g → B ≤ g) : KeysTold w2 B v2 (rs.take at_ ++ r :: rs.drop at_) := by
  have hlen : (rs.take at_ ++ r :: rs.drop at_).length = rs.length + 1 := by
    simp
    omega
  have hmem : ∀ s ∈ rs.take at_ ++ r :: rs.drop at_, s = r ∨ s ∈ rs := fun s hs => by
    rcases List.mem_append.1 hs with hs | hs
    · exact .inr (List.mem_of_mem_take hs)
    · rcases List.mem_cons.1 hs with rfl | hs
      · exact .inl rfl
      · exact .inr (List.mem_of_mem_drop hs)
  have hnd : ∀ (l : List KR), (l.map KR.g).Nodup → ∀ (i j : Nat) (a b : KR), l[i]? = some a → l[j]? = some b → i ≠ j → a.g ≠ b.g := fun l hl i j a b ha hb hne e => by
    have h1 : (l.map KR.g)[i]? = some a.g := by rw [List.getElem?_map, ha]; rfl
    have h2 : (l.map KR.g)[j]? = some b.g := by rw [List.getElem?_map, hb]; rfl
    obtain ⟨b1, c1⟩ := List.getElem?_eq_some_iff.1 h1
    obtain ⟨b2, c2⟩ := List.getElem?_eq_some_iff.1 h2
    exact hne ((List.getElem_inj hl).1 (by rw [c1, c2, e]))
  have hold : (rs.map KR.g).Nodup := by
    rw [List.nodup_iff_pairwise_ne, List.pairwise_iff_getElem]
    intro i j hi hj hij
    simp only [List.getElem_map]
    exact h.sep i j _ _ (List.getElem?_eq_getElem (by simpa using hi)) (List.getElem?_eq_getElem (by simpa using hj)) (by omega)
  have hperm : ((rs.take at_ ++ r :: rs.drop at_).map KR.g).Perm (r.g :: rs.map KR.g) := by
    have := (List.perm_middle (a := r) (l₁ := rs.take at_) (l₂ := rs.drop at_)).map KR.g
    rwa [List.take_append_drop] at this
  refine ⟨by rw [hlen]; exact ho, hv2, fun s hs => ?_, hnd _ (hperm.nodup_iff.2 (List.nodup_cons.2 ⟨fun hm => ?_, hold⟩))⟩
  · rcases hmem s hs with rfl | hs
    · exact ⟨hr, Nat.le_trans hB hg⟩
    · exact ⟨(h.each s hs).1.kept hk (h.off hs), (h.each s hs).2⟩
  · obtain ⟨s, hs, e⟩ := List.mem_map.1 hm
    obtain ⟨cur, m, h1, _⟩ := (h.each s hs).1
    have := at_lt h1
    omega
end Go.Proofs.YtolodcdhpnapmaaGreat

/-
  The document's Keys.
-/
namespace Go.Proofs.YtolodcdhpnapmaaGreat
open Go.RowKit Go.Maps Go.Sort
set_option linter.unusedVariables false

theorem less_list : ∀ (x y : List UInt8), Op.bytesLess x y = decide (x < y)
  | [], [] => by simp [Op.bytesLess]
  | _ :: _, [] => by simp [Op.bytesLess]
  | [], _ :: _ => by simp [Op.bytesLess]
  | a :: x, b :: y => by
    rw [Op.bytesLess, less_list x y]
    simp only [List.cons_lt_cons_iff]
    by_cases h1 : a < b <;> by_cases h2 : a = b <;> by_cases h3 : x < y <;> simp [h1, h2, h3]
theorem str_of (x : List UInt8) : (ByteArray.mk x.toArray).toList = x := by
  rw [Lib.toList_data]
theorem size22 : (Tryz.prog.info? 34).map (·.size) = some 1 := by kernel_rfl
theorem parts22 : ∃ i, Tryz.prog.info? 34 = some i ∧ i.zero = some (.slice none 0 0) ∧ i.size = 1 ∧ i.bytes = 24 := by
  have h := rows22
  cases hi : Tryz.prog.info? 34 with
  | none => rw [hi] at h; cases h
  | some i =>
    rw [hi] at h
    simp only [Option.map_some, Option.some.injEq, Prod.mk.injEq] at h
    exact ⟨i, rfl, h.1, h.2.1, h.2.2⟩
theorem empty22 (w : World) : (w.alloc (.cells #[] 34)).ownsRow 0 34 1 (.slice (some ⟨w.heap.size, 0, none⟩) 0 0) 0 [] :=
  ⟨rfl, .inr ⟨w.heap.size, 0, #[], rfl, Nat.zero_le _, World.alloc_heap_new w _, Nat.le_refl _, by unfold maxLen; omega, rfl, rfl⟩⟩
theorem conv_row (w : World) (k : List UInt8) : ∃ cap w3, (convert 9 34 (encStr k)).run Tryz.prog w.drew = .ok (.slice (some ⟨w.heap.size, 0, none⟩) k.length cap) w3 ∧ KR.At w3 ⟨w.heap.size, k, cap⟩ ∧ Below w.heap.size w w3 ∧ w3.heap.size = w.heap.size + 1 := by
  obtain ⟨cap, hcc, h⟩ := conv_text w.drew k
  exact ⟨cap, _, h, text_at w.drew k cap hcc, ((Below.refl _ w).drew.drew.alloc (Nat.le_refl _) _), by
    show (World.alloc w _).heap.size = _
    simp⟩
theorem KeysTold.at_ {w : World} {B n c j : Nat} {ad : Addr} {rs : List KR} {r : KR} (h : KeysTold w B (.slice (some ad) n c) rs) (hr : rs[j]? = some r) : w.cell? (ad.add j) = some (.slice (some ⟨r.g, 0, none⟩) r.k.length r.cap) := by
  obtain ⟨A, c', e, hrd⟩ := owns_slice h.row
  injection e with e1 e2 e3
  subst e1
  obtain ⟨ad', e, _, hc⟩ := hrd.2 (by have := (List.getElem?_eq_some_iff.1 hr).1; omega)
  injection e with e
  subst e
  exact hc j _ (by rw [List.getElem?_map, hr]; rfl)
theorem KeysTold.text {w : World} {B j : Nat} {v : Value} {rs : List KR} {r : KR} (h : KeysTold w B v rs) (hr : rs[j]? = some r) : (convert 34 9 (.slice (some ⟨r.g, 0, none⟩) r.k.length r.cap)).run Tryz.prog w = .ok (encStr r.k) w := by
  have := conv_key (c := r.cap) (ints_byte r.k) (h.each r (List.mem_of_getElem? hr)).1.rd (fun e => by cases e)
  rwa [kb_ints] at this
set_option maxRecDepth 100000 in
set_option maxHeartbeats 4000000 in
theorem rkeys_any (B x y lc ks sz : Nat) (M : List HS) (w : World) (h : RHsh w B x y lc ks sz M) :
    Calls Tryz.prog 23 #[.pointer (some ⟨x, 0, none⟩)] w fun e w' => ∃ v rs, e = .returned v ∧ KeysTold w' w.heap.size v rs ∧ rs.map KR.k = keysM M ∧ Below w.heap.size w w' := by
  have HH := hide h
  have HM := hide h.many
  clear h
  go_enter Tryz.func23, Tryz.ntmps23
  go_wp2_with fail
  go_loopw [3, 4, 5, 6] (fun out u a5 a6 wr => ∃ (j : Nat) (rs : List KR), j ≤ M.length ∧ u = .int .i64 j ∧ KeysTold wr w.heap.size out rs ∧ rs.map KR.k = insT M j ∧ Below w.heap.size w wr) (fun _ u _ _ _ => M.length - (intOf u).toNat)
  case atStart => exact ⟨0, [], Nat.zero_le _, rfl, ⟨owns_nil _ _ _, (fun g hg => by cases hg), (fun r hr => by simp at hr), (fun i j r s hi => by simp at hi)⟩, rfl, Below.refl _ _⟩
  case round =>
    obtain ⟨j, rs, hj, rfl, hkt, hks, hb⟩ := hrel
    have hh := HH.out.below hb
    have x4 := hh.c4
    have HB := hide hb
    have HKT := hide hkt
    have HKS := hide hks
    have jb : (j : Int) ≤ 1024 := by have := HM.out.2; omega
    obtain ⟨A, c, rfl, _⟩ := owns_slice hkt.row
    by_cases hjm : j < M.length
    · obtain ⟨r, hr⟩ : ∃ r, M[j]? = some r := ⟨_, List.getElem?_eq_getElem hjm⟩
      have HR := hide hr
      have j0 : (0 : Int) ≤ (j : Int) := by omega
      have j1 : (j : Int) < (M.length : Int) := by omega
      cases hk : r.key with
      | none =>
        have y0 := hh.is hr
        rw [hk] at y0
        simp only [Option.isSome_none] at y0
        clear hh hb hkt hks hr
        go_wp2_with fail
        go_roundw
        case rel => exact ⟨j + 1, rs, by omega, by go_num, HKT.out, by rw [insT_succ HR.out, hk]; exact HKS.out, HB.out⟩
        case measure => simp [intOf]; omega
      | some k =>
        have y0 := hh.is hr
        rw [hk] at y0
        simp only [Option.isSome_some] at y0
        have HKK := hide hk
        have HLR : Hid (rs.length ≤ 1024) := hide (by
          have e1 := (insT_facts M j (by omega)).1.length_eq
          rw [← hks, List.length_map] at e1
          have e2 := List.length_filterMap_le (·.key) (M.take j)
          rw [List.length_take] at e2
          have := HM.out.2
          omega)
        clear hh hb hkt hks hr hk
        go_wp2_with fail
        clear x4 y0
        generalize wr = wa at *
        go_loopw [5] (fun u wi => ∃ q : Nat, q ≤ rs.length ∧ u = .int .i64 q ∧ Below wa.heap.size wa wi ∧ ∀ (i : Nat) (s : KR), i < q → rs[i]? = some s → s.k < k) (fun u _ => rs.length - (intOf u).toNat)
        case atStart => exact ⟨0, Nat.zero_le _, rfl, Below.refl _ _, fun i s hi => by omega⟩
        case round =>
          obtain ⟨q, hq, rfl, hbi, hless⟩ := hrel
          have HBI := hide hbi
          have HLS := hide hless
          have hB' := HB.out.trans (hbi.mono HB.out.size)
          have F1 : ∀ X : Later wr, X.w.cell? ⟨x, 4, none⟩ = some (.slice (some ⟨y, 0, none⟩) M.length lc) := fun X => (HH.out.below (hB'.trans (X.below.mono hB'.size))).c4
          have F2 : ∀ X : Later wr, X.w.cell? ⟨y, j * 3 + 1, none⟩ = some (encStr k) := fun X => by
            have e := (HH.out.below (hB'.trans (X.below.mono hB'.size))).key HR.out
            rw [HKK.out] at e
            exact e
          have q0 : (0 : Int) ≤ (q : Int) := by omega
          have qb : (q : Int) ≤ 1024 := by have := HLR.out; omega
          have hKX : ∀ X : Later wr, KeysTold X.w w.heap.size (.slice A rs.length c) rs := fun X => HKT.out.below (hbi.trans (X.below.mono hbi.size))
          have HKX := hide hKX
          clear hB' hless hKX hbi
          by_cases hq2 : q < rs.length
          · have q1 : (q : Int) < (rs.length : Int) := by omega
            obtain ⟨s, hs⟩ : ∃ s, rs[q]? = some s := ⟨_, List.getElem?_eq_getElem hq2⟩
            obtain ⟨ad, rfl⟩ : ∃ ad, A = some ad := by
              obtain ⟨A', c', e, hrd⟩ := owns_slice HKT.out.row
              injection e with e1 e2 e3
              subst e1
              obtain ⟨ad, e, _⟩ := hrd.2 (by omega)
              exact ⟨ad, e⟩
            have F3 : ∀ X : Later wr, X.w.cell? (ad.add q) = some (.slice (some ⟨s.g, 0, none⟩) s.k.length s.cap) := fun X => (HKX.out X).at_ hs
            have F4 : ∀ X : Later wr, (convert 34 9 (.slice (some ⟨s.g, 0, none⟩) s.k.length s.cap)).run Tryz.prog X.w = .ok (encStr s.k) X.w := fun X => (HKX.out X).text hs
            have HSS := hide hs
            clear hs
            by_cases hlk : s.k < k
            · have F5 : Op.bytesLess (⟨s.k.toArray⟩ : ByteArray).toList (⟨k.toArray⟩ : ByteArray).toList = true := by rw [str_of, str_of, less_list]; exact decide_eq_true hlk
              have F6 : Op.bytesLess s.k k = true := by rw [less_list]; exact decide_eq_true hlk
              have HLK := hide hlk
              clear hlk
              go_wp2_with fail
              refine wp_region_later (by kernel_rfl) (by kernel_rfl) ?_
              repeat (first | go_big_quiet_step (fail) | (refine wpQuiet_step (fun K hK => ?_); go_simp; refine hK _ ?_; clear hK K))
              refine wpQuiet_nil ?_
              rintro _ ⟨Y, rfl⟩
              have HBW := hide (HBI.out.trans (Y.below.mono HBI.out.size))
              clear F1 F2 F3 F4 F5 F6 HKX
              generalize Y.w = wb at *
              go_wp2_with fail
              go_roundw
              case rel => exact ⟨q + 1, by omega, by go_num, HBW.out, fun i t hi ht => by
                by_cases e : i = q
                · subst e
                  rw [HSS.out] at ht
                  cases ht
                  exact HLK.out
                · exact HLS.out i t (by omega) ht⟩
              case measure => simp [intOf]; omega
            · have F5 : Op.bytesLess (⟨s.k.toArray⟩ : ByteArray).toList (⟨k.toArray⟩ : ByteArray).toList = false := by rw [str_of, str_of, less_list]; exact decide_eq_false hlk
              have F6 : Op.bytesLess s.k k = false := by rw [less_list]; exact decide_eq_false hlk
              have HSP : Hid (spotK k (insT M j) = q) := hide (spotK_is (by rw [← HKS.out, List.length_map]; exact hq) (fun i z hi hz => by
                rw [← HKS.out, List.getElem?_map] at hz
                cases ht : rs[i]? with
                | none => rw [ht] at hz; cases hz
                | some t => rw [ht] at hz; cases hz; exact HLS.out i t hi ht) (fun z hz => by
                rw [← HKS.out, List.getElem?_map, HSS.out] at hz
                cases hz
                exact hlk))
              clear hlk
              go_wp2_with fail
              refine wp_region_later (by kernel_rfl) (by kernel_rfl) ?_
              repeat (first | go_big_quiet_step (fail) | (refine wpQuiet_step (fun K hK => ?_); go_simp; refine hK _ ?_; clear hK K))
              refine wpQuiet_nil ?_
              rintro _ ⟨Y, rfl⟩
              have HBW := hide (HBI.out.trans (Y.below.mono HBI.out.size))
              clear F1 F2 F3 F4 F5 F6 HKX
              generalize Y.w = wb at *
              have hktb := HKT.out.below HBW.out
              have hrhb := HH.out.below (HB.out.trans (HBW.out.mono HB.out.size))
              obtain ⟨A2, c2, hcut, hg2⟩ := cut_rest (P := Tryz.prog) Tryz.underlying63 size22 hktb.row q hq
              have hrd := cut_rd hktb.row q (rs.length - q) (by omega) hg2
              have hnl : A2 = none → rs.length - q = 0 := fun e => by
                refine Classical.byContradiction fun hc => ?_
                obtain ⟨g, _, e2⟩ := hg2 (by omega)
                rw [e] at e2; cases e2
              have hcw := hcut (wb.alloc (.cells #[] 34))
              have hrd2 := hrd.below (below1 wb (.cells #[] 34))
              have HE := hide (empty22 wb)
              have HRD := hide hrd2
              have HNL := hide hnl
              have HKB := hide hktb
              obtain ⟨i0, hinf, hz0, hz1, hz2⟩ := parts22
              clear hktb hrd hcut hg2 hnl hrd2 hrhb
              go_wp2_with (with_reducible refine stop_append ?_)
              show Hid _
              refine start_here ?_
              clear hcw
              refine wpList_append_rd2 rfl _ _ _ _ rfl 34 i0 _ 1 24 Tryz.underlying63 Tryz.underlying63 hinf hz0 hz1 hz2 rfl (by decide) _ 0 [] rfl HE.out wb.heap.size A2 (rs.length - q) c2 _ rfl HRD.out HNL.out (fun u hu => ?_) (by have := HLR.out; unfold maxLen; omega) (by have := HLR.out; omega) ?_
              · have hu := List.mem_of_mem_take hu
                have hu := List.mem_of_mem_drop hu
                obtain ⟨s, _, rfl⟩ := List.mem_map.1 hu
                rfl
              intro v5 w2 hl
              rw [Nat.zero_add, List.nil_append] at hl
              have hv0 : ∀ g, (Value.slice (some ⟨wb.heap.size, 0, none⟩) 0 0).ownBlock = some g → wb.heap.size ≤ g := fun g hg => by
                simp [Value.ownBlock] at hg
                omega
              have hb2 := longer_below (below1 wb (.cells #[] 34)) (by simp) hv0 hl
              have hf5 := longer_from hl (by simp) hv0
              have ho5 := hl.1
              obtain ⟨R, rc, rfl, _⟩ := owns_slice ho5
              have hbw2 := HBW.out.trans (hb2.mono HBW.out.size)
              obtain ⟨cap, w3, hconv, hat, hb3, hz3⟩ := conv_row w2 k
              have hb4 := below1 w3 (.cells #[.slice (some ⟨w2.heap.size, 0, none⟩) k.length cap] 34)
              have hz4 : (w3.alloc (.cells #[.slice (some ⟨w2.heap.size, 0, none⟩) k.length cap] 34)).heap.size = w3.heap.size + 1 := by simp
              have own4 : (w3.alloc (.cells #[.slice (some ⟨w2.heap.size, 0, none⟩) k.length cap] 34)).ownsRow 0 34 1 (.slice (some ⟨w3.heap.size, 0, none⟩) 1 1) 1 [.slice (some ⟨w2.heap.size, 0, none⟩) k.length cap] :=
                ⟨rfl, .inr ⟨w3.heap.size, 1, _, rfl, Nat.zero_le _, World.alloc_heap_new w3 _, Nat.le_refl _, by unfold maxLen; omega, rfl, rfl⟩⟩
              have hb24 : Below w2.heap.size w2 (w3.alloc (.cells #[.slice (some ⟨w2.heap.size, 0, none⟩) k.length cap] 34)) := hb3.trans (hb4.mono hb3.size)
              have hba4 := hbw2.trans (hb24.mono hbw2.size)
              have hat4 := hat.kept (F := fun _ => True) (Kept.of_below hb4) trivial
              have h5at4 := owns_kept_below ho5 hb24
              have hvrow := (HKT.out.below hba4).row
              have hcutf := cut_first (P := Tryz.prog) Tryz.underlying63 size22 hvrow q hq
              have hvlt : ∀ g, (Value.slice (some ad) rs.length c).ownBlock = some g → g < wa.heap.size := fun g hg => (HKT.out.row.lt g hg).2
              have hob : (Value.slice (some ad) q c).ownBlock = (Value.slice (some ad) rs.length c).ownBlock := rfl
              obtain ⟨v6, w5, hrun1, hl1⟩ := run_append_rd (P := Tryz.prog) (w3.alloc (.cells #[.slice (some ⟨w2.heap.size, 0, none⟩) k.length cap] 34)) 63 63 34 i0 _ 1 24 Tryz.underlying63 hinf hz0 hz1 hz2 rfl (by decide) (.slice (some ad) q c) q ((rs.map KR.sl).take q) (owns_first hvrow q hq) _ (some ⟨w3.heap.size, 0, none⟩) 1 1 [.slice (some ⟨w2.heap.size, 0, none⟩) k.length cap] (Rd.of_own own4) nofun (fun u hu => by rw [List.mem_singleton] at hu; subst hu; rfl) (by have := HLR.out; unfold maxLen; omega) (by have := HLR.out; omega)
              have h5at5 := owns_kept (F := fun g => (Value.slice (some ad) rs.length c).ownBlock ≠ some g) h5at4 ((Kept.refl _ _).grown hl1.2.1 (fun g e _ hF => hF (by rw [← hob]; exact e))) (fun g hg e => by
                have := hf5 g hg
                have := hvlt g e
                have := HBW.out.size
                omega)
              obtain ⟨v7, w6, hrun2, hl2⟩ := run_append_rd (P := Tryz.prog) w5 63 63 34 i0 _ 1 24 Tryz.underlying63 hinf hz0 hz1 hz2 rfl (by decide) v6 (q + 1) _ hl1.1 _ R (rs.length - q) rc _ (Rd.of_own h5at5) (fun e => by
                refine Classical.byContradiction fun hc => ?_
                obtain ⟨ad, e', _⟩ := (Rd.of_own h5at5).2 (by omega)
                rw [e] at e'
                cases e') (fun u hu => by
                have hu := List.mem_of_mem_take hu
                have hu := List.mem_of_mem_drop hu
                obtain ⟨s, _, rfl⟩ := List.mem_map.1 hu
                rfl) (by have := HLR.out; unfold maxLen; omega) (by have := HLR.out; omega)
              have hv6 : ∀ g, v6.ownBlock = some g → (Value.slice (some ad) rs.length c).ownBlock = some g ∨ g = w3.heap.size + 1 := fun g hg => by
                rcases hl1.2.2 with e | e
                · exact .inl (by rw [← hob, ← e]; exact hg)
                · rw [e, hz4] at hg
                  injection hg with hg
                  exact .inr hg.symm
              have hK5 : Kept (fun g => (Value.slice (some ad) rs.length c).ownBlock ≠ some g ∧ g < w3.heap.size + 1) (w3.alloc (.cells #[.slice (some ⟨w2.heap.size, 0, none⟩) k.length cap] 34)) w6 :=
                ((Kept.refl _ _).grown hl1.2.1 (fun g e _ hF => hF.1 (by rw [← hob]; exact e))).grown hl2.2.1 (fun g e _ hF => by
                  rcases hv6 g e with h | h
                  · exact hF.1 h
                  · have := hF.2; omega)
              have hsz4 : wa.heap.size ≤ w3.heap.size := Nat.le_trans hbw2.size hb3.size
              have hKa : Kept (fun g => (Value.slice (some ad) rs.length c).ownBlock ≠ some g) wa w6 := by
                refine ⟨hK5.os.trans hba4.os, hK5.tape.trans hba4.tape, hK5.output.trans hba4.output, Nat.le_trans hba4.size hK5.size, fun g hg hF => (hK5.block g (Nat.lt_of_lt_of_le hg hba4.size) ⟨hF, by omega⟩).trans (hba4.block g hg)⟩
              have hat6 : KR.At w6 ⟨w2.heap.size, k, cap⟩ := hat4.kept hK5 ⟨fun e => by have h1 : w2.heap.size < wa.heap.size := hvlt _ e; have := hbw2.size; omega, by show w2.heap.size < _; omega⟩
              have hins := HKT.out.ins (at_ := q) (r := ⟨w2.heap.size, k, cap⟩) (v2 := v7) HB.out.size hKa hat6 hbw2.size (by
                have := hl2.1
                rw [show q + 1 + (rs.length - q) = rs.length + 1 by omega] at this
                have e : (rs.take q ++ (⟨w2.heap.size, k, cap⟩ : KR) :: rs.drop q).map KR.sl = (rs.map KR.sl).take q ++ [.slice (some ⟨w2.heap.size, 0, none⟩) k.length cap] ++ ((rs.map KR.sl).drop q).take (rs.length - q) := by
                  rw [List.take_of_length_le (l := (rs.map KR.sl).drop q) (by simp), List.map_append, List.map_cons, List.map_take, List.map_drop, List.append_assoc]
                  rfl
                rw [e]
                exact this) (fun g hg => by
                rcases hl2.2.2 with e | e
                · rw [e] at hg
                  rcases hv6 g hg with h | h
                  · exact HKT.out.low g h
                  · have := HB.out.size; omega
                · rw [e] at hg
                  injection hg with hg
                  have := hK5.size
                  have h9 := hl1.2.1.size
                  have := HB.out.size
                  omega)
              have hmap : (rs.take q ++ (⟨w2.heap.size, k, cap⟩ : KR) :: rs.drop q).map KR.k = insT M (j + 1) := by
                rw [insT_succ HR.out, HKK.out]
                simp only
                unfold insM
                rw [HSP.out, ← HKS.out, List.map_append, List.map_cons, List.map_take, List.map_drop]
              have hbel := HB.out.trans (hKa.to_below (B := w.heap.size) (fun g hg e => by have := HKT.out.low g e; omega) HB.out.size)
              obtain ⟨A7, c7, rfl, _⟩ := owns_slice hl2.1
              have hh2 := HH.out.below (HB.out.trans (hbw2.mono HB.out.size))
              have x4b := hh2.c4
              have y1b := hh2.key HR.out
              rw [HKK.out] at y1b
              simp only [Option.getD_some] at y1b
              have HINS := hide hins
              have HMAP := hide hmap
              have HBEL := hide hbel
              clear hh2 hins hmap hbel hat6 hKa hsz4 hK5 hv6 hl2 h5at5 hl1 hob hvlt hvrow h5at4 hat4 hba4 hb24 own4 hz4 hb4 hz3 hb3 hat hbw2 ho5 hf5 hb2 hv0 hl hinf hz0 hz1 hz2
              go_wp2_with fail
              go_region_law (first | (refine step_append_run1 _ w5 (by rfl) (.tmp 54) (.tmp 64) 63 (by rfl) _ _ _ (by rfl) (by rfl) hrun1 ?_) | (refine step_append_run1 _ w6 (by rfl) (.tmp 65) (.tmp 66) 63 (by rfl) _ _ _ (by rfl) (by rfl) hrun2 ?_))
              all_goals (
                clear x4b y1b hconv hrun1 hrun2 hcutf
                go_wp2_with fail
                go_roundw
                case rel => exact ⟨j + 1, _, by omega, by go_num, by
                  have e : q + 1 + (rs.length - q) = (rs.take q ++ (⟨w2.heap.size, k, cap⟩ : KR) :: rs.drop q).length := by simp; omega
                  exact HINS.out, HMAP.out, HBEL.out⟩
                case measure => simp [intOf]; omega)
          · have d1 : decide ((q : Int) < (rs.length : Int)) = false := decide_eq_false (by omega)
            have HSP : Hid (spotK k (insT M j) = q) := hide (spotK_is (by rw [← HKS.out, List.length_map]; exact hq) (fun i z hi hz => by
              rw [← HKS.out, List.getElem?_map] at hz
              cases ht : rs[i]? with
              | none => rw [ht] at hz; cases hz
              | some t => rw [ht] at hz; cases hz; exact HLS.out i t hi ht) (fun z hz => by
              rw [← HKS.out, List.getElem?_map, List.getElem?_eq_none (by omega)] at hz
              cases hz))
            go_wp2_with fail
            refine wp_region_later (by kernel_rfl) (by kernel_rfl) ?_
            repeat (first | go_big_quiet_step (fail) | (refine wpQuiet_step (fun K hK => ?_); go_simp; refine hK _ ?_; clear hK K))
            refine wpQuiet_nil ?_
            rintro _ ⟨Y, rfl⟩
            have HBW := hide (HBI.out.trans (Y.below.mono HBI.out.size))
            clear F1 F2 HKX d1
            generalize Y.w = wb at *
            have hktb := HKT.out.below HBW.out
            have hrhb := HH.out.below (HB.out.trans (HBW.out.mono HB.out.size))
            obtain ⟨A2, c2, hcut, hg2⟩ := cut_rest (P := Tryz.prog) Tryz.underlying63 size22 hktb.row q hq
            have hrd := cut_rd hktb.row q (rs.length - q) (by omega) hg2
            have hnl : A2 = none → rs.length - q = 0 := fun e => by
              refine Classical.byContradiction fun hc => ?_
              obtain ⟨g, _, e2⟩ := hg2 (by omega)
              rw [e] at e2; cases e2
            have hcw := hcut (wb.alloc (.cells #[] 34))
            have hrd2 := hrd.below (below1 wb (.cells #[] 34))
            have HE := hide (empty22 wb)
            have HRD := hide hrd2
            have HNL := hide hnl
            have HKB := hide hktb
            obtain ⟨i0, hinf, hz0, hz1, hz2⟩ := parts22
            clear hktb hrd hcut hg2 hnl hrd2 hrhb
            go_wp2_with (with_reducible refine stop_append ?_)
            show Hid _
            refine start_here ?_
            clear hcw
            refine wpList_append_rd2 rfl _ _ _ _ rfl 34 i0 _ 1 24 Tryz.underlying63 Tryz.underlying63 hinf hz0 hz1 hz2 rfl (by decide) _ 0 [] rfl HE.out wb.heap.size A2 (rs.length - q) c2 _ rfl HRD.out HNL.out (fun u hu => ?_) (by have := HLR.out; unfold maxLen; omega) (by have := HLR.out; omega) ?_
            · have hu := List.mem_of_mem_take hu
              have hu := List.mem_of_mem_drop hu
              obtain ⟨s, _, rfl⟩ := List.mem_map.1 hu
              rfl
            intro v5 w2 hl
            rw [Nat.zero_add, List.nil_append] at hl
            have hv0 : ∀ g, (Value.slice (some ⟨wb.heap.size, 0, none⟩) 0 0).ownBlock = some g → wb.heap.size ≤ g := fun g hg => by
              simp [Value.ownBlock] at hg
              omega
            have hb2 := longer_below (below1 wb (.cells #[] 34)) (by simp) hv0 hl
            have hf5 := longer_from hl (by simp) hv0
            have ho5 := hl.1
            obtain ⟨R, rc, rfl, _⟩ := owns_slice ho5
            have hbw2 := HBW.out.trans (hb2.mono HBW.out.size)
            obtain ⟨cap, w3, hconv, hat, hb3, hz3⟩ := conv_row w2 k
            have hb4 := below1 w3 (.cells #[.slice (some ⟨w2.heap.size, 0, none⟩) k.length cap] 34)
            have hz4 : (w3.alloc (.cells #[.slice (some ⟨w2.heap.size, 0, none⟩) k.length cap] 34)).heap.size = w3.heap.size + 1 := by simp
            have own4 : (w3.alloc (.cells #[.slice (some ⟨w2.heap.size, 0, none⟩) k.length cap] 34)).ownsRow 0 34 1 (.slice (some ⟨w3.heap.size, 0, none⟩) 1 1) 1 [.slice (some ⟨w2.heap.size, 0, none⟩) k.length cap] :=
              ⟨rfl, .inr ⟨w3.heap.size, 1, _, rfl, Nat.zero_le _, World.alloc_heap_new w3 _, Nat.le_refl _, by unfold maxLen; omega, rfl, rfl⟩⟩
            have hb24 : Below w2.heap.size w2 (w3.alloc (.cells #[.slice (some ⟨w2.heap.size, 0, none⟩) k.length cap] 34)) := hb3.trans (hb4.mono hb3.size)
            have hba4 := hbw2.trans (hb24.mono hbw2.size)
            have hat4 := hat.kept (F := fun _ => True) (Kept.of_below hb4) trivial
            have h5at4 := owns_kept_below ho5 hb24
            have hvrow := (HKT.out.below hba4).row
            have hcutf := cut_first (P := Tryz.prog) Tryz.underlying63 size22 hvrow q hq
            have hvlt : ∀ g, (Value.slice A rs.length c).ownBlock = some g → g < wa.heap.size := fun g hg => (HKT.out.row.lt g hg).2
            have hob : (Value.slice A q c).ownBlock = (Value.slice A rs.length c).ownBlock := by cases A <;> rfl
            obtain ⟨v6, w5, hrun1, hl1⟩ := run_append_rd (P := Tryz.prog) (w3.alloc (.cells #[.slice (some ⟨w2.heap.size, 0, none⟩) k.length cap] 34)) 63 63 34 i0 _ 1 24 Tryz.underlying63 hinf hz0 hz1 hz2 rfl (by decide) (.slice A q c) q ((rs.map KR.sl).take q) (owns_first hvrow q hq) _ (some ⟨w3.heap.size, 0, none⟩) 1 1 [.slice (some ⟨w2.heap.size, 0, none⟩) k.length cap] (Rd.of_own own4) nofun (fun u hu => by rw [List.mem_singleton] at hu; subst hu; rfl) (by have := HLR.out; unfold maxLen; omega) (by have := HLR.out; omega)
            have h5at5 := owns_kept (F := fun g => (Value.slice A rs.length c).ownBlock ≠ some g) h5at4 ((Kept.refl _ _).grown hl1.2.1 (fun g e _ hF => hF (by rw [← hob]; exact e))) (fun g hg e => by
              have := hf5 g hg
              have := hvlt g e
              have := HBW.out.size
              omega)
            obtain ⟨v7, w6, hrun2, hl2⟩ := run_append_rd (P := Tryz.prog) w5 63 63 34 i0 _ 1 24 Tryz.underlying63 hinf hz0 hz1 hz2 rfl (by decide) v6 (q + 1) _ hl1.1 _ R (rs.length - q) rc _ (Rd.of_own h5at5) (fun e => by
              refine Classical.byContradiction fun hc => ?_
              obtain ⟨ad, e', _⟩ := (Rd.of_own h5at5).2 (by omega)
              rw [e] at e'
              cases e') (fun u hu => by
              have hu := List.mem_of_mem_take hu
              have hu := List.mem_of_mem_drop hu
              obtain ⟨s, _, rfl⟩ := List.mem_map.1 hu
              rfl) (by have := HLR.out; unfold maxLen; omega) (by have := HLR.out; omega)
            have hv6 : ∀ g, v6.ownBlock = some g → (Value.slice A rs.length c).ownBlock = some g ∨ g = w3.heap.size + 1 := fun g hg => by
              rcases hl1.2.2 with e | e
              · exact .inl (by rw [← hob, ← e]; exact hg)
              · rw [e, hz4] at hg
                injection hg with hg
                exact .inr hg.symm
            have hK5 : Kept (fun g => (Value.slice A rs.length c).ownBlock ≠ some g ∧ g < w3.heap.size + 1) (w3.alloc (.cells #[.slice (some ⟨w2.heap.size, 0, none⟩) k.length cap] 34)) w6 :=
              ((Kept.refl _ _).grown hl1.2.1 (fun g e _ hF => hF.1 (by rw [← hob]; exact e))).grown hl2.2.1 (fun g e _ hF => by
                rcases hv6 g e with h | h
                · exact hF.1 h
                · have := hF.2; omega)
            have hsz4 : wa.heap.size ≤ w3.heap.size := Nat.le_trans hbw2.size hb3.size
            have hKa : Kept (fun g => (Value.slice A rs.length c).ownBlock ≠ some g) wa w6 := by
              refine ⟨hK5.os.trans hba4.os, hK5.tape.trans hba4.tape, hK5.output.trans hba4.output, Nat.le_trans hba4.size hK5.size, fun g hg hF => (hK5.block g (Nat.lt_of_lt_of_le hg hba4.size) ⟨hF, by omega⟩).trans (hba4.block g hg)⟩
            have hat6 : KR.At w6 ⟨w2.heap.size, k, cap⟩ := hat4.kept hK5 ⟨fun e => by have h1 : w2.heap.size < wa.heap.size := hvlt _ e; have := hbw2.size; omega, by show w2.heap.size < _; omega⟩
            have hins := HKT.out.ins (at_ := q) (r := ⟨w2.heap.size, k, cap⟩) (v2 := v7) HB.out.size hKa hat6 hbw2.size (by
              have := hl2.1
              rw [show q + 1 + (rs.length - q) = rs.length + 1 by omega] at this
              have e : (rs.take q ++ (⟨w2.heap.size, k, cap⟩ : KR) :: rs.drop q).map KR.sl = (rs.map KR.sl).take q ++ [.slice (some ⟨w2.heap.size, 0, none⟩) k.length cap] ++ ((rs.map KR.sl).drop q).take (rs.length - q) := by
                rw [List.take_of_length_le (l := (rs.map KR.sl).drop q) (by simp), List.map_append, List.map_cons, List.map_take, List.map_drop, List.append_assoc]
                rfl
              rw [e]
              exact this) (fun g hg => by
              rcases hl2.2.2 with e | e
              · rw [e] at hg
                rcases hv6 g hg with h | h
                · exact HKT.out.low g h
                · have := HB.out.size; omega
              · rw [e] at hg
                injection hg with hg
                have := hK5.size
                have h9 := hl1.2.1.size
                have := HB.out.size
                omega)
            have hmap : (rs.take q ++ (⟨w2.heap.size, k, cap⟩ : KR) :: rs.drop q).map KR.k = insT M (j + 1) := by
              rw [insT_succ HR.out, HKK.out]
              simp only
              unfold insM
              rw [HSP.out, ← HKS.out, List.map_append, List.map_cons, List.map_take, List.map_drop]
            have hbel := HB.out.trans (hKa.to_below (B := w.heap.size) (fun g hg e => by have := HKT.out.low g e; omega) HB.out.size)
            obtain ⟨A7, c7, rfl, _⟩ := owns_slice hl2.1
            have hh2 := HH.out.below (HB.out.trans (hbw2.mono HB.out.size))
            have x4b := hh2.c4
            have y1b := hh2.key HR.out
            rw [HKK.out] at y1b
            simp only [Option.getD_some] at y1b
            have HINS := hide hins
            have HMAP := hide hmap
            have HBEL := hide hbel
            clear hh2 hins hmap hbel hat6 hKa hsz4 hK5 hv6 hl2 h5at5 hl1 hob hvlt hvrow h5at4 hat4 hba4 hb24 own4 hz4 hb4 hz3 hb3 hat hbw2 ho5 hf5 hb2 hv0 hl hinf hz0 hz1 hz2
            go_wp2_with fail
            go_region_law (first | (refine step_append_run1 _ w5 (by rfl) (.tmp 54) (.tmp 64) 63 (by rfl) _ _ _ (by rfl) (by rfl) hrun1 ?_) | (refine step_append_run1 _ w6 (by rfl) (.tmp 65) (.tmp 66) 63 (by rfl) _ _ _ (by rfl) (by rfl) hrun2 ?_))
            all_goals (
              clear x4b y1b hconv hrun1 hrun2 hcutf
              go_wp2_with fail
              go_roundw
              case rel => exact ⟨j + 1, _, by omega, by go_num, by
                have e : q + 1 + (rs.length - q) = (rs.take q ++ (⟨w2.heap.size, k, cap⟩ : KR) :: rs.drop q).length := by simp; omega
                exact HINS.out, HMAP.out, HBEL.out⟩
              case measure => simp [intOf]; omega)
    · obtain rfl : j = M.length := by omega
      clear hh hkt hks hb
      go_wp2_with fail
      go_ret
      exact ⟨_, rs, rfl, HKT.out, by rw [HKS.out, insT_all], HB.out⟩
end Go.Proofs.YtolodcdhpnapmaaGreat
