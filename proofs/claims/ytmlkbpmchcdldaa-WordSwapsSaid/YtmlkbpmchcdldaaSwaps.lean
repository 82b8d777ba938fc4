/-
  The law WordSwaps, walked.
-/
import Derived.Test.YtmlkbpmchcdldaaBase
import Derived.Test.YtmlkbpmchcdldaaSwM
namespace Go.Proofs.Ytmlkbpmchcdldaa
open Go.RowKit Go.Maps
set_option linter.unusedVariables false

theorem sw (order k a : Int) (ha : W64 a) (hok : (swap order k 0).2 = true) (W : World) :
    Calls Try.prog 14 #[.int .i64 order, .int .i64 k, .int .u64 a] W fun e w' => e = .returned (.tuple #[.int .u64 (swapI order k a), .bool true]) ∧ W = w' := by
  have h := swap_any order k (bv a) W
  have h2 : (swap order k (bv a)).2 = true := by
    rw [← hok]; unfold swap; split
    · rfl
    · split <;> rfl
  rw [h2, nat_bv ha] at h
  exact h
theorem ex (a bytes : Int) (signed : Bool) (ha : W64 a) (hok : (extend 0 bytes false).2 = true) (W : World) :
    Calls Try.prog 16 #[.int .u64 a, .int .i64 bytes, .bool signed] W fun e w' => e = .returned (.tuple #[.int .u64 (extI a bytes signed), .bool true]) ∧ W = w' := by
  have h := extend_any (bv a) bytes signed W
  have h2 : (extend (bv a) bytes signed).2 = true := by
    rw [← hok]; unfold extend; split
    · rfl
    · split <;> rfl
  rw [h2, nat_bv ha] at h
  exact h

theorem swaps_16_1 (a : Int) (h : W64 a) : (swapI 2 16 (swapI 1 16 a) == swapI 0 16 a) = true := by
  obtain ⟨x, rfl⟩ := of64 h
  have h1 : swapI 1 16 (x.toNat : Int) = ((reversed 16 x).toNat : Int) := by unfold swapI; rw [bv_nat]; rfl
  have h2 : swapI 2 16 ((reversed 16 x).toNat : Int) = ((reversed 16 (reversed 16 x)).toNat : Int) := by unfold swapI; rw [bv_nat]; rfl
  have h0 : swapI 0 16 (x.toNat : Int) = ((lowest 16 x).toNat : Int) := by unfold swapI; rw [bv_nat]; rfl
  rw [h1, h2, h0, turn_twice 16 (by decide)]; simp
theorem swaps_16_2 (a : Int) (s : Bool) (h : W64 a) : (extI (extI a 2 s) 2 false == swapI 0 16 a) = true := by
  obtain ⟨x, rfl⟩ := of64 h
  have h0 : swapI 0 16 (x.toNat : Int) = ((lowest 16 x).toNat : Int) := by unfold swapI; rw [bv_nat]; rfl
  have hl : ∀ y : BitVec 64, extI (y.toNat : Int) 2 false = ((lowest 16 y).toNat : Int) := fun y => by unfold extI; rw [bv_nat]; rfl
  have hw : ∀ y : BitVec 64, extI (y.toNat : Int) 2 true = ((widened 16 y).toNat : Int) := fun y => by unfold extI; rw [bv_nat]; rfl
  cases s
  · rw [hl, hl, h0, low_low 16 (by decide)]; simp
  · rw [hw, hl, h0, low_wide 16 (by decide)]; simp
theorem swaps_16_3 (a : Int) (h : W64 a) : (extI a 2 false == swapI 0 16 a) = true := by
  obtain ⟨x, rfl⟩ := of64 h
  have h0 : swapI 0 16 (x.toNat : Int) = ((lowest 16 x).toNat : Int) := by unfold swapI; rw [bv_nat]; rfl
  have hl : ∀ y : BitVec 64, extI (y.toNat : Int) 2 false = ((lowest 16 y).toNat : Int) := fun y => by unfold extI; rw [bv_nat]; rfl
  rw [hl, h0]; simp

theorem swaps_32_1 (a : Int) (h : W64 a) : (swapI 2 32 (swapI 1 32 a) == swapI 0 32 a) = true := by
  obtain ⟨x, rfl⟩ := of64 h
  have h1 : swapI 1 32 (x.toNat : Int) = ((reversed 32 x).toNat : Int) := by unfold swapI; rw [bv_nat]; rfl
  have h2 : swapI 2 32 ((reversed 32 x).toNat : Int) = ((reversed 32 (reversed 32 x)).toNat : Int) := by unfold swapI; rw [bv_nat]; rfl
  have h0 : swapI 0 32 (x.toNat : Int) = ((lowest 32 x).toNat : Int) := by unfold swapI; rw [bv_nat]; rfl
  rw [h1, h2, h0, turn_twice 32 (by decide)]; simp
theorem swaps_32_2 (a : Int) (s : Bool) (h : W64 a) : (extI (extI a 4 s) 4 false == swapI 0 32 a) = true := by
  obtain ⟨x, rfl⟩ := of64 h
  have h0 : swapI 0 32 (x.toNat : Int) = ((lowest 32 x).toNat : Int) := by unfold swapI; rw [bv_nat]; rfl
  have hl : ∀ y : BitVec 64, extI (y.toNat : Int) 4 false = ((lowest 32 y).toNat : Int) := fun y => by unfold extI; rw [bv_nat]; rfl
  have hw : ∀ y : BitVec 64, extI (y.toNat : Int) 4 true = ((widened 32 y).toNat : Int) := fun y => by unfold extI; rw [bv_nat]; rfl
  cases s
  · rw [hl, hl, h0, low_low 32 (by decide)]; simp
  · rw [hw, hl, h0, low_wide 32 (by decide)]; simp
theorem swaps_32_3 (a : Int) (h : W64 a) : (extI a 4 false == swapI 0 32 a) = true := by
  obtain ⟨x, rfl⟩ := of64 h
  have h0 : swapI 0 32 (x.toNat : Int) = ((lowest 32 x).toNat : Int) := by unfold swapI; rw [bv_nat]; rfl
  have hl : ∀ y : BitVec 64, extI (y.toNat : Int) 4 false = ((lowest 32 y).toNat : Int) := fun y => by unfold extI; rw [bv_nat]; rfl
  rw [hl, h0]; simp

theorem swaps_64_1 (a : Int) (h : W64 a) : (swapI 2 64 (swapI 1 64 a) == swapI 0 64 a) = true := by
  obtain ⟨x, rfl⟩ := of64 h
  have h1 : swapI 1 64 (x.toNat : Int) = ((reversed 64 x).toNat : Int) := by unfold swapI; rw [bv_nat]; rfl
  have h2 : swapI 2 64 ((reversed 64 x).toNat : Int) = ((reversed 64 (reversed 64 x)).toNat : Int) := by unfold swapI; rw [bv_nat]; rfl
  have h0 : swapI 0 64 (x.toNat : Int) = ((lowest 64 x).toNat : Int) := by unfold swapI; rw [bv_nat]; rfl
  rw [h1, h2, h0, turn_twice 64 (by decide)]; simp
theorem swaps_64_2 (a : Int) (s : Bool) (h : W64 a) : (extI (extI a 8 s) 8 false == swapI 0 64 a) = true := by
  obtain ⟨x, rfl⟩ := of64 h
  have h0 : swapI 0 64 (x.toNat : Int) = ((lowest 64 x).toNat : Int) := by unfold swapI; rw [bv_nat]; rfl
  have hl : ∀ y : BitVec 64, extI (y.toNat : Int) 8 false = ((lowest 64 y).toNat : Int) := fun y => by unfold extI; rw [bv_nat]; rfl
  have hw : ∀ y : BitVec 64, extI (y.toNat : Int) 8 true = ((widened 64 y).toNat : Int) := fun y => by unfold extI; rw [bv_nat]; rfl
  cases s
  · rw [hl, hl, h0, low_low 64 (by decide)]; simp
  · rw [hw, hl, h0, low_wide 64 (by decide)]; simp
theorem swaps_64_3 (a : Int) (h : W64 a) : (extI a 8 false == swapI 0 64 a) = true := by
  obtain ⟨x, rfl⟩ := of64 h
  have h0 : swapI 0 64 (x.toNat : Int) = ((lowest 64 x).toNat : Int) := by unfold swapI; rw [bv_nat]; rfl
  have hl : ∀ y : BitVec 64, extI (y.toNat : Int) 8 false = ((lowest 64 y).toNat : Int) := fun y => by unfold extI; rw [bv_nat]; rfl
  rw [hl, h0]; simp

set_option maxRecDepth 100000 in
set_option maxHeartbeats 1000000 in
theorem swaps_16_false (a b : Int) (w0 : W64 a) (hj : (IntKind.u64.wrap b).tmod 3 = 0) (w : World) :
    Calls Try.prog 8 #[.int .u64 a, .int .i64 b, .bool false] w fun e w' => e = .returned (.bool true) ∧ Below w.heap.size w w' := by
  have HB := put_by (Below.refl w.heap.size w)
  have f1 := swaps_16_1 a w0
  have f2 := swaps_16_2 a false w0
  have f3 := swaps_16_3 a w0
  go_enter Try.func8, Try.ntmps8
  go_wp2_with (go_at_call 9; refine (from_w HB.out (awake_any _)).mono ?_; clear HB; rintro e w' ⟨rfl, hb⟩; have HB := put_by hb; clear hb)
  go_region
  all_goals go_wp2_with (first
    | (go_at_call 14; refine (sw _ _ _ (by first | exact w_swapI _ _ _ | with_reducible assumption) (by kernel_rfl) _).mono ?_; rintro e w1 ⟨rfl, rfl⟩)
    | (go_at_call 16; refine (ex _ _ _ (by first | exact w_extI _ _ _ | with_reducible assumption) (by kernel_rfl) _).mono ?_; rintro e w1 ⟨rfl, rfl⟩))
  all_goals go_ret
  all_goals
    have hs := HB.out.size
    refine ⟨rfl, ?_⟩
    exact ((HB.out.drew).alloc hs _).alloc (by simp; omega) _

set_option maxRecDepth 100000 in
set_option maxHeartbeats 1000000 in
theorem swaps_16_true (a b : Int) (w0 : W64 a) (hj : (IntKind.u64.wrap b).tmod 3 = 0) (w : World) :
    Calls Try.prog 8 #[.int .u64 a, .int .i64 b, .bool true] w fun e w' => e = .returned (.bool true) ∧ Below w.heap.size w w' := by
  have HB := put_by (Below.refl w.heap.size w)
  have f1 := swaps_16_1 a w0
  have f2 := swaps_16_2 a true w0
  go_enter Try.func8, Try.ntmps8
  go_wp2_with (go_at_call 9; refine (from_w HB.out (awake_any _)).mono ?_; clear HB; rintro e w' ⟨rfl, hb⟩; have HB := put_by hb; clear hb)
  go_region
  all_goals go_wp2_with (first
    | (go_at_call 14; refine (sw _ _ _ (by first | exact w_swapI _ _ _ | with_reducible assumption) (by kernel_rfl) _).mono ?_; rintro e w1 ⟨rfl, rfl⟩)
    | (go_at_call 16; refine (ex _ _ _ (by first | exact w_extI _ _ _ | with_reducible assumption) (by kernel_rfl) _).mono ?_; rintro e w1 ⟨rfl, rfl⟩))
  all_goals go_ret
  all_goals
    have hs := HB.out.size
    refine ⟨rfl, ?_⟩
    exact ((HB.out.drew).alloc hs _).alloc (by simp; omega) _

set_option maxRecDepth 100000 in
set_option maxHeartbeats 1000000 in
theorem swaps_32_false (a b : Int) (w0 : W64 a) (hj : (IntKind.u64.wrap b).tmod 3 = 1) (w : World) :
    Calls Try.prog 8 #[.int .u64 a, .int .i64 b, .bool false] w fun e w' => e = .returned (.bool true) ∧ Below w.heap.size w w' := by
  have HB := put_by (Below.refl w.heap.size w)
  have f1 := swaps_32_1 a w0
  have f2 := swaps_32_2 a false w0
  have f3 := swaps_32_3 a w0
  go_enter Try.func8, Try.ntmps8
  go_wp2_with (go_at_call 9; refine (from_w HB.out (awake_any _)).mono ?_; clear HB; rintro e w' ⟨rfl, hb⟩; have HB := put_by hb; clear hb)
  go_region
  all_goals go_wp2_with (first
    | (go_at_call 14; refine (sw _ _ _ (by first | exact w_swapI _ _ _ | with_reducible assumption) (by kernel_rfl) _).mono ?_; rintro e w1 ⟨rfl, rfl⟩)
    | (go_at_call 16; refine (ex _ _ _ (by first | exact w_extI _ _ _ | with_reducible assumption) (by kernel_rfl) _).mono ?_; rintro e w1 ⟨rfl, rfl⟩))
  all_goals go_ret
  all_goals
    have hs := HB.out.size
    refine ⟨rfl, ?_⟩
    exact ((HB.out.drew).alloc hs _).alloc (by simp; omega) _

set_option maxRecDepth 100000 in
set_option maxHeartbeats 1000000 in
theorem swaps_32_true (a b : Int) (w0 : W64 a) (hj : (IntKind.u64.wrap b).tmod 3 = 1) (w : World) :
    Calls Try.prog 8 #[.int .u64 a, .int .i64 b, .bool true] w fun e w' => e = .returned (.bool true) ∧ Below w.heap.size w w' := by
  have HB := put_by (Below.refl w.heap.size w)
  have f1 := swaps_32_1 a w0
  have f2 := swaps_32_2 a true w0
  go_enter Try.func8, Try.ntmps8
  go_wp2_with (go_at_call 9; refine (from_w HB.out (awake_any _)).mono ?_; clear HB; rintro e w' ⟨rfl, hb⟩; have HB := put_by hb; clear hb)
  go_region
  all_goals go_wp2_with (first
    | (go_at_call 14; refine (sw _ _ _ (by first | exact w_swapI _ _ _ | with_reducible assumption) (by kernel_rfl) _).mono ?_; rintro e w1 ⟨rfl, rfl⟩)
    | (go_at_call 16; refine (ex _ _ _ (by first | exact w_extI _ _ _ | with_reducible assumption) (by kernel_rfl) _).mono ?_; rintro e w1 ⟨rfl, rfl⟩))
  all_goals go_ret
  all_goals
    have hs := HB.out.size
    refine ⟨rfl, ?_⟩
    exact ((HB.out.drew).alloc hs _).alloc (by simp; omega) _

set_option maxRecDepth 100000 in
set_option maxHeartbeats 1000000 in
theorem swaps_64_false (a b : Int) (w0 : W64 a) (hj : (IntKind.u64.wrap b).tmod 3 = 2) (w : World) :
    Calls Try.prog 8 #[.int .u64 a, .int .i64 b, .bool false] w fun e w' => e = .returned (.bool true) ∧ Below w.heap.size w w' := by
  have HB := put_by (Below.refl w.heap.size w)
  have f1 := swaps_64_1 a w0
  have f2 := swaps_64_2 a false w0
  have f3 := swaps_64_3 a w0
  go_enter Try.func8, Try.ntmps8
  go_wp2_with (go_at_call 9; refine (from_w HB.out (awake_any _)).mono ?_; clear HB; rintro e w' ⟨rfl, hb⟩; have HB := put_by hb; clear hb)
  go_region
  all_goals go_wp2_with (first
    | (go_at_call 14; refine (sw _ _ _ (by first | exact w_swapI _ _ _ | with_reducible assumption) (by kernel_rfl) _).mono ?_; rintro e w1 ⟨rfl, rfl⟩)
    | (go_at_call 16; refine (ex _ _ _ (by first | exact w_extI _ _ _ | with_reducible assumption) (by kernel_rfl) _).mono ?_; rintro e w1 ⟨rfl, rfl⟩))
  all_goals go_ret
  all_goals
    have hs := HB.out.size
    refine ⟨rfl, ?_⟩
    exact ((HB.out.drew).alloc hs _).alloc (by simp; omega) _

set_option maxRecDepth 100000 in
set_option maxHeartbeats 1000000 in
theorem swaps_64_true (a b : Int) (w0 : W64 a) (hj : (IntKind.u64.wrap b).tmod 3 = 2) (w : World) :
    Calls Try.prog 8 #[.int .u64 a, .int .i64 b, .bool true] w fun e w' => e = .returned (.bool true) ∧ Below w.heap.size w w' := by
  have HB := put_by (Below.refl w.heap.size w)
  have f1 := swaps_64_1 a w0
  have f2 := swaps_64_2 a true w0
  go_enter Try.func8, Try.ntmps8
  go_wp2_with (go_at_call 9; refine (from_w HB.out (awake_any _)).mono ?_; clear HB; rintro e w' ⟨rfl, hb⟩; have HB := put_by hb; clear hb)
  go_region
  all_goals go_wp2_with (first
    | (go_at_call 14; refine (sw _ _ _ (by first | exact w_swapI _ _ _ | with_reducible assumption) (by kernel_rfl) _).mono ?_; rintro e w1 ⟨rfl, rfl⟩)
    | (go_at_call 16; refine (ex _ _ _ (by first | exact w_extI _ _ _ | with_reducible assumption) (by kernel_rfl) _).mono ?_; rintro e w1 ⟨rfl, rfl⟩))
  all_goals go_ret
  all_goals
    have hs := HB.out.size
    refine ⟨rfl, ?_⟩
    exact ((HB.out.drew).alloc hs _).alloc (by simp; omega) _

theorem swaps_any (a b : Int) (s : Bool) (w0 : W64 a) (w : World) :
    Calls Try.prog 8 #[.int .u64 a, .int .i64 b, .bool s] w fun e w' => e = .returned (.bool true) ∧ Below w.heap.size w w' := by
  have h : (IntKind.u64.wrap b).tmod 3 = 0 ∨ (IntKind.u64.wrap b).tmod 3 = 1 ∨ (IntKind.u64.wrap b).tmod 3 = 2 := by
    rw [wrapu64, Int.tmod_eq_emod_of_nonneg (by omega)]; omega
  rcases h with h | h | h <;> cases s
  · exact swaps_16_false a b w0 h w
  · exact swaps_16_true a b w0 h w
  · exact swaps_32_false a b w0 h w
  · exact swaps_32_true a b w0 h w
  · exact swaps_64_false a b w0 h w
  · exact swaps_64_true a b w0 h w
end Go.Proofs.Ytmlkbpmchcdldaa
