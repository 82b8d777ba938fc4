/-
  A store that is not there: each call tells ErrNil, and nothing.
-/
import Derived.Test.YtgancfllpmgciaaGreatM8
namespace Go.Proofs.YtgancfllpmgciaaGreat
open Go.RowKit Go.Maps
set_option linter.unusedVariables false

theorem is_nil (w : World) : Calls Tryz.prog 21 #[.pointer none] w fun e w' => e = .returned (.bool false) ∧ w = w' := by
  go_enter Tryz.func21, Tryz.ntmps21
  go_wp2
  go_ret
  exact ⟨rfl, rfl⟩
set_option maxRecDepth 100000 in
theorem is_zero (b : Nat) (w : World) (h : w.cell? ⟨b, 0, none⟩ = some (.pointer none)) :
    Calls Tryz.prog 21 #[.pointer (some ⟨b, 0, none⟩)] w fun e w' => e = .returned (.bool false) ∧ w = w' := by
  have hq := eql_none ⟨b, 0, none⟩ w
  go_enter Tryz.func21, Tryz.ntmps21
  go_wp2
  go_ret
  exact ⟨rfl, rfl⟩
/-- A store that New did not make. -/
def NoS (p : Option Addr) (w0 : World) : Prop := ∀ W, Below w0.heap.size w0 W → Calls Tryz.prog 21 #[.pointer p] W fun e w' => e = .returned (.bool false) ∧ W = w'
theorem NoS.later {p : Option Addr} {w W : World} (h : NoS p w) (hb : Below w.heap.size w W) : NoS p W := fun W2 h2 => h W2 (hb.trans (h2.mono hb.size))
theorem noS_nil (w : World) : NoS none w := fun W _ => is_nil W
theorem noS_zero {b : Nat} {w : World} (h : w.cell? ⟨b, 0, none⟩ = some (.pointer none)) : NoS (some ⟨b, 0, none⟩) w := fun W hb => is_zero b W ((hb.cell (p := ⟨b, 0, none⟩) (World.block_lt_of_cell? w _ h)).trans h)
section
variable {w : World} {p : Option Addr}
set_option maxRecDepth 100000 in
set_option maxHeartbeats 1000000 in
theorem at_none (x : Int) (h : NoS p w) : Calls Tryz.prog 26 #[.pointer p, .int .i64 x] w fun e w' => e = .returned (.tuple #[zeroE, .int .i64 1]) ∧ Below w.heap.size w w' := by
  have hb1 := below1 w (.cells #[.int .u8 0, .int .i64 0, .int .i64 0, .int .i64 0, .nilIface] 60)
  have HM := hide (h _ hb1)
  have hx := zobj_at w
  obtain ⟨⟨k0, k1, k2, k3, k4⟩, ⟨f0, f1, f2, f3, f4⟩, hlt⟩ := five hx
  have HX := hide hx
  have HB1 := hide hb1
  clear h hb1 hx
  go_enter Tryz.func26, Tryz.ntmps26
  simp only [zeroE] at *
  go_wp2_with (go_at_call 21; refine HM.out.mono ?_; rintro e w' ⟨rfl, rfl⟩)
  refine bodyPost_ret (v := .tuple #[zeroE, .int .i64 1]) ?_ rfl ⟨rfl, HB1.out⟩
  simp [results, Tryz.results26, go_sem, k0, k1, k2, k3, k4, zeroE]
set_option maxRecDepth 100000 in
set_option maxHeartbeats 1000000 in
/-- A map's make. -/
theorem spec_none (x : Int) (h : NoS p w) : Calls Tryz.prog 7 #[.pointer p, .int .i64 x] w fun e w' => e = .returned (.tuple #[.agg #[.int .u8 0, .int .i64 0, .int .i64 0, .int .i64 0], .int .i64 1]) ∧ Below w.heap.size w w' := by
  have hb1 := below1 w (.cells #[.int .u8 0, .int .i64 0, .int .i64 0, .int .i64 0] 24)
  have HX := hide (World.alloc_heap_new w (.cells #[.int .u8 0, .int .i64 0, .int .i64 0, .int .i64 0] 24))
  have HA := hide (at_none x (h.later hb1))
  have HB1 := hide hb1
  clear h hb1
  simp only [zeroE] at *
  go_enter Tryz.func7, Tryz.ntmps7
  go_wp2_with (go_at_call 26; refine HA.out.mono ?_; rintro e w1 ⟨rfl, hb⟩; have HB := hide hb; have hx4 := (hb.block _ (at_lt HX.out)).trans HX.out; have k0 := (blk_cell hx4 0).trans rfl; have k1 := (blk_cell hx4 1).trans rfl; have k2 := (blk_cell hx4 2).trans rfl; have k3 := (blk_cell hx4 3).trans rfl; have f0 := Joins.unfrozen_of_block hx4 0; have f1 := Joins.unfrozen_of_block hx4 1; have f2 := Joins.unfrozen_of_block hx4 2; have f3 := Joins.unfrozen_of_block hx4 3; have hlt := at_lt hx4; clear hb hx4)
  have hW := (Below.heap_alloc _ (.cells #[.int .u8 0, .int .i64 0, .int .i64 0, .int .i64 0, .nilIface] 60) w.heap.size (by simpa using hlt)).trans (store_4 ((HB.out.block _ (at_lt HX.out)).trans HX.out) (.int .u8 0) (.int .i64 0) (.int .i64 0) (.int .i64 0)).1
  have hBW := (((((HB1.out.trans (HB.out.mono HB1.out.size)).setCell (p := ⟨w.heap.size, 0, none⟩) (Nat.le_refl _) (.int .u8 0)).setCell (p := ⟨w.heap.size, 1, none⟩) (Nat.le_refl _) (.int .i64 0)).setCell (p := ⟨w.heap.size, 2, none⟩) (Nat.le_refl _) (.int .i64 0)).setCell (p := ⟨w.heap.size, 3, none⟩) (Nat.le_refl _) (.int .i64 0)).alloc (by simpa using Nat.le_trans HB1.out.size HB.out.size) (.cells #[.int .u8 0, .int .i64 0, .int .i64 0, .int .i64 0, .nilIface] 60)
  revert hW hBW
  generalize World.alloc _ _ = W
  intro hW hBW
  have d0 := (blk_cell hW 0).trans rfl
  have d1 := (blk_cell hW 1).trans rfl
  have d2 := (blk_cell hW 2).trans rfl
  have d3 := (blk_cell hW 3).trans rfl
  refine bodyPost_ret (v := .tuple #[.agg #[.int .u8 0, .int .i64 0, .int .i64 0, .int .i64 0], .int .i64 1]) ?_ rfl ⟨rfl, hBW⟩
  simp [results, Tryz.results7, go_sem, d0, d1, d2, d3]
theorem can_keys (x : Int) (h : NoS p w) : Calls Tryz.prog 27 #[.pointer p, .int .i64 x] w fun e w' => e = .returned (.tuple #[.nilIface, .int .i64 1]) ∧ Below w.heap.size w w' := by
  have HA := hide (at_none x h)
  clear h
  simp only [zeroE] at *
  go_enter Tryz.func27, Tryz.ntmps27
  go_wp2_with (go_at_call 26; refine HA.out.mono ?_; rintro e w1 ⟨rfl, hb⟩; have HB := hide hb; clear hb)
  go_ret2
  exact ⟨rfl, HB.out.alloc HB.out.size _⟩
theorem can_order (x : Int) (h : NoS p w) : Calls Tryz.prog 28 #[.pointer p, .int .i64 x] w fun e w' => e = .returned (.tuple #[.nilIface, .int .i64 1]) ∧ Below w.heap.size w w' := by
  have HA := hide (at_none x h)
  clear h
  simp only [zeroE] at *
  go_enter Tryz.func28, Tryz.ntmps28
  go_wp2_with (go_at_call 26; refine HA.out.mono ?_; rintro e w1 ⟨rfl, hb⟩; have HB := hide hb; clear hb)
  go_ret2
  exact ⟨rfl, HB.out.alloc HB.out.size _⟩
theorem can_recs (x : Int) (h : NoS p w) : Calls Tryz.prog 29 #[.pointer p, .int .i64 x] w fun e w' => e = .returned (.tuple #[.nilIface, .int .i64 1]) ∧ Below w.heap.size w w' := by
  have HA := hide (at_none x h)
  clear h
  simp only [zeroE] at *
  go_enter Tryz.func29, Tryz.ntmps29
  go_wp2_with (go_at_call 26; refine HA.out.mono ?_; rintro e w1 ⟨rfl, hb⟩; have HB := hide hb; clear hb)
  go_ret2
  exact ⟨rfl, HB.out.alloc HB.out.size _⟩
theorem lookup_none (x : Int) (a0 : Value) (h : NoS p w) : Calls Tryz.prog 8 #[.pointer p, .int .i64 x, a0] w fun e w' => e = .returned (.tuple #[.int .i64 0, .int .i64 1]) ∧ Below w.heap.size w w' := by
  have HA := hide (can_keys x h)
  clear h
  go_enter Tryz.func8, Tryz.ntmps8
  go_wp2_with (go_at_call 27; refine HA.out.mono ?_; rintro e w1 ⟨rfl, hb⟩; have HB := hide hb; clear hb)
  go_ret2
  exact ⟨rfl, HB.out⟩
theorem update_none (x : Int) (a0 a1 a2 : Value) (h : NoS p w) : Calls Tryz.prog 14 #[.pointer p, .int .i64 x, a0, a1, a2] w fun e w' => e = .returned (.int .i64 1) ∧ Below w.heap.size w w' := by
  have HA := hide (can_keys x h)
  clear h
  go_enter Tryz.func14, Tryz.ntmps14
  go_wp2_with (go_at_call 27; refine HA.out.mono ?_; rintro e w1 ⟨rfl, hb⟩; have HB := hide hb; clear hb)
  go_ret
  exact ⟨rfl, HB.out⟩
theorem delete_none (x : Int) (a0 : Value) (h : NoS p w) : Calls Tryz.prog 15 #[.pointer p, .int .i64 x, a0] w fun e w' => e = .returned (.int .i64 1) ∧ Below w.heap.size w w' := by
  have HA := hide (can_keys x h)
  clear h
  go_enter Tryz.func15, Tryz.ntmps15
  go_wp2_with (go_at_call 27; refine HA.out.mono ?_; rintro e w1 ⟨rfl, hb⟩; have HB := hide hb; clear hb)
  go_ret
  exact ⟨rfl, HB.out⟩
theorem value_none (x : Int) (a0 : Value) (h : NoS p w) : Calls Tryz.prog 9 #[.pointer p, .int .i64 x, a0] w fun e w' => e = .returned (.tuple #[.slice none 0 0, .int .i64 1]) ∧ Below w.heap.size w w' := by
  have HA := hide (can_keys x h)
  clear h
  go_enter Tryz.func9, Tryz.ntmps9
  go_wp2_with (go_at_call 27; refine HA.out.mono ?_; rintro e w1 ⟨rfl, hb⟩; have HB := hide hb; clear hb)
  go_ret2
  exact ⟨rfl, HB.out⟩
theorem set_none (x : Int) (a0 a1 a2 : Value) (h : NoS p w) : Calls Tryz.prog 16 #[.pointer p, .int .i64 x, a0, a1, a2] w fun e w' => e = .returned (.int .i64 1) ∧ Below w.heap.size w w' := by
  have HA := hide (can_keys x h)
  clear h
  go_enter Tryz.func16, Tryz.ntmps16
  go_wp2_with (go_at_call 27; refine HA.out.mono ?_; rintro e w1 ⟨rfl, hb⟩; have HB := hide hb; clear hb)
  go_ret
  exact ⟨rfl, HB.out⟩
theorem push_none (x : Int) (a0 a1 : Value) (h : NoS p w) : Calls Tryz.prog 17 #[.pointer p, .int .i64 x, a0, a1] w fun e w' => e = .returned (.int .i64 1) ∧ Below w.heap.size w w' := by
  have HA := hide (can_order x h)
  clear h
  go_enter Tryz.func17, Tryz.ntmps17
  go_wp2_with (go_at_call 28; refine HA.out.mono ?_; rintro e w1 ⟨rfl, hb⟩; have HB := hide hb; clear hb)
  go_ret
  exact ⟨rfl, HB.out⟩
theorem pop_none (x : Int) (h : NoS p w) : Calls Tryz.prog 10 #[.pointer p, .int .i64 x] w fun e w' => e = .returned (.tuple #[.slice none 0 0, .int .i64 1]) ∧ Below w.heap.size w w' := by
  have HA := hide (can_order x h)
  clear h
  go_enter Tryz.func10, Tryz.ntmps10
  go_wp2_with (go_at_call 28; refine HA.out.mono ?_; rintro e w1 ⟨rfl, hb⟩; have HB := hide hb; clear hb)
  go_ret2
  exact ⟨rfl, HB.out⟩
theorem peek_none (x : Int) (h : NoS p w) : Calls Tryz.prog 11 #[.pointer p, .int .i64 x] w fun e w' => e = .returned (.tuple #[.slice none 0 0, .int .i64 1]) ∧ Below w.heap.size w w' := by
  have HA := hide (can_order x h)
  clear h
  go_enter Tryz.func11, Tryz.ntmps11
  go_wp2_with (go_at_call 28; refine HA.out.mono ?_; rintro e w1 ⟨rfl, hb⟩; have HB := hide hb; clear hb)
  go_ret2
  exact ⟨rfl, HB.out⟩
theorem put_none (x : Int) (a0 : Value) (h : NoS p w) : Calls Tryz.prog 18 #[.pointer p, .int .i64 x, a0] w fun e w' => e = .returned (.int .i64 1) ∧ Below w.heap.size w w' := by
  have HA := hide (can_recs x h)
  clear h
  go_enter Tryz.func18, Tryz.ntmps18
  go_wp2_with (go_at_call 29; refine HA.out.mono ?_; rintro e w1 ⟨rfl, hb⟩; have HB := hide hb; clear hb)
  go_ret
  exact ⟨rfl, HB.out⟩
theorem take_none (x : Int) (h : NoS p w) : Calls Tryz.prog 12 #[.pointer p, .int .i64 x] w fun e w' => e = .returned (.tuple #[.slice none 0 0, .int .i64 1]) ∧ Below w.heap.size w w' := by
  have HA := hide (can_recs x h)
  clear h
  go_enter Tryz.func12, Tryz.ntmps12
  go_wp2_with (go_at_call 29; refine HA.out.mono ?_; rintro e w1 ⟨rfl, hb⟩; have HB := hide hb; clear hb)
  go_ret2
  exact ⟨rfl, HB.out⟩
theorem make_none (k key val ent : Int) (h : NoS p w) : Calls Tryz.prog 6 #[.pointer p, .agg #[.int .u8 k, .int .i64 key, .int .i64 val, .int .i64 ent]] w fun e w' => e = .returned (.tuple #[.int .i64 0, .int .i64 1]) ∧ Below w.heap.size w w' := by
  have hb0 := below1 w (.cells #[.int .u8 k, .int .i64 key, .int .i64 val, .int .i64 ent] 24)
  have HM := hide (h _ hb0)
  have HB := hide hb0
  clear h hb0
  go_enter Tryz.func6, Tryz.ntmps6
  go_wp2_with (go_at_call 21; refine HM.out.mono ?_; rintro e w' ⟨rfl, rfl⟩)
  go_ret2
  exact ⟨rfl, HB.out⟩
theorem free_none (x : Int) (h : NoS p w) : Calls Tryz.prog 13 #[.pointer p, .int .i64 x] w fun e w' => e = .returned (.int .i64 1) ∧ Below w.heap.size w w' := by
  have HM := hide (h w (Below.refl _ _))
  clear h
  go_enter Tryz.func13, Tryz.ntmps13
  go_wp2_with (go_at_call 21; refine HM.out.mono ?_; rintro e w' ⟨rfl, rfl⟩)
  go_ret
  exact ⟨rfl, Below.refl _ _⟩
set_option maxRecDepth 100000 in
theorem handles_none (h : NoS p w) : Calls Tryz.prog 19 #[.pointer p] w fun e w' => e = .returned (.slice none 0 0) ∧ Below w.heap.size w w' := by
  have HM := hide (h w (Below.refl _ _))
  clear h
  refine (callsIn_wide (n := 3)).1 ?_
  refine callsIn_of_wp_marks Tryz.func19 rfl trivial ?_ rfl
  simp only [Tryz.ntmps19, List.size_toArray, List.length_cons, List.length_nil, Nat.reduceAdd, Nat.reduceSub, Array.replicate_succ, Array.replicate_zero, List.push_toArray, List.append_toArray, List.nil_append, List.cons_append]
  gi_wp2_with fail
  refine ⟨trivial, (callsIn_wide.2 HM.out).mono ?_⟩
  rintro en w2 ⟨rfl, rfl⟩
  gi_wp2
  refine ⟨_, results_tmp rfl _ _ _, ?_⟩
  exact ⟨rfl, Below.refl _ _⟩
end
end Go.Proofs.YtgancfllpmgciaaGreat
