/-
  What the classes of jumps must have.
-/
import Derived.Test.YtjnmfgkjeofneaaFn4
namespace Go.Proofs.Ytjnmfgkjeofneaa
open Go.RowKit
set_option linter.unusedVariables false

section
variable (op dst src off imm : Int) (op' dst' src' off' imm' : Int) (w : World)
set_option maxRecDepth 100000 in
set_option maxHeartbeats 1000000 in
theorem jmp_ja (B : Nat) (wide : Bool) (hbox : Boxed w B 4 (.bool wide)) (h : bits .andNot .u8 op 7 = 0) : Calls Try.prog 65 #[.agg #[.int .u8 op, .int .u8 dst, .int .u8 src, .int .i16 off, .int .i32 imm], .agg #[.int .u8 op', .int .u8 dst', .int .u8 src', .int .i16 off', .int .i32 imm'], .pointer (some ⟨B, 0, none⟩)] w fun e w' =>
    e = .returned (.tuple #[.bool (jmpIs wide op), .bool (jmpFits wide ⟨op, dst, src, off, imm⟩)]) ∧ Below w.heap.size w w' := by
  have hE : ∀ w, (binOp .eql 42 (.agg #[.int .u8 op, .int .u8 dst, .int .u8 src, .int .i16 off, .int .i32 imm]) (.agg #[.int .u8 op, .int .u8 0, .int .u8 0, .int .i16 0, .int .i32 imm])).run Try.prog w = .ok (.bool (dst == 0 && src == 0 && off == 0)) w := fun w => by
    have := eqIns w op dst src off imm op 0 0 0 imm
    simpa using this
  have hF : ∀ w, (binOp .eql 42 (.agg #[.int .u8 op, .int .u8 dst, .int .u8 src, .int .i16 off, .int .i32 imm]) (.agg #[.int .u8 op, .int .u8 0, .int .u8 0, .int .i16 off, .int .i32 0])).run Try.prog w = .ok (.bool (dst == 0 && src == 0 && imm == 0)) w := fun w => by
    have := eqIns w op dst src off imm op 0 0 off 0
    simpa using this
  generalize hz1 : (dst == 0 && src == 0 && off == 0) = z1 at hE
  generalize hz2 : (dst == 0 && src == 0 && imm == 0) = z2 at hF
  have HZ1 := hide hz1
  have HZ2 := hide hz2
  clear hz1 hz2
  cases wide
  · cases z1
    all_goals
      obtain ⟨hx, hy⟩ := two_boxes w (.cells #[.int .u8 op, .int .u8 dst, .int .u8 src, .int .i16 off, .int .i32 imm] 42) (.cells #[.int .u8 op', .int .u8 dst', .int .u8 src', .int .i16 off', .int .i32 imm'] 42)
      obtain ⟨c0, c1, c2, c3, c4⟩ := later5 hx
      clear hx hy
      have cb : ((w.alloc (.cells #[.int .u8 op, .int .u8 dst, .int .u8 src, .int .i16 off, .int .i32 imm] 42)).alloc (.cells #[.int .u8 op', .int .u8 dst', .int .u8 src', .int .i16 off', .int .i32 imm'] 42)).cell? ⟨B, 0, none⟩ = some (.bool false) := ((below2 w _ _).cell (p := ⟨B, 0, none⟩) hbox.lt).trans hbox.cell
      have cB := Later.cell cb
      have hblt := hbox.lt
      clear hbox
      go_enter Try.func65, Try.ntmps65
      go_wp2
      refine wp_region_later (by kernel_rfl) (by kernel_rfl) ?_
      repeat (go_big_quiet_step (fail))
      refine wpQuiet_nil ?_
      rintro _ ⟨x, rfl⟩
      have HX := hide (below2c x.below)
      clear c0 c1 c2 c3 c4 cB cb
      go_wp2
      go_ret2
      exact ⟨by simp [jmpIs, jmpFits, h, HZ1.out], HX.out⟩
  · cases z1
    all_goals
      obtain ⟨hx, hy⟩ := two_boxes w (.cells #[.int .u8 op, .int .u8 dst, .int .u8 src, .int .i16 off, .int .i32 imm] 42) (.cells #[.int .u8 op', .int .u8 dst', .int .u8 src', .int .i16 off', .int .i32 imm'] 42)
      obtain ⟨c0, c1, c2, c3, c4⟩ := later5 hx
      clear hx hy
      have cb : ((w.alloc (.cells #[.int .u8 op, .int .u8 dst, .int .u8 src, .int .i16 off, .int .i32 imm] 42)).alloc (.cells #[.int .u8 op', .int .u8 dst', .int .u8 src', .int .i16 off', .int .i32 imm'] 42)).cell? ⟨B, 0, none⟩ = some (.bool true) := ((below2 w _ _).cell (p := ⟨B, 0, none⟩) hbox.lt).trans hbox.cell
      have cB := Later.cell cb
      have hblt := hbox.lt
      clear hbox
      go_enter Try.func65, Try.ntmps65
      go_wp2
      refine wp_region_later (by kernel_rfl) (by kernel_rfl) ?_
      repeat (go_big_quiet_step (fail))
      refine wpQuiet_nil ?_
      rintro _ ⟨x, rfl⟩
      have HX := hide (below2c x.below)
      clear c0 c1 c2 c3 c4 cB cb
      go_wp2
      go_ret2
      exact ⟨by simp [jmpIs, jmpFits, h, HZ2.out], HX.out⟩
set_option maxRecDepth 100000 in
set_option maxHeartbeats 1000000 in
theorem jmp_call (B : Nat) (wide : Bool) (hbox : Boxed w B 4 (.bool wide)) (h : bits .andNot .u8 op 7 = 128) : Calls Try.prog 65 #[.agg #[.int .u8 op, .int .u8 dst, .int .u8 src, .int .i16 off, .int .i32 imm], .agg #[.int .u8 op', .int .u8 dst', .int .u8 src', .int .i16 off', .int .i32 imm'], .pointer (some ⟨B, 0, none⟩)] w fun e w' =>
    e = .returned (.tuple #[.bool (jmpIs wide op), .bool (jmpFits wide ⟨op, dst, src, off, imm⟩)]) ∧ Below w.heap.size w w' := by
  have hE : ∀ w, (binOp .eql 42 (.agg #[.int .u8 op, .int .u8 dst, .int .u8 src, .int .i16 off, .int .i32 imm]) (.agg #[.int .u8 op, .int .u8 0, .int .u8 0, .int .i16 0, .int .i32 imm])).run Try.prog w = .ok (.bool (dst == 0 && src == 0 && off == 0)) w := fun w => by
    have := eqIns w op dst src off imm op 0 0 0 imm
    simpa using this
  cases hd : decide (1 ≤ imm)
  · have hd1 : ¬ 1 ≤ imm := by simpa using hd
    obtain ⟨hx, hy⟩ := two_boxes w (.cells #[.int .u8 op, .int .u8 dst, .int .u8 src, .int .i16 off, .int .i32 imm] 42) (.cells #[.int .u8 op', .int .u8 dst', .int .u8 src', .int .i16 off', .int .i32 imm'] 42)
    obtain ⟨c0, c1, c2, c3, c4⟩ := later5 hx
    clear hx hy
    have cb : ((w.alloc (.cells #[.int .u8 op, .int .u8 dst, .int .u8 src, .int .i16 off, .int .i32 imm] 42)).alloc (.cells #[.int .u8 op', .int .u8 dst', .int .u8 src', .int .i16 off', .int .i32 imm'] 42)).cell? ⟨B, 0, none⟩ = some (.bool wide) := ((below2 w _ _).cell (p := ⟨B, 0, none⟩) hbox.lt).trans hbox.cell
    have cB := Later.cell cb
    have hblt := hbox.lt
    clear hbox
    go_enter Try.func65, Try.ntmps65
    go_wp2
    refine wp_region_later (by kernel_rfl) (by kernel_rfl) ?_
    repeat (go_big_quiet_step (fail))
    refine wpQuiet_nil ?_
    rintro _ ⟨x, rfl⟩
    have HX := hide (below2c x.below)
    clear c0 c1 c2 c3 c4 cB cb
    go_wp2
    go_ret2
    exact ⟨by simp [jmpIs, jmpFits, h] <;> omega, HX.out⟩
  · have hd1 : 1 ≤ imm := by simpa using hd
    obtain ⟨hx, hy⟩ := two_boxes w (.cells #[.int .u8 op, .int .u8 dst, .int .u8 src, .int .i16 off, .int .i32 imm] 42) (.cells #[.int .u8 op', .int .u8 dst', .int .u8 src', .int .i16 off', .int .i32 imm'] 42)
    obtain ⟨c0, c1, c2, c3, c4⟩ := later5 hx
    clear hx hy
    have cb : ((w.alloc (.cells #[.int .u8 op, .int .u8 dst, .int .u8 src, .int .i16 off, .int .i32 imm] 42)).alloc (.cells #[.int .u8 op', .int .u8 dst', .int .u8 src', .int .i16 off', .int .i32 imm'] 42)).cell? ⟨B, 0, none⟩ = some (.bool wide) := ((below2 w _ _).cell (p := ⟨B, 0, none⟩) hbox.lt).trans hbox.cell
    have cB := Later.cell cb
    have hblt := hbox.lt
    clear hbox
    go_enter Try.func65, Try.ntmps65
    go_wp2
    refine wp_region_later (by kernel_rfl) (by kernel_rfl) ?_
    repeat (go_big_quiet_step (fail))
    refine wpQuiet_nil ?_
    rintro _ ⟨x, rfl⟩
    have HX := hide (below2c x.below)
    clear c0 c1 c2 c3 c4 cB cb
    go_wp2
    go_ret2
    exact ⟨by simp [jmpIs, jmpFits, h, hd1], HX.out⟩
set_option maxRecDepth 100000 in
set_option maxHeartbeats 1000000 in
theorem jmp_exit (B : Nat) (wide : Bool) (hbox : Boxed w B 4 (.bool wide)) (h : bits .andNot .u8 op 7 = 144) : Calls Try.prog 65 #[.agg #[.int .u8 op, .int .u8 dst, .int .u8 src, .int .i16 off, .int .i32 imm], .agg #[.int .u8 op', .int .u8 dst', .int .u8 src', .int .i16 off', .int .i32 imm'], .pointer (some ⟨B, 0, none⟩)] w fun e w' =>
    e = .returned (.tuple #[.bool (jmpIs wide op), .bool (jmpFits wide ⟨op, dst, src, off, imm⟩)]) ∧ Below w.heap.size w w' := by
  have hE : ∀ w, (binOp .eql 42 (.agg #[.int .u8 op, .int .u8 dst, .int .u8 src, .int .i16 off, .int .i32 imm]) (.agg #[.int .u8 op, .int .u8 0, .int .u8 0, .int .i16 0, .int .i32 0])).run Try.prog w = .ok (.bool (dst == 0 && src == 0 && off == 0 && imm == 0)) w := fun w => by
    have := eqIns w op dst src off imm op 0 0 0 0
    simpa using this
  obtain ⟨hx, hy⟩ := two_boxes w (.cells #[.int .u8 op, .int .u8 dst, .int .u8 src, .int .i16 off, .int .i32 imm] 42) (.cells #[.int .u8 op', .int .u8 dst', .int .u8 src', .int .i16 off', .int .i32 imm'] 42)
  obtain ⟨c0, c1, c2, c3, c4⟩ := later5 hx
  clear hx hy
  have cb : ((w.alloc (.cells #[.int .u8 op, .int .u8 dst, .int .u8 src, .int .i16 off, .int .i32 imm] 42)).alloc (.cells #[.int .u8 op', .int .u8 dst', .int .u8 src', .int .i16 off', .int .i32 imm'] 42)).cell? ⟨B, 0, none⟩ = some (.bool wide) := ((below2 w _ _).cell (p := ⟨B, 0, none⟩) hbox.lt).trans hbox.cell
  have cB := Later.cell cb
  have hblt := hbox.lt
  clear hbox
  go_enter Try.func65, Try.ntmps65
  go_wp2
  refine wp_region_later (by kernel_rfl) (by kernel_rfl) ?_
  repeat (go_big_quiet_step (fail))
  refine wpQuiet_nil ?_
  rintro _ ⟨x, rfl⟩
  have HX := hide (below2c x.below)
  clear c0 c1 c2 c3 c4 cB cb
  go_wp2
  go_ret2
  exact ⟨by simp [jmpIs, jmpFits, h], HX.out⟩
set_option maxRecDepth 100000 in
set_option maxHeartbeats 1000000 in
theorem jmp_else (B : Nat) (wide : Bool) (hbox : Boxed w B 4 (.bool wide)) (h1 : bits .andNot .u8 op 7 ≠ 0) (h2 : bits .andNot .u8 op 7 ≠ 128) (h3 : bits .andNot .u8 op 7 ≠ 144) : Calls Try.prog 65 #[.agg #[.int .u8 op, .int .u8 dst, .int .u8 src, .int .i16 off, .int .i32 imm], .agg #[.int .u8 op', .int .u8 dst', .int .u8 src', .int .i16 off', .int .i32 imm'], .pointer (some ⟨B, 0, none⟩)] w fun e w' =>
    e = .returned (.tuple #[.bool (jmpIs wide op), .bool (jmpFits wide ⟨op, dst, src, off, imm⟩)]) ∧ Below w.heap.size w w' := by
  have hO := hide (fun w => one_any op dst src off imm w)
  have hC := hide (fun w => cond_any op dst src off imm w)
  have g1 : (bits .andNot .u8 op 7 == 0) = false := by simpa using h1
  have g2 : (bits .andNot .u8 op 7 == 128) = false := by simpa using h2
  have g3 : (bits .andNot .u8 op 7 == 144) = false := by simpa using h3
  obtain ⟨hx, hy⟩ := two_boxes w (.cells #[.int .u8 op, .int .u8 dst, .int .u8 src, .int .i16 off, .int .i32 imm] 42) (.cells #[.int .u8 op', .int .u8 dst', .int .u8 src', .int .i16 off', .int .i32 imm'] 42)
  obtain ⟨c0, c1, c2, c3, c4⟩ := later5 hx
  clear hx hy
  have cb : ((w.alloc (.cells #[.int .u8 op, .int .u8 dst, .int .u8 src, .int .i16 off, .int .i32 imm] 42)).alloc (.cells #[.int .u8 op', .int .u8 dst', .int .u8 src', .int .i16 off', .int .i32 imm'] 42)).cell? ⟨B, 0, none⟩ = some (.bool wide) := ((below2 w _ _).cell (p := ⟨B, 0, none⟩) hbox.lt).trans hbox.cell
  have cB := Later.cell cb
  have hblt := hbox.lt
  clear hbox
  go_enter Try.func65, Try.ntmps65
  go_wp2
  refine wp_region_later (by kernel_rfl) (by kernel_rfl) ?_
  repeat (go_big_quiet_step ((first | exact Later.calls _ hO.out | exact Later.calls _ hC.out)))
  refine wpQuiet_nil ?_
  rintro _ ⟨x, rfl⟩
  have HX := hide (below2c x.below)
  clear c0 c1 c2 c3 c4 cB cb
  go_wp2
  go_ret2
  exact ⟨by simp [jmpIs, jmpFits, h1, h2, h3], HX.out⟩
theorem jmp_any (B : Nat) (wide : Bool) (hbox : Boxed w B 4 (.bool wide)) : Calls Try.prog 65 #[.agg #[.int .u8 op, .int .u8 dst, .int .u8 src, .int .i16 off, .int .i32 imm], .agg #[.int .u8 op', .int .u8 dst', .int .u8 src', .int .i16 off', .int .i32 imm'], .pointer (some ⟨B, 0, none⟩)] w fun e w' =>
    e = .returned (.tuple #[.bool (jmpIs wide op), .bool (jmpFits wide ⟨op, dst, src, off, imm⟩)]) ∧ Below w.heap.size w w' := by
  by_cases h1 : bits .andNot .u8 op 7 = 0
  · exact jmp_ja op dst src off imm op' dst' src' off' imm' w B wide hbox h1
  by_cases h2 : bits .andNot .u8 op 7 = 128
  · exact jmp_call op dst src off imm op' dst' src' off' imm' w B wide hbox h2
  by_cases h3 : bits .andNot .u8 op 7 = 144
  · exact jmp_exit op dst src off imm op' dst' src' off' imm' w B wide hbox h3
  exact jmp_else op dst src off imm op' dst' src' off' imm' w B wide hbox h1 h2 h3
end
end Go.Proofs.Ytjnmfgkjeofneaa
