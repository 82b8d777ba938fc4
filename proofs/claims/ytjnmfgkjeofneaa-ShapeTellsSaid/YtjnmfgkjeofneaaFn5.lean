/-
  What the classes of arithmetic and jumps must have.
-/
import Derived.Test.YtjnmfgkjeofneaaFn4
namespace Go.Proofs.Ytjnmfgkjeofneaa
open Go.RowKit
set_option linter.unusedVariables false

section
variable (op dst src off imm : Int) (op' dst' src' off' imm' : Int) (w : World)
set_option maxRecDepth 100000 in
set_option maxHeartbeats 1000000 in
theorem alu_end (B : Nat) (wide : Bool) (hbox : Boxed w B 4 (.bool wide)) (h : bits .and .u8 op 240 = 208) : Calls Try.prog 60 #[.agg #[.int .u8 op, .int .u8 dst, .int .u8 src, .int .i16 off, .int .i32 imm], .agg #[.int .u8 op', .int .u8 dst', .int .u8 src', .int .i16 off', .int .i32 imm'], .pointer (some ⟨B, 0, none⟩)] w fun e w' =>
    e = .returned (.tuple #[.bool (aluIs wide op), .bool (aluFits wide ⟨op, dst, src, off, imm⟩)]) ∧ Below w.heap.size w w' := by
  have hR := hide (fun w => rs_any op dst src off imm w)
  have hS := hide (fun w => swap_any op dst src off imm w)
  cases wide
  · skip
    obtain ⟨hx, hy⟩ := two_boxes w (.cells #[.int .u8 op, .int .u8 dst, .int .u8 src, .int .i16 off, .int .i32 imm] 42) (.cells #[.int .u8 op', .int .u8 dst', .int .u8 src', .int .i16 off', .int .i32 imm'] 42)
    obtain ⟨c0, c1, c2, c3, c4⟩ := later5 hx
    clear hx hy
    have cb : ((w.alloc (.cells #[.int .u8 op, .int .u8 dst, .int .u8 src, .int .i16 off, .int .i32 imm] 42)).alloc (.cells #[.int .u8 op', .int .u8 dst', .int .u8 src', .int .i16 off', .int .i32 imm'] 42)).cell? ⟨B, 0, none⟩ = some (.bool false) := ((below2 w _ _).cell (p := ⟨B, 0, none⟩) hbox.lt).trans hbox.cell
    have cB := Later.cell cb
    have hblt := hbox.lt
    clear hbox
    go_enter Try.func60, Try.ntmps60
    go_wp2
    refine wp_region_later (by kernel_rfl) (by kernel_rfl) ?_
    repeat (go_big_quiet_step ((first | exact Later.calls _ hR.out | exact Later.calls _ hS.out)))
    refine wpQuiet_nil ?_
    rintro _ ⟨x, rfl⟩
    have HX := hide (below2c x.below)
    clear c0 c1 c2 c3 c4 cB cb
    go_wp2
    go_ret2
    exact ⟨by simp [aluIs, aluFits, h], HX.out⟩
  · skip
    obtain ⟨hx, hy⟩ := two_boxes w (.cells #[.int .u8 op, .int .u8 dst, .int .u8 src, .int .i16 off, .int .i32 imm] 42) (.cells #[.int .u8 op', .int .u8 dst', .int .u8 src', .int .i16 off', .int .i32 imm'] 42)
    obtain ⟨c0, c1, c2, c3, c4⟩ := later5 hx
    clear hx hy
    have cb : ((w.alloc (.cells #[.int .u8 op, .int .u8 dst, .int .u8 src, .int .i16 off, .int .i32 imm] 42)).alloc (.cells #[.int .u8 op', .int .u8 dst', .int .u8 src', .int .i16 off', .int .i32 imm'] 42)).cell? ⟨B, 0, none⟩ = some (.bool true) := ((below2 w _ _).cell (p := ⟨B, 0, none⟩) hbox.lt).trans hbox.cell
    have cB := Later.cell cb
    have hblt := hbox.lt
    clear hbox
    go_enter Try.func60, Try.ntmps60
    go_wp2
    refine wp_region_later (by kernel_rfl) (by kernel_rfl) ?_
    repeat (go_big_quiet_step ((first | exact Later.calls _ hR.out | exact Later.calls _ hS.out)))
    refine wpQuiet_nil ?_
    rintro _ ⟨x, rfl⟩
    have HX := hide (below2c x.below)
    clear c0 c1 c2 c3 c4 cB cb
    go_wp2
    go_ret2
    exact ⟨by simp [aluIs, aluFits, h], HX.out⟩
set_option maxRecDepth 100000 in
set_option maxHeartbeats 1000000 in
theorem alu_neg (B : Nat) (wide : Bool) (hbox : Boxed w B 4 (.bool wide)) (h : bits .and .u8 op 240 = 128) : Calls Try.prog 60 #[.agg #[.int .u8 op, .int .u8 dst, .int .u8 src, .int .i16 off, .int .i32 imm], .agg #[.int .u8 op', .int .u8 dst', .int .u8 src', .int .i16 off', .int .i32 imm'], .pointer (some ⟨B, 0, none⟩)] w fun e w' =>
    e = .returned (.tuple #[.bool (aluIs wide op), .bool (aluFits wide ⟨op, dst, src, off, imm⟩)]) ∧ Below w.heap.size w w' := by
  have hR := hide (fun w => rs_any op dst src off imm w)
  have hE : ∀ w, (binOp .eql 42 (.agg #[.int .u8 op, .int .u8 dst, .int .u8 src, .int .i16 off, .int .i32 imm]) (.agg #[.int .u8 op, .int .u8 dst, .int .u8 0, .int .i16 0, .int .i32 0])).run Try.prog w = .ok (.bool (src == 0 && off == 0 && imm == 0)) w := fun w => by
    have := eqIns w op dst src off imm op dst 0 0 0
    simpa using this
  obtain ⟨hx, hy⟩ := two_boxes w (.cells #[.int .u8 op, .int .u8 dst, .int .u8 src, .int .i16 off, .int .i32 imm] 42) (.cells #[.int .u8 op', .int .u8 dst', .int .u8 src', .int .i16 off', .int .i32 imm'] 42)
  obtain ⟨c0, c1, c2, c3, c4⟩ := later5 hx
  clear hx hy
  have cb : ((w.alloc (.cells #[.int .u8 op, .int .u8 dst, .int .u8 src, .int .i16 off, .int .i32 imm] 42)).alloc (.cells #[.int .u8 op', .int .u8 dst', .int .u8 src', .int .i16 off', .int .i32 imm'] 42)).cell? ⟨B, 0, none⟩ = some (.bool wide) := ((below2 w _ _).cell (p := ⟨B, 0, none⟩) hbox.lt).trans hbox.cell
  have cB := Later.cell cb
  have hblt := hbox.lt
  clear hbox
  go_enter Try.func60, Try.ntmps60
  go_wp2
  refine wp_region_later (by kernel_rfl) (by kernel_rfl) ?_
  repeat (go_big_quiet_step ((first | exact Later.calls _ hR.out)))
  refine wpQuiet_nil ?_
  rintro _ ⟨x, rfl⟩
  have HX := hide (below2c x.below)
  clear c0 c1 c2 c3 c4 cB cb
  go_wp2
  go_ret2
  exact ⟨by simp [aluIs, aluFits, h], HX.out⟩
set_option maxRecDepth 100000 in
set_option maxHeartbeats 1000000 in
theorem alu_div (B : Nat) (wide : Bool) (hbox : Boxed w B 4 (.bool wide)) (h : bits .and .u8 op 240 = 48) : Calls Try.prog 60 #[.agg #[.int .u8 op, .int .u8 dst, .int .u8 src, .int .i16 off, .int .i32 imm], .agg #[.int .u8 op', .int .u8 dst', .int .u8 src', .int .i16 off', .int .i32 imm'], .pointer (some ⟨B, 0, none⟩)] w fun e w' =>
    e = .returned (.tuple #[.bool (aluIs wide op), .bool (aluFits wide ⟨op, dst, src, off, imm⟩)]) ∧ Below w.heap.size w w' := by
  have hO := hide (fun w => one_any op dst src off imm w)
  cases ho : oneB ⟨op, dst, src, off, imm⟩ <;> rw [ho] at hO
  · have HO := hide ho
    clear ho
    obtain ⟨hx, hy⟩ := two_boxes w (.cells #[.int .u8 op, .int .u8 dst, .int .u8 src, .int .i16 off, .int .i32 imm] 42) (.cells #[.int .u8 op', .int .u8 dst', .int .u8 src', .int .i16 off', .int .i32 imm'] 42)
    obtain ⟨c0, c1, c2, c3, c4⟩ := later5 hx
    clear hx hy
    have cb : ((w.alloc (.cells #[.int .u8 op, .int .u8 dst, .int .u8 src, .int .i16 off, .int .i32 imm] 42)).alloc (.cells #[.int .u8 op', .int .u8 dst', .int .u8 src', .int .i16 off', .int .i32 imm'] 42)).cell? ⟨B, 0, none⟩ = some (.bool wide) := ((below2 w _ _).cell (p := ⟨B, 0, none⟩) hbox.lt).trans hbox.cell
    have cB := Later.cell cb
    have hblt := hbox.lt
    clear hbox
    go_enter Try.func60, Try.ntmps60
    go_wp2
    refine wp_region_later (by kernel_rfl) (by kernel_rfl) ?_
    repeat (go_big_quiet_step ((first | exact Later.calls _ hO.out)))
    refine wpQuiet_nil ?_
    rintro _ ⟨x, rfl⟩
    have HX := hide (below2c x.below)
    clear c0 c1 c2 c3 c4 cB cb
    go_wp2
    go_ret2
    exact ⟨by simp [aluIs, aluFits, h, HO.out], HX.out⟩
  · have HO := hide ho
    clear ho
    by_cases h0 : off = 0
    · subst h0
      obtain ⟨hx, hy⟩ := two_boxes w (.cells #[.int .u8 op, .int .u8 dst, .int .u8 src, .int .i16 0, .int .i32 imm] 42) (.cells #[.int .u8 op', .int .u8 dst', .int .u8 src', .int .i16 off', .int .i32 imm'] 42)
      obtain ⟨c0, c1, c2, c3, c4⟩ := later5 hx
      clear hx hy
      have cb : ((w.alloc (.cells #[.int .u8 op, .int .u8 dst, .int .u8 src, .int .i16 0, .int .i32 imm] 42)).alloc (.cells #[.int .u8 op', .int .u8 dst', .int .u8 src', .int .i16 off', .int .i32 imm'] 42)).cell? ⟨B, 0, none⟩ = some (.bool wide) := ((below2 w _ _).cell (p := ⟨B, 0, none⟩) hbox.lt).trans hbox.cell
      have cB := Later.cell cb
      have hblt := hbox.lt
      clear hbox
      go_enter Try.func60, Try.ntmps60
      go_wp2
      refine wp_region_later (by kernel_rfl) (by kernel_rfl) ?_
      repeat (go_big_quiet_step ((first | exact Later.calls _ hO.out)))
      refine wpQuiet_nil ?_
      rintro _ ⟨x, rfl⟩
      have HX := hide (below2c x.below)
      clear c0 c1 c2 c3 c4 cB cb
      go_wp2
      go_ret2
      exact ⟨by simp [aluIs, aluFits, h, HO.out], HX.out⟩
    · have h0' : (off == 0) = false := by simpa using h0
      obtain ⟨hx, hy⟩ := two_boxes w (.cells #[.int .u8 op, .int .u8 dst, .int .u8 src, .int .i16 off, .int .i32 imm] 42) (.cells #[.int .u8 op', .int .u8 dst', .int .u8 src', .int .i16 off', .int .i32 imm'] 42)
      obtain ⟨c0, c1, c2, c3, c4⟩ := later5 hx
      clear hx hy
      have cb : ((w.alloc (.cells #[.int .u8 op, .int .u8 dst, .int .u8 src, .int .i16 off, .int .i32 imm] 42)).alloc (.cells #[.int .u8 op', .int .u8 dst', .int .u8 src', .int .i16 off', .int .i32 imm'] 42)).cell? ⟨B, 0, none⟩ = some (.bool wide) := ((below2 w _ _).cell (p := ⟨B, 0, none⟩) hbox.lt).trans hbox.cell
      have cB := Later.cell cb
      have hblt := hbox.lt
      clear hbox
      go_enter Try.func60, Try.ntmps60
      go_wp2
      refine wp_region_later (by kernel_rfl) (by kernel_rfl) ?_
      repeat (go_big_quiet_step ((first | exact Later.calls _ hO.out)))
      refine wpQuiet_nil ?_
      rintro _ ⟨x, rfl⟩
      have HX := hide (below2c x.below)
      clear c0 c1 c2 c3 c4 cB cb
      go_wp2
      go_ret2
      exact ⟨by simp [aluIs, aluFits, h, HO.out, h0], HX.out⟩
set_option maxRecDepth 100000 in
set_option maxHeartbeats 1000000 in
theorem alu_mod (B : Nat) (wide : Bool) (hbox : Boxed w B 4 (.bool wide)) (h : bits .and .u8 op 240 = 144) : Calls Try.prog 60 #[.agg #[.int .u8 op, .int .u8 dst, .int .u8 src, .int .i16 off, .int .i32 imm], .agg #[.int .u8 op', .int .u8 dst', .int .u8 src', .int .i16 off', .int .i32 imm'], .pointer (some ⟨B, 0, none⟩)] w fun e w' =>
    e = .returned (.tuple #[.bool (aluIs wide op), .bool (aluFits wide ⟨op, dst, src, off, imm⟩)]) ∧ Below w.heap.size w w' := by
  have hO := hide (fun w => one_any op dst src off imm w)
  cases ho : oneB ⟨op, dst, src, off, imm⟩ <;> rw [ho] at hO
  · have HO := hide ho
    clear ho
    obtain ⟨hx, hy⟩ := two_boxes w (.cells #[.int .u8 op, .int .u8 dst, .int .u8 src, .int .i16 off, .int .i32 imm] 42) (.cells #[.int .u8 op', .int .u8 dst', .int .u8 src', .int .i16 off', .int .i32 imm'] 42)
    obtain ⟨c0, c1, c2, c3, c4⟩ := later5 hx
    clear hx hy
    have cb : ((w.alloc (.cells #[.int .u8 op, .int .u8 dst, .int .u8 src, .int .i16 off, .int .i32 imm] 42)).alloc (.cells #[.int .u8 op', .int .u8 dst', .int .u8 src', .int .i16 off', .int .i32 imm'] 42)).cell? ⟨B, 0, none⟩ = some (.bool wide) := ((below2 w _ _).cell (p := ⟨B, 0, none⟩) hbox.lt).trans hbox.cell
    have cB := Later.cell cb
    have hblt := hbox.lt
    clear hbox
    go_enter Try.func60, Try.ntmps60
    go_wp2
    refine wp_region_later (by kernel_rfl) (by kernel_rfl) ?_
    repeat (go_big_quiet_step ((first | exact Later.calls _ hO.out)))
    refine wpQuiet_nil ?_
    rintro _ ⟨x, rfl⟩
    have HX := hide (below2c x.below)
    clear c0 c1 c2 c3 c4 cB cb
    go_wp2
    go_ret2
    exact ⟨by simp [aluIs, aluFits, h, HO.out], HX.out⟩
  · have HO := hide ho
    clear ho
    by_cases h0 : off = 0
    · subst h0
      obtain ⟨hx, hy⟩ := two_boxes w (.cells #[.int .u8 op, .int .u8 dst, .int .u8 src, .int .i16 0, .int .i32 imm] 42) (.cells #[.int .u8 op', .int .u8 dst', .int .u8 src', .int .i16 off', .int .i32 imm'] 42)
      obtain ⟨c0, c1, c2, c3, c4⟩ := later5 hx
      clear hx hy
      have cb : ((w.alloc (.cells #[.int .u8 op, .int .u8 dst, .int .u8 src, .int .i16 0, .int .i32 imm] 42)).alloc (.cells #[.int .u8 op', .int .u8 dst', .int .u8 src', .int .i16 off', .int .i32 imm'] 42)).cell? ⟨B, 0, none⟩ = some (.bool wide) := ((below2 w _ _).cell (p := ⟨B, 0, none⟩) hbox.lt).trans hbox.cell
      have cB := Later.cell cb
      have hblt := hbox.lt
      clear hbox
      go_enter Try.func60, Try.ntmps60
      go_wp2
      refine wp_region_later (by kernel_rfl) (by kernel_rfl) ?_
      repeat (go_big_quiet_step ((first | exact Later.calls _ hO.out)))
      refine wpQuiet_nil ?_
      rintro _ ⟨x, rfl⟩
      have HX := hide (below2c x.below)
      clear c0 c1 c2 c3 c4 cB cb
      go_wp2
      go_ret2
      exact ⟨by simp [aluIs, aluFits, h, HO.out], HX.out⟩
    · have h0' : (off == 0) = false := by simpa using h0
      obtain ⟨hx, hy⟩ := two_boxes w (.cells #[.int .u8 op, .int .u8 dst, .int .u8 src, .int .i16 off, .int .i32 imm] 42) (.cells #[.int .u8 op', .int .u8 dst', .int .u8 src', .int .i16 off', .int .i32 imm'] 42)
      obtain ⟨c0, c1, c2, c3, c4⟩ := later5 hx
      clear hx hy
      have cb : ((w.alloc (.cells #[.int .u8 op, .int .u8 dst, .int .u8 src, .int .i16 off, .int .i32 imm] 42)).alloc (.cells #[.int .u8 op', .int .u8 dst', .int .u8 src', .int .i16 off', .int .i32 imm'] 42)).cell? ⟨B, 0, none⟩ = some (.bool wide) := ((below2 w _ _).cell (p := ⟨B, 0, none⟩) hbox.lt).trans hbox.cell
      have cB := Later.cell cb
      have hblt := hbox.lt
      clear hbox
      go_enter Try.func60, Try.ntmps60
      go_wp2
      refine wp_region_later (by kernel_rfl) (by kernel_rfl) ?_
      repeat (go_big_quiet_step ((first | exact Later.calls _ hO.out)))
      refine wpQuiet_nil ?_
      rintro _ ⟨x, rfl⟩
      have HX := hide (below2c x.below)
      clear c0 c1 c2 c3 c4 cB cb
      go_wp2
      go_ret2
      exact ⟨by simp [aluIs, aluFits, h, HO.out, h0], HX.out⟩
set_option maxRecDepth 100000 in
set_option maxHeartbeats 1000000 in
theorem alu_mov (B : Nat) (wide : Bool) (hbox : Boxed w B 4 (.bool wide)) (h : bits .and .u8 op 240 = 176) : Calls Try.prog 60 #[.agg #[.int .u8 op, .int .u8 dst, .int .u8 src, .int .i16 off, .int .i32 imm], .agg #[.int .u8 op', .int .u8 dst', .int .u8 src', .int .i16 off', .int .i32 imm'], .pointer (some ⟨B, 0, none⟩)] w fun e w' =>
    e = .returned (.tuple #[.bool (aluIs wide op), .bool (aluFits wide ⟨op, dst, src, off, imm⟩)]) ∧ Below w.heap.size w w' := by
  have hW : ((w.alloc (.cells #[.int .u8 op, .int .u8 dst, .int .u8 src, .int .i16 off, .int .i32 imm] 42)).alloc (.cells #[.int .u8 op', .int .u8 dst', .int .u8 src', .int .i16 off', .int .i32 imm'] 42)).cell? ⟨B, 0, none⟩ = some (.bool wide) := ((below2 w _ _).cell (p := ⟨B, 0, none⟩) hbox.lt).trans hbox.cell
  have hO := one_any op dst src off imm ((w.alloc (.cells #[.int .u8 op, .int .u8 dst, .int .u8 src, .int .i16 off, .int .i32 imm] 42)).alloc (.cells #[.int .u8 op', .int .u8 dst', .int .u8 src', .int .i16 off', .int .i32 imm'] 42))
  have hM := hide (fun w => mov_any op dst src off imm w wide)
  have hblt := hbox.lt
  have hbl2 : B < w.heap.size + 2 := by omega
  clear hbox
  cases ho : oneB ⟨op, dst, src, off, imm⟩ <;> rw [ho] at hO
  all_goals
    have HO := hide ho
    clear ho
    go_enter Try.func60, Try.ntmps60
    go_wp2_with (first | (go_at_call 63; refine hO.mono ?_; rintro e w1 ⟨rfl, hb⟩; obtain ⟨hc, hf⟩ := bcell hb) | (go_at_call 64; refine (hM.out _).mono ?_; rintro e w2 ⟨rfl, hb2⟩))
    go_ret2
    exact ⟨by simp [aluIs, aluFits, h, HO.out], by first | exact below2c (hb.trans (hb2.mono hb.size)) | exact below2c hb⟩
set_option maxRecDepth 100000 in
set_option maxHeartbeats 1000000 in
theorem alu_else (B : Nat) (wide : Bool) (hbox : Boxed w B 4 (.bool wide)) (h1 : bits .and .u8 op 240 ≠ 208) (h2 : bits .and .u8 op 240 ≠ 128) (h3 : bits .and .u8 op 240 ≠ 48) (h4 : bits .and .u8 op 240 ≠ 144) (h5 : bits .and .u8 op 240 ≠ 176) : Calls Try.prog 60 #[.agg #[.int .u8 op, .int .u8 dst, .int .u8 src, .int .i16 off, .int .i32 imm], .agg #[.int .u8 op', .int .u8 dst', .int .u8 src', .int .i16 off', .int .i32 imm'], .pointer (some ⟨B, 0, none⟩)] w fun e w' =>
    e = .returned (.tuple #[.bool (aluIs wide op), .bool (aluFits wide ⟨op, dst, src, off, imm⟩)]) ∧ Below w.heap.size w w' := by
  have hO := hide (fun w => one_any op dst src off imm w)
  have g1 : (bits .and .u8 op 240 == 208) = false := by simpa using h1
  have g2 : (bits .and .u8 op 240 == 128) = false := by simpa using h2
  have g3 : (bits .and .u8 op 240 == 48) = false := by simpa using h3
  have g4 : (bits .and .u8 op 240 == 144) = false := by simpa using h4
  have g5 : (bits .and .u8 op 240 == 176) = false := by simpa using h5
  cases ho : oneB ⟨op, dst, src, off, imm⟩ <;> rw [ho] at hO
  all_goals
    have HO := hide ho
    clear ho
    obtain ⟨hx, hy⟩ := two_boxes w (.cells #[.int .u8 op, .int .u8 dst, .int .u8 src, .int .i16 off, .int .i32 imm] 42) (.cells #[.int .u8 op', .int .u8 dst', .int .u8 src', .int .i16 off', .int .i32 imm'] 42)
    obtain ⟨c0, c1, c2, c3, c4⟩ := later5 hx
    clear hx hy
    have cb : ((w.alloc (.cells #[.int .u8 op, .int .u8 dst, .int .u8 src, .int .i16 off, .int .i32 imm] 42)).alloc (.cells #[.int .u8 op', .int .u8 dst', .int .u8 src', .int .i16 off', .int .i32 imm'] 42)).cell? ⟨B, 0, none⟩ = some (.bool wide) := ((below2 w _ _).cell (p := ⟨B, 0, none⟩) hbox.lt).trans hbox.cell
    have cB := Later.cell cb
    have hblt := hbox.lt
    clear hbox
    go_enter Try.func60, Try.ntmps60
    go_wp2
    refine wp_region_later (by kernel_rfl) (by kernel_rfl) ?_
    repeat (go_big_quiet_step ((first | exact Later.calls _ hO.out)))
    refine wpQuiet_nil ?_
    rintro _ ⟨x, rfl⟩
    have HX := hide (below2c x.below)
    clear c0 c1 c2 c3 c4 cB cb
    go_wp2
    go_ret2
    exact ⟨by simp [aluIs, aluFits, h1, h2, h3, h4, h5, HO.out], HX.out⟩
theorem alu_any (B : Nat) (wide : Bool) (hbox : Boxed w B 4 (.bool wide)) : Calls Try.prog 60 #[.agg #[.int .u8 op, .int .u8 dst, .int .u8 src, .int .i16 off, .int .i32 imm], .agg #[.int .u8 op', .int .u8 dst', .int .u8 src', .int .i16 off', .int .i32 imm'], .pointer (some ⟨B, 0, none⟩)] w fun e w' =>
    e = .returned (.tuple #[.bool (aluIs wide op), .bool (aluFits wide ⟨op, dst, src, off, imm⟩)]) ∧ Below w.heap.size w w' := by
  by_cases h1 : bits .and .u8 op 240 = 208
  · exact alu_end op dst src off imm op' dst' src' off' imm' w B wide hbox h1
  by_cases h2 : bits .and .u8 op 240 = 128
  · exact alu_neg op dst src off imm op' dst' src' off' imm' w B wide hbox h2
  by_cases h3 : bits .and .u8 op 240 = 48
  · exact alu_div op dst src off imm op' dst' src' off' imm' w B wide hbox h3
  by_cases h4 : bits .and .u8 op 240 = 144
  · exact alu_mod op dst src off imm op' dst' src' off' imm' w B wide hbox h4
  by_cases h5 : bits .and .u8 op 240 = 176
  · exact alu_mov op dst src off imm op' dst' src' off' imm' w B wide hbox h5
  exact alu_else op dst src off imm op' dst' src' off' imm' w B wide hbox h1 h2 h3 h4 h5
end
end Go.Proofs.Ytjnmfgkjeofneaa
