/-
  Registers, moves, loads of 64 bits, conditions, targets.
-/
import Derived.Test.YtjnmfgkjeofneaaFn1
namespace Go.Proofs.Ytjnmfgkjeofneaa
open Go.RowKit
set_option linter.unusedVariables false

section
variable (op dst src off imm : Int) (w : World)
theorem regs_any : Calls Try.prog 50 #[.agg #[.int .u8 op, .int .u8 dst, .int .u8 src, .int .i16 off, .int .i32 imm]] w fun e w' => e = .returned (.bool (regsB ⟨op, dst, src, off, imm⟩)) ∧ Below w.heap.size w w' := by
  by_cases h1 : dst ≤ 10
  · by_cases h2 : src ≤ 10
    · by_cases h3 : dst = 10
      · subst h3
        have hr := wr_any op 10 src off imm (w.alloc (.cells #[.int .u8 op, .int .u8 10, .int .u8 src, .int .i16 off, .int .i32 imm] 42))
        go_enter Try.func50, Try.ntmps50
        go_wp2_with (go_at_call 66; refine hr.mono ?_; rintro e w1 ⟨rfl, hb⟩; obtain ⟨hc, hf⟩ := bcell hb)
        all_goals
          go_ret
          exact ⟨by simp [regsB, *], below1c hb⟩
      · have h3' : (dst == 10) = false := by simpa using h3
        go_enter Try.func50, Try.ntmps50
        go_wp2
        go_ret
        exact ⟨by simp [regsB, *], below1 _ _⟩
    · have h2' : decide (src ≤ 10) = false := by simpa using h2
      go_enter Try.func50, Try.ntmps50
      go_wp2
      go_ret
      exact ⟨by simp [regsB, *], below1 _ _⟩
  · have h1' : decide (dst ≤ 10) = false := by simpa using h1
    go_enter Try.func50, Try.ntmps50
    go_wp2
    go_ret
    exact ⟨by simp [regsB, *], below1 _ _⟩
theorem mov_any (wide : Bool) : Calls Try.prog 64 #[.agg #[.int .u8 op, .int .u8 dst, .int .u8 src, .int .i16 off, .int .i32 imm], .bool wide] w fun e w' => e = .returned (.bool (movB ⟨op, dst, src, off, imm⟩ wide)) ∧ Below w.heap.size w w' := by
  have hr := rs_any op dst src off imm (w.alloc (.cells #[.int .u8 op, .int .u8 dst, .int .u8 src, .int .i16 off, .int .i32 imm] 42))
  cases h : rsB op <;> rw [h] at hr
  all_goals
    go_enter Try.func64, Try.ntmps64
    go_wp2_with (go_at_call 61; refine hr.mono ?_; rintro e w1 ⟨rfl, hb⟩; obtain ⟨hc, hf⟩ := bcell hb)
    all_goals
      go_ret
      exact ⟨by simp [movB, *], by first | exact below1c hb | exact below1 _ _⟩
theorem load64_any (op' dst' src' off' imm' : Int) : Calls Try.prog 40 #[.agg #[.int .u8 op, .int .u8 dst, .int .u8 src, .int .i16 off, .int .i32 imm], .agg #[.int .u8 op', .int .u8 dst', .int .u8 src', .int .i16 off', .int .i32 imm']] w fun e w' => e = .returned (.bool (load64B ⟨op, dst, src, off, imm⟩ ⟨op', dst', src', off', imm'⟩)) ∧ Below w.heap.size w w' := by
  have hq := fun w => neqIns w op' dst' src' off' imm' 0 0 0 0 imm'
  generalize hz : (op' == 0 && dst' == 0 && src' == 0 && off' == 0) = z
  have hz' : (op' == 0 && dst' == 0 && src' == 0 && off' == 0 && imm' == imm') = z := by rw [hz]; simp
  simp only [hz'] at hq
  have HZ := hide hz
  clear hz hz'
  cases z
  all_goals
    go_enter Try.func40, Try.ntmps40
    go_wp2
    all_goals
      go_ret
      exact ⟨by simp [load64B, HZ.out, *] <;> omega, below2 _ _ _⟩
set_option maxRecDepth 100000 in
theorem cond_any : Calls Try.prog 57 #[.agg #[.int .u8 op, .int .u8 dst, .int .u8 src, .int .i16 off, .int .i32 imm]] w fun e w' => e = .returned (.bool (condB op)) ∧ Below w.heap.size w w' := by
  obtain ⟨c0, c1, c2, c3, c4⟩ := later5 (World.alloc_heap_new w (.cells #[.int .u8 op, .int .u8 dst, .int .u8 src, .int .i16 off, .int .i32 imm] 42))
  go_enter Try.func57, Try.ntmps57
  go_wp2
  refine wp_region_later (by kernel_rfl) (by kernel_rfl) ?_
  repeat (go_big_quiet_step (fail))
  refine wpQuiet_nil ?_
  rintro _ ⟨x, rfl⟩
  have HX := hide (below1c x.below)
  clear c0 c1 c2 c3 c4
  go_wp2
  all_goals
    go_ret
    exact ⟨by simp [condB, *] <;> omega, HX.out⟩
end
end Go.Proofs.Ytjnmfgkjeofneaa
