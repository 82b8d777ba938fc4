/-
  What the classes of loads and stores must have.
-/
import Derived.Test.YtjnmfgkjeofneaaFn3
namespace Go.Proofs.Ytjnmfgkjeofneaa
open Go.RowKit
set_option linter.unusedVariables false

theorem two_boxes (w : World) (o o' : Obj) : ((w.alloc o).alloc o').heap[w.heap.size]? = some o ∧ ((w.alloc o).alloc o').heap[w.heap.size + 1]? = some o' := by
  refine ⟨(Below.heap_alloc (w.alloc o) o' w.heap.size (by simp)).trans (World.alloc_heap_new w o), ?_⟩
  have := World.alloc_heap_new (w.alloc o) o'
  rwa [World.size_alloc] at this
section
variable (op dst src off imm : Int) (op' dst' src' off' imm' : Int) (w : World)
set_option maxRecDepth 100000 in
theorem must0 : Calls Try.prog 39 #[.agg #[.int .u8 op, .int .u8 dst, .int .u8 src, .int .i16 off, .int .i32 imm], .agg #[.int .u8 op', .int .u8 dst', .int .u8 src', .int .i16 off', .int .i32 imm']] w fun e w' =>
    e = .returned (.tuple #[.bool (op == 24), .bool (load64B ⟨op, dst, src, off, imm⟩ ⟨op', dst', src', off', imm'⟩)]) ∧ Below w.heap.size w w' := by
  obtain ⟨hx, hy⟩ := two_boxes w (.cells #[.int .u8 op, .int .u8 dst, .int .u8 src, .int .i16 off, .int .i32 imm] 42) (.cells #[.int .u8 op', .int .u8 dst', .int .u8 src', .int .i16 off', .int .i32 imm'] 42)
  obtain ⟨c0, c1, c2, c3, c4⟩ := later5 hx
  obtain ⟨d0, d1, d2, d3, d4⟩ := later5 hy
  clear hx hy
  go_enter Try.func39, Try.ntmps39
  go_wp2
  refine wp_region_later (by kernel_rfl) (by kernel_rfl) ?_
  repeat (go_big_quiet_step ((exact Later.calls _ (load64_any op dst src off imm · op' dst' src' off' imm'))))
  refine wpQuiet_nil ?_
  rintro _ ⟨x, rfl⟩
  have HX := hide (below2c x.below)
  clear c0 c1 c2 c3 c4 d0 d1 d2 d3 d4
  go_wp2
  go_ret2
  exact ⟨rfl, HX.out⟩
set_option maxRecDepth 100000 in
theorem must2 : Calls Try.prog 44 #[.agg #[.int .u8 op, .int .u8 dst, .int .u8 src, .int .i16 off, .int .i32 imm], .agg #[.int .u8 op', .int .u8 dst', .int .u8 src', .int .i16 off', .int .i32 imm']] w fun e w' =>
    e = .returned (.tuple #[.bool (memB op), .bool (src == 0)]) ∧ Below w.heap.size w w' := by
  obtain ⟨hx, hy⟩ := two_boxes w (.cells #[.int .u8 op, .int .u8 dst, .int .u8 src, .int .i16 off, .int .i32 imm] 42) (.cells #[.int .u8 op', .int .u8 dst', .int .u8 src', .int .i16 off', .int .i32 imm'] 42)
  obtain ⟨c0, c1, c2, c3, c4⟩ := later5 hx
  clear hx hy
  go_enter Try.func44, Try.ntmps44
  go_wp2
  refine wp_region_later (by kernel_rfl) (by kernel_rfl) ?_
  repeat (go_big_quiet_step ((exact Later.calls _ (mem_any op dst src off imm))))
  refine wpQuiet_nil ?_
  rintro _ ⟨x, rfl⟩
  have HX := hide (below2c x.below)
  clear c0 c1 c2 c3 c4
  go_wp2
  go_ret2
  exact ⟨rfl, HX.out⟩
set_option maxRecDepth 100000 in
theorem must3 : Calls Try.prog 45 #[.agg #[.int .u8 op, .int .u8 dst, .int .u8 src, .int .i16 off, .int .i32 imm], .agg #[.int .u8 op', .int .u8 dst', .int .u8 src', .int .i16 off', .int .i32 imm']] w fun e w' =>
    e = .returned (.tuple #[.bool (memB op), .bool (imm == 0)]) ∧ Below w.heap.size w w' := by
  obtain ⟨hx, hy⟩ := two_boxes w (.cells #[.int .u8 op, .int .u8 dst, .int .u8 src, .int .i16 off, .int .i32 imm] 42) (.cells #[.int .u8 op', .int .u8 dst', .int .u8 src', .int .i16 off', .int .i32 imm'] 42)
  obtain ⟨c0, c1, c2, c3, c4⟩ := later5 hx
  clear hx hy
  go_enter Try.func45, Try.ntmps45
  go_wp2
  refine wp_region_later (by kernel_rfl) (by kernel_rfl) ?_
  repeat (go_big_quiet_step ((exact Later.calls _ (mem_any op dst src off imm))))
  refine wpQuiet_nil ?_
  rintro _ ⟨x, rfl⟩
  have HX := hide (below2c x.below)
  clear c0 c1 c2 c3 c4
  go_wp2
  go_ret2
  exact ⟨rfl, HX.out⟩
set_option maxRecDepth 100000 in
theorem must1 : Calls Try.prog 41 #[.agg #[.int .u8 op, .int .u8 dst, .int .u8 src, .int .i16 off, .int .i32 imm], .agg #[.int .u8 op', .int .u8 dst', .int .u8 src', .int .i16 off', .int .i32 imm']] w fun e w' =>
    e = .returned (.tuple #[.bool (memB op || sgnB op), .bool (imm == 0)]) ∧ Below w.heap.size w w' := by
  have hM := hide (fun w => mem_any op dst src off imm w)
  have hS := hide (fun w => sgn_any op dst src off imm w)
  cases hm : memB op <;> rw [hm] at hM
  all_goals
    obtain ⟨hx, hy⟩ := two_boxes w (.cells #[.int .u8 op, .int .u8 dst, .int .u8 src, .int .i16 off, .int .i32 imm] 42) (.cells #[.int .u8 op', .int .u8 dst', .int .u8 src', .int .i16 off', .int .i32 imm'] 42)
    obtain ⟨c0, c1, c2, c3, c4⟩ := later5 hx
    clear hx hy
    go_enter Try.func41, Try.ntmps41
    go_wp2
    refine wp_region_later (by kernel_rfl) (by kernel_rfl) ?_
    repeat (go_big_quiet_step ((first | exact Later.calls _ hM.out | exact Later.calls _ hS.out)))
    refine wpQuiet_nil ?_
    rintro _ ⟨x, rfl⟩
    have HX := hide (below2c x.below)
    clear c0 c1 c2 c3 c4
    go_wp2
    go_ret2
    exact ⟨by simp, HX.out⟩
end
end Go.Proofs.Ytjnmfgkjeofneaa
