/-
  The document's Jumps; the error of one instruction.
-/
import Derived.Test.YtjnmfgkjeofneaaQ2
import Derived.Test.YtjnmfgkjeofneaaQ01
namespace Go.Proofs.Ytjnmfgkjeofneaa
open Go.RowKit Go.Maps
set_option linter.unusedVariables false

/-- The target that a jump of the document has. -/
def jtR (k : Nat) (s : Ins) : Int := if jumpsR s.op = true then (if hiI s.op = 0 ∧ clsI s.op = 6 then (k : Int) + 1 + s.imm else (k : Int) + 1 + s.off) else 0
section
variable (op dst src off imm : Int) (w : World)
set_option maxRecDepth 100000 in
set_option maxHeartbeats 2000000 in
theorem jumps_ref (k : Nat) (hk : k ≤ 4097) (ho : -32768 ≤ off ∧ off < 32768) (hi : -2147483648 ≤ imm ∧ imm < 2147483648) :
    Calls Try.prog 37 #[.agg #[.int .u8 op, .int .u8 dst, .int .u8 src, .int .i16 off, .int .i32 imm], .int .i64 k] w fun e w' =>
    e = .returned (.tuple #[.int .i64 (jtR k ⟨op, dst, src, off, imm⟩), .bool (jumpsR op)]) ∧ Below w.heap.size w w' := by
  obtain ⟨ho1, ho2⟩ := ho
  obtain ⟨hi1, hi2⟩ := hi
  have hC := hide (fun w => class_any op dst src off imm w)
  have hH := hide (fun w => hi_any op dst src off imm w)
  obtain ⟨c0, c1, c2, c3, c4⟩ := later5 (World.alloc_heap_new w (.cells #[.int .u8 op, .int .u8 dst, .int .u8 src, .int .i16 off, .int .i32 imm] 42))
  go_enter Try.func37, Try.ntmps37
  go_wp2
  refine wp_region_later (by kernel_rfl) (by kernel_rfl) ?_
  repeat (go_big_quiet_step ((first | exact Later.calls _ hC.out | exact Later.calls _ hH.out)))
  refine wpQuiet_nil ?_
  rintro _ ⟨x, rfl⟩
  go_wp2
  all_goals
    go_ret2
    try simp only [beq_iff_eq, beq_eq_false_iff_ne, bne_iff_ne, bne_eq_false_iff_eq, ne_eq] at *
    exact ⟨by simp [jtR, jumpsR, *], below1c (Later.below _)⟩
end
end Go.Proofs.Ytjnmfgkjeofneaa
