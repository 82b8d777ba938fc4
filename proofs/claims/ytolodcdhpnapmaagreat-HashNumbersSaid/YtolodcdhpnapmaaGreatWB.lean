/-
  Rows of bytes, and the marks that stand behind what is lent.
-/
import Derived.Test.YtolodcdhpnapmaaGreatKB
namespace Go.Proofs.YtolodcdhpnapmaaGreat
open Go.RowKit
set_option linter.unusedVariables false

def u8s (l : List Int) : List Value := l.map (.int .u8 ·)
def IsByte (b : Int) : Prop := 0 ≤ b ∧ b < 256
theorem u8s_one (l : List Int) : ∀ u ∈ u8s l, u.oneCell' = true := by
  intro u hu
  unfold u8s at hu
  rw [List.mem_map] at hu
  obtain ⟨b, _, rfl⟩ := hu
  rfl
theorem u8info : (Tryz.prog.info? 5).map (fun i => (i.zero, i.size, i.bytes)) = some (some (.int .u8 0), 1, 1) := by kernel_rfl
theorem flip_same {f : FuncId} {args : Array Value} {w : World} {v : Value} (h : Calls Tryz.prog f args w fun e w' => e = .returned v ∧ w = w') : Calls Tryz.prog f args w fun e w' => e = .returned v ∧ w' = w :=
  h.mono fun e w' h => ⟨h.1, h.2.symm⟩
theorem blk_free {W : World} {b : Nat} {cs : Array Value} {t : TypeId} (h : W.heap[b]? = some (.cells cs t (0, 0))) (i : Nat) : W.frozen? ⟨b, i, none⟩ = false := by simp [World.frozen?, h]
theorem add_own (g i : Nat) : (⟨g, 0, none⟩ : Addr).add i = ⟨g, i, none⟩ := by unfold Addr.add; split <;> simp_all
theorem made_row (c : Nat) (hc : c ≤ 4194304) : ∃ C : Array Value, C.size = c ∧ ∀ w : World, (Instr.makeSlice 34 (.int .i64 0) (.int .i64 (c : Int))).run Tryz.prog w = .ok (.slice (some ⟨w.heap.size, 0, none⟩) 0 c) (w.alloc (.cells C 5)) ∧
    Row (w.alloc (.cells C 5)) w.heap.size c 5 1 0 [] := by
  obtain ⟨i0, hi, hz0, hz1, hz2⟩ := info_parts u8info
  refine ⟨madeCells (Value.int .u8 0).cells (c * i0.size), by rw [size_madeCells, hz1]; omega, fun w => ⟨?_, ?_⟩⟩
  · have := run_make (P := Tryz.prog) w 34 5 i0 _ Tryz.underlying34 hi hz0 .i64 .i64 0 (c : Int) (Int.le_refl _) (by omega) (by rw [hz2]; omega) (by omega)
    simpa using this
  · exact World.ownsRow_made w _ c (Nat.zero_le _) (by simp only [maxLen]; omega) (by rw [size_madeCells, hz1])
end Go.Proofs.YtolodcdhpnapmaaGreat
