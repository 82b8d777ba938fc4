/-
  A slot is read of its eight bytes.
-/
import Derived.Test.YtjndmpockfmenaaGreatG1
import Derived.StillTailTactics
namespace Go.Proofs.YtjndmpockfmenaaGreat
open Go.RowKit
set_option linter.unusedVariables false

theorem flip_same {f : FuncId} {args : Array Value} {w : World} {v : Value} (h : Calls Tryz.prog f args w fun e w' => e = .returned v ∧ w = w') : Calls Tryz.prog f args w fun e w' => e = .returned v ∧ w' = w :=
  h.mono fun e w' h => ⟨h.1, h.2.symm⟩

theorem blk_free {W : World} {b : Nat} {cs : Array Value} {t : TypeId} (h : W.heap[b]? = some (.cells cs t (0, 0))) (i : Nat) : W.frozen? ⟨b, i, none⟩ = false := by simp [World.frozen?, h]
/-- The slot whose eight bytes these are. -/
def slotOf (b0 b1 b2 b3 b4 b5 b6 b7 : Int) : Ins :=
  ⟨b0, b1 % 16, b1 / 16, IntKind.i16.wrap (b2 + 256 * b3), IntKind.i32.wrap (b4 + 256 * b5 + 65536 * b6 + 16777216 * b7)⟩
set_option maxRecDepth 100000 in
set_option maxHeartbeats 2000000 in
theorem getSlot_walk (a : Addr) (b0 b1 b2 b3 b4 b5 b6 b7 : Int) (w : World) (h0 : 0 ≤ b0 ∧ b0 < 256) (h1 : 0 ≤ b1 ∧ b1 < 256) (h2 : 0 ≤ b2 ∧ b2 < 256) (h3 : 0 ≤ b3 ∧ b3 < 256) (h4 : 0 ≤ b4 ∧ b4 < 256) (h5 : 0 ≤ b5 ∧ b5 < 256) (h6 : 0 ≤ b6 ∧ b6 < 256) (h7 : 0 ≤ b7 ∧ b7 < 256)
    (hlt : a.block < w.heap.size)
    (c0 : w.cell? a = some (.int .u8 b0)) (c1 : w.cell? ⟨a.block, a.off + 1, none⟩ = some (.int .u8 b1)) (c2 : w.cell? ⟨a.block, a.off + 2, none⟩ = some (.int .u8 b2)) (c3 : w.cell? ⟨a.block, a.off + 3, none⟩ = some (.int .u8 b3))
    (c4 : w.cell? ⟨a.block, a.off + 4, none⟩ = some (.int .u8 b4)) (c5 : w.cell? ⟨a.block, a.off + 5, none⟩ = some (.int .u8 b5)) (c6 : w.cell? ⟨a.block, a.off + 6, none⟩ = some (.int .u8 b6)) (c7 : w.cell? ⟨a.block, a.off + 7, none⟩ = some (.int .u8 b7)) :
    Calls Tryz.prog 33 #[.slice (some a) 8 8] w fun e w' => e = .returned (.agg (slotOf b0 b1 b2 b3 b4 b5 b6 b7).cells.toArray) ∧ Below w.heap.size w w' := by
  go_enter Tryz.func33, Tryz.ntmps33
  go_wp2
  refine wp_region_still_tail 20 (by kernel_rfl) (by kernel_rfl) ?_
  simp only [List.take_succ_cons, List.take_zero, List.drop_succ_cons, List.drop_zero]
  generalize hW : ({ w.alloc (.cells #[.int .u8 0, .int .u8 0, .int .u8 0, .int .i16 0, .int .i32 0] 27) with drawn := _ } : World) = W2
  have hB : Below w.heap.size w W2 := by rw [← hW]; exact ((Below.refl _ w).alloc (Nat.le_refl _) _).drew
  have hO : W2.heap[w.heap.size]? = some (.cells #[.int .u8 0, .int .u8 0, .int .u8 0, .int .i16 0, .int .i32 0] 27 (0, 0)) := by rw [← hW]; exact World.alloc_heap_new w _
  clear hW
  have d0 := (hB.cell (p := a) hlt).trans c0
  have d1 := (hB.cell (p := ⟨a.block, a.off + 1, none⟩) hlt).trans c1
  have d2 := (hB.cell (p := ⟨a.block, a.off + 2, none⟩) hlt).trans c2
  have d3 := (hB.cell (p := ⟨a.block, a.off + 3, none⟩) hlt).trans c3
  have d4 := (hB.cell (p := ⟨a.block, a.off + 4, none⟩) hlt).trans c4
  have d5 := (hB.cell (p := ⟨a.block, a.off + 5, none⟩) hlt).trans c5
  have d6 := (hB.cell (p := ⟨a.block, a.off + 6, none⟩) hlt).trans c6
  have d7 := (hB.cell (p := ⟨a.block, a.off + 7, none⟩) hlt).trans c7
  have HA := hide (flip_same (get16_any a.block (a.off + 2) 6 6 b2 b3 _ (by omega) h2 h3 d2 d3))
  have HC := hide (flip_same (get32_any a.block (a.off + 4) 4 4 b4 b5 b6 b7 _ (by omega) h4 h5 h6 h7 d4 d5 d6 d7))
  have HB := hide hB
  clear hB c0 c1 c2 c3 c4 c5 c6 c7 d2 d3 d4 d5 d6 d7
  repeat still_step
  still_call HA.out
  repeat still_step
  still_call HC.out
  repeat still_step
  refine wpStill_nil ?_
  clear d0 d1 HA HC
  have e0 := blk_cell hO 0
  have f0 := blk_free hO 0
  have e1 := blk_cell hO 1
  have f1 := blk_free hO 1
  have e2 := blk_cell hO 2
  have f2 := blk_free hO 2
  have e3 := blk_cell hO 3
  have f3 := blk_free hO 3
  have e4 := blk_cell hO 4
  have f4 := blk_free hO 4
  clear hO
  simp at e0 e1 e2 e3 e4
  go_wp2
  refine bodyPost_ret (v := .agg (slotOf b0 b1 b2 b3 b4 b5 b6 b7).cells.toArray) ?_ rfl ⟨rfl, ?_⟩
  · simp [results, Tryz.results33, go_sem, slotOf, Ins.cells, e0, e1, e2, e3, e4]; simp [wrap32, IntKind.wrap_i32]
  · exact ((((HB.out.setCell (p := ⟨_, 0, none⟩) (Nat.le_refl _) _).setCell (p := ⟨_, 1, none⟩) (Nat.le_refl _) _).setCell (p := ⟨_, 2, none⟩) (Nat.le_refl _) _).setCell (p := ⟨_, 3, none⟩) (Nat.le_refl _) _).setCell (p := ⟨_, 4, none⟩) (Nat.le_refl _) _
end Go.Proofs.YtjndmpockfmenaaGreat
