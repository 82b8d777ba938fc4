/-
  A helper is the same as itself.
-/
import Derived.Test.YtedjmgiblkjonaaD4
namespace Go.Proofs.Ytedjmgiblkjonaa
open Go.RowKit Go.Maps
set_option linter.unusedVariables false

set_option maxRecDepth 100000 in
set_option maxHeartbeats 1000000 in
theorem sameHelper_yes (h : HelpM) (A A' : Option Addr) (c c' : Nat) (w : World) (ha : Args w w.heap.size A h.args.length h.args) (ha' : Args w w.heap.size A' h.args.length h.args) (hn : h.args.length ≤ 1000000) :
    Calls Try.prog 14 #[h.v A c, h.v A' c'] w fun e w' => e = .returned (.bool true) ∧ Below w.heap.size w w' := by
  obtain ⟨i, mj, mn, k, l, ⟨rk, lo, hi, sz⟩⟩ := h
  simp only [HelpM.v] at ha ha' hn ⊢
  have hS : Hid (∀ X : World, Below w.heap.size w X → Calls Try.prog 33 #[.slice A l.length c, .slice A' l.length c'] X fun e w' => e = .returned (.bool true) ∧ Below X.heap.size X w') := hide (fun X hX => by
    have := sameArgs_any A A' l.length l.length c c' X.heap.size l l X ((ha.below hX).mono hX.size) ((ha'.below hX).mono hX.size) (Nat.le_refl _) hn hn
    rwa [(argsEq_iff l l).2 rfl] at this)
  have hE := hide (fun w => eqRet w rk lo hi sz rk lo hi sz)
  generalize l.length = n at *
  clear ha ha' hn
  obtain ⟨x1, x2⟩ := two_boxes w (.cells #[.int .i64 i, .int .i64 mj, .int .i64 mn, .int .u8 k, .slice A n c, .int .u8 rk, .int .i64 lo, .int .i64 hi, .int .i64 sz] 32) (.cells #[.int .i64 i, .int .i64 mj, .int .i64 mn, .int .u8 k, .slice A' n c', .int .u8 rk, .int .i64 lo, .int .i64 hi, .int .i64 sz] 32)
  have hb := below2 w (.cells #[.int .i64 i, .int .i64 mj, .int .i64 mn, .int .u8 k, .slice A n c, .int .u8 rk, .int .i64 lo, .int .i64 hi, .int .i64 sz] 32) (.cells #[.int .i64 i, .int .i64 mj, .int .i64 mn, .int .u8 k, .slice A' n c', .int .u8 rk, .int .i64 lo, .int .i64 hi, .int .i64 sz] 32)
  have HB := hide hb
  have X1 := hide x1
  have X2 := hide x2
  clear x1 x2 hb
  go_enter Try.func14, Try.ntmps14
  go_wp2_with fail
  (with_reducible refine (hS.out _ HB.out).mono ?_)
  rintro e w1 ⟨rfl, hb1⟩
  have r1 := (hb1.block _ (at_lt X1.out)).trans X1.out
  have r2 := (hb1.block _ (at_lt X2.out)).trans X2.out
  have c5 := blk_cell r1 5
  have c6 := blk_cell r1 6
  have c7 := blk_cell r1 7
  have c8 := blk_cell r1 8
  have d5 := blk_cell r2 5
  have d6 := blk_cell r2 6
  have d7 := blk_cell r2 7
  have d8 := blk_cell r2 8
  simp at c5 c6 c7 c8 d5 d6 d7 d8
  have hEq := hE.out w1
  simp at hEq
  have HB1 := hide (HB.out.trans (hb1.mono HB.out.size))
  clear r1 r2 hb1
  go_wp2
  go_ret
  exact ⟨by simp, HB1.out⟩
end Go.Proofs.Ytedjmgiblkjonaa
