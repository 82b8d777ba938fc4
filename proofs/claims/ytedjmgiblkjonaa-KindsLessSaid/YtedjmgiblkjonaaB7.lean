/-
  The host's own helpers: the rest of them.
-/
import Derived.Test.YtedjmgiblkjonaaB6
namespace Go.Proofs.Ytedjmgiblkjonaa
open Go.RowKit Go.Maps
set_option linter.unusedVariables false

set_option maxRecDepth 100000 in
set_option maxHeartbeats 2000000 in
theorem parts_8 (w : World) : Calls Try.prog 23 #[.int .u8 8] w (PartsTold 8 w) := by
  have hO := hide (fun A n c w => oneOf_any A n c w)
  have hP := hide (fun k w => plain_any k w)
  have hS := hide (fun lo hi w => scalar_any lo hi w)
  have hA := hide (fun lo hi w => answer_any lo hi w)
  have E52 : ∀ args W, (callFunc 52 args).run Try.prog W = .ok (.enter 52 args) W := enters_of Try.func52 (by kernel_rfl) rfl
  have E53 : ∀ args W, (callFunc 53 args).run Try.prog W = .ok (.enter 53 args) W := enters_of Try.func53 (by kernel_rfl) rfl
  have E54 : ∀ args W, (callFunc 54 args).run Try.prog W = .ok (.enter 54 args) W := enters_of Try.func54 (by kernel_rfl) rfl
  have E55 : ∀ args W, (callFunc 55 args).run Try.prog W = .ok (.enter 55 args) W := enters_of Try.func55 (by kernel_rfl) rfl
  go_enter Try.func23, Try.ntmps23
  go_wp2_with fail
  refine name_call (fun W1 hW1 => ?_)
  have b3 := World.alloc_heap_new w (.cells #[.int .u8 0, .int .i64 0, .int .i64 0, .int .i64 0] 30)
  have l1 := below1 w (.cells #[.int .u8 0, .int .i64 0, .int .i64 0, .int .i64 0] 30)
  rw [← hW1] at b3 l1
  have z1 : W1.heap.size = w.heap.size + 1 := by rw [hW1]; simp
  clear hW1
  (with_reducible refine (Later.calls0 (hP.out _)).mono ?_)
  rintro e w1 ⟨rfl, x, rfl⟩
  go_wp2_with (go_at_call 52; (with_reducible refine (Later.calls _ (hP.out _)).mono ?_); rintro e w1 ⟨rfl, x, rfl⟩)
  refine name_call (fun W2 hW2 => ?_)
  obtain ⟨b4, b5, b6⟩ := blocks3 x.w (.cells #[.int .u8 4, .int .i64 0, .int .i64 0, .slice none 0 0] 46) (.cells #[.int .u8 5, .int .i64 0, .int .i64 0, .slice none 0 0] 46) (.cells #[.int .u8 6, .int .i64 0, .int .i64 0, .slice none 0 0] 46)
  have l2 := x.below.trans ((below3 x.w (.cells #[.int .u8 4, .int .i64 0, .int .i64 0, .slice none 0 0] 46) (.cells #[.int .u8 5, .int .i64 0, .int .i64 0, .slice none 0 0] 46) (.cells #[.int .u8 6, .int .i64 0, .int .i64 0, .slice none 0 0] 46)).mono x.below.size)
  rw [← hW2] at b4 b5 b6 l2
  have z2 : w.heap.size < x.w.heap.size := by have := x.below.size; omega
  clear hW2
  generalize hg4 : x.w.heap.size = g4 at *
  clear hg4
  (with_reducible refine (Later.calls0 (hS.out _ _)).mono ?_)
  rintro e w1 ⟨rfl, y, rfl⟩
  go_wp2_with fail
  refine name_call (fun W3 hW3 => ?_)
  have b7 := World.alloc_heap_new y.w (.cells #[.int .u8 1, .int .i64 0, .int .i64 2, .slice none 0 0] 46)
  have l3 := y.below.trans ((below1 y.w (.cells #[.int .u8 1, .int .i64 0, .int .i64 2, .slice none 0 0] 46)).mono y.below.size)
  rw [← hW3] at b7 l3
  have z3 : g4 + 2 < y.w.heap.size := Nat.lt_of_lt_of_le (at_lt b6) y.below.size
  clear hW3
  generalize hg7 : y.w.heap.size = g7 at *
  clear hg7
  (with_reducible refine (Later.calls0 (hA.out _ _)).mono ?_)
  rintro e w1 ⟨rfl, z, rfl⟩
  go_wp2_with fail
  refine name_call (fun W4 hW4 => ?_)
  have b8 := World.alloc_heap_new z.w (.cells #[.int .u8 1, .int .i64 (-100), .int .i64 0, .int .i64 0] 30)
  have l4 := z.below.trans ((below1 z.w (.cells #[.int .u8 1, .int .i64 (-100), .int .i64 0, .int .i64 0] 30)).mono z.below.size)
  rw [← hW4] at b8 l4
  have z4 : g7 < z.w.heap.size := Nat.lt_of_lt_of_le (at_lt b7) z.below.size
  clear hW4
  generalize hg8 : z.w.heap.size = g8 at *
  clear hg8
  have l34 := l3.trans (l4.mono l3.size)
  have l24 := l2.trans (l34.mono l2.size)
  replace b7 := (l4.block _ (at_lt b7)).trans b7
  replace b4 := (l34.block _ (at_lt b4)).trans b4
  replace b5 := (l34.block _ (at_lt b5)).trans b5
  replace b6 := (l34.block _ (at_lt b6)).trans b6
  replace b3 := (l24.block _ (at_lt b3)).trans b3
  have lw := l1.trans (l24.mono l1.size)
  have zz := at_lt b3
  clear l1 l2 l3 l4 l34 l24 x y z
  have b5' : W4.heap[g4 + 1]? = _ := b5
  have b6' : W4.heap[g4 + 1 + 1]? = _ := b6
  generalize hg5 : g4 + 1 = g5 at *
  generalize hg6 : g5 + 1 = g6 at *
  (with_reducible refine (Later.calls0 (hP.out _)).mono ?_)
  rintro e w1 ⟨rfl, x, rfl⟩
  go_wp2_with fail
  refine name_call (fun W5 hW5 => ?_)
  have bm := World.alloc_heap_new x.w (.cells #[.int .u8 8] 22)
  have l5 := x.below.trans ((below1 x.w (.cells #[.int .u8 8] 22)).mono x.below.size)
  rw [← hW5] at bm l5
  have z5 : W4.heap.size ≤ x.w.heap.size := x.below.size
  clear hW5
  generalize hgm : x.w.heap.size = gm at *
  clear hgm
  (with_reducible refine (Later.calls0 (hO.out _ _ _)).mono ?_)
  rintro e w1 ⟨rfl, y, rfl⟩
  go_wp2_with fail
  (with_reducible refine (Later.calls _ (hS.out _ _)).mono ?_)
  rintro e w1 ⟨rfl, y, rfl⟩
  go_wp2_with fail
  refine name_call (fun W6 hW6 => ?_)
  have ba := World.alloc_heap_new y.w (.cells ([plA 2, mapA [8], scA 0 4294967295].flatMap (argCells gm)).toArray 46)
  have l6 := y.below.trans ((below1 y.w (.cells ([plA 2, mapA [8], scA 0 4294967295].flatMap (argCells gm)).toArray 46)).mono y.below.size)
  have hW6' : W6 = y.w.alloc (.cells ([plA 2, mapA [8], scA 0 4294967295].flatMap (argCells gm)).toArray 46) := hW6
  rw [← hW6'] at ba l6
  have z6 : gm < y.w.heap.size := Nat.lt_of_lt_of_le (at_lt bm) y.below.size
  clear hW6 hW6'
  generalize hga : y.w.heap.size = ga at *
  clear hga
  (with_reducible refine (Later.calls0 (hA.out _ _)).mono ?_)
  rintro e w1 ⟨rfl, z, rfl⟩
  have l46 := l5.trans (l6.mono l5.size)
  have hr := (z.below.block _ (by have := l46.size; omega)).trans ((l46.block _ zz).trans b3)
  have hm := (z.below.block _ (by have := at_lt ba; omega)).trans ((l6.block _ (at_lt bm)).trans bm)
  have ha := (z.below.block _ (at_lt ba)).trans ba
  have HB := hide (lw.trans ((l46.trans (z.below.mono l46.size)).mono lw.size))
  have HO : Hid (OwnBlk z.w W4.heap.size ga gm [plA 2, mapA [8], scA 0 4294967295]) := hide ⟨by omega, z5, ha, (by
    intro q hq hmm
    simp only [List.mem_cons, List.not_mem_nil, or_false] at hq
    rcases hq with rfl | rfl | rfl <;> first | exact hm | (exact absurd hmm (by decide))), (by
    intro q hq
    simp only [List.mem_cons, List.not_mem_nil, or_false] at hq
    rcases hq with rfl | rfl | rfl <;> decide)⟩
  have c0 := blk_cell hr 0
  have c1 := blk_cell hr 1
  have c2 := blk_cell hr 2
  have c3 := blk_cell hr 3
  have f0 := Joins.unfrozen_of_block hr 0
  have f1 := Joins.unfrozen_of_block hr 1
  have f2 := Joins.unfrozen_of_block hr 2
  have f3 := Joins.unfrozen_of_block hr 3
  simp at c0 c1 c2 c3
  obtain ⟨hs, hgr⟩ := store_4 hr (.int .u8 1) (.int .i64 (-1)) (.int .i64 (-1)) (.int .i64 0)
  have HR := hide hs
  have HG := hide hgr
  have lt0 := at_lt hr
  clear hs hgr hr hm ha bm ba
  go_wp2
  refine bodyPost_ret (v := .tuple #[.slice (some ⟨ga, 0, none⟩) 3 3, .agg #[.int .u8 1, .int .i64 (-1), .int .i64 (-1), .int .i64 0]]) ?_ rfl ⟨_, _, rfl, ⟨by decide, by unfold maxLen; omega⟩, (fun W' hs' hk' => (HO.out.keep (fun k h1 h2 => (hk' k (by omega) (Nat.lt_of_lt_of_le h2 HG.out.size)).trans (HG.out.block k h2 (fun e => by injection e with e; omega)))).args), HB.out.grown HG.out HB.out.size (fun k e => by cases e; exact Nat.le_refl _)⟩
  have e0 := blk_cell HR.out 0
  have e1 := blk_cell HR.out 1
  have e2 := blk_cell HR.out 2
  have e3 := blk_cell HR.out 3
  simp at e0 e1 e2 e3
  simp [results, Try.results23, go_sem, e0, e1, e2, e3]
set_option maxRecDepth 100000 in
set_option maxHeartbeats 2000000 in
theorem parts_9 (w : World) : Calls Try.prog 23 #[.int .u8 9] w (PartsTold 9 w) := by
  have hP := hide (fun k w => plain_any k w)
  have hS := hide (fun lo hi w => scalar_any lo hi w)
  have hA := hide (fun lo hi w => answer_any lo hi w)
  have E52 : ∀ args W, (callFunc 52 args).run Try.prog W = .ok (.enter 52 args) W := enters_of Try.func52 (by kernel_rfl) rfl
  have E53 : ∀ args W, (callFunc 53 args).run Try.prog W = .ok (.enter 53 args) W := enters_of Try.func53 (by kernel_rfl) rfl
  have E54 : ∀ args W, (callFunc 54 args).run Try.prog W = .ok (.enter 54 args) W := enters_of Try.func54 (by kernel_rfl) rfl
  have E55 : ∀ args W, (callFunc 55 args).run Try.prog W = .ok (.enter 55 args) W := enters_of Try.func55 (by kernel_rfl) rfl
  go_enter Try.func23, Try.ntmps23
  go_wp2_with fail
  refine name_call (fun W1 hW1 => ?_)
  have b3 := World.alloc_heap_new w (.cells #[.int .u8 0, .int .i64 0, .int .i64 0, .int .i64 0] 30)
  have l1 := below1 w (.cells #[.int .u8 0, .int .i64 0, .int .i64 0, .int .i64 0] 30)
  rw [← hW1] at b3 l1
  have z1 : W1.heap.size = w.heap.size + 1 := by rw [hW1]; simp
  clear hW1
  (with_reducible refine (Later.calls0 (hP.out _)).mono ?_)
  rintro e w1 ⟨rfl, x, rfl⟩
  go_wp2_with (go_at_call 52; (with_reducible refine (Later.calls _ (hP.out _)).mono ?_); rintro e w1 ⟨rfl, x, rfl⟩)
  refine name_call (fun W2 hW2 => ?_)
  obtain ⟨b4, b5, b6⟩ := blocks3 x.w (.cells #[.int .u8 4, .int .i64 0, .int .i64 0, .slice none 0 0] 46) (.cells #[.int .u8 5, .int .i64 0, .int .i64 0, .slice none 0 0] 46) (.cells #[.int .u8 6, .int .i64 0, .int .i64 0, .slice none 0 0] 46)
  have l2 := x.below.trans ((below3 x.w (.cells #[.int .u8 4, .int .i64 0, .int .i64 0, .slice none 0 0] 46) (.cells #[.int .u8 5, .int .i64 0, .int .i64 0, .slice none 0 0] 46) (.cells #[.int .u8 6, .int .i64 0, .int .i64 0, .slice none 0 0] 46)).mono x.below.size)
  rw [← hW2] at b4 b5 b6 l2
  have z2 : w.heap.size < x.w.heap.size := by have := x.below.size; omega
  clear hW2
  generalize hg4 : x.w.heap.size = g4 at *
  clear hg4
  (with_reducible refine (Later.calls0 (hS.out _ _)).mono ?_)
  rintro e w1 ⟨rfl, y, rfl⟩
  go_wp2_with fail
  refine name_call (fun W3 hW3 => ?_)
  have b7 := World.alloc_heap_new y.w (.cells #[.int .u8 1, .int .i64 0, .int .i64 2, .slice none 0 0] 46)
  have l3 := y.below.trans ((below1 y.w (.cells #[.int .u8 1, .int .i64 0, .int .i64 2, .slice none 0 0] 46)).mono y.below.size)
  rw [← hW3] at b7 l3
  have z3 : g4 + 2 < y.w.heap.size := Nat.lt_of_lt_of_le (at_lt b6) y.below.size
  clear hW3
  generalize hg7 : y.w.heap.size = g7 at *
  clear hg7
  (with_reducible refine (Later.calls0 (hA.out _ _)).mono ?_)
  rintro e w1 ⟨rfl, z, rfl⟩
  go_wp2_with fail
  refine name_call (fun W4 hW4 => ?_)
  have b8 := World.alloc_heap_new z.w (.cells #[.int .u8 1, .int .i64 (-100), .int .i64 0, .int .i64 0] 30)
  have l4 := z.below.trans ((below1 z.w (.cells #[.int .u8 1, .int .i64 (-100), .int .i64 0, .int .i64 0] 30)).mono z.below.size)
  rw [← hW4] at b8 l4
  have z4 : g7 < z.w.heap.size := Nat.lt_of_lt_of_le (at_lt b7) z.below.size
  clear hW4
  generalize hg8 : z.w.heap.size = g8 at *
  clear hg8
  have l34 := l3.trans (l4.mono l3.size)
  have l24 := l2.trans (l34.mono l2.size)
  replace b7 := (l4.block _ (at_lt b7)).trans b7
  replace b4 := (l34.block _ (at_lt b4)).trans b4
  replace b5 := (l34.block _ (at_lt b5)).trans b5
  replace b6 := (l34.block _ (at_lt b6)).trans b6
  replace b3 := (l24.block _ (at_lt b3)).trans b3
  have lw := l1.trans (l24.mono l1.size)
  have zz := at_lt b3
  clear l1 l2 l3 l4 l34 l24 x y z
  have b5' : W4.heap[g4 + 1]? = _ := b5
  have b6' : W4.heap[g4 + 1 + 1]? = _ := b6
  generalize hg5 : g4 + 1 = g5 at *
  generalize hg6 : g5 + 1 = g6 at *
  (with_reducible refine (Later.calls0 (hA.out _ _)).mono ?_)
  rintro e w1 ⟨rfl, z, rfl⟩
  have hr := (z.below.block _ zz).trans b3
  have HB := hide (lw.trans (z.below.mono lw.size))
  have c0 := blk_cell hr 0
  have c1 := blk_cell hr 1
  have c2 := blk_cell hr 2
  have c3 := blk_cell hr 3
  have f0 := Joins.unfrozen_of_block hr 0
  have f1 := Joins.unfrozen_of_block hr 1
  have f2 := Joins.unfrozen_of_block hr 2
  have f3 := Joins.unfrozen_of_block hr 3
  simp at c0 c1 c2 c3
  obtain ⟨hs, hgr⟩ := store_4 hr (.int .u8 1) (.int .i64 (-9223372036854775808)) (.int .i64 9223372036854775807) (.int .i64 0)
  have HR := hide hs
  have HG := hide hgr
  clear hs hgr hr
  go_wp2
  refine bodyPost_ret (v := .tuple #[.slice none 0 0, .agg #[.int .u8 1, .int .i64 (-9223372036854775808), .int .i64 9223372036854775807, .int .i64 0]]) ?_ rfl ⟨none, 0, rfl, ⟨by decide, by unfold maxLen; omega⟩, (fun _ _ _ => Args.nil), HB.out.grown HG.out HB.out.size (fun k e => by cases e; exact Nat.le_refl _)⟩
  have e0 := blk_cell HR.out 0
  have e1 := blk_cell HR.out 1
  have e2 := blk_cell HR.out 2
  have e3 := blk_cell HR.out 3
  simp at e0 e1 e2 e3
  simp [results, Try.results23, go_sem, e0, e1, e2, e3]
set_option maxRecDepth 100000 in
set_option maxHeartbeats 2000000 in
theorem parts_10 (w : World) : Calls Try.prog 23 #[.int .u8 10] w (PartsTold 10 w) := by
  have hP := hide (fun k w => plain_any k w)
  have hS := hide (fun lo hi w => scalar_any lo hi w)
  have hA := hide (fun lo hi w => answer_any lo hi w)
  have E52 : ∀ args W, (callFunc 52 args).run Try.prog W = .ok (.enter 52 args) W := enters_of Try.func52 (by kernel_rfl) rfl
  have E53 : ∀ args W, (callFunc 53 args).run Try.prog W = .ok (.enter 53 args) W := enters_of Try.func53 (by kernel_rfl) rfl
  have E54 : ∀ args W, (callFunc 54 args).run Try.prog W = .ok (.enter 54 args) W := enters_of Try.func54 (by kernel_rfl) rfl
  have E55 : ∀ args W, (callFunc 55 args).run Try.prog W = .ok (.enter 55 args) W := enters_of Try.func55 (by kernel_rfl) rfl
  go_enter Try.func23, Try.ntmps23
  go_wp2_with fail
  refine name_call (fun W1 hW1 => ?_)
  have b3 := World.alloc_heap_new w (.cells #[.int .u8 0, .int .i64 0, .int .i64 0, .int .i64 0] 30)
  have l1 := below1 w (.cells #[.int .u8 0, .int .i64 0, .int .i64 0, .int .i64 0] 30)
  rw [← hW1] at b3 l1
  have z1 : W1.heap.size = w.heap.size + 1 := by rw [hW1]; simp
  clear hW1
  (with_reducible refine (Later.calls0 (hP.out _)).mono ?_)
  rintro e w1 ⟨rfl, x, rfl⟩
  go_wp2_with (go_at_call 52; (with_reducible refine (Later.calls _ (hP.out _)).mono ?_); rintro e w1 ⟨rfl, x, rfl⟩)
  refine name_call (fun W2 hW2 => ?_)
  obtain ⟨b4, b5, b6⟩ := blocks3 x.w (.cells #[.int .u8 4, .int .i64 0, .int .i64 0, .slice none 0 0] 46) (.cells #[.int .u8 5, .int .i64 0, .int .i64 0, .slice none 0 0] 46) (.cells #[.int .u8 6, .int .i64 0, .int .i64 0, .slice none 0 0] 46)
  have l2 := x.below.trans ((below3 x.w (.cells #[.int .u8 4, .int .i64 0, .int .i64 0, .slice none 0 0] 46) (.cells #[.int .u8 5, .int .i64 0, .int .i64 0, .slice none 0 0] 46) (.cells #[.int .u8 6, .int .i64 0, .int .i64 0, .slice none 0 0] 46)).mono x.below.size)
  rw [← hW2] at b4 b5 b6 l2
  have z2 : w.heap.size < x.w.heap.size := by have := x.below.size; omega
  clear hW2
  generalize hg4 : x.w.heap.size = g4 at *
  clear hg4
  (with_reducible refine (Later.calls0 (hS.out _ _)).mono ?_)
  rintro e w1 ⟨rfl, y, rfl⟩
  go_wp2_with fail
  refine name_call (fun W3 hW3 => ?_)
  have b7 := World.alloc_heap_new y.w (.cells #[.int .u8 1, .int .i64 0, .int .i64 2, .slice none 0 0] 46)
  have l3 := y.below.trans ((below1 y.w (.cells #[.int .u8 1, .int .i64 0, .int .i64 2, .slice none 0 0] 46)).mono y.below.size)
  rw [← hW3] at b7 l3
  have z3 : g4 + 2 < y.w.heap.size := Nat.lt_of_lt_of_le (at_lt b6) y.below.size
  clear hW3
  generalize hg7 : y.w.heap.size = g7 at *
  clear hg7
  (with_reducible refine (Later.calls0 (hA.out _ _)).mono ?_)
  rintro e w1 ⟨rfl, z, rfl⟩
  go_wp2_with fail
  refine name_call (fun W4 hW4 => ?_)
  have b8 := World.alloc_heap_new z.w (.cells #[.int .u8 1, .int .i64 (-100), .int .i64 0, .int .i64 0] 30)
  have l4 := z.below.trans ((below1 z.w (.cells #[.int .u8 1, .int .i64 (-100), .int .i64 0, .int .i64 0] 30)).mono z.below.size)
  rw [← hW4] at b8 l4
  have z4 : g7 < z.w.heap.size := Nat.lt_of_lt_of_le (at_lt b7) z.below.size
  clear hW4
  generalize hg8 : z.w.heap.size = g8 at *
  clear hg8
  have l34 := l3.trans (l4.mono l3.size)
  have l24 := l2.trans (l34.mono l2.size)
  replace b7 := (l4.block _ (at_lt b7)).trans b7
  replace b4 := (l34.block _ (at_lt b4)).trans b4
  replace b5 := (l34.block _ (at_lt b5)).trans b5
  replace b6 := (l34.block _ (at_lt b6)).trans b6
  replace b3 := (l24.block _ (at_lt b3)).trans b3
  have lw := l1.trans (l24.mono l1.size)
  have zz := at_lt b3
  clear l1 l2 l3 l4 l34 l24 x y z
  have b5' : W4.heap[g4 + 1]? = _ := b5
  have b6' : W4.heap[g4 + 1 + 1]? = _ := b6
  generalize hg5 : g4 + 1 = g5 at *
  generalize hg6 : g5 + 1 = g6 at *
  (with_reducible refine (Later.calls0 (hA.out _ _)).mono ?_)
  rintro e w1 ⟨rfl, z, rfl⟩
  have hr := (z.below.block _ zz).trans b3
  have HB := hide (lw.trans (z.below.mono lw.size))
  have c0 := blk_cell hr 0
  have c1 := blk_cell hr 1
  have c2 := blk_cell hr 2
  have c3 := blk_cell hr 3
  have f0 := Joins.unfrozen_of_block hr 0
  have f1 := Joins.unfrozen_of_block hr 1
  have f2 := Joins.unfrozen_of_block hr 2
  have f3 := Joins.unfrozen_of_block hr 3
  simp at c0 c1 c2 c3
  obtain ⟨hs, hgr⟩ := store_4 hr (.int .u8 1) (.int .i64 (-9223372036854775808)) (.int .i64 9223372036854775807) (.int .i64 0)
  have HR := hide hs
  have HG := hide hgr
  clear hs hgr hr
  go_wp2
  refine bodyPost_ret (v := .tuple #[.slice none 0 0, .agg #[.int .u8 1, .int .i64 (-9223372036854775808), .int .i64 9223372036854775807, .int .i64 0]]) ?_ rfl ⟨none, 0, rfl, ⟨by decide, by unfold maxLen; omega⟩, (fun _ _ _ => Args.nil), HB.out.grown HG.out HB.out.size (fun k e => by cases e; exact Nat.le_refl _)⟩
  have e0 := blk_cell HR.out 0
  have e1 := blk_cell HR.out 1
  have e2 := blk_cell HR.out 2
  have e3 := blk_cell HR.out 3
  simp at e0 e1 e2 e3
  simp [results, Try.results23, go_sem, e0, e1, e2, e3]
theorem ownM_none (k : Int) (h : ¬ (1 ≤ k ∧ k ≤ 10)) : ownM k = ([], ⟨0, 0, 0, 0⟩) := by
  unfold ownM
  simp [show ¬ k = 1 by omega, show ¬ k = 2 by omega, show ¬ k = 3 by omega, show ¬ k = 4 by omega, show ¬ k = 5 by omega, show ¬ k = 6 by omega, show ¬ k = 7 by omega, show ¬ k = 8 by omega, show ¬ k = 9 by omega, show ¬ k = 10 by omega]
set_option maxRecDepth 100000 in
set_option maxHeartbeats 2000000 in
theorem parts_none (k : Int) (h : ¬ (1 ≤ k ∧ k ≤ 10)) (w : World) : Calls Try.prog 23 #[.int .u8 k] w (PartsTold k w) := by
  have hM := hide (ownM_none k h)
  have n1 : (k == 1) = false := by simp; omega
  have n2 : (k == 2) = false := by simp; omega
  have n3 : (k == 3) = false := by simp; omega
  have n4 : (k == 4) = false := by simp; omega
  have n5 : (k == 5) = false := by simp; omega
  have n6 : (k == 6) = false := by simp; omega
  have n7 : (k == 7) = false := by simp; omega
  have n8 : (k == 8) = false := by simp; omega
  have n9 : (k == 9) = false := by simp; omega
  have n10 : (k == 10) = false := by simp; omega
  clear h
  have hP := hide (fun k w => plain_any k w)
  have hS := hide (fun lo hi w => scalar_any lo hi w)
  have hA := hide (fun lo hi w => answer_any lo hi w)
  have E52 : ∀ args W, (callFunc 52 args).run Try.prog W = .ok (.enter 52 args) W := enters_of Try.func52 (by kernel_rfl) rfl
  have E53 : ∀ args W, (callFunc 53 args).run Try.prog W = .ok (.enter 53 args) W := enters_of Try.func53 (by kernel_rfl) rfl
  have E54 : ∀ args W, (callFunc 54 args).run Try.prog W = .ok (.enter 54 args) W := enters_of Try.func54 (by kernel_rfl) rfl
  have E55 : ∀ args W, (callFunc 55 args).run Try.prog W = .ok (.enter 55 args) W := enters_of Try.func55 (by kernel_rfl) rfl
  go_enter Try.func23, Try.ntmps23
  go_wp2_with fail
  refine name_call (fun W1 hW1 => ?_)
  have b3 := World.alloc_heap_new w (.cells #[.int .u8 0, .int .i64 0, .int .i64 0, .int .i64 0] 30)
  have l1 := below1 w (.cells #[.int .u8 0, .int .i64 0, .int .i64 0, .int .i64 0] 30)
  rw [← hW1] at b3 l1
  have z1 : W1.heap.size = w.heap.size + 1 := by rw [hW1]; simp
  clear hW1
  (with_reducible refine (Later.calls0 (hP.out _)).mono ?_)
  rintro e w1 ⟨rfl, x, rfl⟩
  go_wp2_with (go_at_call 52; (with_reducible refine (Later.calls _ (hP.out _)).mono ?_); rintro e w1 ⟨rfl, x, rfl⟩)
  refine name_call (fun W2 hW2 => ?_)
  obtain ⟨b4, b5, b6⟩ := blocks3 x.w (.cells #[.int .u8 4, .int .i64 0, .int .i64 0, .slice none 0 0] 46) (.cells #[.int .u8 5, .int .i64 0, .int .i64 0, .slice none 0 0] 46) (.cells #[.int .u8 6, .int .i64 0, .int .i64 0, .slice none 0 0] 46)
  have l2 := x.below.trans ((below3 x.w (.cells #[.int .u8 4, .int .i64 0, .int .i64 0, .slice none 0 0] 46) (.cells #[.int .u8 5, .int .i64 0, .int .i64 0, .slice none 0 0] 46) (.cells #[.int .u8 6, .int .i64 0, .int .i64 0, .slice none 0 0] 46)).mono x.below.size)
  rw [← hW2] at b4 b5 b6 l2
  have z2 : w.heap.size < x.w.heap.size := by have := x.below.size; omega
  clear hW2
  generalize hg4 : x.w.heap.size = g4 at *
  clear hg4
  (with_reducible refine (Later.calls0 (hS.out _ _)).mono ?_)
  rintro e w1 ⟨rfl, y, rfl⟩
  go_wp2_with fail
  refine name_call (fun W3 hW3 => ?_)
  have b7 := World.alloc_heap_new y.w (.cells #[.int .u8 1, .int .i64 0, .int .i64 2, .slice none 0 0] 46)
  have l3 := y.below.trans ((below1 y.w (.cells #[.int .u8 1, .int .i64 0, .int .i64 2, .slice none 0 0] 46)).mono y.below.size)
  rw [← hW3] at b7 l3
  have z3 : g4 + 2 < y.w.heap.size := Nat.lt_of_lt_of_le (at_lt b6) y.below.size
  clear hW3
  generalize hg7 : y.w.heap.size = g7 at *
  clear hg7
  (with_reducible refine (Later.calls0 (hA.out _ _)).mono ?_)
  rintro e w1 ⟨rfl, z, rfl⟩
  have zx := at_lt b3
  have l23 := l2.trans (l3.mono l2.size)
  have hr := (z.below.block _ (by have := l23.size; omega)).trans ((l23.block _ zx).trans b3)
  have HB := hide (l1.trans ((l23.trans (z.below.mono l23.size)).mono l1.size))
  have lt0 := at_lt hr
  have HZ := hide (World.alloc_heap_new z.w (.cells #[.int .u8 1, .int .i64 (-100), .int .i64 0, .int .i64 0] 30))
  have HR0 := hide hr
  have c0 := blk_cell hr 0
  have c1 := blk_cell hr 1
  have c2 := blk_cell hr 2
  have c3 := blk_cell hr 3
  have f0 := Joins.unfrozen_of_block hr 0
  have f1 := Joins.unfrozen_of_block hr 1
  have f2 := Joins.unfrozen_of_block hr 2
  have f3 := Joins.unfrozen_of_block hr 3
  simp at c0 c1 c2 c3
  clear hr
  go_wp2
  obtain ⟨hs, hgr⟩ := store_4 HR0.out (.int .u8 0) (.int .i64 0) (.int .i64 0) (.int .i64 0)
  have hb := HB.out.grown hgr HB.out.size (fun k e => by cases e; exact Nat.le_refl _)
  refine bodyPost_ret (v := .tuple #[.slice none 0 0, .agg #[.int .u8 0, .int .i64 0, .int .i64 0, .int .i64 0]]) ?_ rfl ⟨none, 0, by rw [hM.out]; rfl, ⟨by rw [hM.out]; decide, by unfold maxLen; omega⟩, by rw [hM.out]; exact (fun _ _ _ => Args.nil), hb.alloc hb.size _⟩
  have hs2 := (Below.heap_alloc _ (.cells #[.int .u8 1, .int .i64 (-100), .int .i64 0, .int .i64 0] 30) _ (at_lt hs)).trans hs
  have e0 := blk_cell hs2 0
  have e1 := blk_cell hs2 1
  have e2 := blk_cell hs2 2
  have e3 := blk_cell hs2 3
  simp only [List.getElem?_toArray, List.getElem?_cons_zero, List.getElem?_cons_succ] at e0 e1 e2 e3
  simp [results, Try.results23, go_sem, e0, e1, e2, e3]
theorem parts_any (k : Int) (w : World) : Calls Try.prog 23 #[.int .u8 k] w (PartsTold k w) := by
  by_cases h : 1 ≤ k ∧ k ≤ 10
  · have h9 : k = 1 ∨ k = 2 ∨ k = 3 ∨ k = 4 ∨ k = 5 ∨ k = 6 ∨ k = 7 ∨ k = 8 ∨ k = 9 ∨ k = 10 := by omega
    rcases h9 with rfl | rfl | rfl | rfl | rfl | rfl | rfl | rfl | rfl | rfl
    · exact parts_1 w
    · exact parts_2 w
    · exact parts_3 w
    · exact parts_4 w
    · exact parts_5 w
    · exact parts_6 w
    · exact parts_7 w
    · exact parts_8 w
    · exact parts_9 w
    · exact parts_10 w
  · exact parts_none k h w
end Go.Proofs.Ytedjmgiblkjonaa
