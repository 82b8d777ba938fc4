/-
  The host's own helpers: what the document tells of the rest.
-/
import Derived.Test.YtedjmgiblkjonaaB9
namespace Go.Proofs.Ytedjmgiblkjonaa
open Go.RowKit Go.Maps
set_option linter.unusedVariables false

set_option maxRecDepth 100000 in
set_option maxHeartbeats 2000000 in
theorem rown_8 (w : World) : Calls Try.prog 9 #[.int .u8 8] w (HelpTold (ownH 8) (ownB 8) w) := by
  have hO := hide (fun A n c w => of_any A n c w)
  have hP := hide (fun k w => rplain_any k w)
  have hS := hide (fun lo hi w => num_any lo hi w)
  go_enter Try.func9, Try.ntmps9
  go_wp2_with fail
  refine name_call (fun W1 hW1 => ?_)
  obtain ⟨b2, b4⟩ := two_boxes w (.cells #[.int .i64 0, .int .i64 0, .int .i64 0, .int .u8 0, .slice none 0 0, .int .u8 0, .int .i64 0, .int .i64 0, .int .i64 0] 32) (.cells #[.int .i64 0, .int .i64 0, .int .i64 0, .int .u8 8, .slice none 0 0, .int .u8 1, .int .i64 (-100), .int .i64 0, .int .i64 0] 32)
  have l1 := below2 w (.cells #[.int .i64 0, .int .i64 0, .int .i64 0, .int .u8 0, .slice none 0 0, .int .u8 0, .int .i64 0, .int .i64 0, .int .i64 0] 32) (.cells #[.int .i64 0, .int .i64 0, .int .i64 0, .int .u8 8, .slice none 0 0, .int .u8 1, .int .i64 (-100), .int .i64 0, .int .i64 0] 32)
  rw [← hW1] at b2 b4 l1
  have z1 : W1.heap.size = w.heap.size + 2 := by rw [hW1]; simp
  clear hW1
  (with_reducible refine (Later.calls0 (hP.out _)).mono ?_)
  rintro e w1 ⟨rfl, x, rfl⟩
  go_wp2_with fail
  refine name_call (fun W2 hW2 => ?_)
  have bm := World.alloc_heap_new x.w (.cells #[.int .u8 8] 22)
  have l2 := x.below.trans ((below1 x.w (.cells #[.int .u8 8] 22)).mono x.below.size)
  rw [← hW2] at bm l2
  replace b2 := (l2.block _ (at_lt b2)).trans b2
  replace b4 := (l2.block _ (at_lt b4)).trans b4
  have zm := x.below.size
  replace l1 := l1.trans (l2.mono l1.size)
  clear hW2 l2
  generalize hgm : x.w.heap.size = gm at *
  clear hgm x
  (with_reducible refine (Later.calls0 (hO.out _ _ _)).mono ?_)
  rintro e w1 ⟨rfl, x, rfl⟩
  go_wp2_with fail
  (with_reducible refine (Later.calls _ (hS.out _ _)).mono ?_)
  rintro e w1 ⟨rfl, x, rfl⟩
  have r2 := (x.below.block _ (at_lt b2)).trans b2
  have r4 := (x.below.block _ (at_lt b4)).trans b4
  have rm := (x.below.block _ (at_lt bm)).trans bm
  have zx := x.below.size
  have zb := at_lt bm
  have HB := hide (l1.trans (x.below.mono l1.size))
  have R2 := hide r2
  have R4 := hide r4
  have RM := hide rm
  clear b2 b4 bm l1
  have c0 := blk_cell r2 0
  have c1 := blk_cell r2 1
  have c2 := blk_cell r2 2
  have c3 := blk_cell r2 3
  have c4 := blk_cell r2 4
  have c5 := blk_cell r2 5
  have c6 := blk_cell r2 6
  have c7 := blk_cell r2 7
  have c8 := blk_cell r2 8
  have f0 := Joins.unfrozen_of_block r2 0
  have f1 := Joins.unfrozen_of_block r2 1
  have f2 := Joins.unfrozen_of_block r2 2
  have f3 := Joins.unfrozen_of_block r2 3
  have f4 := Joins.unfrozen_of_block r2 4
  have f5 := Joins.unfrozen_of_block r2 5
  have f6 := Joins.unfrozen_of_block r2 6
  have f7 := Joins.unfrozen_of_block r2 7
  have f8 := Joins.unfrozen_of_block r2 8
  simp at c0 c1 c2 c3 c4 c5 c6 c7 c8
  have d0 := blk_cell r4 0
  have d1 := blk_cell r4 1
  have d2 := blk_cell r4 2
  have d3 := blk_cell r4 3
  have d4 := blk_cell r4 4
  have d5 := blk_cell r4 5
  have d6 := blk_cell r4 6
  have d7 := blk_cell r4 7
  have d8 := blk_cell r4 8
  have g0 := Joins.unfrozen_of_block r4 0
  have g1 := Joins.unfrozen_of_block r4 1
  have g2 := Joins.unfrozen_of_block r4 2
  have g3 := Joins.unfrozen_of_block r4 3
  have g4 := Joins.unfrozen_of_block r4 4
  have g5 := Joins.unfrozen_of_block r4 5
  have g6 := Joins.unfrozen_of_block r4 6
  have g7 := Joins.unfrozen_of_block r4 7
  have g8 := Joins.unfrozen_of_block r4 8
  simp at d0 d1 d2 d3 d4 d5 d6 d7 d8
  clear r2 r4 rm
  have y2 : w.heap.size < x.w.heap.size := by omega
  have y4 : w.heap.size + 1 < x.w.heap.size := by omega
  go_wp2
  have hg4 : x.w.grownBy (((((x.w.setCell ⟨w.heap.size + 1, 4, none⟩ (.slice (some ⟨x.w.heap.size, 0, none⟩) 3 3)).setCell ⟨w.heap.size + 1, 5, none⟩ (.int .u8 1)).setCell ⟨w.heap.size + 1, 6, none⟩ (.int .i64 (-1))).setCell ⟨w.heap.size + 1, 7, none⟩ (.int .i64 (-1))).setCell ⟨w.heap.size + 1, 8, none⟩ (.int .i64 0)) (some (w.heap.size + 1)) := (grown_row (grown_row (grown_row (grown_row (grown_set _ _ _ _) (grown_set _ _ _ _)) (grown_set _ _ _ _)) (grown_set _ _ _ _)) (grown_set _ _ _ _))
  have r2Y := (hg4.block _ y2 (fun e => by injection e with e; omega)).trans R2.out
  obtain ⟨hs, hgr⟩ := store_9 r2Y (.int .i64 0) (.int .i64 0) (.int .i64 0) (.int .u8 8) (.slice (some ⟨x.w.heap.size, 0, none⟩) 3 3) (.int .u8 1) (.int .i64 (-1)) (.int .i64 (-1)) (.int .i64 0)
  have hbY := HB.out.grown hg4 HB.out.size (fun k e => by cases e; omega)
  have hbZ := hbY.grown hgr hbY.size (fun k e => by cases e; omega)
  have zs : ((((((((((((((x.w.setCell ⟨w.heap.size + 1, 4, none⟩ (.slice (some ⟨x.w.heap.size, 0, none⟩) 3 3)).setCell ⟨w.heap.size + 1, 5, none⟩ (.int .u8 1)).setCell ⟨w.heap.size + 1, 6, none⟩ (.int .i64 (-1))).setCell ⟨w.heap.size + 1, 7, none⟩ (.int .i64 (-1))).setCell ⟨w.heap.size + 1, 8, none⟩ (.int .i64 0)).setCell ⟨w.heap.size, 0, none⟩ (.int .i64 0)).setCell ⟨w.heap.size, 1, none⟩ (.int .i64 0)).setCell ⟨w.heap.size, 2, none⟩ (.int .i64 0)).setCell ⟨w.heap.size, 3, none⟩ (.int .u8 8)).setCell ⟨w.heap.size, 4, none⟩ (.slice (some ⟨x.w.heap.size, 0, none⟩) 3 3)).setCell ⟨w.heap.size, 5, none⟩ (.int .u8 1)).setCell ⟨w.heap.size, 6, none⟩ (.int .i64 (-1))).setCell ⟨w.heap.size, 7, none⟩ (.int .i64 (-1))).setCell ⟨w.heap.size, 8, none⟩ (.int .i64 0)).heap.size = x.w.heap.size := by simp
  have hm := (hgr.block _ (Nat.lt_of_lt_of_le (at_lt RM.out) hg4.size) (fun e => by injection e with e; omega)).trans ((hg4.block _ (at_lt RM.out) (fun e => by injection e with e; omega)).trans RM.out)
  generalize ((((((((((((((x.w.setCell ⟨w.heap.size + 1, 4, none⟩ (.slice (some ⟨x.w.heap.size, 0, none⟩) 3 3)).setCell ⟨w.heap.size + 1, 5, none⟩ (.int .u8 1)).setCell ⟨w.heap.size + 1, 6, none⟩ (.int .i64 (-1))).setCell ⟨w.heap.size + 1, 7, none⟩ (.int .i64 (-1))).setCell ⟨w.heap.size + 1, 8, none⟩ (.int .i64 0)).setCell ⟨w.heap.size, 0, none⟩ (.int .i64 0)).setCell ⟨w.heap.size, 1, none⟩ (.int .i64 0)).setCell ⟨w.heap.size, 2, none⟩ (.int .i64 0)).setCell ⟨w.heap.size, 3, none⟩ (.int .u8 8)).setCell ⟨w.heap.size, 4, none⟩ (.slice (some ⟨x.w.heap.size, 0, none⟩) 3 3)).setCell ⟨w.heap.size, 5, none⟩ (.int .u8 1)).setCell ⟨w.heap.size, 6, none⟩ (.int .i64 (-1))).setCell ⟨w.heap.size, 7, none⟩ (.int .i64 (-1))).setCell ⟨w.heap.size, 8, none⟩ (.int .i64 0)) = Z at hs hgr hbZ zs hm ⊢
  have ha := World.alloc_heap_new Z (.cells (([plA 2, mapA [8], scA 0 4294967295] : List ArgM).flatMap (argCells (gm))).toArray 46)
  have HO : Hid (OwnBlk (Z.alloc (.cells (([plA 2, mapA [8], scA 0 4294967295] : List ArgM).flatMap (argCells (gm))).toArray 46)) (w.heap.size + 2) x.w.heap.size (gm) [plA 2, mapA [8], scA 0 4294967295]) := hide ⟨by omega, by omega, by rw [← zs]; exact ha, (by
    intro q hq hmm
    simp only [List.mem_cons, List.not_mem_nil, or_false] at hq
    rcases hq with rfl | rfl | rfl <;> first | exact (Below.heap_alloc _ _ _ (at_lt hm)).trans hm | (exact absurd hmm (by decide))), (by
    intro q hq
    simp only [List.mem_cons, List.not_mem_nil, or_false] at hq
    rcases hq with rfl | rfl | rfl <;> decide)⟩
  refine bodyPost_ret (v := .tuple #[.agg #[.int .i64 0, .int .i64 0, .int .i64 0, .int .u8 8, .slice (some ⟨x.w.heap.size, 0, none⟩) 3 3, .int .u8 1, .int .i64 (-1), .int .i64 (-1), .int .i64 0], .bool true]) ?_ rfl ⟨some ⟨x.w.heap.size, 0, none⟩, 3, rfl, ⟨by decide, by unfold maxLen; omega⟩, (fun W' hs' hk' => (HO.out.keep (fun k h1 h2 => hk' k (by omega) h2)).args), hbZ.alloc hbZ.size _⟩
  have hs2 := (Below.heap_alloc _ (.cells (([plA 2, mapA [8], scA 0 4294967295] : List ArgM).flatMap (argCells (gm))).toArray 46) _ (at_lt hs)).trans hs
  have e0 := blk_cell hs2 0
  have e1 := blk_cell hs2 1
  have e2 := blk_cell hs2 2
  have e3 := blk_cell hs2 3
  have e4 := blk_cell hs2 4
  have e5 := blk_cell hs2 5
  have e6 := blk_cell hs2 6
  have e7 := blk_cell hs2 7
  have e8 := blk_cell hs2 8
  simp only [List.getElem?_toArray, List.getElem?_cons_zero, List.getElem?_cons_succ] at e0 e1 e2 e3 e4 e5 e6 e7 e8
  simp [argCells, mapA, plA, scA] at e0 e1 e2 e3 e4 e5 e6 e7 e8
  simp [results, Try.results9, go_sem, e0, e1, e2, e3, e4, e5, e6, e7, e8]
set_option maxRecDepth 100000 in
set_option maxHeartbeats 2000000 in
theorem rown_9 (w : World) : Calls Try.prog 9 #[.int .u8 9] w (HelpTold (ownH 9) (ownB 9) w) := by
  go_enter Try.func9, Try.ntmps9
  go_wp2
  obtain ⟨b2, _⟩ := two_boxes w (.cells #[.int .i64 0, .int .i64 0, .int .i64 0, .int .u8 9, .slice none 0 0, .int .u8 1, .int .i64 (-9223372036854775808), .int .i64 9223372036854775807, .int .i64 0] 32) (.cells #[.int .i64 0, .int .i64 0, .int .i64 0, .int .u8 9, .slice none 0 0, .int .u8 1, .int .i64 (-9223372036854775808), .int .i64 9223372036854775807, .int .i64 0] 32)
  have e0 := blk_cell b2 0
  have e1 := blk_cell b2 1
  have e2 := blk_cell b2 2
  have e3 := blk_cell b2 3
  have e4 := blk_cell b2 4
  have e5 := blk_cell b2 5
  have e6 := blk_cell b2 6
  have e7 := blk_cell b2 7
  have e8 := blk_cell b2 8
  simp at e0 e1 e2 e3 e4 e5 e6 e7 e8
  refine bodyPost_ret (v := .tuple #[.agg #[.int .i64 0, .int .i64 0, .int .i64 0, .int .u8 9, .slice none 0 0, .int .u8 1, .int .i64 (-9223372036854775808), .int .i64 9223372036854775807, .int .i64 0], .bool true]) ?_ rfl ⟨none, 0, rfl, ⟨by decide, by unfold maxLen; omega⟩, (fun _ _ _ => Args.nil), below2 _ _ _⟩
  simp [results, Try.results9, go_sem]
set_option maxRecDepth 100000 in
set_option maxHeartbeats 2000000 in
theorem rown_10 (w : World) : Calls Try.prog 9 #[.int .u8 10] w (HelpTold (ownH 10) (ownB 10) w) := by
  go_enter Try.func9, Try.ntmps9
  go_wp2
  obtain ⟨b2, _⟩ := two_boxes w (.cells #[.int .i64 0, .int .i64 0, .int .i64 0, .int .u8 10, .slice none 0 0, .int .u8 1, .int .i64 (-9223372036854775808), .int .i64 9223372036854775807, .int .i64 0] 32) (.cells #[.int .i64 0, .int .i64 0, .int .i64 0, .int .u8 10, .slice none 0 0, .int .u8 1, .int .i64 (-9223372036854775808), .int .i64 9223372036854775807, .int .i64 0] 32)
  have e0 := blk_cell b2 0
  have e1 := blk_cell b2 1
  have e2 := blk_cell b2 2
  have e3 := blk_cell b2 3
  have e4 := blk_cell b2 4
  have e5 := blk_cell b2 5
  have e6 := blk_cell b2 6
  have e7 := blk_cell b2 7
  have e8 := blk_cell b2 8
  simp at e0 e1 e2 e3 e4 e5 e6 e7 e8
  refine bodyPost_ret (v := .tuple #[.agg #[.int .i64 0, .int .i64 0, .int .i64 0, .int .u8 10, .slice none 0 0, .int .u8 1, .int .i64 (-9223372036854775808), .int .i64 9223372036854775807, .int .i64 0], .bool true]) ?_ rfl ⟨none, 0, rfl, ⟨by decide, by unfold maxLen; omega⟩, (fun _ _ _ => Args.nil), below2 _ _ _⟩
  simp [results, Try.results9, go_sem]
set_option maxRecDepth 100000 in
set_option maxHeartbeats 2000000 in
theorem rown_none (k : Int) (h : ¬ (1 ≤ k ∧ k ≤ 10)) (w : World) : Calls Try.prog 9 #[.int .u8 k] w (HelpTold (ownH k) (ownB k) w) := by
  have hb : ownB k = false := by unfold ownB; simp; omega
  have hM : Hid (ownH k = zeroH) := hide (by unfold ownH; rw [hb]; rfl)
  rw [hb]
  have n1 : (k == 1) = false := by simp; omega
  have n2 : (k == 2) = false := by simp; omega
  have n3 : (k == 3) = false := by simp; omega
  have n4 : (k == 4) = false := by simp; omega
  have n5 : (k == 5) = false := by simp; omega
  have n6 : (k == 6) = false := by simp; omega
  have n7 : (k == 7) = false := by simp; omega
  have n8 : (k == 8) = false := by simp; omega
  have n9 : (k == 9) = false := by simp; omega
  have n10 : (k == 10) = false := by simp; omega
  clear h hb
  go_enter Try.func9, Try.ntmps9
  go_wp2
  obtain ⟨b2, _⟩ := two_boxes w (.cells #[.int .i64 0, .int .i64 0, .int .i64 0, .int .u8 0, .slice none 0 0, .int .u8 0, .int .i64 0, .int .i64 0, .int .i64 0] 32) (.cells #[.int .i64 0, .int .i64 0, .int .i64 0, .int .u8 k, .slice none 0 0, .int .u8 1, .int .i64 (-100), .int .i64 0, .int .i64 0] 32)
  have e0 := blk_cell b2 0
  have e1 := blk_cell b2 1
  have e2 := blk_cell b2 2
  have e3 := blk_cell b2 3
  have e4 := blk_cell b2 4
  have e5 := blk_cell b2 5
  have e6 := blk_cell b2 6
  have e7 := blk_cell b2 7
  have e8 := blk_cell b2 8
  simp at e0 e1 e2 e3 e4 e5 e6 e7 e8
  refine bodyPost_ret (v := .tuple #[.agg #[.int .i64 0, .int .i64 0, .int .i64 0, .int .u8 0, .slice none 0 0, .int .u8 0, .int .i64 0, .int .i64 0, .int .i64 0], .bool false]) ?_ rfl ⟨none, 0, by rw [hM.out]; rfl, ⟨by rw [hM.out]; decide, by unfold maxLen; omega⟩, by rw [hM.out]; exact (fun _ _ _ => Args.nil), below2 _ _ _⟩
  simp [results, Try.results9, go_sem]
theorem rown_any (k : Int) (w : World) : Calls Try.prog 9 #[.int .u8 k] w (HelpTold (ownH k) (ownB k) w) := by
  by_cases h : 1 ≤ k ∧ k ≤ 10
  · have h9 : k = 1 ∨ k = 2 ∨ k = 3 ∨ k = 4 ∨ k = 5 ∨ k = 6 ∨ k = 7 ∨ k = 8 ∨ k = 9 ∨ k = 10 := by omega
    rcases h9 with rfl | rfl | rfl | rfl | rfl | rfl | rfl | rfl | rfl | rfl
    · exact rown_1 w
    · exact rown_2 w
    · exact rown_3 w
    · exact rown_4 w
    · exact rown_5 w
    · exact rown_6 w
    · exact rown_7 w
    · exact rown_8 w
    · exact rown_9 w
    · exact rown_10 w
  · exact rown_none k h w
end Go.Proofs.Ytedjmgiblkjonaa
