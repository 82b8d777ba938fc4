/-
  The chapter's examples hold.
-/
import Derived.Test.YtolmjnoaiiodlaaWY
namespace Go.Proofs.Ytolmjnoaiiodlaa
open Go.RowKit Go.Maps Forest
set_option linter.unusedVariables false
set_option linter.unusedSimpArgs false

theorem new_at {w : World} {o : Obj} {k : Nat} (h : w.heap.size = k) : (w.alloc o).heap[k]? = some o := by subst h; exact World.alloc_heap_new _ _
theorem alloc_old {w : World} {o : Obj} {k : Nat} (h : k < w.heap.size) : (w.alloc o).heap[k]? = w.heap[k]? := (below1 w o).block k h
theorem rd_blk {w : World} {g n : Nat} {l : List Int} (h : w.heap[g]? = some (.cells (u8s l).toArray 5 (0, 0))) (hn : l.length = n) : Rd w w.heap.size 1 (some ⟨g, 0, none⟩) n (u8s l) :=
  ⟨by simp [u8s, hn], fun _ => ⟨_, rfl, at_lt h, fun j u hu => by rw [add_own, blk_cell h]; simpa using hu⟩⟩
theorem seven (w : World) (o0 o1 o2 o3 o4 o5 o6 : Obj) : ∃ W, W = ((((((w.alloc o0).alloc o1).alloc o2).alloc o3).alloc o4).alloc o5).alloc o6 ∧ Below w.heap.size w W ∧ W.heap[w.heap.size]? = some o0 ∧ W.heap[w.heap.size + 1]? = some o1 ∧ W.heap[w.heap.size + 1 + 1]? = some o2 ∧ W.heap[w.heap.size + 1 + 1 + 1]? = some o3 ∧ W.heap[w.heap.size + 1 + 1 + 1 + 1]? = some o4 ∧ W.heap[w.heap.size + 1 + 1 + 1 + 1 + 1]? = some o5 ∧ W.heap[w.heap.size + 1 + 1 + 1 + 1 + 1 + 1]? = some o6 := by
  refine ⟨_, rfl, ?_, ?_, ?_, ?_, ?_, ?_, ?_, ?_⟩
  · exact ((((((below1 w o0).alloc (by simp) o1).alloc (by simp; omega) o2).alloc (by simp; omega) o3).alloc (by simp; omega) o4).alloc (by simp; omega) o5).alloc (by simp; omega) o6
  · rw [alloc_old (by simp <;> omega)]; rw [alloc_old (by simp <;> omega)]; rw [alloc_old (by simp <;> omega)]; rw [alloc_old (by simp <;> omega)]; rw [alloc_old (by simp <;> omega)]; rw [alloc_old (by simp <;> omega)]; exact new_at (by simp)
  · rw [alloc_old (by simp <;> omega)]; rw [alloc_old (by simp <;> omega)]; rw [alloc_old (by simp <;> omega)]; rw [alloc_old (by simp <;> omega)]; rw [alloc_old (by simp <;> omega)]; exact new_at (by simp)
  · rw [alloc_old (by simp <;> omega)]; rw [alloc_old (by simp <;> omega)]; rw [alloc_old (by simp <;> omega)]; rw [alloc_old (by simp <;> omega)]; exact new_at (by simp)
  · rw [alloc_old (by simp <;> omega)]; rw [alloc_old (by simp <;> omega)]; rw [alloc_old (by simp <;> omega)]; exact new_at (by simp)
  · rw [alloc_old (by simp <;> omega)]; rw [alloc_old (by simp <;> omega)]; exact new_at (by simp)
  · rw [alloc_old (by simp <;> omega)]; exact new_at (by simp)
  · exact new_at (by simp)
set_option maxRecDepth 100000 in
set_option maxHeartbeats 4000000 in
theorem awake_any (w : World) : Calls Try.prog 6 #[] w fun e w' => e = .returned (.bool true) ∧ Below w.heap.size w w' := by
  go_enter Try.func6, Try.ntmps6
  go_wp2_with fail
  refine (of_any 3 w).mono ?_
  rintro e w1 ⟨rfl, hb⟩
  have HB1 := hide hb
  clear hb
  go_wp2_with fail
  refine (of_any (-3) w1).mono ?_
  rintro e w2 ⟨rfl, hb⟩
  have HB2 := hide (HB1.out.trans (hb.mono HB1.out.size))
  clear hb HB1
  go_wp2_with fail
  refine (of_any 28 w2).mono ?_
  rintro e w3 ⟨rfl, hb⟩
  have HB3 := hide (HB2.out.trans (hb.mono HB2.out.size))
  clear hb HB2
  go_wp2_with fail
  refine (text_any _ [97, 98] rfl rfl (by decide) w3).mono ?_
  rintro e w4 ⟨A, c, rfl, hr, hA, hb⟩
  have HB4 := hide (HB3.out.trans (hb.mono HB3.out.size))
  have HR4 := hide hr
  have HA := hide hA
  clear hb hr hA HB3
  go_wp2_with fail
  refine (of_any 0 w4).mono ?_
  rintro e w5 ⟨rfl, hb⟩
  have HB5 := hide (HB4.out.trans (hb.mono HB4.out.size))
  have HR5 := hide (HR4.out.below hb)
  have HS5 := hide hb.size
  clear hb HB4 HR4
  go_wp2_with fail
  refine (text_any _ [] rfl rfl (by decide) w5).mono ?_
  rintro e w6 ⟨A2, c2, rfl, hr, hA, hb⟩
  have HB6 := hide (HB5.out.trans (hb.mono HB5.out.size))
  have HR6 := hide (HR5.out.below (hb.mono HS5.out))
  have HS6 := hide (Nat.le_trans HS5.out hb.size)
  have HT6 := hide hr
  have HA2 := hide hA
  clear hb hr hA HB5 HR5 HS5
  go_wp2_with fail
  have hx7 := World.alloc_heap_new w6 (.cells #[.int .u8 1, .int .i64 0, .slice none 0 0, .slice none 0 0, .int .u8 2, .int .i64 0, .slice A2 0 c2, .slice none 0 0] 26)
  have hb7 := below1 w6 (.cells #[.int .u8 1, .int .i64 0, .slice none 0 0, .slice none 0 0, .int .u8 2, .int .i64 0, .slice A2 0 c2, .slice none 0 0] 26)
  refine (row_two 1 0 2 0 [] [] none A2 0 c2 w6.heap.size w6.heap.size _ hx7 ⟨rfl, fun h => absurd h (by decide)⟩ (HT6.out.below hb7) (fun _ => rfl) HA2.out hb7.size (by decide) (by decide) (by decide +kernel)).mono ?_
  rintro e w7 ⟨a, c3, rfl, hfa, hc3, hb⟩
  have HB7 := hide (HB6.out.trans ((below1c hb).mono HB6.out.size))
  have HR7 := hide (HR6.out.below ((below1c hb).mono HS6.out))
  have HS7 := hide (Nat.le_trans HS6.out (below1c hb).size)
  have HF7 := hide hfa
  have HC3 := hide hc3
  clear hb hx7 hb7 hfa hc3 HB6 HR6 HS6 HT6 HA2
  go_wp2_with fail
  obtain ⟨Ws, hWs, hbs, hx0, hx1, hx2, hx3, hx4, hx5, hx6⟩ := seven w7 (.cells #[.int .u8 1, .int .i64 3, .slice none 0 0, .slice none 0 0, .int .u8 1, .int .i64 (-3), .slice none 0 0, .slice none 0 0, .int .u8 1, .int .i64 28, .slice none 0 0, .slice none 0 0, .int .u8 2, .int .i64 0, .slice A 2 c, .slice none 0 0, .int .u8 3, .int .i64 0, .slice none 0 0, .slice (some a) 2 c3] 26) (.cells #[.int .u8 6] 5) (.cells #[.int .u8 5] 5) (.cells #[.int .u8 56, .int .u8 56] 5) (.cells #[.int .u8 66, .int .u8 97, .int .u8 98] 5) (.cells #[.int .u8 130, .int .u8 0, .int .u8 64] 5) (.cells #[.slice (some ⟨w7.heap.size + 1, 0, none⟩) 1 1, .slice (some ⟨w7.heap.size + 1 + 1, 0, none⟩) 1 1, .slice (some ⟨w7.heap.size + 1 + 1 + 1, 0, none⟩) 2 2, .slice (some ⟨w7.heap.size + 1 + 1 + 1 + 1, 0, none⟩) 3 3, .slice (some ⟨w7.heap.size + 1 + 1 + 1 + 1 + 1, 0, none⟩) 3 3] 23)
  rw [← hWs]
  have HBS := hide (HB7.out.trans (hbs.mono HB7.out.size))
  have HF := hide ((RowAt.below (.inr ⟨_, rfl, HF7.out⟩ : RowAt w7 w7.heap.size (some a) (twoF 1 0 [] 2 0 [])) hbs).mono hbs.size)
  have HR := hide ((HR7.out.below (hbs.mono HS7.out)).mono (Nat.le_trans HS7.out hbs.size))
  have HW0 := hide (rd_blk (l := [6]) (n := 1) hx1 rfl)
  have HW1 := hide (rd_blk (l := [5]) (n := 1) hx2 rfl)
  have HW2 := hide (rd_blk (l := [56, 56]) (n := 2) hx3 rfl)
  have HW3 := hide (rd_blk (l := [66, 97, 98]) (n := 3) hx4 rfl)
  have HW4 := hide (rd_blk (l := [130, 0, 64]) (n := 3) hx5 rfl)
  have HT := hide hx0
  have HQ := hide hx6
  clear hWs hbs hx0 hx1 hx2 hx3 hx4 hx5 hx6 HB7 HF7 HR7 HS7
  have h0 : Hid (Below Ws.heap.size Ws Ws) := Below.refl _ _
  refine wp_loop_rounds 7 ?_
  rw [rounds_succ]
  have ht : Ws.heap[w7.heap.size]? = some (.cells #[.int .u8 1, .int .i64 3, .slice none 0 0, .slice none 0 0, .int .u8 1, .int .i64 (-3), .slice none 0 0, .slice none 0 0, .int .u8 1, .int .i64 28, .slice none 0 0, .slice none 0 0, .int .u8 2, .int .i64 0, .slice A 2 c, .slice none 0 0, .int .u8 3, .int .i64 0, .slice none 0 0, .slice (some a) 2 c3] 26 (0, 0)) := (h0.out.block _ (at_lt HT.out)).trans HT.out
  have a0 := (blk_cell ht 0).trans rfl
  have a1 := (blk_cell ht 1).trans rfl
  have a2 := (blk_cell ht 2).trans rfl
  have a3 := (blk_cell ht 3).trans rfl
  have HP := Put_any ⟨1, 3, [], .nil, none, 0, none, 0⟩ Ws.heap.size Ws (TV.Is.below ⟨⟨rfl, fun h => absurd h (Nat.lt_irrefl 0)⟩, fun _ => rfl, .inl rfl, Nat.le_refl _, by simp, (show (Forest.nil).Dm ≤ 900000 by decide +kernel)⟩ h0.out) h0.out.size (by simp [TV.row, Forest.Wf, numOk, twoF, Forest.len]) (show sizeF (Forest.cons 1 3 [] .nil .nil) ≤ 1000000 by decide +kernel) (show (if okF soundM (Forest.cons 1 3 [] .nil .nil) = true then (if 16 < (Forest.cons 1 3 [] .nil .nil).Dm then (3 : Int) else 0) else 2) = 0 by decide +kernel)
  rw [show sizeF (TV.row ⟨1, 3, [], .nil, none, 0, none, 0⟩) = 1 from (show sizeF (Forest.cons 1 3 [] .nil .nil) = 1 by decide +kernel), show putF (TV.row ⟨1, 3, [], .nil, none, 0, none, 0⟩) = [6] from (show putF (Forest.cons 1 3 [] .nil .nil) = [6] by decide +kernel)] at HP
  have HPH := hide HP
  clear HP
  go_wp2_with fail
  refine HPH.out.mono ?_
  rintro e P0 ⟨A0, c0', rfl, hr, hb, _⟩
  have HB0 := hide (h0.out.trans (hb.mono h0.out.size))
  have HS := hide (sameBytes_yes A0 (some ⟨w7.heap.size + 1, 0, none⟩) 1 c0' 1 P0.heap.size [6] P0 hr ((HW0.out.below HB0.out).mono HB0.out.size) (Nat.le_refl _) (by decide))
  have hq : P0.heap[w7.heap.size + 1 + 1 + 1 + 1 + 1 + 1]? = some (.cells #[.slice (some ⟨w7.heap.size + 1, 0, none⟩) 1 1, .slice (some ⟨w7.heap.size + 1 + 1, 0, none⟩) 1 1, .slice (some ⟨w7.heap.size + 1 + 1 + 1, 0, none⟩) 2 2, .slice (some ⟨w7.heap.size + 1 + 1 + 1 + 1, 0, none⟩) 3 3, .slice (some ⟨w7.heap.size + 1 + 1 + 1 + 1 + 1, 0, none⟩) 3 3] 23 (0, 0)) := (HB0.out.block _ (at_lt HQ.out)).trans HQ.out
  have q0 := (blk_cell hq 0).trans rfl
  clear hr hb ht a0 a1 a2 a3 HPH
  go_wp2_with fail
  refine HS.out.mono ?_
  rintro e Q0 ⟨rfl, hb⟩
  have HD0 := hide (HB0.out.trans (hb.mono HB0.out.size))
  clear hb hq q0 HS
  go_wp2_with fail
  rw [rounds_succ]
  have ht : Q0.heap[w7.heap.size]? = some (.cells #[.int .u8 1, .int .i64 3, .slice none 0 0, .slice none 0 0, .int .u8 1, .int .i64 (-3), .slice none 0 0, .slice none 0 0, .int .u8 1, .int .i64 28, .slice none 0 0, .slice none 0 0, .int .u8 2, .int .i64 0, .slice A 2 c, .slice none 0 0, .int .u8 3, .int .i64 0, .slice none 0 0, .slice (some a) 2 c3] 26 (0, 0)) := (HD0.out.block _ (at_lt HT.out)).trans HT.out
  have a0 := (blk_cell ht 4).trans rfl
  have a1 := (blk_cell ht 5).trans rfl
  have a2 := (blk_cell ht 6).trans rfl
  have a3 := (blk_cell ht 7).trans rfl
  have HP := Put_any ⟨1, -3, [], .nil, none, 0, none, 0⟩ Ws.heap.size Q0 (TV.Is.below ⟨⟨rfl, fun h => absurd h (Nat.lt_irrefl 0)⟩, fun _ => rfl, .inl rfl, Nat.le_refl _, by simp, (show (Forest.nil).Dm ≤ 900000 by decide +kernel)⟩ HD0.out) HD0.out.size (by simp [TV.row, Forest.Wf, numOk, twoF, Forest.len]) (show sizeF (Forest.cons 1 (-3) [] .nil .nil) ≤ 1000000 by decide +kernel) (show (if okF soundM (Forest.cons 1 (-3) [] .nil .nil) = true then (if 16 < (Forest.cons 1 (-3) [] .nil .nil).Dm then (3 : Int) else 0) else 2) = 0 by decide +kernel)
  rw [show sizeF (TV.row ⟨1, -3, [], .nil, none, 0, none, 0⟩) = 1 from (show sizeF (Forest.cons 1 (-3) [] .nil .nil) = 1 by decide +kernel), show putF (TV.row ⟨1, -3, [], .nil, none, 0, none, 0⟩) = [5] from (show putF (Forest.cons 1 (-3) [] .nil .nil) = [5] by decide +kernel)] at HP
  have HPH := hide HP
  clear HP
  go_wp2_with fail
  refine HPH.out.mono ?_
  rintro e P1 ⟨A1, c1', rfl, hr, hb, _⟩
  have HB1 := hide (HD0.out.trans (hb.mono HD0.out.size))
  have HS := hide (sameBytes_yes A1 (some ⟨w7.heap.size + 1 + 1, 0, none⟩) 1 c1' 1 P1.heap.size [5] P1 hr ((HW1.out.below HB1.out).mono HB1.out.size) (Nat.le_refl _) (by decide))
  have hq : P1.heap[w7.heap.size + 1 + 1 + 1 + 1 + 1 + 1]? = some (.cells #[.slice (some ⟨w7.heap.size + 1, 0, none⟩) 1 1, .slice (some ⟨w7.heap.size + 1 + 1, 0, none⟩) 1 1, .slice (some ⟨w7.heap.size + 1 + 1 + 1, 0, none⟩) 2 2, .slice (some ⟨w7.heap.size + 1 + 1 + 1 + 1, 0, none⟩) 3 3, .slice (some ⟨w7.heap.size + 1 + 1 + 1 + 1 + 1, 0, none⟩) 3 3] 23 (0, 0)) := (HB1.out.block _ (at_lt HQ.out)).trans HQ.out
  have q0 := (blk_cell hq 1).trans rfl
  clear hr hb ht a0 a1 a2 a3 HPH
  go_wp2_with fail
  refine HS.out.mono ?_
  rintro e Q1 ⟨rfl, hb⟩
  have HD1 := hide (HB1.out.trans (hb.mono HB1.out.size))
  clear hb hq q0 HS
  go_wp2_with fail
  rw [rounds_succ]
  have ht : Q1.heap[w7.heap.size]? = some (.cells #[.int .u8 1, .int .i64 3, .slice none 0 0, .slice none 0 0, .int .u8 1, .int .i64 (-3), .slice none 0 0, .slice none 0 0, .int .u8 1, .int .i64 28, .slice none 0 0, .slice none 0 0, .int .u8 2, .int .i64 0, .slice A 2 c, .slice none 0 0, .int .u8 3, .int .i64 0, .slice none 0 0, .slice (some a) 2 c3] 26 (0, 0)) := (HD1.out.block _ (at_lt HT.out)).trans HT.out
  have a0 := (blk_cell ht 8).trans rfl
  have a1 := (blk_cell ht 9).trans rfl
  have a2 := (blk_cell ht 10).trans rfl
  have a3 := (blk_cell ht 11).trans rfl
  have HP := Put_any ⟨1, 28, [], .nil, none, 0, none, 0⟩ Ws.heap.size Q1 (TV.Is.below ⟨⟨rfl, fun h => absurd h (Nat.lt_irrefl 0)⟩, fun _ => rfl, .inl rfl, Nat.le_refl _, by simp, (show (Forest.nil).Dm ≤ 900000 by decide +kernel)⟩ HD1.out) HD1.out.size (by simp [TV.row, Forest.Wf, numOk, twoF, Forest.len]) (show sizeF (Forest.cons 1 28 [] .nil .nil) ≤ 1000000 by decide +kernel) (show (if okF soundM (Forest.cons 1 28 [] .nil .nil) = true then (if 16 < (Forest.cons 1 28 [] .nil .nil).Dm then (3 : Int) else 0) else 2) = 0 by decide +kernel)
  rw [show sizeF (TV.row ⟨1, 28, [], .nil, none, 0, none, 0⟩) = 2 from (show sizeF (Forest.cons 1 28 [] .nil .nil) = 2 by decide +kernel), show putF (TV.row ⟨1, 28, [], .nil, none, 0, none, 0⟩) = [56, 56] from (show putF (Forest.cons 1 28 [] .nil .nil) = [56, 56] by decide +kernel)] at HP
  have HPH := hide HP
  clear HP
  go_wp2_with fail
  refine HPH.out.mono ?_
  rintro e P2 ⟨A2, c2', rfl, hr, hb, _⟩
  have HB2 := hide (HD1.out.trans (hb.mono HD1.out.size))
  have HS := hide (sameBytes_yes A2 (some ⟨w7.heap.size + 1 + 1 + 1, 0, none⟩) 2 c2' 2 P2.heap.size [56, 56] P2 hr ((HW2.out.below HB2.out).mono HB2.out.size) (Nat.le_refl _) (by decide))
  have hq : P2.heap[w7.heap.size + 1 + 1 + 1 + 1 + 1 + 1]? = some (.cells #[.slice (some ⟨w7.heap.size + 1, 0, none⟩) 1 1, .slice (some ⟨w7.heap.size + 1 + 1, 0, none⟩) 1 1, .slice (some ⟨w7.heap.size + 1 + 1 + 1, 0, none⟩) 2 2, .slice (some ⟨w7.heap.size + 1 + 1 + 1 + 1, 0, none⟩) 3 3, .slice (some ⟨w7.heap.size + 1 + 1 + 1 + 1 + 1, 0, none⟩) 3 3] 23 (0, 0)) := (HB2.out.block _ (at_lt HQ.out)).trans HQ.out
  have q0 := (blk_cell hq 2).trans rfl
  clear hr hb ht a0 a1 a2 a3 HPH
  go_wp2_with fail
  refine HS.out.mono ?_
  rintro e Q2 ⟨rfl, hb⟩
  have HD2 := hide (HB2.out.trans (hb.mono HB2.out.size))
  clear hb hq q0 HS
  go_wp2_with fail
  rw [rounds_succ]
  have ht : Q2.heap[w7.heap.size]? = some (.cells #[.int .u8 1, .int .i64 3, .slice none 0 0, .slice none 0 0, .int .u8 1, .int .i64 (-3), .slice none 0 0, .slice none 0 0, .int .u8 1, .int .i64 28, .slice none 0 0, .slice none 0 0, .int .u8 2, .int .i64 0, .slice A 2 c, .slice none 0 0, .int .u8 3, .int .i64 0, .slice none 0 0, .slice (some a) 2 c3] 26 (0, 0)) := (HD2.out.block _ (at_lt HT.out)).trans HT.out
  have a0 := (blk_cell ht 12).trans rfl
  have a1 := (blk_cell ht 13).trans rfl
  have a2 := (blk_cell ht 14).trans rfl
  have a3 := (blk_cell ht 15).trans rfl
  have HP := Put_any ⟨2, 0, [97, 98], .nil, A, c, none, 0⟩ Ws.heap.size Q2 (TV.Is.below ⟨HR.out, HA.out, .inl rfl, Nat.le_refl _, by simp, (show (Forest.nil).Dm ≤ 900000 by decide +kernel)⟩ HD2.out) HD2.out.size (by simp [TV.row, Forest.Wf, numOk, twoF, Forest.len]) (show sizeF (Forest.cons 2 0 [97, 98] .nil .nil) ≤ 1000000 by decide +kernel) (show (if okF soundM (Forest.cons 2 0 [97, 98] .nil .nil) = true then (if 16 < (Forest.cons 2 0 [97, 98] .nil .nil).Dm then (3 : Int) else 0) else 2) = 0 by decide +kernel)
  rw [show sizeF (TV.row ⟨2, 0, [97, 98], .nil, A, c, none, 0⟩) = 3 from (show sizeF (Forest.cons 2 0 [97, 98] .nil .nil) = 3 by decide +kernel), show putF (TV.row ⟨2, 0, [97, 98], .nil, A, c, none, 0⟩) = [66, 97, 98] from (show putF (Forest.cons 2 0 [97, 98] .nil .nil) = [66, 97, 98] by decide +kernel)] at HP
  have HPH := hide HP
  clear HP
  go_wp2_with fail
  refine HPH.out.mono ?_
  rintro e P3 ⟨A3, c3', rfl, hr, hb, _⟩
  have HB3 := hide (HD2.out.trans (hb.mono HD2.out.size))
  have HS := hide (sameBytes_yes A3 (some ⟨w7.heap.size + 1 + 1 + 1 + 1, 0, none⟩) 3 c3' 3 P3.heap.size [66, 97, 98] P3 hr ((HW3.out.below HB3.out).mono HB3.out.size) (Nat.le_refl _) (by decide))
  have hq : P3.heap[w7.heap.size + 1 + 1 + 1 + 1 + 1 + 1]? = some (.cells #[.slice (some ⟨w7.heap.size + 1, 0, none⟩) 1 1, .slice (some ⟨w7.heap.size + 1 + 1, 0, none⟩) 1 1, .slice (some ⟨w7.heap.size + 1 + 1 + 1, 0, none⟩) 2 2, .slice (some ⟨w7.heap.size + 1 + 1 + 1 + 1, 0, none⟩) 3 3, .slice (some ⟨w7.heap.size + 1 + 1 + 1 + 1 + 1, 0, none⟩) 3 3] 23 (0, 0)) := (HB3.out.block _ (at_lt HQ.out)).trans HQ.out
  have q0 := (blk_cell hq 3).trans rfl
  clear hr hb ht a0 a1 a2 a3 HPH
  go_wp2_with fail
  refine HS.out.mono ?_
  rintro e Q3 ⟨rfl, hb⟩
  have HD3 := hide (HB3.out.trans (hb.mono HB3.out.size))
  clear hb hq q0 HS
  go_wp2_with fail
  rw [rounds_succ]
  have ht : Q3.heap[w7.heap.size]? = some (.cells #[.int .u8 1, .int .i64 3, .slice none 0 0, .slice none 0 0, .int .u8 1, .int .i64 (-3), .slice none 0 0, .slice none 0 0, .int .u8 1, .int .i64 28, .slice none 0 0, .slice none 0 0, .int .u8 2, .int .i64 0, .slice A 2 c, .slice none 0 0, .int .u8 3, .int .i64 0, .slice none 0 0, .slice (some a) 2 c3] 26 (0, 0)) := (HD3.out.block _ (at_lt HT.out)).trans HT.out
  have a0 := (blk_cell ht 16).trans rfl
  have a1 := (blk_cell ht 17).trans rfl
  have a2 := (blk_cell ht 18).trans rfl
  have a3 := (blk_cell ht 19).trans rfl
  have HP := Put_any ⟨3, 0, [], twoF 1 0 [] 2 0 [], none, 0, some a, c3⟩ Ws.heap.size Q3 (TV.Is.below ⟨⟨rfl, fun h => absurd h (Nat.lt_irrefl 0)⟩, fun _ => rfl, HF.out, HC3.out, by simp, (show (twoF 1 0 [] 2 0 []).Dm ≤ 900000 by decide +kernel)⟩ HD3.out) HD3.out.size (by simp [TV.row, Forest.Wf, numOk, twoF, Forest.len]) (show sizeF (Forest.cons 3 0 [] (twoF 1 0 [] 2 0 []) .nil) ≤ 1000000 by decide +kernel) (show (if okF soundM (Forest.cons 3 0 [] (twoF 1 0 [] 2 0 []) .nil) = true then (if 16 < (Forest.cons 3 0 [] (twoF 1 0 [] 2 0 []) .nil).Dm then (3 : Int) else 0) else 2) = 0 by decide +kernel)
  rw [show sizeF (TV.row ⟨3, 0, [], twoF 1 0 [] 2 0 [], none, 0, some a, c3⟩) = 3 from (show sizeF (Forest.cons 3 0 [] (twoF 1 0 [] 2 0 []) .nil) = 3 by decide +kernel), show putF (TV.row ⟨3, 0, [], twoF 1 0 [] 2 0 [], none, 0, some a, c3⟩) = [130, 0, 64] from (show putF (Forest.cons 3 0 [] (twoF 1 0 [] 2 0 []) .nil) = [130, 0, 64] by decide +kernel)] at HP
  have HPH := hide HP
  clear HP
  go_wp2_with fail
  refine HPH.out.mono ?_
  rintro e P4 ⟨A4, c4', rfl, hr, hb, _⟩
  have HB4 := hide (HD3.out.trans (hb.mono HD3.out.size))
  have HS := hide (sameBytes_yes A4 (some ⟨w7.heap.size + 1 + 1 + 1 + 1 + 1, 0, none⟩) 3 c4' 3 P4.heap.size [130, 0, 64] P4 hr ((HW4.out.below HB4.out).mono HB4.out.size) (Nat.le_refl _) (by decide))
  have hq : P4.heap[w7.heap.size + 1 + 1 + 1 + 1 + 1 + 1]? = some (.cells #[.slice (some ⟨w7.heap.size + 1, 0, none⟩) 1 1, .slice (some ⟨w7.heap.size + 1 + 1, 0, none⟩) 1 1, .slice (some ⟨w7.heap.size + 1 + 1 + 1, 0, none⟩) 2 2, .slice (some ⟨w7.heap.size + 1 + 1 + 1 + 1, 0, none⟩) 3 3, .slice (some ⟨w7.heap.size + 1 + 1 + 1 + 1 + 1, 0, none⟩) 3 3] 23 (0, 0)) := (HB4.out.block _ (at_lt HQ.out)).trans HQ.out
  have q0 := (blk_cell hq 4).trans rfl
  clear hr hb ht a0 a1 a2 a3 HPH
  go_wp2_with fail
  refine HS.out.mono ?_
  rintro e Q4 ⟨rfl, hb⟩
  have HD4 := hide (HB4.out.trans (hb.mono HB4.out.size))
  clear hb hq q0 HS
  go_wp2_with fail
  rw [rounds_succ]
  go_wp2_with fail
  go_ret
  exact ⟨rfl, HBS.out.trans (HD4.out.mono HBS.out.size)⟩
end Go.Proofs.Ytolmjnoaiiodlaa
