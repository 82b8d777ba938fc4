/-
  A number that is picked; a helper that is copied.
-/
import Derived.Test.YtedjmgiblkjonaaF2
import Derived.Test.YtedjmgiblkjonaaF3
namespace Go.Proofs.Ytedjmgiblkjonaa
open Go.RowKit Go.Maps
set_option linter.unusedVariables false

def Picked (n : Int) (w : World) (e : Ending) (w' : World) : Prop := ∃ r : Int, 0 ≤ r ∧ r < n ∧ e = .returned (.int .i64 r) ∧ w = w'
set_option maxRecDepth 100000 in
theorem pick_any (i n : Int) (w : World) (hn : 1 ≤ n) (hn2 : n ≤ 2147483648) : Calls Try.prog 17 #[.int .i64 i, .int .i64 n] w (Picked n w) := by
  have h1 : ¬ n < 1 := by omega
  have hm1 := Int.tmod_lt_of_pos i (show 0 < n by omega)
  have hm2 : -n < i.tmod n := by
    have := Int.tmod_lt_of_pos (-i) (show 0 < n by omega)
    rw [Int.neg_tmod] at this
    omega
  go_enter Try.func17, Try.ntmps17
  go_wp2
  all_goals go_ret
  · exact ⟨i.tmod n + n, by omega, by omega, rfl, rfl⟩
  · exact ⟨i.tmod n, by omega, by omega, rfl, rfl⟩
def CopiedHelper (i mj mn ck rk lo hi sz : Int) (w : World) (l : List ArgM) (e : Ending) (w' : World) : Prop := ∃ A n c lx, e = .returned (.agg #[.int .i64 i, .int .i64 mj, .int .i64 mn, .int .u8 ck, .slice A n c, .int .u8 rk, .int .i64 lo, .int .i64 hi, .int .i64 sz]) ∧ n = l.length ∧ OwnArgs w w' l (.slice A n c) lx
set_option maxRecDepth 100000 in
set_option maxHeartbeats 1000000 in
theorem copyHelper_any (i mj mn ck rk lo hi sz : Int) (A : Option Addr) (n c B : Nat) (l : List ArgM) (w : World) (ha : Args w B A n l) (hB : B ≤ w.heap.size) (hn : n ≤ 1000000) :
    Calls Try.prog 18 #[.agg #[.int .i64 i, .int .i64 mj, .int .i64 mn, .int .u8 ck, .slice A n c, .int .u8 rk, .int .i64 lo, .int .i64 hi, .int .i64 sz]] w (CopiedHelper i mj mn ck rk lo hi sz w l) := by
  have hl := hide ha.1
  have HC : Hid (∀ X : World, Below w.heap.size w X → Calls Try.prog 43 #[.slice A n c] X (CopiedArgs X l)) := hide (fun X hX => copyArgs_any A n c B l X (ha.below (hX.mono hB)) (Nat.le_trans hB hX.size) hn)
  clear ha
  go_enter Try.func18, Try.ntmps18
  go_wp2_with fail
  refine name_call (fun W1 hW1 => ?_)
  obtain ⟨b1, b2⟩ := two_boxes w (.cells #[.int .i64 i, .int .i64 mj, .int .i64 mn, .int .u8 ck, .slice A n c, .int .u8 rk, .int .i64 lo, .int .i64 hi, .int .i64 sz] 32) (.cells #[.int .i64 0, .int .i64 0, .int .i64 0, .int .u8 0, .slice none 0 0, .int .u8 0, .int .i64 0, .int .i64 0, .int .i64 0] 32)
  have l1 := below2 w (.cells #[.int .i64 i, .int .i64 mj, .int .i64 mn, .int .u8 ck, .slice A n c, .int .u8 rk, .int .i64 lo, .int .i64 hi, .int .i64 sz] 32) (.cells #[.int .i64 0, .int .i64 0, .int .i64 0, .int .u8 0, .slice none 0 0, .int .u8 0, .int .i64 0, .int .i64 0, .int .i64 0] 32)
  rw [← hW1] at b1 b2 l1
  clear hW1
  have z1 : w.heap.size + 1 < W1.heap.size := at_lt b2
  ((with_reducible refine (HC.out _ l1).mono ?_))
  rintro e w1 ⟨v, lx, rfl, hm, ho, hx, hf, hb⟩
  rw [hl.out] at ho
  obtain ⟨A', c', rfl, _⟩ := owns_slice ho
  replace b1 := (hb.block _ (at_lt b1)).trans b1
  replace b2 := (hb.block _ (at_lt b2)).trans b2
  have c0 := blk_cell b1 0
  have c1 := blk_cell b1 1
  have c2 := blk_cell b1 2
  have c3 := blk_cell b1 3
  have c4 := blk_cell b1 4
  have c5 := blk_cell b1 5
  have c6 := blk_cell b1 6
  have c7 := blk_cell b1 7
  have c8 := blk_cell b1 8
  have d0 := blk_cell b2 0
  have d1 := blk_cell b2 1
  have d2 := blk_cell b2 2
  have d3 := blk_cell b2 3
  have d4 := blk_cell b2 4
  have d5 := blk_cell b2 5
  have d6 := blk_cell b2 6
  have d7 := blk_cell b2 7
  have d8 := blk_cell b2 8
  have f0 := Joins.unfrozen_of_block b1 4
  have g0 := Joins.unfrozen_of_block b2 0
  have g1 := Joins.unfrozen_of_block b2 1
  have g2 := Joins.unfrozen_of_block b2 2
  have g3 := Joins.unfrozen_of_block b2 3
  have g4 := Joins.unfrozen_of_block b2 4
  have g5 := Joins.unfrozen_of_block b2 5
  have g6 := Joins.unfrozen_of_block b2 6
  have g7 := Joins.unfrozen_of_block b2 7
  have g8 := Joins.unfrozen_of_block b2 8
  simp at c0 d0 c1 d1 c2 d2 c3 d3 c4 d4 c5 d5 c6 d6 c7 d7 c8 d8
  have t1 : (w1.setCell ⟨w.heap.size, 4, none⟩ (.slice A' n c')).heap[w.heap.size]? = some (.cells #[.int .i64 i, .int .i64 mj, .int .i64 mn, .int .u8 ck, .slice A' n c', .int .u8 rk, .int .i64 lo, .int .i64 hi, .int .i64 sz] 32 (0, 0)) := Joins.block_setCell (i := 4) b1 (.slice A' n c')
  have t2 := blk_kept b2 (grown_set w1 w.heap.size 4 (.slice A' n c')) (by omega)
  have HB := hide hb
  have HL := hide l1
  have HO := hide ho
  have HF := hide hf
  have HX := hide hx
  have HM := hide hm
  have T2 := hide t2
  clear b1 b2 t1 t2 hb l1 ho hf HC hx hm
  go_wp2
  obtain ⟨hs, hgr⟩ := store_9 T2.out (.int .i64 i) (.int .i64 mj) (.int .i64 mn) (.int .u8 ck) (.slice A' n c') (.int .u8 rk) (.int .i64 lo) (.int .i64 hi) (.int .i64 sz)
  have hgr0 := grown_set w1 w.heap.size 4 (.slice A' n c')
  have k1 := own_keep (own_keep HO.out hgr0 (fun g hg e => by have := HF.out g hg; omega)) hgr (fun g hg e => by have := HF.out g hg; omega)
  have hbel := ((HL.out.trans (HB.out.mono HL.out.size)).grown hgr0 (Nat.le_trans HL.out.size HB.out.size) (fun k e => by cases e; exact Nat.le_refl _)).grown hgr (Nat.le_trans (Nat.le_trans HL.out.size HB.out.size) hgr0.size) (fun k e => by cases e; exact Nat.le_succ _)
  refine bodyPost_ret (v := .agg #[.int .i64 i, .int .i64 mj, .int .i64 mn, .int .u8 ck, .slice A' n c', .int .u8 rk, .int .i64 lo, .int .i64 hi, .int .i64 sz]) ?_ rfl ⟨A', n, c', lx, rfl, hl.out.symm, HM.out, by rw [hl.out]; exact k1, fun x hx => ?_, fun g hg => ?_, hbel⟩
  · have e0 := blk_cell hs 0
    have e1 := blk_cell hs 1
    have e2 := blk_cell hs 2
    have e3 := blk_cell hs 3
    have e4 := blk_cell hs 4
    have e5 := blk_cell hs 5
    have e6 := blk_cell hs 6
    have e7 := blk_cell hs 7
    have e8 := blk_cell hs 8
    simp only [List.getElem?_toArray, List.getElem?_cons_zero, List.getElem?_cons_succ] at e0 e1 e2 e3 e4 e5 e6 e7 e8
    simp [results, Try.results18, go_sem, e0, e1, e2, e3, e4, e5, e6, e7, e8]
  · have h := HX.out x hx
    refine ⟨⟨own_keep (own_keep h.1.1 hgr0 (fun g hg e => by have := h.2 g hg; omega)) hgr (fun g hg e => by have := h.2 g hg; omega), h.1.2⟩, fun g hg => ?_⟩
    have := h.2 g hg
    have := HL.out.size
    omega
  · have := HF.out g hg
    have := HL.out.size
    omega
end Go.Proofs.Ytedjmgiblkjonaa
