/-
  The host's own helpers, as a whole.
-/
import Derived.Test.YtedjmgiblkjonaaB7
namespace Go.Proofs.Ytedjmgiblkjonaa
open Go.RowKit Go.Maps
set_option linter.unusedVariables false

theorem store_9 {w : World} {b : Nat} {v0 v1 v2 v3 v4 v5 v6 v7 v8 : Value} {t : TypeId} (h : w.heap[b]? = some (.cells #[v0, v1, v2, v3, v4, v5, v6, v7, v8] t (0, 0))) (u0 u1 u2 u3 u4 u5 u6 u7 u8 : Value) :
    (((((((((w.setCell ⟨b, 0, none⟩ u0).setCell ⟨b, 1, none⟩ u1).setCell ⟨b, 2, none⟩ u2).setCell ⟨b, 3, none⟩ u3).setCell ⟨b, 4, none⟩ u4).setCell ⟨b, 5, none⟩ u5).setCell ⟨b, 6, none⟩ u6).setCell ⟨b, 7, none⟩ u7).setCell ⟨b, 8, none⟩ u8).heap[b]? = some (.cells #[u0, u1, u2, u3, u4, u5, u6, u7, u8] t (0, 0)) ∧ w.grownBy (((((((((w.setCell ⟨b, 0, none⟩ u0).setCell ⟨b, 1, none⟩ u1).setCell ⟨b, 2, none⟩ u2).setCell ⟨b, 3, none⟩ u3).setCell ⟨b, 4, none⟩ u4).setCell ⟨b, 5, none⟩ u5).setCell ⟨b, 6, none⟩ u6).setCell ⟨b, 7, none⟩ u7).setCell ⟨b, 8, none⟩ u8) (some b) := by
  constructor
  · skip
    have h0 : (w.setCell ⟨b, 0, none⟩ u0).heap[b]? = some (.cells #[u0, v1, v2, v3, v4, v5, v6, v7, v8] t (0, 0)) := Joins.block_setCell (i := 0) h u0
    have h1 : ((w.setCell ⟨b, 0, none⟩ u0).setCell ⟨b, 1, none⟩ u1).heap[b]? = some (.cells #[u0, u1, v2, v3, v4, v5, v6, v7, v8] t (0, 0)) := Joins.block_setCell (i := 1) h0 u1
    have h2 : (((w.setCell ⟨b, 0, none⟩ u0).setCell ⟨b, 1, none⟩ u1).setCell ⟨b, 2, none⟩ u2).heap[b]? = some (.cells #[u0, u1, u2, v3, v4, v5, v6, v7, v8] t (0, 0)) := Joins.block_setCell (i := 2) h1 u2
    have h3 : ((((w.setCell ⟨b, 0, none⟩ u0).setCell ⟨b, 1, none⟩ u1).setCell ⟨b, 2, none⟩ u2).setCell ⟨b, 3, none⟩ u3).heap[b]? = some (.cells #[u0, u1, u2, u3, v4, v5, v6, v7, v8] t (0, 0)) := Joins.block_setCell (i := 3) h2 u3
    have h4 : (((((w.setCell ⟨b, 0, none⟩ u0).setCell ⟨b, 1, none⟩ u1).setCell ⟨b, 2, none⟩ u2).setCell ⟨b, 3, none⟩ u3).setCell ⟨b, 4, none⟩ u4).heap[b]? = some (.cells #[u0, u1, u2, u3, u4, v5, v6, v7, v8] t (0, 0)) := Joins.block_setCell (i := 4) h3 u4
    have h5 : ((((((w.setCell ⟨b, 0, none⟩ u0).setCell ⟨b, 1, none⟩ u1).setCell ⟨b, 2, none⟩ u2).setCell ⟨b, 3, none⟩ u3).setCell ⟨b, 4, none⟩ u4).setCell ⟨b, 5, none⟩ u5).heap[b]? = some (.cells #[u0, u1, u2, u3, u4, u5, v6, v7, v8] t (0, 0)) := Joins.block_setCell (i := 5) h4 u5
    have h6 : (((((((w.setCell ⟨b, 0, none⟩ u0).setCell ⟨b, 1, none⟩ u1).setCell ⟨b, 2, none⟩ u2).setCell ⟨b, 3, none⟩ u3).setCell ⟨b, 4, none⟩ u4).setCell ⟨b, 5, none⟩ u5).setCell ⟨b, 6, none⟩ u6).heap[b]? = some (.cells #[u0, u1, u2, u3, u4, u5, u6, v7, v8] t (0, 0)) := Joins.block_setCell (i := 6) h5 u6
    have h7 : ((((((((w.setCell ⟨b, 0, none⟩ u0).setCell ⟨b, 1, none⟩ u1).setCell ⟨b, 2, none⟩ u2).setCell ⟨b, 3, none⟩ u3).setCell ⟨b, 4, none⟩ u4).setCell ⟨b, 5, none⟩ u5).setCell ⟨b, 6, none⟩ u6).setCell ⟨b, 7, none⟩ u7).heap[b]? = some (.cells #[u0, u1, u2, u3, u4, u5, u6, u7, v8] t (0, 0)) := Joins.block_setCell (i := 7) h6 u7
    have h8 : (((((((((w.setCell ⟨b, 0, none⟩ u0).setCell ⟨b, 1, none⟩ u1).setCell ⟨b, 2, none⟩ u2).setCell ⟨b, 3, none⟩ u3).setCell ⟨b, 4, none⟩ u4).setCell ⟨b, 5, none⟩ u5).setCell ⟨b, 6, none⟩ u6).setCell ⟨b, 7, none⟩ u7).setCell ⟨b, 8, none⟩ u8).heap[b]? = some (.cells #[u0, u1, u2, u3, u4, u5, u6, u7, u8] t (0, 0)) := Joins.block_setCell (i := 8) h7 u8
    exact h8
  · exact (grown_row (grown_row (grown_row (grown_row (grown_row (grown_row (grown_row (grown_row (grown_set _ _ _ _) (grown_set _ _ _ _)) (grown_set _ _ _ _)) (grown_set _ _ _ _)) (grown_set _ _ _ _)) (grown_set _ _ _ _)) (grown_set _ _ _ _)) (grown_set _ _ _ _)) (grown_set _ _ _ _))

def zeroH : HelpM := ⟨0, 0, 0, 0, [], ⟨0, 0, 0, 0⟩⟩
def ownH (k : Int) : HelpM := if ownB k then ⟨0, 0, 0, k, (ownM k).1, (ownM k).2⟩ else zeroH
theorem ownM_kind (k : Int) : (ownM k).2.kind = 0 ↔ ownB k = false := by
  by_cases h : 1 ≤ k ∧ k ≤ 10
  · have hb : ownB k = true := by unfold ownB; simp [h]
    have h9 : k = 1 ∨ k = 2 ∨ k = 3 ∨ k = 4 ∨ k = 5 ∨ k = 6 ∨ k = 7 ∨ k = 8 ∨ k = 9 ∨ k = 10 := by omega
    rw [hb]
    rcases h9 with rfl | rfl | rfl | rfl | rfl | rfl | rfl | rfl | rfl | rfl <;> simp [ownM]
  · have hb : ownB k = false := by unfold ownB; simp; omega
    rw [ownM_none k h, hb]
    simp
def HelpTold (h : HelpM) (b : Bool) (w : World) (e : Ending) (w' : World) : Prop :=
  ∃ A c, e = .returned (.tuple #[h.v A c, .bool b]) ∧ (h.args.length ≤ c ∧ c ≤ maxLen) ∧ Fresh w w' A h.args.length h.args ∧ Below w.heap.size w w'
set_option maxRecDepth 100000 in
set_option maxHeartbeats 1000000 in
theorem own_any (k : Int) (w : World) : Calls Try.prog 8 #[.int .u8 k] w (HelpTold (ownH k) (ownB k) w) := by
  have hP := hide (fun w => parts_any k w)
  have hkd := ownM_kind k
  have HH : Hid (ownH k = if ownB k then ⟨0, 0, 0, k, (ownM k).1, (ownM k).2⟩ else zeroH) := hide rfl
  go_enter Try.func8, Try.ntmps8
  go_wp2_with fail
  refine name_call (fun W1 hW1 => ?_)
  have z1 : W1.heap.size = w.heap.size + 1 := by rw [hW1]; simp
  have b2 := World.alloc_heap_new w (.cells #[.int .i64 0, .int .i64 0, .int .i64 0, .int .u8 0, .slice none 0 0, .int .u8 0, .int .i64 0, .int .i64 0, .int .i64 0] 32)
  have l1 := below1 w (.cells #[.int .i64 0, .int .i64 0, .int .i64 0, .int .u8 0, .slice none 0 0, .int .u8 0, .int .i64 0, .int .i64 0, .int .i64 0] 32)
  rw [← hW1] at b2 l1
  clear hW1
  (with_reducible refine (hP.out _).mono ?_)
  rintro e w1 ⟨A, c, rfl, hcc, ha, hb⟩
  have HCC := hide hcc
  clear hcc
  have hr := (hb.block _ (at_lt b2)).trans b2
  have lt0 := at_lt hr
  have HB := hide (l1.trans (hb.mono l1.size))
  have HA := hide ha
  have HR := hide hr
  clear ha hb b2 l1
  have c0 := blk_cell hr 0
  have c1 := blk_cell hr 1
  have c2 := blk_cell hr 2
  have c3 := blk_cell hr 3
  have c4 := blk_cell hr 4
  have c5 := blk_cell hr 5
  have c6 := blk_cell hr 6
  have c7 := blk_cell hr 7
  have c8 := blk_cell hr 8
  have f0 := Joins.unfrozen_of_block hr 0
  have f1 := Joins.unfrozen_of_block hr 1
  have f2 := Joins.unfrozen_of_block hr 2
  have f3 := Joins.unfrozen_of_block hr 3
  have f4 := Joins.unfrozen_of_block hr 4
  have f5 := Joins.unfrozen_of_block hr 5
  have f6 := Joins.unfrozen_of_block hr 6
  have f7 := Joins.unfrozen_of_block hr 7
  have f8 := Joins.unfrozen_of_block hr 8
  simp at c0 c1 c2 c3 c4 c5 c6 c7 c8
  clear hr
  generalize hl : (ownM k).1 = l at *
  generalize hrt : (ownM k).2 = r at *
  obtain ⟨rk, lo, hi, sz⟩ := r
  simp only [RetM.v] at hkd ⊢
  clear hl hrt
  generalize hn : l.length = n at *
  have HN := hide hn
  clear hn
  generalize ownB k = ob at *
  cases ob
  · skip
    have hk0 : rk = 0 := hkd.2 rfl
    subst hk0
    clear hkd
    go_wp2
    have hr2 := HR.out
    obtain ⟨hs, hgr⟩ := store_9 hr2 (.int .i64 0) (.int .i64 0) (.int .i64 0) (.int .u8 0) (.slice none 0 0) (.int .u8 0) (.int .i64 0) (.int .i64 0) (.int .i64 0)
    have hb := HB.out.grown hgr HB.out.size (fun k e => by cases e; exact Nat.le_refl _)
    refine bodyPost_ret (v := .tuple #[.agg #[.int .i64 0, .int .i64 0, .int .i64 0, .int .u8 0, .slice none 0 0, .int .u8 0, .int .i64 0, .int .i64 0, .int .i64 0], .bool false]) ?_ rfl ⟨none, 0, by rw [HH.out]; rfl, ⟨by rw [HH.out]; exact Nat.le_refl 0, by unfold maxLen; omega⟩, by rw [HH.out]; exact (fun _ _ _ => Args.nil), hb.alloc hb.size _⟩
    have hs2 := (Below.heap_alloc _ (.cells #[.int .u8 0, .int .i64 lo, .int .i64 hi, .int .i64 sz] 30) _ (at_lt hs)).trans hs
    have e0 := blk_cell hs2 0
    have e1 := blk_cell hs2 1
    have e2 := blk_cell hs2 2
    have e3 := blk_cell hs2 3
    have e4 := blk_cell hs2 4
    have e5 := blk_cell hs2 5
    have e6 := blk_cell hs2 6
    have e7 := blk_cell hs2 7
    have e8 := blk_cell hs2 8
    simp only [List.getElem?_toArray, List.getElem?_cons_zero, List.getElem?_cons_succ] at e0 e1 e2 e3 e4 e5 e6 e7 e8
    simp [results, Try.results8, go_sem, e0, e1, e2, e3, e4, e5, e6, e7, e8]
  · have hk0 : (rk == 0) = false := by
      rw [beq_eq_false_iff_ne]
      intro h
      have := hkd.1 h
      cases this
    clear hkd
    go_wp2
    have hr2 := HR.out
    obtain ⟨hs, hgr⟩ := store_9 hr2 (.int .i64 0) (.int .i64 0) (.int .i64 0) (.int .u8 k) (.slice A n c) (.int .u8 rk) (.int .i64 lo) (.int .i64 hi) (.int .i64 sz)
    have hb := HB.out.grown hgr HB.out.size (fun k e => by cases e; exact Nat.le_refl _)
    refine bodyPost_ret (v := .tuple #[.agg #[.int .i64 0, .int .i64 0, .int .i64 0, .int .u8 k, .slice A n c, .int .u8 rk, .int .i64 lo, .int .i64 hi, .int .i64 sz], .bool true]) ?_ rfl ⟨A, c, ?_, ?_, ?_, hb.alloc hb.size _⟩
    · have hs2 := (Below.heap_alloc _ (.cells #[.int .u8 rk, .int .i64 lo, .int .i64 hi, .int .i64 sz] 30) _ (at_lt hs)).trans hs
      have e0 := blk_cell hs2 0
      have e1 := blk_cell hs2 1
      have e2 := blk_cell hs2 2
      have e3 := blk_cell hs2 3
      have e4 := blk_cell hs2 4
      have e5 := blk_cell hs2 5
      have e6 := blk_cell hs2 6
      have e7 := blk_cell hs2 7
      have e8 := blk_cell hs2 8
      simp only [List.getElem?_toArray, List.getElem?_cons_zero, List.getElem?_cons_succ] at e0 e1 e2 e3 e4 e5 e6 e7 e8
      simp [results, Try.results8, go_sem, e0, e1, e2, e3, e4, e5, e6, e7, e8]
    · rw [HH.out]; simp only [if_true, HelpM.v, HN.out]
    · rw [HH.out]; simp only [if_true, HN.out]; exact HCC.out
    · rw [HH.out]
      simp only [if_true, HN.out]
      intro W' hs' hk'
      refine HA.out W' (Nat.le_trans (by simp) hs') (fun q h1 h2 => ?_)
      have h3 := hgr.block q h2 (fun e => by injection e with e; omega)
      exact (hk' q (by omega) (by have := hgr.size; simp; omega)).trans ((Below.heap_alloc _ _ q (Nat.lt_of_lt_of_le h2 hgr.size)).trans h3)
end Go.Proofs.Ytedjmgiblkjonaa
