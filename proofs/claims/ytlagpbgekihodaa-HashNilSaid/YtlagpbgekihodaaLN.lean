/-
  No hash, and one that nobody made, have nothing: HashNil's walk.
-/
import Derived.Test.YtlagpbgekihodaaHR18
namespace Go.Proofs.Ytlagpbgekihodaa
open Go.RowKit
set_option linter.unusedVariables false

theorem below_in {w0 W w' : World} (h : Below w0.heap.size w0 W) (hb : Below W.heap.size W w') : Below w0.heap.size w0 w' := h.trans (hb.mono h.size)
set_option maxRecDepth 100000 in
set_option maxHeartbeats 1000000 in
theorem law_hashNil (what fl pl off : Int) (KA VA : Option Addr) (kn kc vn vc : Nat) (w : World) : Calls Try.prog 3 #[.agg #[.int .i64 what, .slice KA kn kc, .slice VA vn vc, .int .u64 fl, .int .i64 pl, .int .i64 off]] w fun e w' => e = .returned (.bool true) ∧ Below w.heap.size w w' := by
  have hx := World.alloc_heap_new w (.cells #[.int .i64 what, .slice KA kn kc, .slice VA vn vc, .int .u64 fl, .int .i64 pl, .int .i64 off] 25)
  have hb := below1 w (.cells #[.int .i64 what, .slice KA kn kc, .slice VA vn vc, .int .u64 fl, .int .i64 pl, .int .i64 off] 25)
  generalize hW1 : w.alloc (.cells #[.int .i64 what, .slice KA kn kc, .slice VA vn vc, .int .u64 fl, .int .i64 pl, .int .i64 off] 25) = W1 at hx hb
  have HW1 := hide hW1
  have HX := hide hx
  have HB := hide hb
  have c1 := blk_cell hx 1
  have c2 := blk_cell hx 2
  have c3 := blk_cell hx 3
  have c4 := blk_cell hx 4
  have c5 := blk_cell hx 5
  simp at c1 c2 c3 c4 c5
  have hxl := at_lt hx
  clear hW1 hx hb
  go_enter Try.func3, Try.ntmps3
  by_cases hg : (1000 : Int) < (kn : Int) ∨ (1000 : Int) < (vn : Int)
  · have HA := hide (awake_any W1)
    by_cases h1 : (1000 : Int) < (kn : Int)
    · have g1 : decide ((1000 : Int) < (kn : Int)) = true := decide_eq_true h1
      go_upto_region 1 with fail
      refine Eq.mp (congrArg (Code.wp Try.prog _ _ _) HW1.out.symm) ?_
      go_wp2_with (go_at_call 5; refine HA.out.mono ?_; rintro e w9 ⟨rfl, hb⟩; have HB9 := hide (below_in HB.out hb); clear hb)
      go_ret
      exact ⟨rfl, HB9.out⟩
    · have g1 : decide ((1000 : Int) < (kn : Int)) = false := decide_eq_false h1
      have g2 : decide ((1000 : Int) < (vn : Int)) = true := decide_eq_true (by omega)
      go_upto_region 1 with fail
      refine Eq.mp (congrArg (Code.wp Try.prog _ _ _) HW1.out.symm) ?_
      go_wp2_with (go_at_call 5; refine HA.out.mono ?_; rintro e w9 ⟨rfl, hb⟩; have HB9 := hide (below_in HB.out hb); clear hb)
      go_ret
      exact ⟨rfl, HB9.out⟩
  · have g1 : decide ((1000 : Int) < (kn : Int)) = false := decide_eq_false (by omega)
    have g2 : decide ((1000 : Int) < (vn : Int)) = false := decide_eq_false (by omega)
    clear hg
    go_upto_region 1 with fail
    refine Eq.mp (congrArg (Code.wp Try.prog _ _ _) HW1.out.symm) ?_
    go_upto_region 4 with fail
    obtain ⟨q0, q1⟩ := two_boxes W1 (.cells #[.pointer none, .int .i64 0, .map none, .int .i64 0, .slice none 0 0] 33) (.cells #[.pointer none, .pointer (some ⟨W1.heap.size, 0, none⟩)] 27)
    have hb2 := below2 W1 (.cells #[.pointer none, .int .i64 0, .map none, .int .i64 0, .slice none 0 0] 33) (.cells #[.pointer none, .pointer (some ⟨W1.heap.size, 0, none⟩)] 27)
    generalize hW2 : (W1.alloc (.cells #[.pointer none, .int .i64 0, .map none, .int .i64 0, .slice none 0 0] 33)).alloc (.cells #[.pointer none, .pointer (some ⟨W1.heap.size, 0, none⟩)] 27) = W2 at q0 q1 hb2
    replace hW2 := hide hW2
    have HB2 := hide (below_in HB.out hb2)
    have HN1 : Hid (NoH none W2) := hide (noH_nil W2)
    have HN2 : Hid (NoH (some ⟨W1.heap.size, 0, none⟩) W2) := hide (noH_zero (by rw [blk_cell q0]; rfl))
    have HZ := hide (Below.refl W2.heap.size W2)
    replace HX := hide ((hb2.block _ (at_lt HX.out)).trans HX.out)
    have HQ := hide q1
    clear q0 q1 hb2 hW2 c1 c2 c3 c4 c5
    have cells_at : ∀ W, Below W2.heap.size W2 W → (W.cell? ⟨w.heap.size, 1, none⟩ = some (.slice KA kn kc) ∧ W.cell? ⟨w.heap.size, 2, none⟩ = some (.slice VA vn vc) ∧ W.cell? ⟨w.heap.size, 3, none⟩ = some (.int .u64 fl) ∧ W.cell? ⟨w.heap.size, 4, none⟩ = some (.int .i64 pl) ∧ W.cell? ⟨w.heap.size, 5, none⟩ = some (.int .i64 off)) ∧
        W.cell? ⟨W1.heap.size + 1, 0, none⟩ = some (.pointer none) ∧ W.cell? ⟨W1.heap.size + 1, 1, none⟩ = some (.pointer (some ⟨W1.heap.size, 0, none⟩)) := fun W hb => by
      have h1 := (hb.block _ (at_lt HX.out)).trans HX.out
      have h2 := (hb.block _ (at_lt HQ.out)).trans HQ.out
      refine ⟨⟨?_, ?_, ?_, ?_, ?_⟩, ?_, ?_⟩ <;> first | (rw [blk_cell h1]; rfl) | (rw [blk_cell h2]; rfl)
    have HC := hide cells_at
    clear cells_at
    obtain ⟨⟨c1, c2, c3, c4, c5⟩, e0, e1⟩ := HC.out W2 HZ.out
    go_wp2_with fail
    refine wp_loop_rounds 3 ?_
    rw [rounds_succ]
    go_wp2_with (first
      | (go_at_call 6; refine (lookup_not _ KA kn kc _ (HN1.out.later HZ.out)).mono ?_; rintro e wx0 ⟨rfl, hb⟩; have Hx0 := hide (below_in HZ.out hb); clear hb; obtain ⟨⟨c1x0, c2x0, c3x0, c4x0, c5x0⟩, e0x0, e1x0⟩ := HC.out _ Hx0.out)
      | (go_at_call 7; refine (value_not _ pl _ (HN1.out.later Hx0.out)).mono ?_; rintro e wx1 ⟨rfl, hb⟩; have Hx1 := hide (below_in Hx0.out hb); clear hb; obtain ⟨⟨c1x1, c2x1, c3x1, c4x1, c5x1⟩, e0x1, e1x1⟩ := HC.out _ Hx1.out)
      | (go_at_call 8; refine (upd_not _ KA VA kn kc vn vc fl _ (HN1.out.later Hx1.out)).mono ?_; rintro e wx2 ⟨rfl, hb⟩; have Hx2 := hide (below_in Hx1.out hb); clear hb; obtain ⟨⟨c1x2, c2x2, c3x2, c4x2, c5x2⟩, e0x2, e1x2⟩ := HC.out _ Hx2.out)
      | (go_at_call 9; refine (del_not _ KA kn kc _ (HN1.out.later Hx2.out)).mono ?_; rintro e wx3 ⟨rfl, hb⟩; have Hx3 := hide (below_in Hx2.out hb); clear hb; obtain ⟨⟨c1x3, c2x3, c3x3, c4x3, c5x3⟩, e0x3, e1x3⟩ := HC.out _ Hx3.out)
      | (go_at_call 10; refine (set_not _ pl off VA vn vc _ (HN1.out.later Hx3.out)).mono ?_; rintro e wx4 ⟨rfl, hb⟩; have Hx4 := hide (below_in Hx3.out hb); clear hb; obtain ⟨⟨c1x4, c2x4, c3x4, c4x4, c5x4⟩, e0x4, e1x4⟩ := HC.out _ Hx4.out)
      | (go_at_call 11; refine (keys_not _ _ (HN1.out.later Hx4.out)).mono ?_; rintro e wk ⟨rfl, hwk⟩; replace hwk := hwk.symm; subst hwk))
    rw [rounds_succ]
    go_wp2_with (first
      | (go_at_call 6; refine (lookup_not _ KA kn kc _ (HN2.out.later Hx4.out)).mono ?_; rintro e wy0 ⟨rfl, hb⟩; have Hy0 := hide (below_in Hx4.out hb); clear hb; obtain ⟨⟨c1y0, c2y0, c3y0, c4y0, c5y0⟩, e0y0, e1y0⟩ := HC.out _ Hy0.out)
      | (go_at_call 7; refine (value_not _ pl _ (HN2.out.later Hy0.out)).mono ?_; rintro e wy1 ⟨rfl, hb⟩; have Hy1 := hide (below_in Hy0.out hb); clear hb; obtain ⟨⟨c1y1, c2y1, c3y1, c4y1, c5y1⟩, e0y1, e1y1⟩ := HC.out _ Hy1.out)
      | (go_at_call 8; refine (upd_not _ KA VA kn kc vn vc fl _ (HN2.out.later Hy1.out)).mono ?_; rintro e wy2 ⟨rfl, hb⟩; have Hy2 := hide (below_in Hy1.out hb); clear hb; obtain ⟨⟨c1y2, c2y2, c3y2, c4y2, c5y2⟩, e0y2, e1y2⟩ := HC.out _ Hy2.out)
      | (go_at_call 9; refine (del_not _ KA kn kc _ (HN2.out.later Hy2.out)).mono ?_; rintro e wy3 ⟨rfl, hb⟩; have Hy3 := hide (below_in Hy2.out hb); clear hb; obtain ⟨⟨c1y3, c2y3, c3y3, c4y3, c5y3⟩, e0y3, e1y3⟩ := HC.out _ Hy3.out)
      | (go_at_call 10; refine (set_not _ pl off VA vn vc _ (HN2.out.later Hy3.out)).mono ?_; rintro e wy4 ⟨rfl, hb⟩; have Hy4 := hide (below_in Hy3.out hb); clear hb; obtain ⟨⟨c1y4, c2y4, c3y4, c4y4, c5y4⟩, e0y4, e1y4⟩ := HC.out _ Hy4.out)
      | (go_at_call 11; refine (keys_not _ _ (HN2.out.later Hy4.out)).mono ?_; rintro e wk ⟨rfl, hwk⟩; replace hwk := hwk.symm; subst hwk))
    rw [rounds_succ]
    have HBx := hide (below_in HB2.out Hy4.out)
    go_wp2_with (go_at_call 5; refine (awake_any _).mono ?_; rintro e w9 ⟨rfl, hb⟩; have HB10 := hide (below_in HBx.out hb); clear hb)
    go_ret
    exact ⟨rfl, HB10.out⟩
end Go.Proofs.Ytlagpbgekihodaa
