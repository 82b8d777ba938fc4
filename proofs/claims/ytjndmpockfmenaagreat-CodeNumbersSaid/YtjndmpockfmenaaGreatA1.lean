/-
  The chapter's examples hold.
-/
import Derived.Test.YtjndmpockfmenaaGreatK3
namespace Go.Proofs.YtjndmpockfmenaaGreat
open Go.RowKit
set_option linter.unusedVariables false

theorem Made.rd {e : TypeId} {sz n g cap : Nat} {xs : List Value} {w w' : World} (h : Made e sz n xs w w' g cap) : Rd w' w'.heap.size sz (some ⟨g, 0, none⟩) n xs :=
  (Rd.of_owns h.1).mono (row_lt h.1)
theorem cells_rd (w : World) (l : List Value) (t : TypeId) (sz n : Nat) (hl : l.length = n * sz) : Rd (w.alloc (.cells l.toArray t)) (w.heap.size + 1) sz (some ⟨w.heap.size, 0, none⟩) n l :=
  ⟨hl, fun _ => ⟨_, rfl, Nat.lt_succ_self _, cells_new w l t⟩⟩
set_option maxRecDepth 100000 in
set_option maxHeartbeats 2000000 in
theorem awake_any (w : World) : Calls Tryz.prog 11 #[] w fun e w' => e = .returned (.bool true) ∧ Below w.heap.size w w' := by
  have HP := hide (put_right 1 1 (some ⟨w.heap.size, 0, none⟩) (w.heap.size + 1) [⟨183, 1, 2, -2, 258⟩] (w.alloc (.cells #[.int .u8 183, .int .u8 1, .int .u8 2, .int .i16 (-2), .int .i32 258] 27)) (by omega)
    (Rd.prg (cells_rd w (pcells [⟨183, 1, 2, -2, 258⟩]) 27 5 1 rfl)) (by simp) (by intro s hs; simp only [List.mem_singleton] at hs; subst hs; exact ⟨by decide, by decide, by decide, by decide, by decide⟩) (by decide))
  go_enter Tryz.func11, Tryz.ntmps11
  go_wp2_with fail
  refine HP.out.mono ?_
  rintro e w1 ⟨g, rfl, hm⟩
  have HM := hide hm
  clear hm HP
  go_wp2_with fail
  refine (get_wrong 7 8 _ _ (.inr (by decide))).mono ?_
  rintro e w2 ⟨rfl, hb2⟩
  have H2 := hide hb2
  clear hb2
  have h7 : getErr 7 = 4 := rfl
  rw [h7]
  go_wp2_with fail
  refine (get_right 0 0 0 none w2.heap.size [] w2 rfl (by omega) (by omega) (by simp [maxLen]) ⟨rfl, fun h => absurd h (by omega)⟩ (Nat.le_refl _) (by simp)).mono ?_
  rintro e w3 ⟨g3, rfl, hm3⟩
  have H3 := hide hm3
  clear hm3
  go_wp2_with fail
  have hb1 : Below w.heap.size w w1 := ((Below.refl _ w).alloc (Nat.le_refl _) _).trans (HM.out.2.2.mono (by simp))
  have hb3 : Below w.heap.size w w3 := (hb1.trans (H2.out.mono hb1.size)).trans (H3.out.2.2.mono (Nat.le_trans hb1.size H2.out.size))
  have hr1 : Rd w3 w3.heap.size 1 (some ⟨g, 0, none⟩) 8 (u8s [183, 33, 254, 255, 2, 1, 0, 0]) := ((HM.out.rd.below H2.out).below (H3.out.2.2.mono H2.out.size)).mono (Nat.le_trans H2.out.size H3.out.2.2.size)
  refine (sameBytes_yes (some ⟨g, 0, none⟩) (some ⟨w3.heap.size, 0, none⟩) 8 8 8 (w3.heap.size + 1) [183, 33, 254, 255, 2, 1, 0, 0] _ ((hr1.below ((Below.refl _ w3).alloc (Nat.le_refl _) _)).mono (by omega))
    (cells_rd w3 (u8s [183, 33, 254, 255, 2, 1, 0, 0]) 5 1 8 rfl) (by simp) (by omega)).mono ?_
  rintro e w4 ⟨rfl, hb4⟩
  have HF := hide (((hb3.alloc hb3.size _)).trans (hb4.mono (by simp; have := hb3.size; omega)))
  clear hb1 hb3 hr1 hb4
  go_wp2
  go_ret
  exact ⟨rfl, HF.out⟩
end Go.Proofs.YtjndmpockfmenaaGreat
