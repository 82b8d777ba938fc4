/-
  No queue, and one that nobody made, have nothing: QueueNil's walk.
-/
import Derived.Test.YtflpifelamkagaaGreatV8
namespace Go.Proofs.YtflpifelamkagaaGreat
open Go.RowKit
set_option linter.unusedVariables false

theorem below_in {w0 W w' : World} (h : Below w0.heap.size w0 W) (hb : Below W.heap.size W w') : Below w0.heap.size w0 w' := h.trans (hb.mono h.size)
set_option maxRecDepth 100000 in
set_option maxHeartbeats 2000000 in
theorem law_queueNil (S : Option Addr) (m sc : Nat) (fl : Int) (w : World) : Calls Tryz.prog 22 #[.slice S m sc, .int .u64 fl] w fun e w' => e = .returned (.bool true) ∧ Below w.heap.size w w' := by
  obtain ⟨q0, q1⟩ := two_boxes w (.cells #[.pointer none, .int .i64 0, .int .i64 0, .slice none 0 0, .nilFunc] 62) (.cells #[.pointer none, .pointer (some ⟨w.heap.size, 0, none⟩)] 28)
  have hb2 := below2 w (.cells #[.pointer none, .int .i64 0, .int .i64 0, .slice none 0 0, .nilFunc] 62) (.cells #[.pointer none, .pointer (some ⟨w.heap.size, 0, none⟩)] 28)
  go_enter Tryz.func22, Tryz.ntmps22
  go_wp2_with fail
  generalize (w.alloc (.cells #[.pointer none, .int .i64 0, .int .i64 0, .slice none 0 0, .nilFunc] 62)).alloc (.cells #[.pointer none, .pointer (some ⟨w.heap.size, 0, none⟩)] 28) = W2 at *
  have HP : Hid (∀ k : Nat, k < 2 → ∃ p, NoQ p W2 ∧ ∀ W, Below W2.heap.size W2 W → W.cell? ⟨w.heap.size + 1, k, none⟩ = some (.pointer p)) := hide (fun k hk => by
    have hk2 : k = 0 ∨ k = 1 := by omega
    rcases hk2 with rfl | rfl
    · exact ⟨none, noQ_nil _, fun W hb => (blk_cell ((hb.block _ (at_lt q1)).trans q1) 0).trans rfl⟩
    · exact ⟨some ⟨w.heap.size, 0, none⟩, noQ_zero ((blk_cell q0 0).trans rfl), fun W hb => (blk_cell ((hb.block _ (at_lt q1)).trans q1) 1).trans rfl⟩)
  have HB2 := hide hb2
  clear q0 q1 hb2
  go_loopw [6] (fun q wr => ∃ k : Nat, k ≤ 2 ∧ q = .int .i64 k ∧ Below W2.heap.size W2 wr) (fun q _ => 2 - (intOf q).toNat)
  case atStart => exact ⟨0, by omega, rfl, Below.refl _ _⟩
  case round =>
    obtain ⟨k, hk, rfl, hb⟩ := hrel
    by_cases hlt : k < 2
    · obtain ⟨p, hN, hC⟩ := HP.out k hlt
      have q0 : (0 : Int) ≤ (k : Int) := by omega
      have q1 : (k : Int) < 2 := by omega
      have HN : Hid (NoQ p W2) := hide hN
      have HC := hide hC
      have HB0 := hide hb
      have c0 := hC wr hb
      clear hN hC hb hk
      go_wp2_with (first
        | (go_at_call 11; refine (pop_not _ _ (HN.out.later HB0.out)).mono ?_; rintro e w1 ⟨rfl, hb⟩; have HB1 := hide (below_in HB0.out hb); clear hb; have c1 := HC.out w1 HB1.out)
        | (go_at_call 14; refine (peek_not _ _ (HN.out.later HB1.out)).mono ?_; rintro e w2 ⟨rfl, hb⟩; have HB3 := hide (below_in HB1.out hb); clear hb; have c2 := HC.out w2 HB3.out)
        | (go_at_call 16; refine (push_not _ _ _ _ _ _ (HN.out.later HB3.out)).mono ?_; rintro e w' ⟨rfl, rfl⟩)
        | (go_at_call 20; refine (manyQ_no _ _ (HN.out.later HB3.out)).mono ?_; rintro e w' ⟨rfl, rfl⟩))
      go_roundw
      case rel => exact ⟨k + 1, by omega, by go_num, HB3.out⟩
      case measure => simp [intOf]; omega
    · obtain rfl : k = 2 := by omega
      rw [show ((2 : Nat) : Int) = 2 from rfl]
      have HA := hide (awake_any wr)
      have HB0 := hide hb
      clear hb hk
      go_wp2_with (go_at_call 6; refine HA.out.mono ?_; rintro e w1 ⟨rfl, hb⟩; have HB1 := hide (below_in HB0.out hb); clear hb)
      go_ret
      exact ⟨rfl, below_in HB2.out HB1.out⟩
end Go.Proofs.YtflpifelamkagaaGreat
