/-
  No ring, and one that nobody made, have nothing: RingNil's walk.
-/
import Derived.Test.YtdbflopfcnkjbaaGreatJ6
namespace Go.Proofs.YtdbflopfcnkjbaaGreat
open Go.RowKit
set_option linter.unusedVariables false

theorem below_in {w0 W w' : World} (h : Below w0.heap.size w0 W) (hb : Below W.heap.size W w') : Below w0.heap.size w0 w' := h.trans (hb.mono h.size)
set_option maxRecDepth 100000 in
set_option maxHeartbeats 2000000 in
theorem law_ringNil (S : Option Addr) (m sc : Nat) (w : World) : Calls Tryz.prog 8 #[.slice S m sc] w fun e w' => e = .returned (.bool true) ∧ Below w.heap.size w w' := by
  obtain ⟨q0, q1⟩ := two_boxes w (.cells #[.pointer none, .int .i64 0, .pointer none, .pointer none, .nilFunc] 58) (.cells #[.pointer none, .pointer (some ⟨w.heap.size, 0, none⟩)] 31)
  have hb2 := below2 w (.cells #[.pointer none, .int .i64 0, .pointer none, .pointer none, .nilFunc] 58) (.cells #[.pointer none, .pointer (some ⟨w.heap.size, 0, none⟩)] 31)
  go_enter Tryz.func8, Tryz.ntmps8
  go_wp2_with fail
  generalize (w.alloc (.cells #[.pointer none, .int .i64 0, .pointer none, .pointer none, .nilFunc] 58)).alloc (.cells #[.pointer none, .pointer (some ⟨w.heap.size, 0, none⟩)] 31) = W2 at *
  have HP : Hid (∀ k : Nat, k < 2 → ∃ p, NoG p W2 ∧ ∀ W, Below W2.heap.size W2 W → W.cell? ⟨w.heap.size + 1, k, none⟩ = some (.pointer p)) := hide (fun k hk => by
    have hk2 : k = 0 ∨ k = 1 := by omega
    rcases hk2 with rfl | rfl
    · exact ⟨none, noG_nil _, fun W hb => (blk_cell ((hb.block _ (at_lt q1)).trans q1) 0).trans rfl⟩
    · exact ⟨some ⟨w.heap.size, 0, none⟩, noG_zero ((blk_cell q0 0).trans rfl), fun W hb => (blk_cell ((hb.block _ (at_lt q1)).trans q1) 1).trans rfl⟩)
  have HB2 := hide hb2
  clear q0 q1 hb2
  go_loopw [4] (fun q wr => ∃ k : Nat, k ≤ 2 ∧ q = .int .i64 k ∧ Below W2.heap.size W2 wr) (fun q _ => 2 - (intOf q).toNat)
  case atStart => exact ⟨0, by omega, rfl, Below.refl _ _⟩
  case round =>
    obtain ⟨k, hk, rfl, hb⟩ := hrel
    by_cases hlt : k < 2
    · obtain ⟨p, hN, hC⟩ := HP.out k hlt
      have q0 : (0 : Int) ≤ (k : Int) := by omega
      have q1 : (k : Int) < 2 := by omega
      have HN := hide (hN.later hb)
      have HB0 := hide hb
      have c0 := hC wr hb
      clear hN hC hb hk
      go_wp2_with (first
        | (go_at_call 13; refine (take_not _ _ HN.out).mono ?_; rintro e w' ⟨rfl, rfl⟩)
        | (go_at_call 6; refine (put_not _ _ _ _ _ HN.out).mono ?_; rintro e w' ⟨rfl, rfl⟩)
        | (go_at_call 7; refine (room_not _ _ HN.out).mono ?_; rintro e w' ⟨rfl, rfl⟩))
      go_roundw
      case rel => exact ⟨k + 1, by omega, by go_num, HB0.out⟩
      case measure => simp [intOf]; omega
    · obtain rfl : k = 2 := by omega
      rw [show ((2 : Nat) : Int) = 2 from rfl]
      have HA := hide (awake_any wr)
      have HB0 := hide hb
      clear hb hk
      go_wp2_with (go_at_call 9; refine HA.out.mono ?_; rintro e w1 ⟨rfl, hb⟩; have HB1 := hide (below_in HB0.out hb); clear hb)
      go_ret
      exact ⟨rfl, below_in HB2.out HB1.out⟩
end Go.Proofs.YtdbflopfcnkjbaaGreat
