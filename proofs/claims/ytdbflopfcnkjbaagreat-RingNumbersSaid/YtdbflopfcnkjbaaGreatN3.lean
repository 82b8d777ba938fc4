/-
  Bytes that are lent: a copy with marks behind its end.
-/
import Derived.Test.YtdbflopfcnkjbaaGreatF1
namespace Go.Proofs.YtdbflopfcnkjbaaGreat
open Go.RowKit
set_option linter.unusedVariables false

set_option maxRecDepth 100000 in
set_option maxHeartbeats 1000000 in
theorem lentBytes_any (A : Option Addr) (n c B : Nat) (l : List Int) (w : World) (h : Rd w B 1 A n (u8s l)) (hA : A = none → n = 0) (hB : B ≤ w.heap.size) (hn : n ≤ 1000000) :
    Calls Tryz.prog 12 #[.slice A n c] w fun e w' => e = .returned (.slice (some ⟨w.heap.size, 0, none⟩) n (n + 12)) ∧ Row w' w.heap.size (n + 12) 5 1 (n + 12) (u8s l ++ marks (mkB 1) 12) ∧ Below w.heap.size w w' := by
  obtain ⟨C, hCs, hmk⟩ := made_row (n + 12) (by omega)
  have hmk1 : ∀ w : World, (Instr.makeSlice 27 (.int .i64 0) (.int .i64 ((n : Int) + 12))).run Tryz.prog w = .ok (.slice (some ⟨w.heap.size, 0, none⟩) 0 (n + 12)) (w.alloc (.cells C 5)) := fun w => by
    have := (hmk w).1
    rwa [show ((n + 12 : Nat) : Int) = (n : Int) + 12 by omega] at this
  have HM := hide (hmk w).2
  have HA := hide hA
  clear hmk hA
  obtain ⟨i0, hi, hz0, hz1, hz2⟩ := info_parts u8info
  have hr0 : Rd (w.alloc (.cells C 5)) B 1 A n (u8s l) := h.below ((Below.refl _ w).alloc hB _)
  go_enter Tryz.func12, Tryz.ntmps12
  go_wp2_with (at_builtin; refine stop_here ?_)
  show Hid _
  refine start_here ?_
  refine wpList_append_rd_fits _ ?c0 (.tmp 9) (.tmp 10) _ rfl 5 i0 1 Tryz.underlying27 hi hz1 w.heap.size 0 (n + 12) [] rfl HM.out B A n c (u8s l) rfl hr0 HA.out (u8s_one l) (by omega) ?_
  case c0 => rfl
  intro w1 hr1 hg1
  have HB1 := hide (((Below.refl w.heap.size w).alloc (Nat.le_refl _) (.cells C 5)).grown hg1 (by simp) (fun k e => by cases e; exact Nat.le_refl _))
  have HR1 : Hid (Row w1 w.heap.size (n + 12) 5 1 (n + 0) (u8s l ++ marks (mkB 1) 0)) := by
    have e : u8s l ++ marks (mkB 1) 0 = u8s l := by simp [marks]
    rw [e]
    rw [Nat.zero_add] at hr1
    exact hr1
  clear hr1 hg1 HM hmk1 hr0
  go_wp2_with fail
  go_loopw [3, 4] (fun v p wr => ∃ k : Nat, k ≤ 12 ∧ p = .int .i64 k ∧ v = .slice (some ⟨w.heap.size, 0, none⟩) (n + k) (n + 12) ∧ Row wr w.heap.size (n + 12) 5 1 (n + k) (u8s l ++ marks (mkB 1) k) ∧ Below w.heap.size w wr) (fun _ p _ => 12 - (intOf p).toNat)
  case atStart => exact ⟨0, by omega, rfl, by simp, HR1.out, HB1.out⟩
  case round =>
    obtain ⟨k, hk, rfl, rfl, hr, hb⟩ := hrel
    have HR := hide hr
    have HB := hide hb
    clear hr hb HR1 HB1
    by_cases hlt : k < 12
    · go_wp2_with (first
        | (go_at_call 28; refine (markByte_any 1 k (by omega) (by omega) _).mono ?_; rintro e w2 ⟨rfl, rfl⟩)
        | (at_builtin; refine stop_here ?_))
      show Hid _
      refine start_here ?_
      refine wpList_append_rd_fits _ ?c0 (.tmp 16) (.tmp 19) _ rfl 5 i0 1 Tryz.underlying27 hi hz1 w.heap.size (n + k) (n + 12) _ rfl (World.ownsRow.alloc HR.out _) _ (some ⟨wr.heap.size, 0, none⟩) 1 1 (mkB 1 k) rfl (cells_rd wr (mkB 1 k) 5 1 1 rfl) (fun h => nomatch h) (one_mark 1 k) (by omega) ?_
      case c0 => rfl
      intro w2 hr2 hg2
      have HR2 : Hid (Row w2 w.heap.size (n + 12) 5 1 (n + (k + 1)) (u8s l ++ marks (mkB 1) (k + 1))) := by
        rw [marks_snoc, ← List.append_assoc]
        exact hr2
      have HB2 := hide ((HB.out.alloc HB.out.size (.cells #[.int .u8 (markB 1 k)] 5)).grown hg2 (by simp; have := HB.out.size; omega) (fun j e => by cases e; exact Nat.le_refl _))
      clear hr2 hg2 HR HB
      go_wp2
      go_roundw
      case rel => exact ⟨k + 1, by omega, by go_num, by simp [Nat.add_assoc], HR2.out, HB2.out⟩
      case measure => simp [intOf]; omega
    · have hk12 : k = 12 := by omega
      subst hk12
      go_wp2
      go_ret
      exact ⟨rfl, HR.out, HB.out⟩
end Go.Proofs.YtdbflopfcnkjbaaGreat
