/-
  A program that is lent: a copy with marks behind its end.
-/
import Derived.Test.YtjndmpockfmenaaGreatM1
namespace Go.Proofs.YtjndmpockfmenaaGreat
open Go.RowKit
set_option linter.unusedVariables false

def marksI (k n : Nat) : List Ins := (List.range n).map (markI k)
theorem marksI_snoc (k n : Nat) : marksI k (n + 1) = marksI k n ++ [markI k n] := by unfold marksI; rw [List.range_succ, List.map_append]; rfl
theorem pcells_app (l m : List Ins) : pcells (l ++ m) = pcells l ++ pcells m := by simp [pcells]
theorem pcells_single (s : Ins) : pcells [s] = s.cells := by simp [pcells]
theorem new_slot (w : World) (s : Ins) {b : Nat} (hb : w.heap.size = b) : Rd (w.alloc (.cells s.cells.toArray 27)) (b + 1) 5 (some ⟨b, 0, none⟩) 1 s.cells := by
  subst hb
  exact cells_rd w s.cells 27 5 1 rfl

set_option maxRecDepth 100000 in
set_option maxHeartbeats 1000000 in
theorem lentProgram_any (A : Option Addr) (n c B : Nat) (l : List Ins) (w : World) (h : Rd w B 5 A n (pcells l)) (hA : A = none → n = 0) (hB : B ≤ w.heap.size) (hn : n ≤ 1000000) :
    Calls Tryz.prog 12 #[.slice A n c] w fun e w' => e = .returned (.slice (some ⟨w.heap.size, 0, none⟩) n (n + 12)) ∧ Row w' w.heap.size (n + 12) 27 5 (n + 12) (pcells (l ++ marksI 1 12)) ∧ Below w.heap.size w w' := by
  obtain ⟨C, hCs, hmk⟩ := made_slots (n + 12) (by omega)
  have hmk1 : ∀ w : World, (Instr.makeSlice 28 (.int .i64 0) (.int .i64 ((n : Int) + 12))).run Tryz.prog w = .ok (.slice (some ⟨w.heap.size, 0, none⟩) 0 (n + 12)) (w.alloc (.cells C 27)) := fun w => by
    have := (hmk w).1
    rwa [show ((n + 12 : Nat) : Int) = (n : Int) + 12 by omega] at this
  have HM := hide (hmk w).2
  have HA := hide hA
  clear hmk hA
  obtain ⟨i0, hi, hz0, hz1, hz2⟩ := info_parts slotInfo
  have hr0 : Rd (w.alloc (.cells C 27)) B 5 A n (pcells l) := h.below ((Below.refl _ w).alloc hB _)
  go_enter Tryz.func12, Tryz.ntmps12
  go_wp2_with (at_builtin; refine stop_here ?_)
  show Hid _
  refine start_here ?_
  refine wpList_append_rd_fits _ ?c0 (.tmp 9) (.tmp 10) _ rfl 27 i0 5 Tryz.underlying28 hi hz1 w.heap.size 0 (n + 12) [] rfl HM.out B A n c (pcells l) rfl hr0 HA.out (pcells_one l) (by omega) ?_
  case c0 => rfl
  intro w1 hr1 hg1
  have HB1 := hide (((Below.refl w.heap.size w).alloc (Nat.le_refl _) (.cells C 27)).grown hg1 (by simp) (fun k e => by cases e; exact Nat.le_refl _))
  have HR1 : Hid (Row w1 w.heap.size (n + 12) 27 5 (n + 0) (pcells (l ++ marksI 1 0))) := by
    have e : l ++ marksI 1 0 = l := by simp [marksI]
    rw [e]
    rw [Nat.zero_add] at hr1
    exact hr1
  clear hr1 hg1 HM hmk1 hr0
  go_wp2_with fail
  go_loopw [3, 4] (fun v p wr => ∃ k : Nat, k ≤ 12 ∧ p = .int .i64 k ∧ v = .slice (some ⟨w.heap.size, 0, none⟩) (n + k) (n + 12) ∧ Row wr w.heap.size (n + 12) 27 5 (n + k) (pcells (l ++ marksI 1 k)) ∧ Below w.heap.size w wr) (fun _ p _ => 12 - (intOf p).toNat)
  case atStart => exact ⟨0, by omega, rfl, by simp, HR1.out, HB1.out⟩
  case round =>
    obtain ⟨k, hk, rfl, rfl, hr, hb⟩ := hrel
    have HR := hide hr
    have HB := hide hb
    clear hr hb HR1 HB1
    by_cases hlt : k < 12
    · go_wp2_with (first
        | (go_at_call 27; refine (markInstr_any 1 k (by omega) (by omega) _).mono ?_; rintro e w2 ⟨rfl, rfl⟩)
        | (at_builtin; refine stop_here ?_))
      show Hid _
      refine start_here ?_
      refine wpList_append_rd_fits _ ?c0 (.tmp 16) (.tmp 19) _ rfl 27 i0 5 Tryz.underlying28 hi hz1 w.heap.size (n + k) (n + 12) _ rfl (World.ownsRow.alloc (World.ownsRow.alloc HR.out _) _) _ (some ⟨wr.heap.size + 1, 0, none⟩) 1 1 (markI 1 k).cells rfl (new_slot _ (markI 1 k) (by simp)) (fun h => nomatch h) ?c1 (by omega) ?_
      case c0 => rfl
      case c1 => exact pcells_single (markI 1 k) ▸ pcells_one [markI 1 k]
      intro w2 hr2 hg2
      have HR2 : Hid (Row w2 w.heap.size (n + 12) 27 5 (n + (k + 1)) (pcells (l ++ marksI 1 (k + 1)))) := by
        rw [marksI_snoc, ← List.append_assoc, pcells_app (l ++ marksI 1 k), pcells_single]
        exact hr2
      have HB2 := hide (((HB.out.alloc HB.out.size (.cells #[.int .u8 0, .int .u8 0, .int .u8 0, .int .i16 0, .int .i32 (markV 1 k)] 27)).alloc (by simp; have := HB.out.size; omega) (.cells #[.int .u8 0, .int .u8 0, .int .u8 0, .int .i16 0, .int .i32 (markV 1 k)] 27)).grown hg2 (by simp; have := HB.out.size; omega) (fun j e => by cases e; exact Nat.le_refl _))
      clear hr2 hg2 HR HB
      go_wp2
      go_roundw
      case rel => exact ⟨k + 1, by omega, by go_num, by simp [Nat.add_assoc], HR2.out, HB2.out⟩
      case measure => simp [intOf]; omega
    · have hk12 : k = 12 := by omega
      subst hk12
      go_wp2
      go_ret
      exact ⟨rfl, HR.out, HB.out⟩
end Go.Proofs.YtjndmpockfmenaaGreat
