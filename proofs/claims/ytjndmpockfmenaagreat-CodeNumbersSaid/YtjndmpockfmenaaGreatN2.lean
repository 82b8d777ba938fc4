/-
  A program that was lent, and its marks, are found as they were.
-/
import Derived.Test.YtjndmpockfmenaaGreatN1
import Derived.Test.YtjndmpockfmenaaGreatQL
namespace Go.Proofs.YtjndmpockfmenaaGreat
open Go.RowKit
set_option linter.unusedVariables false

theorem add_own (g i : Nat) : (⟨g, 0, none⟩ : Addr).add i = ⟨g, i, none⟩ := by unfold Addr.add; split <;> simp_all
theorem Rd.slot_own {w : World} {B n k g : Nat} {l : List Ins} (h : Rd w B 5 (some ⟨g, 0, none⟩) n (pcells l)) (hk : k < n) : ∃ s, l[k]? = some s ∧
    w.cell? ⟨g, k * 5, none⟩ = some (.int .u8 s.op) ∧ w.cell? ⟨g, k * 5 + 1, none⟩ = some (.int .u8 s.dst) ∧ w.cell? ⟨g, k * 5 + 2, none⟩ = some (.int .u8 s.src) ∧ w.cell? ⟨g, k * 5 + 3, none⟩ = some (.int .i16 s.off) ∧ w.cell? ⟨g, k * 5 + 4, none⟩ = some (.int .i32 s.imm) := by
  obtain ⟨ad, s, e, hl, c0, c1, c2, c3, c4⟩ := h.slot hk
  cases e
  rw [add_own] at c0 c1 c2 c3 c4
  exact ⟨s, hl, c0, c1, c2, c3, c4⟩
set_option maxRecDepth 100000 in
set_option maxHeartbeats 2000000 in
theorem keptProgram_any (g : Nat) (A : Option Addr) (n c B : Nat) (l : List Ins) (w : World) (h : Rd w B 5 A n (pcells l)) (hB : B ≤ w.heap.size) (hr : Row w g (n + 12) 27 5 (n + 12) (pcells (l ++ marksI 1 12))) (hn : n ≤ 1000000) :
    Calls Tryz.prog 14 #[.slice (some ⟨g, 0, none⟩) n (n + 12), .slice A n c] w fun e w' => e = .returned (.bool true) ∧ Below w.heap.size w w' := by
  have hrd := (Rd.of_owns hr).mono (row_lt hr)
  have hll : l.length = n := h.prg.1
  have HR := hide hrd
  have HH := hide h
  clear hr hrd h
  go_enter Tryz.func14, Tryz.ntmps14
  go_wp2
  go_loopw [6] (fun p wr => ∃ k : Nat, k ≤ n + 12 ∧ p = .int .i64 k ∧ Below w.heap.size w wr) (fun p _ => n + 12 - (intOf p).toNat)
  case atStart => exact ⟨0, Nat.zero_le _, rfl, Below.refl _ _⟩
  case round =>
    obtain ⟨k, hk, rfl, hb⟩ := hrel
    have HB := hide hb
    clear hb
    by_cases hlt : k < n
    · obtain ⟨ad, ⟨op, dst, src, off, imm⟩, rfl, hl, c0, c1, c2, c3, c4⟩ := (HH.out.below (HB.out.mono hB)).slot hlt
      obtain ⟨s', hl', d0, d1, d2, d3, d4⟩ := (HR.out.below HB.out).slot_own (show k < n + 12 by omega)
      rw [List.getElem?_append_left (by omega), hl] at hl'
      cases hl'
      have HL := hide hl
      have hk2 : k < n + 12 := by omega
      have hd : decide ((k : Int) < (n : Int)) = true := by simp; omega
      have hd2 : decide (n ≤ k) = false := by simp; omega
      clear hl
      simp only at c0 c1 c2 c3 c4 d0 d1 d2 d3 d4
      replace c0 := Later.cell c0
      replace c1 := Later.cell c1
      replace c2 := Later.cell c2
      replace c3 := Later.cell c3
      replace c4 := Later.cell c4
      replace d0 := Later.cell d0
      replace d1 := Later.cell d1
      replace d2 := Later.cell d2
      replace d3 := Later.cell d3
      replace d4 := Later.cell d4
      go_wp2
      refine wp_region_later (by kernel_rfl) (by kernel_rfl) ?_
      repeat (go_big_quiet_step (fail))
      refine wpQuiet_nil ?_
      rintro _ ⟨x, rfl⟩
      have HX := hide (HB.out.trans (x.below.mono HB.out.size))
      go_wp2
      go_roundw
      case rel => exact ⟨k + 1, by omega, by go_num, HX.out⟩
      case measure => simp [intOf]; omega
    · by_cases hle : k < n + 12
      · obtain ⟨s', hl', d0, d1, d2, d3, d4⟩ := (HR.out.below HB.out).slot_own hle
        have hs' : s' = markI 1 (k - n) := by
          rw [List.getElem?_append_right (by omega)] at hl'
          unfold marksI at hl'
          rw [List.getElem?_map, List.getElem?_range (by omega), hll] at hl'
          simpa using hl'.symm
        obtain ⟨op, dst, src, off, imm⟩ := s'
        have hM : ∀ w, Calls Tryz.prog 27 #[.int .i64 1, .int .i64 ((k - n : Nat) : Int)] w fun e w' => e = .returned (.agg #[.int .u8 op, .int .u8 dst, .int .u8 src, .int .i16 off, .int .i32 imm]) ∧ Below w.heap.size w w' := by
          intro w
          have h := markInstr_any 1 (k - n) (by omega) (by omega) w
          unfold markI at hs'
          injection hs' with e1 e2 e3 e4 e5
          rw [e1, e2, e3, e4, e5]
          exact h.mono fun e w' h => ⟨h.1, by rw [h.2]; exact (Below.refl _ w).alloc (Nat.le_refl _) _⟩
        have hd : decide ((k : Int) < (n : Int)) = false := by simp; omega
        have hd2 : decide (n ≤ k) = true := by simp; omega
        have HS : Hid ((k : Int) - (n : Int) = ((k - n : Nat) : Int)) := by show (k : Int) - (n : Int) = ((k - n : Nat) : Int); omega
        have HM := hide hM
        clear hM hs'
        simp only at d0 d1 d2 d3 d4
        replace d0 := Later.cell d0
        replace d1 := Later.cell d1
        replace d2 := Later.cell d2
        replace d3 := Later.cell d3
        replace d4 := Later.cell d4
        clear hl'
        go_wp2
        refine wp_region_later (by kernel_rfl) (by kernel_rfl) ?_
        repeat (go_big_quiet_step ((rw [HS.out]; exact Later.calls _ HM.out)))
        refine wpQuiet_nil ?_
        rintro _ ⟨x, rfl⟩
        have HX := hide (HB.out.trans (x.below.mono HB.out.size))
        go_wp2
        go_roundw
        case rel => exact ⟨k + 1, by omega, by go_num, HX.out⟩
        case measure => simp [intOf]; omega
      · have hk12 : k = n + 12 := by omega
        subst hk12
        go_wp2
        go_ret
        exact ⟨rfl, HB.out⟩
end Go.Proofs.YtjndmpockfmenaaGreat
