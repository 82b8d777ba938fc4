/-
  Bytes that were lent, and their marks, are found as they were.
-/
import Derived.Test.YtdbflopfcnkjbaaGreatN3
namespace Go.Proofs.YtdbflopfcnkjbaaGreat
open Go.RowKit
set_option linter.unusedVariables false

theorem byte_at_rd {w : World} {B n k : Nat} {A : Option Addr} {l : List Int} (h : Rd w B 1 A n (u8s l)) (hk : k < n) : ∃ ad b, A = some ad ∧ l[k]? = some b ∧ w.cell? (ad.add k) = some (.int .u8 b) := by
  obtain ⟨ad, e, _, hc⟩ := h.2 (by omega)
  have hl : l.length = n := by have := h.1; simpa [u8s] using this
  obtain ⟨b, hb⟩ : ∃ b, l[k]? = some b := ⟨_, List.getElem?_eq_getElem (by omega)⟩
  exact ⟨ad, b, e, hb, hc k _ (by simp [u8s, hb])⟩
set_option maxRecDepth 100000 in
set_option maxHeartbeats 2000000 in
theorem keptBytes_any (g : Nat) (A : Option Addr) (n c B : Nat) (l : List Int) (w : World) (h : Rd w B 1 A n (u8s l)) (hB : B ≤ w.heap.size) (hr : Row w g (n + 12) 5 1 (n + 12) (u8s l ++ marks (mkB 1) 12)) (hn : n ≤ 1000000) :
    Calls Tryz.prog 17 #[.slice (some ⟨g, 0, none⟩) n (n + 12), .slice A n c] w fun e w' => e = .returned (.bool true) ∧ Below w.heap.size w w' := by
  have hll : (u8s l).length = n := by have := h.1; omega
  have hgl : g < w.heap.size := (World.ownsRow.lt hr g rfl).2
  have HR := hide hr
  have HH := hide h
  clear hr h
  go_enter Tryz.func17, Tryz.ntmps17
  go_wp2
  go_loopw [6] (fun p wr => ∃ k : Nat, k ≤ n + 12 ∧ p = .int .i64 k ∧ Below w.heap.size w wr) (fun p _ => n + 12 - (intOf p).toNat)
  case atStart => exact ⟨0, Nat.zero_le _, rfl, Below.refl _ _⟩
  case round =>
    obtain ⟨k, hk, rfl, hb⟩ := hrel
    have HB := hide hb
    clear hb
    by_cases hlt : k < n
    · obtain ⟨ad, b, rfl, hl, c0⟩ := byte_at_rd (HH.out.below (HB.out.mono hB)) hlt
      obtain ⟨u, hu, d0⟩ := owns_at (row_below HR.out HB.out) (show k < (n + 12) * 1 by omega)
      have hu2 : u = .int .u8 b := by
        rw [List.getElem?_append_left (by omega)] at hu
        simp only [u8s, List.getElem?_map, hl, Option.map_some, Option.some.injEq] at hu
        exact hu.symm
      subst hu2
      have hk2 : k < n + 12 := by omega
      have hd : decide ((k : Int) < (n : Int)) = true := by simp; omega
      have hd2 : decide (n ≤ k) = false := by simp; omega
      clear hl hu
      replace c0 := Later.cell c0
      replace d0 := Later.cell d0
      go_wp2
      refine wp_region_later (by kernel_rfl) (by kernel_rfl) ?_
      repeat (go_big_quiet_step (fail))
      refine wpQuiet_nil ?_
      rintro _ ⟨x, rfl⟩
      have HX := hide (HB.out.trans (x.below.mono HB.out.size))
      go_wp2
      go_roundw
      case rel => exact ⟨k + 1, by omega, by go_num, HX.out⟩
      case measure => simp [intOf]; omega
    · by_cases hle : k < n + 12
      · obtain ⟨u, hu, d0⟩ := owns_at (row_below HR.out HB.out) (show k < (n + 12) * 1 by omega)
        have hu2 : u = .int .u8 (markB 1 (k - n)) := by
          rw [List.getElem?_append_right (by omega), hll, marks_byte (by omega)] at hu
          injection hu with hu
          exact hu.symm
        subst hu2
        have hd : decide ((k : Int) < (n : Int)) = false := by simp; omega
        have hd2 : decide (n ≤ k) = true := by simp; omega
        have HS : Hid ((k : Int) - (n : Int) = ((k - n : Nat) : Int)) := by show (k : Int) - (n : Int) = ((k - n : Nat) : Int); omega
        have HM := hide (fun w => later_mark 1 (k - n) (by omega) (by omega) w)
        replace d0 := Later.cell d0
        clear hu
        go_wp2
        refine wp_region_later (by kernel_rfl) (by kernel_rfl) ?_
        repeat (go_big_quiet_step ((rw [HS.out]; exact Later.calls _ HM.out)))
        refine wpQuiet_nil ?_
        rintro _ ⟨x, rfl⟩
        have HX := hide (HB.out.trans (x.below.mono HB.out.size))
        go_wp2
        go_roundw
        case rel => exact ⟨k + 1, by omega, by go_num, HX.out⟩
        case measure => simp [intOf]; omega
      · have hk12 : k = n + 12 := by omega
        subst hk12
        go_wp2
        go_ret
        exact ⟨rfl, HB.out⟩
end Go.Proofs.YtdbflopfcnkjbaaGreat
