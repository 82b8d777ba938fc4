/-
  A program that is lent, with marks behind its end, and that it is found as it was.
-/
import Derived.Test.YtjnmfgkjeofneaaL6a
import Derived.Test.YtjnmfgkjeofneaaSl
namespace Go.Proofs.Ytjnmfgkjeofneaa
open Go.RowKit Go.Maps
set_option linter.unusedVariables false


def markN (k i : Nat) : Int := 1000003 * ((k : Int) + 7) + i
theorem mark_any (k i : Nat) (hk : k ≤ 1000) (hi : i ≤ 1000000000) (w : World) : Calls Try.prog 38 #[.int .i64 k, .int .i64 i] w fun e w' => e = .returned (.int .i64 (markN k i)) ∧ w = w' := by
  go_enter Try.func38, Try.ntmps38
  go_wp2
  go_ret
  exact ⟨by simp [markN], rfl⟩
def markV (k i : Nat) : Int := wrap32 (markN k i)
def markI (k i : Nat) : Ins := ⟨0, 0, 0, 0, markV k i⟩
theorem markI_fits (k i : Nat) : (markI k i).Fits := by
  have h : ∀ n : Int, (⟨0, 0, 0, 0, n⟩ : Ins).Fits ↔ -2147483648 ≤ n ∧ n < 2147483648 := fun n => ⟨fun h => h.imm, fun h => ⟨⟨Int.le_refl _, (by decide : (0 : Int) < 256)⟩, ⟨Int.le_refl _, (by decide : (0 : Int) < 256)⟩, ⟨Int.le_refl _, (by decide : (0 : Int) < 256)⟩, ⟨(by decide : (-32768 : Int) ≤ 0), (by decide : (0 : Int) < 32768)⟩, h⟩⟩
  refine (h _).2 ?_
  unfold markV wrap32
  omega
set_option maxRecDepth 100000 in
theorem markInstr_any (k i : Nat) (hk : k ≤ 1000) (hi : i ≤ 1000000000) (w : World) : Calls Try.prog 21 #[.int .i64 k, .int .i64 i] w fun e w' => e = .returned (.agg #[.int .u8 0, .int .u8 0, .int .u8 0, .int .i16 0, .int .i32 (markV k i)]) ∧ w' = w.alloc (.cells #[.int .u8 0, .int .u8 0, .int .u8 0, .int .i16 0, .int .i32 (markV k i)] 42) := by
  go_enter Try.func21, Try.ntmps21
  go_wp2_with (go_at_call 38; refine (mark_any _ _ hk hi _).mono ?_; rintro e w' ⟨rfl, rfl⟩)
  refine bodyPost_ret (v := .agg #[.int .u8 0, .int .u8 0, .int .u8 0, .int .i16 0, .int .i32 (markV k i)]) ?_ rfl ⟨rfl, rfl⟩
  simp [results, Try.results21, go_sem, markV]


theorem made_room (c : Nat) (hc : c ≤ 4194304) : ∃ C : Array Value, C.size = c * 5 ∧ ∀ w : World, (Instr.makeSlice 22 (.int .i64 0) (.int .i64 (c : Int))).run Try.prog w = .ok (.slice (some ⟨w.heap.size, 0, none⟩) 0 c) (w.alloc (.cells C 42)) ∧
    Row (w.alloc (.cells C 42)) w.heap.size c 42 5 0 [] := by
  obtain ⟨i0, hi, hz0, hz1, hz2⟩ := info_parts slotInfo
  refine ⟨madeCells (Value.agg #[.int .u8 0, .int .u8 0, .int .u8 0, .int .i16 0, .int .i32 0]).cells (c * i0.size), by rw [size_madeCells, hz1], fun w => ⟨?_, ?_⟩⟩
  · have := run_make (P := Try.prog) w 22 42 i0 _ Try.underlying22 hi hz0 .i64 .i64 0 (c : Int) (Int.le_refl _) (by omega) (by rw [hz2]; omega) (by omega)
    simpa using this
  · exact World.ownsRow_made w _ c (Nat.zero_le _) (by simp only [maxLen]; omega) (by rw [size_madeCells, hz1])
def marksI (k n : Nat) : List Ins := (List.range n).map (markI k)
theorem marksI_snoc (k n : Nat) : marksI k (n + 1) = marksI k n ++ [markI k n] := by unfold marksI; rw [List.range_succ, List.map_append]; rfl
theorem pcells_app (l m : List Ins) : pcells (l ++ m) = pcells l ++ pcells m := by simp [pcells]
theorem pcells_single (s : Ins) : pcells [s] = s.cells := by simp [pcells]
theorem new_slot (w : World) (s : Ins) {b : Nat} (hb : w.heap.size = b) : Rd (w.alloc (.cells s.cells.toArray 42)) (b + 1) 5 (some ⟨b, 0, none⟩) 1 s.cells := by
  subst hb
  exact cells_rd w s.cells 42 5 1 rfl

set_option maxRecDepth 100000 in
set_option maxHeartbeats 1000000 in
theorem lentProgram_any (A : Option Addr) (n c B : Nat) (l : List Ins) (w : World) (h : Rd w B 5 A n (pcells l)) (hA : A = none → n = 0) (hB : B ≤ w.heap.size) (hn : n ≤ 1000000) :
    Calls Try.prog 9 #[.slice A n c] w fun e w' => e = .returned (.slice (some ⟨w.heap.size, 0, none⟩) n (n + 12)) ∧ Row w' w.heap.size (n + 12) 42 5 (n + 12) (pcells (l ++ marksI 1 12)) ∧ Below w.heap.size w w' := by
  obtain ⟨C, hCs, hmk⟩ := made_room (n + 12) (by omega)
  have hmk1 : ∀ w : World, (Instr.makeSlice 22 (.int .i64 0) (.int .i64 ((n : Int) + 12))).run Try.prog w = .ok (.slice (some ⟨w.heap.size, 0, none⟩) 0 (n + 12)) (w.alloc (.cells C 42)) := fun w => by
    have := (hmk w).1
    rwa [show ((n + 12 : Nat) : Int) = (n : Int) + 12 by omega] at this
  have HM := hide (hmk w).2
  have HA := hide hA
  clear hmk hA
  obtain ⟨i0, hi, hz0, hz1, hz2⟩ := info_parts slotInfo
  have hr0 : Rd (w.alloc (.cells C 42)) B 5 A n (pcells l) := h.below ((Below.refl _ w).alloc hB _)
  go_enter Try.func9, Try.ntmps9
  go_wp2_with (at_builtin; refine stop_here ?_)
  show Hid _
  refine start_here ?_
  refine wpList_append_rd_fits _ ?c0 (.tmp 9) (.tmp 10) _ rfl 42 i0 5 Try.underlying22 hi hz1 w.heap.size 0 (n + 12) [] rfl HM.out B A n c (pcells l) rfl hr0 HA.out (slots_one l) (by omega) ?_
  case c0 => rfl
  intro w1 hr1 hg1
  have HB1 := hide (((Below.refl w.heap.size w).alloc (Nat.le_refl _) (.cells C 42)).grown hg1 (by simp) (fun k e => by cases e; exact Nat.le_refl _))
  have HR1 : Hid (Row w1 w.heap.size (n + 12) 42 5 (n + 0) (pcells (l ++ marksI 1 0))) := by
    have e : l ++ marksI 1 0 = l := by simp [marksI]
    rw [e]
    rw [Nat.zero_add] at hr1
    exact hr1
  clear hr1 hg1 HM hmk1 hr0
  go_wp2_with fail
  go_loopw [3, 4] (fun v p wr => ∃ k : Nat, k ≤ 12 ∧ p = .int .i64 k ∧ v = .slice (some ⟨w.heap.size, 0, none⟩) (n + k) (n + 12) ∧ Row wr w.heap.size (n + 12) 42 5 (n + k) (pcells (l ++ marksI 1 k)) ∧ Below w.heap.size w wr) (fun _ p _ => 12 - (intOf p).toNat)
  case atStart => exact ⟨0, by omega, rfl, by simp, HR1.out, HB1.out⟩
  case round =>
    obtain ⟨k, hk, rfl, rfl, hr, hb⟩ := hrel
    have HR := hide hr
    have HB := hide hb
    clear hr hb HR1 HB1
    by_cases hlt : k < 12
    · go_wp2_with (first
        | (go_at_call 21; refine (markInstr_any 1 k (by omega) (by omega) _).mono ?_; rintro e w2 ⟨rfl, rfl⟩)
        | (at_builtin; refine stop_here ?_))
      show Hid _
      refine start_here ?_
      refine wpList_append_rd_fits _ ?c0 (.tmp 16) (.tmp 19) _ rfl 42 i0 5 Try.underlying22 hi hz1 w.heap.size (n + k) (n + 12) _ rfl (World.ownsRow.alloc (World.ownsRow.alloc HR.out _) _) _ (some ⟨wr.heap.size + 1, 0, none⟩) 1 1 (markI 1 k).cells rfl (new_slot _ (markI 1 k) (by simp)) (fun h => nomatch h) ?c1 (by omega) ?_
      case c0 => rfl
      case c1 => exact pcells_single (markI 1 k) ▸ slots_one [markI 1 k]
      intro w2 hr2 hg2
      have HR2 : Hid (Row w2 w.heap.size (n + 12) 42 5 (n + (k + 1)) (pcells (l ++ marksI 1 (k + 1)))) := by
        rw [marksI_snoc, ← List.append_assoc, pcells_app (l ++ marksI 1 k), pcells_single]
        exact hr2
      have HB2 := hide (((HB.out.alloc HB.out.size (.cells #[.int .u8 0, .int .u8 0, .int .u8 0, .int .i16 0, .int .i32 (markV 1 k)] 42)).alloc (by simp; have := HB.out.size; omega) (.cells #[.int .u8 0, .int .u8 0, .int .u8 0, .int .i16 0, .int .i32 (markV 1 k)] 42)).grown hg2 (by simp; have := HB.out.size; omega) (fun j e => by cases e; exact Nat.le_refl _))
      clear hr2 hg2 HR HB
      go_wp2
      go_roundw
      case rel => exact ⟨k + 1, by omega, by go_num, by simp [Nat.add_assoc], HR2.out, HB2.out⟩
      case measure => simp [intOf]; omega
    · have hk12 : k = 12 := by omega
      subst hk12
      go_wp2
      go_ret
      exact ⟨rfl, HR.out, HB.out⟩


theorem add_own (g i : Nat) : (⟨g, 0, none⟩ : Addr).add i = ⟨g, i, none⟩ := by unfold Addr.add; split <;> simp_all
theorem Rd.slot_own {w : World} {B n k g : Nat} {l : List Ins} (h : Rd w B 5 (some ⟨g, 0, none⟩) n (pcells l)) (hk : k < n) : ∃ s, l[k]? = some s ∧
    w.cell? ⟨g, k * 5, none⟩ = some (.int .u8 s.op) ∧ w.cell? ⟨g, k * 5 + 1, none⟩ = some (.int .u8 s.dst) ∧ w.cell? ⟨g, k * 5 + 2, none⟩ = some (.int .u8 s.src) ∧ w.cell? ⟨g, k * 5 + 3, none⟩ = some (.int .i16 s.off) ∧ w.cell? ⟨g, k * 5 + 4, none⟩ = some (.int .i32 s.imm) := by
  obtain ⟨ad, s, e, hl, c0, c1, c2, c3, c4⟩ := h.slot hk
  cases e
  rw [add_own] at c0 c1 c2 c3 c4
  exact ⟨s, hl, c0, c1, c2, c3, c4⟩
set_option maxRecDepth 100000 in
set_option maxHeartbeats 2000000 in
theorem keptProgram_any (g : Nat) (A : Option Addr) (n c B : Nat) (l : List Ins) (w : World) (h : Rd w B 5 A n (pcells l)) (hB : B ≤ w.heap.size) (hr : Row w g (n + 12) 42 5 (n + 12) (pcells (l ++ marksI 1 12))) (hn : n ≤ 1000000) :
    Calls Try.prog 19 #[.slice (some ⟨g, 0, none⟩) n (n + 12), .slice A n c] w fun e w' => e = .returned (.bool true) ∧ Below w.heap.size w w' := by
  have hrd := (Rd.of_owns hr).mono (row_lt hr)
  have hll : l.length = n := h.prg.1
  have HR := hide hrd
  have HH := hide h
  clear hr hrd h
  go_enter Try.func19, Try.ntmps19
  go_wp2
  go_loopw [6] (fun p wr => ∃ k : Nat, k ≤ n + 12 ∧ p = .int .i64 k ∧ Below w.heap.size w wr) (fun p _ => n + 12 - (intOf p).toNat)
  case atStart => exact ⟨0, Nat.zero_le _, rfl, Below.refl _ _⟩
  case round =>
    obtain ⟨k, hk, rfl, hb⟩ := hrel
    have HB := hide hb
    clear hb
    by_cases hlt : k < n
    · obtain ⟨ad, ⟨op, dst, src, off, imm⟩, rfl, hl, c0, c1, c2, c3, c4⟩ := (HH.out.below (HB.out.mono hB)).slot hlt
      obtain ⟨s', hl', d0, d1, d2, d3, d4⟩ := (HR.out.below HB.out).slot_own (show k < n + 12 by omega)
      rw [List.getElem?_append_left (by omega), hl] at hl'
      cases hl'
      have HL := hide hl
      have hk2 : k < n + 12 := by omega
      have hd : decide ((k : Int) < (n : Int)) = true := by simp; omega
      have hd2 : decide (n ≤ k) = false := by simp; omega
      clear hl
      simp only at c0 c1 c2 c3 c4 d0 d1 d2 d3 d4
      replace c0 := Later.cell c0
      replace c1 := Later.cell c1
      replace c2 := Later.cell c2
      replace c3 := Later.cell c3
      replace c4 := Later.cell c4
      replace d0 := Later.cell d0
      replace d1 := Later.cell d1
      replace d2 := Later.cell d2
      replace d3 := Later.cell d3
      replace d4 := Later.cell d4
      go_wp2
      refine wp_region_later (by kernel_rfl) (by kernel_rfl) ?_
      repeat (go_big_quiet_step (fail))
      refine wpQuiet_nil ?_
      rintro _ ⟨x, rfl⟩
      have HX := hide (HB.out.trans (x.below.mono HB.out.size))
      go_wp2
      go_roundw
      case rel => exact ⟨k + 1, by omega, by go_num, HX.out⟩
      case measure => simp [intOf]; omega
    · by_cases hle : k < n + 12
      · obtain ⟨s', hl', d0, d1, d2, d3, d4⟩ := (HR.out.below HB.out).slot_own hle
        have hs' : s' = markI 1 (k - n) := by
          rw [List.getElem?_append_right (by omega)] at hl'
          unfold marksI at hl'
          rw [List.getElem?_map, List.getElem?_range (by omega), hll] at hl'
          simpa using hl'.symm
        obtain ⟨op, dst, src, off, imm⟩ := s'
        have hM : ∀ w, Calls Try.prog 21 #[.int .i64 1, .int .i64 ((k - n : Nat) : Int)] w fun e w' => e = .returned (.agg #[.int .u8 op, .int .u8 dst, .int .u8 src, .int .i16 off, .int .i32 imm]) ∧ Below w.heap.size w w' := by
          intro w
          have h := markInstr_any 1 (k - n) (by omega) (by omega) w
          unfold markI at hs'
          injection hs' with e1 e2 e3 e4 e5
          rw [e1, e2, e3, e4, e5]
          exact h.mono fun e w' h => ⟨h.1, by rw [h.2]; exact (Below.refl _ w).alloc (Nat.le_refl _) _⟩
        have hd : decide ((k : Int) < (n : Int)) = false := by simp; omega
        have hd2 : decide (n ≤ k) = true := by simp; omega
        have HS : Hid ((k : Int) - (n : Int) = ((k - n : Nat) : Int)) := by show (k : Int) - (n : Int) = ((k - n : Nat) : Int); omega
        have HM := hide hM
        clear hM hs'
        simp only at d0 d1 d2 d3 d4
        replace d0 := Later.cell d0
        replace d1 := Later.cell d1
        replace d2 := Later.cell d2
        replace d3 := Later.cell d3
        replace d4 := Later.cell d4
        clear hl'
        go_wp2
        refine wp_region_later (by kernel_rfl) (by kernel_rfl) ?_
        repeat (go_big_quiet_step ((rw [HS.out]; exact Later.calls _ HM.out)))
        refine wpQuiet_nil ?_
        rintro _ ⟨x, rfl⟩
        have HX := hide (HB.out.trans (x.below.mono HB.out.size))
        go_wp2
        go_roundw
        case rel => exact ⟨k + 1, by omega, by go_num, HX.out⟩
        case measure => simp [intOf]; omega
      · have hk12 : k = n + 12 := by omega
        subst hk12
        go_wp2
        go_ret
        exact ⟨rfl, HB.out⟩
end Go.Proofs.Ytjnmfgkjeofneaa
