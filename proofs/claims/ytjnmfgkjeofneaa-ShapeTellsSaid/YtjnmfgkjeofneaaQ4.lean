/-
  The document's error of one instruction is the program's.
-/
import Derived.Test.YtjnmfgkjeofneaaQ4w
namespace Go.Proofs.Ytjnmfgkjeofneaa
open Go.RowKit Go.Maps
set_option linter.unusedVariables false

set_option maxRecDepth 100000 in
set_option maxHeartbeats 4000000 in
theorem one_ref (A : Option Addr) (n cc B k g : Nat) (l : List Ins) (s : Ins) (w : World) (h : Rd w B 5 A n (pcells l)) (hB : B ≤ w.heap.size) (hn : n ≤ 4096) (hs : l[k]? = some s) (hf : s.Fits)
    (hfs : ∀ j, j < n → w.cell? ⟨g, j, none⟩ = some (.bool (firstAt l j))) :
    Calls Try.prog 28 #[.slice A n cc, .slice (some ⟨g, 0, none⟩) n n, .int .i64 k] w fun e w' => e = .returned (.int .i64 (errM l (k, s))) ∧ Below w.heap.size w w' := by
  have hll : l.length = n := h.prg.1
  have hkn : k < n := by rw [← hll]; exact (List.getElem?_eq_some_iff.1 hs).1
  rw [one_is hs hf]
  obtain ⟨ad, s', rfl, hs', c0, c1, c2, c3, c4⟩ := h.slot hkn
  rw [hs] at hs'
  cases hs'
  obtain ⟨op, dst, src, off, imm⟩ := s
  simp only at c0 c1 c2 c3 c4
  have HS := hide hs
  have HF := hide hf
  have HL := hide hll
  clear hs hf hll
  have hI := hide (fun d s f i w => opcode_any op d s f i w HF.out.op)
  have hW := hide (fun d s f i w => writes_any op d s f i w)
  have hP := hide (fun w => parts_ref op dst src off imm w HF.out.op)
  have hQ := hide (fun d s f i w => wide_any op d s f i w)
  have hJ := hide (fun w => jumps_ref op dst src off imm w k (by omega) HF.out.off HF.out.imm)
  have HE : Hid (oneR l k ⟨op, dst, src, off, imm⟩ (behindM l k) = oneR l k ⟨op, dst, src, off, imm⟩ (behindM l k)) := rfl
  generalize hgoal : oneR l k ⟨op, dst, src, off, imm⟩ (behindM l k) = res at *
  have HG := hide hgoal
  clear hgoal HE
  obtain ⟨b0, b1, b2, b3, b4⟩ := later5 (World.alloc_heap_new w (.cells #[.int .u8 op, .int .u8 dst, .int .u8 src, .int .i16 off, .int .i32 imm] 42))
  have hn1 : (k : Int) + 1 ≤ 4097 := by omega
  by_cases hi : opcodeR op = false
  · have hres : res = 20 := by rw [← HG.out]; unfold oneR; rw [if_pos hi]
    rw [hi] at hI
    clear hi
    subst hres
    go_enter Try.func28, Try.ntmps28
    go_wp2_with (first
      | (go_at_call 53; (with_reducible refine (Later.calls0 (hI.out _ _ _ _)).mono ?_); rintro e w1 ⟨rfl, x, rfl⟩))
    go_ret
    exact ⟨rfl, below1c x.below⟩
  have hi : opcodeR op = true := by simpa using hi
  rw [hi] at hI
  have HOP := hide hi
  cases hr : badRegs ⟨op, dst, src, off, imm⟩
  case true =>
    have hres : res = 21 := by
      rw [← HG.out]
      unfold oneR
      rw [if_neg (by simp [hi]), if_pos hr]
    clear hi HG
    subst hres
    unfold badRegs at hr
    simp only at hr
    by_cases g1 : 10 < dst
    · clear hr
      go_enter Try.func28, Try.ntmps28
      go_wp2_with (first
        | (go_at_call 53; (with_reducible refine (Later.calls0 (hI.out _ _ _ _)).mono ?_); rintro e w1 ⟨rfl, x, rfl⟩))
      go_ret
      exact ⟨rfl, below1c (Later.below _)⟩
    have g1' : decide (10 < dst) = false := by simpa using g1
    by_cases g2 : 10 < src
    · clear hr
      go_enter Try.func28, Try.ntmps28
      go_wp2_with (first
        | (go_at_call 53; (with_reducible refine (Later.calls0 (hI.out _ _ _ _)).mono ?_); rintro e w1 ⟨rfl, x, rfl⟩))
      go_ret
      exact ⟨rfl, below1c (Later.below _)⟩
    have g2' : decide (10 < src) = false := by simpa using g2
    rw [g1', g2'] at hr
    simp only [Bool.false_or, Bool.and_eq_true, beq_iff_eq] at hr
    obtain ⟨rfl, hw⟩ := hr
    rw [hw] at hW
    clear hw
    go_enter Try.func28, Try.ntmps28
    go_wp2_with (first
      | (go_at_call 53; (with_reducible refine (Later.calls0 (hI.out _ _ _ _)).mono ?_); rintro e w1 ⟨rfl, x, rfl⟩)
      | (go_at_call 54; (with_reducible refine (Later.calls _ (hW.out _ _ _ _)).mono ?_); rintro e w1 ⟨rfl, x, rfl⟩))
    go_ret
    exact ⟨rfl, below1c (Later.below _)⟩
  case false =>
    have HR := hide hr
    unfold badRegs at hr
    simp only [Bool.or_eq_false_iff] at hr
    obtain ⟨⟨g1, g2⟩, g3⟩ := hr
    have hcase : (dst == 10) = false ∨ (dst = 10 ∧ wrB op = false) := by
      by_cases h : dst = 10
      · exact .inr ⟨h, by simpa [h] using g3⟩
      · exact .inl (by simpa using h)
    clear g3
    have hc2 : (dst == 10) = false ∨ (dst = 10 ∧ wrB op = false) := hcase
    by_cases hp : partsR ⟨op, dst, src, off, imm⟩ = false
    · have hres : res = 22 := by
        rw [← HG.out]
        unfold oneR
        rw [if_neg (by simp [hi]), if_neg (by simp [HR.out]), if_pos hp]
      rw [hp] at hP
      clear hi hp HG HR hc2
      subst hres
      rcases hcase with h10 | ⟨h10, hw⟩
      all_goals (try (rw [hw] at hW; clear hw; subst h10))
      all_goals
        go_enter Try.func28, Try.ntmps28
        go_wp2_with (first
          | (go_at_call 53; (with_reducible refine (Later.calls0 (hI.out _ _ _ _)).mono ?_); rintro e w1 ⟨rfl, x, rfl⟩)
          | (go_at_call 54; (with_reducible refine (Later.calls _ (hW.out _ _ _ _)).mono ?_); rintro e w1 ⟨rfl, x, rfl⟩)
          | (go_at_call 55; (with_reducible refine (Later.calls _ (hP.out)).mono ?_); rintro e w1 ⟨rfl, x, rfl⟩))
        go_ret
        exact ⟨rfl, below1c (Later.below _)⟩
    have hp : partsR ⟨op, dst, src, off, imm⟩ = true := by simpa using hp
    rw [hp] at hP
    by_cases h24 : op = 24
    · exact one_wide n cc B k g l ad op dst src off imm w res h hB hkn hn c0 c1 c2 c3 c4 HOP.out HF.out HL.out HR.out hp h24 HG.out
    have hq : (op == 24) = false := by simpa using h24
    rw [hq] at hQ
    have HR1 : Hid (oneR l k ⟨op, dst, src, off, imm⟩ (behindM l k) = if badJump l k ⟨op, dst, src, off, imm⟩ = true then 23 else 0) := by
      show oneR l k ⟨op, dst, src, off, imm⟩ (behindM l k) = _
      unfold oneR
      rw [if_neg (by simp [hi]), if_neg (by simp [HR.out]), if_neg (by simp [hp]), if_neg h24]
    unfold badJump at HR1
    simp only at HR1
    rw [HL.out] at HR1
    generalize jtR k ⟨op, dst, src, off, imm⟩ = t at HR1 hJ
    rw [HG.out] at HR1
    clear hi hp HG HR hc2 h24 hq
    cases hj : jumpsR op
    · rw [hj] at hJ HR1
      have hres : res = 0 := HR1.out.trans (by simp)
      clear hj HR1
      subst hres
      rcases hcase with h10 | ⟨h10, hw⟩
      all_goals (try (rw [hw] at hW; clear hw; subst h10))
      all_goals
        go_enter Try.func28, Try.ntmps28
        go_wp2_with (first
          | (go_at_call 53; (with_reducible refine (Later.calls0 (hI.out _ _ _ _)).mono ?_); rintro e w1 ⟨rfl, x, rfl⟩)
          | (go_at_call 54; (with_reducible refine (Later.calls _ (hW.out _ _ _ _)).mono ?_); rintro e w1 ⟨rfl, x, rfl⟩)
          | (go_at_call 55; (with_reducible refine (Later.calls _ (hP.out)).mono ?_); rintro e w1 ⟨rfl, x, rfl⟩)
          | (go_at_call 52; (with_reducible refine (Later.calls _ (hQ.out _ _ _ _)).mono ?_); rintro e w1 ⟨rfl, x, rfl⟩)
          | (go_at_call 37; (with_reducible refine (Later.calls _ (hJ.out)).mono ?_); rintro e w1 ⟨rfl, x, rfl⟩))
        go_ret
        exact ⟨rfl, below1c (Later.below _)⟩
    rw [hj] at hJ HR1
    clear hj
    by_cases t0 : t < 0
    · have hres : res = 23 := HR1.out.trans (by simp [t0])
      clear HR1
      subst hres
      rcases hcase with h10 | ⟨h10, hw⟩
      all_goals (try (rw [hw] at hW; clear hw; subst h10))
      all_goals
        go_enter Try.func28, Try.ntmps28
        go_wp2_with (first
          | (go_at_call 53; (with_reducible refine (Later.calls0 (hI.out _ _ _ _)).mono ?_); rintro e w1 ⟨rfl, x, rfl⟩)
          | (go_at_call 54; (with_reducible refine (Later.calls _ (hW.out _ _ _ _)).mono ?_); rintro e w1 ⟨rfl, x, rfl⟩)
          | (go_at_call 55; (with_reducible refine (Later.calls _ (hP.out)).mono ?_); rintro e w1 ⟨rfl, x, rfl⟩)
          | (go_at_call 52; (with_reducible refine (Later.calls _ (hQ.out _ _ _ _)).mono ?_); rintro e w1 ⟨rfl, x, rfl⟩)
          | (go_at_call 37; (with_reducible refine (Later.calls _ (hJ.out)).mono ?_); rintro e w1 ⟨rfl, x, rfl⟩))
        go_ret
        exact ⟨rfl, below1c (Later.below _)⟩
    have t0' : decide (t < 0) = false := by simpa using t0
    by_cases t1 : (n : Int) ≤ t
    · have hres : res = 23 := HR1.out.trans (by simp [t1])
      clear HR1
      subst hres
      rcases hcase with h10 | ⟨h10, hw⟩
      all_goals (try (rw [hw] at hW; clear hw; subst h10))
      all_goals
        go_enter Try.func28, Try.ntmps28
        go_wp2_with (first
          | (go_at_call 53; (with_reducible refine (Later.calls0 (hI.out _ _ _ _)).mono ?_); rintro e w1 ⟨rfl, x, rfl⟩)
          | (go_at_call 54; (with_reducible refine (Later.calls _ (hW.out _ _ _ _)).mono ?_); rintro e w1 ⟨rfl, x, rfl⟩)
          | (go_at_call 55; (with_reducible refine (Later.calls _ (hP.out)).mono ?_); rintro e w1 ⟨rfl, x, rfl⟩)
          | (go_at_call 52; (with_reducible refine (Later.calls _ (hQ.out _ _ _ _)).mono ?_); rintro e w1 ⟨rfl, x, rfl⟩)
          | (go_at_call 37; (with_reducible refine (Later.calls _ (hJ.out)).mono ?_); rintro e w1 ⟨rfl, x, rfl⟩))
        go_ret
        exact ⟨rfl, below1c (Later.below _)⟩
    have t1' : decide ((n : Int) ≤ t) = false := by simpa using t1
    obtain ⟨j, rfl⟩ := Int.eq_ofNat_of_zero_le (show 0 ≤ t by omega)
    have hjn : j < n := by omega
    have t1n : decide (n ≤ j) = false := by simp; omega
    have hfj := (below1 w (.cells #[.int .u8 op, .int .u8 dst, .int .u8 src, .int .i16 off, .int .i32 imm] 42)).cell (p := ⟨g, j, none⟩) (World.block_lt_of_cell? w _ (hfs j hjn))
    rw [hfs j hjn] at hfj
    replace hfj := Later.cell hfj
    cases hb : firstAt l j
    all_goals
      rw [hb] at HR1 hfj
      have hres := HR1.out
      rw [t0', t1'] at hres
      simp at hres
      clear HR1 hb
      subst hres
      rcases hcase with h10 | ⟨h10, hw⟩
      all_goals (try (rw [hw] at hW; clear hw; subst h10))
      all_goals
        go_enter Try.func28, Try.ntmps28
        go_wp2_with (first
          | (go_at_call 53; (with_reducible refine (Later.calls0 (hI.out _ _ _ _)).mono ?_); rintro e w1 ⟨rfl, x, rfl⟩)
          | (go_at_call 54; (with_reducible refine (Later.calls _ (hW.out _ _ _ _)).mono ?_); rintro e w1 ⟨rfl, x, rfl⟩)
          | (go_at_call 55; (with_reducible refine (Later.calls _ (hP.out)).mono ?_); rintro e w1 ⟨rfl, x, rfl⟩)
          | (go_at_call 52; (with_reducible refine (Later.calls _ (hQ.out _ _ _ _)).mono ?_); rintro e w1 ⟨rfl, x, rfl⟩)
          | (go_at_call 37; (with_reducible refine (Later.calls _ (hJ.out)).mono ?_); rintro e w1 ⟨rfl, x, rfl⟩))
        go_ret
        exact ⟨rfl, below1c (Later.below _)⟩
end Go.Proofs.Ytjnmfgkjeofneaa
