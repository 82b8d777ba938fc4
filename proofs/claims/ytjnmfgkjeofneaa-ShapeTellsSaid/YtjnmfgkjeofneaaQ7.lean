/-
  Where the document goes on behind an instruction.
-/
import Derived.Test.YtjnmfgkjeofneaaQ6
import Derived.Test.YtjnmfgkjeofneaaSl
namespace Go.Proofs.Ytjnmfgkjeofneaa
open Go.RowKit Go.Maps
set_option linter.unusedVariables false

theorem way_first {l : List Ins} {k : Nat} {s : Ins} (hs : l[k]? = some s) (hf : firstAt l k = true) : wayOf (fsts 0 false l) k = (nextI (k, s), jumpI (k, s)) :=
  wayOf_at (fsts_rise l 0 false) (first_here hs hf).2
theorem way_not {l : List Ins} {k : Nat} (hk : k < l.length) (hf : firstAt l k = false) : wayOf (fsts 0 false l) k = (-1, -1) := by
  rcases wayOf_mem (fsts 0 false l) k with h | ⟨p, hp, he, _⟩
  · exact h
  · have := (firstsL_yes l 0 false k).2 ⟨p.2, by rw [Nat.zero_add, ← he]; exact hp⟩
    rw [firstAt_is hk, hf] at this
    cases this
theorem first_isB {l : List Ins} (h : (checkM l).2 = 0) {k : Nat} {s : Ins} (hs : l[k]? = some s) (hf : firstAt l k = true) : isB (clsI s.op) s.op = true := by
  have := check_fine h _ (first_here hs hf).2
  unfold errM faultM at this
  exact (faultE_zero this).1
theorem jumpI_is {k : Nat} {s : Ins} (ho : s.Fits) (hi : isB (clsI s.op) s.op = true) : jumpI (k, s) = if jumpsR s.op = true then jtR k s else -1 := by
  obtain ⟨j1, j2, _⟩ := jumps_is s.op ho.op hi
  unfold jumpI targetB
  simp only
  rw [← j1]
  by_cases hj : jumpsR s.op = true
  · rw [if_pos hj, if_pos hj]
    unfold targetI jtR
    rw [if_pos hj]
    by_cases h6 : s.op = 6
    · rw [if_pos h6, if_pos (j2.2 h6)]
    · rw [if_neg h6, if_neg (fun h => h6 (j2.1 h))]
      have : (s.op == 5 || condB s.op) = true := by
        rw [hj] at j1
        have h6' : (s.op == 6) = false := by simpa using h6
        rw [h6', Bool.false_or] at j1
        exact j1.symm
      rw [if_pos this]
  · rw [if_neg hj, if_neg hj]

set_option maxRecDepth 100000 in
set_option maxHeartbeats 4000000 in
theorem next1_doc (A : Option Addr) (n c B k : Nat) (l : List Ins) (s : Ins) (w : World) (h : Rd w B 5 A n (pcells l)) (hB : B ≤ w.heap.size) (hn : n ≤ 4096) (hs : l[k]? = some s) (hf : s.Fits) (hi : isB (clsI s.op) s.op = true) :
    Calls Try.prog 31 #[.slice A n c, .int .i64 k] w fun e w' => e = .returned (.tuple #[.int .i64 (nextI (k, s)), .int .i64 (jumpI (k, s))]) ∧ Below w.heap.size w w' := by
  have hll : l.length = n := h.prg.1
  have hkn : k < n := by rw [← hll]; exact (List.getElem?_eq_some_iff.1 hs).1
  obtain ⟨ad, s', rfl, hs', c0, c1, c2, c3, c4⟩ := h.slot hkn
  rw [hs] at hs'
  cases hs'
  have HJI := hide (jumpI_is (k := k) hf hi)
  have HJ := hide (jumps_is s.op hf.op hi).2.2
  have HNI : Hid (nextI (k, s) = if goesB s.op = true then (k : Int) + (if s.op = 24 then 2 else 1) else -1) := by
    show nextI (k, s) = _
    unfold nextI slotsN
    simp only
    by_cases h24 : s.op = 24 <;> simp [h24]
  obtain ⟨op, dst, src, off, imm⟩ := s
  simp only at c0 c1 c2 c3 c4 HJI HJ HNI
  have hQ := hide (fun w => wide_any op dst src off imm w)
  have hJ := hide (fun w => jumps_ref op dst src off imm w k (by omega) hf.off hf.imm)
  have hC := hide (fun w => class_any op dst src off imm w)
  have hH := hide (fun w => hi_any op dst src off imm w)
  obtain ⟨b0, b1, b2, b3, b4⟩ := later5 (World.alloc_heap_new w (.cells #[.int .u8 op, .int .u8 dst, .int .u8 src, .int .i16 off, .int .i32 imm] 42))
  generalize nextI (k, ⟨op, dst, src, off, imm⟩) = nI at *
  generalize jumpI (k, ⟨op, dst, src, off, imm⟩) = jI at *
  generalize jtR k ⟨op, dst, src, off, imm⟩ = t at *
  clear hs hf hi h hll
  generalize clsI op = cc at *
  generalize hiI op = oo at *
  have HW : Hid (((op == 24) = true ∧ nI = if goesB op = true then (k : Int) + 2 else -1) ∨ ((op == 24) = false ∧ nI = if goesB op = true then (k : Int) + 1 else -1)) := by
    by_cases h24 : op = 24
    · exact .inl ⟨by simpa using h24, by rw [HNI.out, if_pos h24]⟩
    · exact .inr ⟨by simpa using h24, by rw [HNI.out, if_neg h24]⟩
  generalize (op == 24) = q at hQ HW
  generalize jumpsR op = j at *
  have hw := HW.out
  clear HNI HW
  generalize goesB op = gg at *
  rcases hw with ⟨rfl, hw⟩ | ⟨rfl, hw⟩
  all_goals
    cases j
    all_goals
      have HRJ := hide (HJI.out.trans (by first | exact if_pos rfl | exact if_neg (by simp)))
      cases gg
      all_goals
        have HRN := hide (hw.trans (by first | exact if_pos rfl | exact if_neg (by simp)))
        have HJ1 := hide HJ.out
        go_enter Try.func31, Try.ntmps31
        go_wp2_with fail
        refine (Later.calls0 hQ.out).mono ?_
        rintro e w1 ⟨rfl, x, rfl⟩
        go_wp2_with fail
        refine (Later.calls _ hJ.out).mono ?_
        rintro e w2 ⟨rfl, z, rfl⟩
        have d0 := Later.cell (b0 z)
        have d1 := Later.cell (b1 z)
        have d2 := Later.cell (b2 z)
        have d3 := Later.cell (b3 z)
        have d4 := Later.cell (b4 z)
        go_wp2
        refine wp_region_later (by kernel_rfl) (by kernel_rfl) ?_
        repeat (go_big_quiet_step ((first | exact Later.calls _ hC.out | exact Later.calls _ hH.out)))
        refine wpQuiet_nil ?_
        rintro _ ⟨y, rfl⟩
        have HX := hide (below1c (z.below.trans (y.below.mono z.below.size)))
        go_wp2
        all_goals
          go_ret2
          refine ⟨?_, HX.out⟩
          try simp only [beq_iff_eq, beq_eq_false_iff_ne, bne_iff_ne, bne_eq_false_iff_eq, ne_eq] at *
          have hcase := HJ1.out
          first
            | (rw [HRN.out, HRJ.out]; rfl)
            | (exfalso; simp at hcase; omega)
end Go.Proofs.Ytjnmfgkjeofneaa
