/-
  Next.
-/
import Derived.Test.YtjnmfgkjeofneaaIt5
namespace Go.Proofs.Ytjnmfgkjeofneaa
open Go.RowKit Go.Maps
set_option linter.unusedVariables false

/-- What is told of a place. -/
def nextM (l : List Ins) (at' : Int) : Int × Int := if (checkM l).2 = 0 ∧ 0 ≤ at' ∧ at' < l.length then wayOf (fsts 0 false l) at'.toNat else (-1, -1)
theorem check_ok {l : List Ins} (h : (checkM l).2 = 0) : 0 < l.length ∧ l.length ≤ 4096 := by
  unfold checkM at h
  split at h
  · simp at h
  · omega
set_option maxRecDepth 100000 in
theorem next_any (A : Option Addr) (m c B : Nat) (l : List Ins) (at' : Int) (w : World) (hp : Rd w B 5 A m (pcells l)) (hB : B ≤ w.heap.size) (hf : ∀ s ∈ l, s.Fits) (r : m ≤ 140737488351232) :
    Calls Try.prog 12 #[.slice A m c, .int .i64 at'] w fun e w' => e = .returned (.tuple #[.int .i64 (nextM l at').1, .int .i64 (nextM l at').2]) ∧ Below w.heap.size w w' := by
  have hll : l.length = m := hp.prg.1
  by_cases hok : (checkM l).2 = 0
  · obtain ⟨h0, h1⟩ := check_ok hok
    rw [hll] at h0 h1
    have hW := hide (ways_yes A m c B l w hp hB hf r hok h1 h0)
    by_cases hr : 0 ≤ at' ∧ at' < m
    · obtain ⟨i, rfl⟩ := Int.eq_ofNat_of_zero_le hr.1
      have hi : i < m := by omega
      have HN : Hid (nextM l (i : Int) = wayOf (fsts 0 false l) i) := by
        show nextM l (i : Int) = _
        unfold nextM
        rw [if_pos ⟨hok, by omega, by omega⟩]
        rfl
      clear hok hp hr hll
      go_enter Try.func12, Try.ntmps12
      go_wp2_with fail
      refine hW.out.mono ?_
      rintro e w1 ⟨g, rfl, hg, hpr, hb⟩
      obtain ⟨q0, q1⟩ := hpr.cell hi
      have HB := hide hb
      clear hpr hb hW
      go_wp2
      go_region
      go_wp2
      go_ret2
      exact ⟨by rw [HN.out]; rfl, HB.out.drew⟩
    · have HN : Hid (nextM l at' = (-1, -1)) := by
        show nextM l at' = _
        unfold nextM
        rw [if_neg (by rintro ⟨_, h2, h3⟩; omega)]
      clear hok hp hll
      by_cases h2 : at' < 0
      · go_enter Try.func12, Try.ntmps12
        go_wp2_with fail
        refine hW.out.mono ?_
        rintro e w1 ⟨g, rfl, hg, hpr, hb⟩
        clear hpr
        go_wp2
        go_ret2
        exact ⟨by rw [HN.out]; rfl, hb⟩
      · have h3 : decide (at' < 0) = false := by simpa using h2
        have h4 : decide ((m : Int) ≤ at') = true := by simp; omega
        go_enter Try.func12, Try.ntmps12
        go_wp2_with fail
        refine hW.out.mono ?_
        rintro e w1 ⟨g, rfl, hg, hpr, hb⟩
        clear hpr
        go_wp2
        go_ret2
        exact ⟨by rw [HN.out]; rfl, hb⟩
  · have hW := hide (ways_no A m c B l w hp hB hf r hok)
    have HN : Hid (nextM l at' = (-1, -1)) := by
      show nextM l at' = _
      unfold nextM
      rw [if_neg (by rintro ⟨h1, _⟩; exact hok h1)]
    clear hok hp hll
    by_cases h2 : at' < 0
    · go_enter Try.func12, Try.ntmps12
      go_wp2_with fail
      refine hW.out.mono ?_
      rintro e w1 ⟨rfl, hb⟩
      go_wp2
      go_ret2
      exact ⟨by rw [HN.out]; rfl, hb⟩
    · have h3 : decide (at' < 0) = false := by simpa using h2
      have h4 : 0 ≤ at' := by omega
      go_enter Try.func12, Try.ntmps12
      go_wp2_with fail
      refine hW.out.mono ?_
      rintro e w1 ⟨rfl, hb⟩
      go_wp2
      go_ret2
      exact ⟨by rw [HN.out]; rfl, hb⟩
end Go.Proofs.Ytjnmfgkjeofneaa
