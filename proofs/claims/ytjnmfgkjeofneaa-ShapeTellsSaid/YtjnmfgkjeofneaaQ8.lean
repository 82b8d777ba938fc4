/-
  The document's Check of any program; its Next.
-/
import Derived.Test.YtjnmfgkjeofneaaQ7
namespace Go.Proofs.Ytjnmfgkjeofneaa
open Go.RowKit Go.Maps
set_option linter.unusedVariables false

theorem check_doc_all (A : Option Addr) (m c B : Nat) (l : List Ins) (w : World) (hp : Rd w B 5 A m (pcells l)) (hB : B ≤ w.heap.size) (hf : ∀ s ∈ l, s.Fits) (r : m ≤ 140737488351232) :
    Calls Try.prog 11 #[.slice A m c] w fun e w' => e = .returned (.tuple #[.int .i64 (checkM l).1, .int .i64 (checkM l).2]) ∧ Below w.heap.size w w' := by
  have hll : l.length = m := hp.prg.1
  by_cases h0 : m = 0
  · subst h0
    have hc : checkM l = (0, 3) := by unfold checkM; rw [if_pos (.inl hll)]
    rw [hc]
    clear hp hll hc
    go_enter Try.func11, Try.ntmps11
    go_wp2
    go_ret2
    exact ⟨rfl, Below.refl _ _⟩
  · by_cases h1 : 4096 < m
    · have hc : checkM l = (0, 3) := by unfold checkM; rw [if_pos (.inr (by omega))]
      have hd0 : ((m : Int) == 0) = false := by simp; omega
      have hd1 : decide (4096 < (m : Int)) = true := by simp; omega
      rw [hc]
      clear hp hll hc
      go_enter Try.func11, Try.ntmps11
      go_wp2
      go_ret2
      exact ⟨rfl, Below.refl _ _⟩
    · have hc : checkM l = checkL l := by unfold checkM; rw [if_neg (by omega)]
      rw [hc]
      exact check_doc A m c B l w hp hB (by omega) (by omega) hf

set_option maxRecDepth 100000 in
set_option maxHeartbeats 4000000 in
theorem next_doc (A : Option Addr) (m c B : Nat) (l : List Ins) (at' : Int) (w : World) (hp : Rd w B 5 A m (pcells l)) (hB : B ≤ w.heap.size) (hf : ∀ s ∈ l, s.Fits) (r : m ≤ 140737488351232) :
    Calls Try.prog 13 #[.slice A m c, .int .i64 at'] w fun e w' => e = .returned (.tuple #[.int .i64 (nextM l at').1, .int .i64 (nextM l at').2]) ∧ Below w.heap.size w w' := by
  have hll : l.length = m := hp.prg.1
  have HC := hide (check_doc_all A m c B l w hp hB hf r)
  generalize hcx : (checkM l).1 = cx at HC
  clear hcx
  by_cases hok : (checkM l).2 = 0
  · obtain ⟨h0, h1⟩ := check_ok hok
    rw [hll] at h0 h1
    by_cases ha : 0 ≤ at'
    · by_cases hb : at' < m
      · obtain ⟨k, rfl⟩ := Int.eq_ofNat_of_zero_le ha
        have hkm : k < m := by omega
        have hnm : nextM l (k : Nat) = wayOf (fsts 0 false l) k := by
          unfold nextM
          rw [if_pos ⟨hok, by omega, by omega⟩, Int.toNat_natCast]
        obtain ⟨s, hs⟩ : ∃ s, l[k]? = some s := ⟨_, List.getElem?_eq_getElem (by rw [hll]; exact hkm)⟩
        have hfs := hf s (List.mem_of_getElem? hs)
        rw [hok] at HC
        have HFR := hide (fun (W : World) (hW : Below w.heap.size w W) => firsts_ref A m c B l W (hp.below (hW.mono hB)) (Nat.le_trans hB hW.size) h1)
        have hd1 : decide ((k : Int) < 0) = false := by simp
        have hd2 : decide (m ≤ k) = false := by simp; omega
        have hd3 : decide ((m : Int) ≤ (k : Int)) = false := by simp; omega
        rw [hnm]
        cases hfk : firstAt l k
        · rw [way_not (by rw [hll]; exact hkm) hfk]
          have HFK := hide hfk
          clear hok hp hf hll hs hfs hnm hfk
          go_enter Try.func13, Try.ntmps13
          go_wp2_with fail
          refine HC.out.mono ?_
          rintro e w1 ⟨rfl, hb1⟩
          have HB1 := hide hb1
          clear hb1
          go_wp2_with fail
          refine (HFR.out _ HB1.out).mono ?_
          rintro e w2 ⟨rfl, hbo, hb2⟩
          have hc := hbo.cell hkm
          rw [HFK.out] at hc
          have HB2 := hide (HB1.out.trans (hb2.mono HB1.out.size))
          clear hbo hb2
          go_wp2
          go_ret2
          exact ⟨rfl, HB2.out⟩
        · rw [way_first hs hfk]
          have HN := hide (fun (W : World) (hW : Below w.heap.size w W) => next1_doc A m c B k l s W (hp.below (hW.mono hB)) (Nat.le_trans hB hW.size) h1 hs hfs (first_isB hok hs hfk))
          have HFK := hide hfk
          clear hok hp hf hll hs hfs hnm hfk
          go_enter Try.func13, Try.ntmps13
          go_wp2_with fail
          refine HC.out.mono ?_
          rintro e w1 ⟨rfl, hb1⟩
          have HB1 := hide hb1
          clear hb1
          go_wp2_with fail
          refine (HFR.out _ HB1.out).mono ?_
          rintro e w2 ⟨rfl, hbo, hb2⟩
          have hc := hbo.cell hkm
          rw [HFK.out] at hc
          have HB2 := hide (HB1.out.trans (hb2.mono HB1.out.size))
          clear hbo hb2
          go_wp2_with fail
          refine (HN.out _ HB2.out).mono ?_
          rintro e w3 ⟨rfl, hb3⟩
          have HB3 := hide (HB2.out.trans (hb3.mono HB2.out.size))
          clear hb3
          go_wp2
          go_ret2
          exact ⟨rfl, HB3.out⟩
      · have hnm : nextM l at' = (-1, -1) := by unfold nextM; rw [if_neg (by omega)]
        rw [hok] at HC
        rw [hnm]
        have hd1 : decide (at' < 0) = false := by simp; omega
        have hd3 : decide ((m : Int) ≤ at') = true := by simp; omega
        clear hok hp hf hll hnm
        go_enter Try.func13, Try.ntmps13
        go_wp2_with fail
        refine HC.out.mono ?_
        rintro e w1 ⟨rfl, hb1⟩
        go_wp2
        go_ret2
        exact ⟨rfl, hb1⟩
    · have hnm : nextM l at' = (-1, -1) := by unfold nextM; rw [if_neg (by omega)]
      rw [hok] at HC
      rw [hnm]
      have hd1 : decide (at' < 0) = true := by simp; omega
      clear hok hp hf hll hnm
      go_enter Try.func13, Try.ntmps13
      go_wp2_with fail
      refine HC.out.mono ?_
      rintro e w1 ⟨rfl, hb1⟩
      go_wp2
      go_ret2
      exact ⟨rfl, hb1⟩
  · have hnm : nextM l at' = (-1, -1) := by unfold nextM; rw [if_neg (fun h => hok h.1)]
    rw [hnm]
    generalize (checkM l).2 = y at HC hok
    have hy : (y == 0) = false := by simpa using hok
    have hy2 : (y != 0) = true := by simpa using hok
    clear hok hp hf hll hnm
    go_enter Try.func13, Try.ntmps13
    go_wp2_with fail
    refine HC.out.mono ?_
    rintro e w1 ⟨rfl, hb1⟩
    go_wp2
    go_ret2
    exact ⟨rfl, hb1⟩
end Go.Proofs.Ytjnmfgkjeofneaa
