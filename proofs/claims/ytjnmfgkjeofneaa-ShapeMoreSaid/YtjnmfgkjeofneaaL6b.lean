/-
  The law ShapeMore, whatever it is given.
-/
import Derived.Test.YtjnmfgkjeofneaaL6
namespace Go.Proofs.Ytjnmfgkjeofneaa
open Go.RowKit
set_option linter.unusedVariables false

set_option maxRecDepth 100000 in
theorem law_shapeMore (A : Option Addr) (n c : Nat) (l : List Ins) (A' : Option Addr) (n' c' : Nat) (m : List Ins) (w : World) (rd : Rd w w.heap.size 5 A n (pcells l)) (hf : ∀ s ∈ l, s.Fits) (nn : A = none → n = 0) (nc : n ≤ c) (cm : c ≤ maxLen) (re : n ≤ 140737488351232)
    (rd' : Rd w w.heap.size 5 A' n' (pcells m)) (hf' : ∀ s ∈ m, s.Fits) (nn' : A' = none → n' = 0) (nc' : n' ≤ c') (cm' : c' ≤ maxLen) (re' : n' ≤ 140737488351232) :
    Calls Try.prog 6 #[.slice A n c, .slice A' n' c'] w fun e w' => e = .returned (.bool true) ∧ Below w.heap.size w w' := by
  have HA := hide (awake_any w)
  have hs := small_any A n c
  have hs' := small_any A' n' c'
  by_cases hn : n ≤ 300
  · have hd300 : decide (n ≤ 300) = true := by simp; omega
    by_cases hn' : n' ≤ 300
    · have hd300' : decide (n' ≤ 300) = true := by simp; omega
      by_cases hok : (checkM l).2 = 0 ∧ (checkM m).2 = 0
      · exact more_walk A A' n n' c c' l m w rd rd' hf hf' nn nn' hn hn' hok.1 hok.2
      · have HC := hide (fun (W : World) (hW : Below w.heap.size w W) => check_all A n c w.heap.size l W (rd.below hW) hW.size hf (by omega))
        have HD := hide (fun (W : World) (hW : Below w.heap.size w W) => check_all A' n' c' w.heap.size m W (rd'.below hW) hW.size hf' (by omega))
        generalize (checkM l).1 = cx at HC
        generalize (checkM l).2 = cy at HC hok
        generalize (checkM m).1 = dx at HD
        generalize (checkM m).2 = dy at HD hok
        have hy : (cy != 0 || dy != 0) = true := by
          by_cases h : cy = 0
          · have : dy ≠ 0 := fun h' => hok ⟨h, h'⟩
            simp [this]
          · simp [h]
        clear rd rd' nn nn' hok
        go_enter Try.func6, Try.ntmps6
        go_wp2_with fail
        refine HA.out.mono ?_
        rintro e w1 ⟨rfl, hb1⟩
        have HB1 := hide hb1
        clear hb1
        go_wp2_with fail
        refine (hs _ (by omega)).mono ?_
        rintro e w' ⟨rfl, rfl⟩
        go_wp2_with fail
        refine (hs' _ (by omega)).mono ?_
        rintro e w' ⟨rfl, rfl⟩
        clear hs hs'
        go_wp2_with fail
        refine (HC.out _ HB1.out).mono ?_
        rintro e w2 ⟨rfl, hb2⟩
        have HB2 := hide (HB1.out.trans (hb2.mono HB1.out.size))
        clear hb2
        go_wp2_with fail
        refine (HD.out _ HB2.out).mono ?_
        rintro e w3 ⟨rfl, hb3⟩
        have HB3 := hide (HB2.out.trans (hb3.mono HB2.out.size))
        clear hb3
        cases hcy : (cy != 0)
        · have hdy : (dy != 0) = true := by rw [hcy] at hy; exact hy
          go_wp2
          go_ret
          exact ⟨rfl, HB3.out⟩
        · go_wp2
          go_ret
          exact ⟨rfl, HB3.out⟩
    · have hd300' : decide (n' ≤ 300) = false := by simp; omega
      clear rd rd' nn nn'
      go_enter Try.func6, Try.ntmps6
      go_wp2_with fail
      refine HA.out.mono ?_
      rintro e w1 ⟨rfl, hb1⟩
      go_wp2_with fail
      refine (hs _ (by omega)).mono ?_
      rintro e w' ⟨rfl, rfl⟩
      go_wp2_with fail
      refine (hs' _ (by omega)).mono ?_
      rintro e w' ⟨rfl, rfl⟩
      go_wp2
      go_ret
      exact ⟨rfl, hb1⟩
  · have hd300 : decide (n ≤ 300) = false := by simp; omega
    clear rd rd' nn nn'
    go_enter Try.func6, Try.ntmps6
    go_wp2_with fail
    refine HA.out.mono ?_
    rintro e w1 ⟨rfl, hb1⟩
    go_wp2_with fail
    refine (hs _ (by omega)).mono ?_
    rintro e w' ⟨rfl, rfl⟩
    go_wp2
    go_ret
    exact ⟨rfl, hb1⟩
end Go.Proofs.Ytjnmfgkjeofneaa
