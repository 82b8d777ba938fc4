/-
  The law ShapeWays, whatever it is given.
-/
import Derived.Test.YtjnmfgkjeofneaaL5
namespace Go.Proofs.Ytjnmfgkjeofneaa
open Go.RowKit
set_option linter.unusedVariables false

set_option maxRecDepth 100000 in
theorem law_shapeWays (A : Option Addr) (n c : Nat) (l : List Ins) (A' : Option Addr) (n' c' : Nat) (bl : List Bool) (w : World) (rd : Rd w w.heap.size 5 A n (pcells l)) (hf : ∀ s ∈ l, s.Fits) (nn : A = none → n = 0) (nc : n ≤ c) (cm : c ≤ maxLen) (re : n ≤ 140737488351232)
    (rd' : Rd w w.heap.size 1 A' n' (bl.map Value.bool)) (ft' : True) (nn' : A' = none → n' = 0) (nc' : n' ≤ c') (cm' : c' ≤ maxLen) (re' : n' ≤ 140737488351232) :
    Calls Try.prog 5 #[.slice A n c, .slice A' n' c'] w fun e w' => e = .returned (.bool true) ∧ Below w.heap.size w w' := by
  have HA := hide (awake_any w)
  by_cases hn : n ≤ 300
  · by_cases hn' : n' ≤ 600
    · by_cases hok : (checkM l).2 = 0
      · exact ways_walk A A' n n' c c' l bl w rd rd' hf hn hn' hok
      · have hs := small_any A n c
        have hd300 : decide (n ≤ 300) = true := by simp; omega
        have hd600 : decide (600 < (n' : Int)) = false := by simp; omega
        have HC := hide (fun (W : World) (hW : Below w.heap.size w W) => check_all A n c w.heap.size l W (rd.below hW) hW.size hf (by omega))
        have HT := hide (fun (W : World) (hW : Below w.heap.size w W) => targets_any A n c w.heap.size l W (rd.below hW) hW.size hf (by omega))
        have ht0 : targetsM l = [] := by unfold targetsM; rw [if_neg hok]
        rw [ht0] at HT
        generalize (checkM l).1 = cx at HC
        generalize (checkM l).2 = cy at HC hok
        have hy : (cy == 0) = false := by simpa using hok
        have hy2 : (cy != 0) = true := by simpa using hok
        clear rd rd' ht0 hok nn nn'
        go_enter Try.func5, Try.ntmps5
        go_wp2_with fail
        refine HA.out.mono ?_
        rintro e w1 ⟨rfl, hb1⟩
        have HB1 := hide hb1
        clear hb1
        go_wp2_with fail
        refine (hs _ (by omega)).mono ?_
        rintro e w' ⟨rfl, rfl⟩
        clear hs
        go_wp2_with fail
        refine (HC.out _ HB1.out).mono ?_
        rintro e w2 ⟨rfl, hb2⟩
        have HB2 := hide (HB1.out.trans (hb2.mono HB1.out.size))
        clear hb2
        go_wp2_with fail
        refine (HT.out _ HB2.out).mono ?_
        rintro e w3 ⟨tv, rfl, hrow, hb3⟩
        obtain ⟨TA, tc, rfl, hTrd⟩ := owns_slice (ownsRow_base_a hrow (Nat.zero_le _))
        have HB3 := hide (HB2.out.trans (hb3.mono HB2.out.size))
        clear hb3 hrow hTrd
        go_wp2
        go_ret
        exact ⟨rfl, HB3.out⟩
    · have hs := small_any A n c
      have hd300 : decide (n ≤ 300) = true := by simp; omega
      have hd600 : decide (600 < (n' : Int)) = true := by simp; omega
      clear rd rd' nn nn'
      go_enter Try.func5, Try.ntmps5
      go_wp2_with fail
      refine HA.out.mono ?_
      rintro e w1 ⟨rfl, hb1⟩
      go_wp2_with fail
      refine (hs _ (by omega)).mono ?_
      rintro e w' ⟨rfl, rfl⟩
      go_wp2
      go_ret
      exact ⟨rfl, hb1⟩
  · have hs := small_any A n c
    have hd300 : decide (n ≤ 300) = false := by simp; omega
    clear rd rd' nn nn'
    go_enter Try.func5, Try.ntmps5
    go_wp2_with fail
    refine HA.out.mono ?_
    rintro e w1 ⟨rfl, hb1⟩
    go_wp2_with fail
    refine (hs _ (by omega)).mono ?_
    rintro e w' ⟨rfl, rfl⟩
    go_wp2
    go_ret
    exact ⟨rfl, hb1⟩
end Go.Proofs.Ytjnmfgkjeofneaa
