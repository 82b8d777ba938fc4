/-
  An argument's numbers, of whatever argument.
-/
import Derived.Test.YtedjmgiblkjonaaD6
namespace Go.Proofs.Ytedjmgiblkjonaa
open Go.RowKit Go.Maps
set_option linter.unusedVariables false

def numbersM (k lo hi : Int) : Bool := if k = 1 then decide (lo ≤ hi) else if k = 9 then lo == 0 && inI 1 1024 hi else inI 1 9 k && lo == 0 && hi == 0
set_option maxRecDepth 100000 in
set_option maxHeartbeats 2000000 in
theorem numbers_any (k lo hi : Int) (A : Option Addr) (n c : Nat) (w : World) : Calls Try.prog 60 #[.agg #[.int .u8 k, .int .i64 lo, .int .i64 hi, .slice A n c]] w fun e w' => e = .returned (.bool (numbersM k lo hi)) ∧ Below w.heap.size w w' := by
  have hN : Hid (numbersM k lo hi = if k = 1 then decide (lo ≤ hi) else if k = 9 then lo == 0 && inI 1 1024 hi else inI 1 9 k && lo == 0 && hi == 0) := hide rfl
  have hF := hide (fun w => from_i64 1 1024 w)
  have hG := hide (fun w => from_ak 1 9 w)
  have hH := hide (fun w => has_i64 1 1024 hi w)
  have hK := hide (fun w => has_ak 1 9 k w)
  obtain ⟨c0, c1, c2, c3⟩ := later4 (World.alloc_heap_new w (.cells #[.int .u8 k, .int .i64 lo, .int .i64 hi, .slice A n c] 46))
  by_cases k1 : k = 1
  · subst k1
    clear c0 c1 c2 c3
    go_enter Try.func60, Try.ntmps60
    go_wp2
    go_ret
    exact ⟨by rw [hN.out]; rfl, below1 _ _⟩
  · have e1 : (k == 1) = false := by simpa using k1
    by_cases k9 : k = 9
    · subst k9
      clear hK hG k1
      generalize inI 1 1024 hi = bh at *
      by_cases l0 : lo = 0
      · subst l0
        go_enter Try.func60, Try.ntmps60
        go_wp2
        refine wp_region_later (by kernel_rfl) (by kernel_rfl) ?_
        repeat (go_big_quiet_step ((first | exact Later.calls _ hF.out | exact Later.calls _ hH.out)))
        refine wpQuiet_nil ?_
        rintro _ ⟨x, rfl⟩
        have HX := hide (below1c x.below)
        clear c0 c1 c2 c3
        go_wp2
        go_ret
        exact ⟨by rw [hN.out]; simp, HX.out⟩
      · have e2 : (lo == 0) = false := by simpa using l0
        go_enter Try.func60, Try.ntmps60
        go_wp2
        refine wp_region_later (by kernel_rfl) (by kernel_rfl) ?_
        repeat (go_big_quiet_step ((first | exact Later.calls _ hF.out | exact Later.calls _ hH.out)))
        refine wpQuiet_nil ?_
        rintro _ ⟨x, rfl⟩
        have HX := hide (below1c x.below)
        clear c0 c1 c2 c3
        go_wp2
        go_ret
        exact ⟨by rw [hN.out]; simp [l0], HX.out⟩
    · have e9 : (k == 9) = false := by simpa using k9
      have hN2 : Hid (numbersM k lo hi = (inI 1 9 k && lo == 0 && hi == 0)) := hide (by rw [hN.out, if_neg k1, if_neg k9])
      clear hH hF hN k1 k9
      generalize inI 1 9 k = bk at *
      cases bk
      · skip
        go_enter Try.func60, Try.ntmps60
        go_wp2
        refine wp_region_later (by kernel_rfl) (by kernel_rfl) ?_
        repeat (go_big_quiet_step ((first | exact Later.calls _ hG.out | exact Later.calls _ hK.out)))
        refine wpQuiet_nil ?_
        rintro _ ⟨x, rfl⟩
        have HX := hide (below1c x.below)
        clear c0 c1 c2 c3
        go_wp2
        go_ret
        exact ⟨by rw [hN2.out]; simp, HX.out⟩
      · by_cases l0 : lo = 0
        · subst l0
          go_enter Try.func60, Try.ntmps60
          go_wp2
          refine wp_region_later (by kernel_rfl) (by kernel_rfl) ?_
          repeat (go_big_quiet_step ((first | exact Later.calls _ hG.out | exact Later.calls _ hK.out)))
          refine wpQuiet_nil ?_
          rintro _ ⟨x, rfl⟩
          have HX := hide (below1c x.below)
          clear c0 c1 c2 c3
          go_wp2
          go_ret
          exact ⟨by rw [hN2.out]; simp, HX.out⟩
        · have e2 : (lo == 0) = false := by simpa using l0
          go_enter Try.func60, Try.ntmps60
          go_wp2
          refine wp_region_later (by kernel_rfl) (by kernel_rfl) ?_
          repeat (go_big_quiet_step ((first | exact Later.calls _ hG.out | exact Later.calls _ hK.out)))
          refine wpQuiet_nil ?_
          rintro _ ⟨x, rfl⟩
          have HX := hide (below1c x.below)
          clear c0 c1 c2 c3
          go_wp2
          go_ret
          exact ⟨by rw [hN2.out]; simp [l0], HX.out⟩
end Go.Proofs.Ytedjmgiblkjonaa
