/-
  The document's error of a helper that is none of the host's own is the program's.
-/
import Derived.Test.YtedjmgiblkjonaaG3
import Derived.Test.YtedjmgiblkjonaaG4
namespace Go.Proofs.Ytedjmgiblkjonaa
open Go.RowKit Go.Maps
set_option linter.unusedVariables false

set_option maxRecDepth 100000 in
set_option maxHeartbeats 4000000 in
theorem rhelper_any (i mj mn rk lo hi sz : Int) (A : Option Addr) (n c B : Nat) (lx : List ArgX) (w : World) (hp : Rd w B 4 A n (xcells lx)) (hok : ArgsOk w B lx) (hB : B ≤ w.heap.size) (hn : n ≤ 1000000) (hnc : n ≤ c) (hc : c ≤ maxLen) :
    Calls Try.prog 16 #[.agg #[.int .i64 i, .int .i64 mj, .int .i64 mn, .int .u8 0, .slice A n c, .int .u8 rk, .int .i64 lo, .int .i64 hi, .int .i64 sz]] w fun e w' => e = .returned (.int .i64 (helperM i mj mn 0 rk lo hi sz lx)) ∧ Below w.heap.size w w' := by
  have hN : Hid (helperM i mj mn 0 rk lo hi sz lx = if (numberM i && versionM mj mn) = false then 34 else if 5 < lx.length then 3 else if errL lx ≠ 0 then errL lx else
    if retM rk lo hi sz (mapsL lx) = false then 36 else 0) := hide rfl
  have hll := hp.xcells_len
  rw [hll] at hN
  have b1 := World.alloc_heap_new w (.cells #[.int .i64 i, .int .i64 mj, .int .i64 mn, .int .u8 0, .slice A n c, .int .u8 rk, .int .i64 lo, .int .i64 hi, .int .i64 sz] 32)
  have l1 := below1 w (.cells #[.int .i64 i, .int .i64 mj, .int .i64 mn, .int .u8 0, .slice A n c, .int .u8 rk, .int .i64 lo, .int .i64 hi, .int .i64 sz] 32)
  have hNum := hide (fun w => number_any i w)
  have hVer := hide (fun w => version_any mj mn w)
  go_enter Try.func16, Try.ntmps16
  go_wp2_with fail
  refine name_call (fun W1 hW1 => ?_)
  rw [← hW1] at b1 l1
  clear hW1
  have c0 := blk_cell b1 0
  have c1 := blk_cell b1 1
  have c2 := blk_cell b1 2
  have c4 := blk_cell b1 4
  simp at c0 c1 c2 c4
  have L1 := hide l1
  have B1 := hide b1
  have HLL := hide hll
  have HP := hide hp
  have HOK := hide hok
  have HC := hide hc
  clear hp hok hll b1 l1 hc
  (with_reducible refine (hNum.out _).mono ?_)
  clear hNum
  rintro e w' ⟨rfl, rfl⟩
  cases hnu : numberM i
  · have hR : Hid (helperM i mj mn 0 rk lo hi sz lx = 34) := hide (by rw [hN.out, hnu]; rfl)
    clear hN hVer hnu
    go_wp2
    go_ret
    exact ⟨by rw [hR.out]; rfl, L1.out⟩
  · go_wp2_with fail
    (with_reducible refine (hVer.out _).mono ?_)
    clear hVer
    rintro e w' ⟨rfl, rfl⟩
    cases hve : versionM mj mn
    · have hR : Hid (helperM i mj mn 0 rk lo hi sz lx = 34) := hide (by rw [hN.out, hnu, hve]; rfl)
      clear hN hnu hve
      go_wp2
      go_ret
      exact ⟨by rw [hR.out]; rfl, L1.out⟩
    · by_cases h5 : 5 < n
      · have hR : Hid (helperM i mj mn 0 rk lo hi sz lx = 3) := hide (by rw [hN.out, hnu, hve, if_neg (by simp), if_pos h5])
        have hd : decide (5 < (n : Int)) = true := by simp; omega
        clear hN hnu hve
        go_wp2
        go_ret
        exact ⟨by rw [hR.out]; rfl, L1.out⟩
      · have hd : decide (5 < (n : Int)) = false := by simp; omega
        have hN2 : Hid (helperM i mj mn 0 rk lo hi sz lx = if errL lx ≠ 0 then errL lx else if retM rk lo hi sz (mapsL lx) = false then 36 else 0) := hide (by rw [hN.out, hnu, hve, if_neg (by simp), if_neg h5])
        clear hN h5 hnu hve
        go_wp2_with fail
        clear hd c0 c1 c2 c4
        go_loopw [3] (fun p wr => ∃ k : Nat, k ≤ n ∧ p = .int .i64 k ∧ Below W1.heap.size W1 wr ∧ Zeros lx (placed 0 (lx.take k))) (fun p _ => n - (intOf p).toNat)
        case atStart => exact ⟨0, Nat.zero_le _, rfl, Below.refl _ _, fun p hp => absurd hp (by simp [placed])⟩
        case round =>
          obtain ⟨k, hk, rfl, hb, hz⟩ := hrel
          have b1 := (hb.block _ (at_lt B1.out)).trans B1.out
          have l1 := L1.out.trans (hb.mono L1.out.size)
          have HZ := hide hz
          have HBW := hide hb
          clear hb hz
          by_cases hlt : k < n
          · obtain ⟨ad, x, rfl, hab, hx, _, _, _, _⟩ := HP.out.argx hlt
            have hlw := l1.mono hB
            have hS := hide (rsort_any ad n c B k lx x wr (HP.out.below hlw) (HOK.out.below hlw) (Nat.le_trans hB l1.size) hx hn)
            have hE := hide (errX_R hx HZ.out)
            have c4 := blk_cell b1 4
            simp at c4
            have L2 := hide l1
            have B2 := hide b1
            have HX := hide hx
            clear l1 b1 hx hlw
            obtain ⟨sb, hsb⟩ : ∃ sb, sortR lx k x = sb := ⟨_, rfl⟩
            rw [hsb] at hS hE
            clear hsb
            go_wp2_with fail
            ((with_reducible refine hS.out.mono ?_))
            rintro e w2 ⟨rfl, hb2⟩
            have b1 := (hb2.block _ (at_lt B2.out)).trans B2.out
            have l3 := L2.out.trans (hb2.mono L2.out.size)
            cases sb
            · have hv : errX lx (k, x) = 31 := by rw [hE.out]; rfl
              have hR : Hid (helperM i mj mn 0 rk lo hi sz lx = 31) := hide (by rw [hN2.out, errL_at HX.out HZ.out (by rw [hv]; decide), hv]; rfl)
              have L3 := hide l3
              clear hN2 hE hv hS hb2 b1 l3 c4
              go_wp2
              go_ret
              exact ⟨by rw [hR.out]; rfl, L3.out⟩
            · have hlw := l3.mono hB
              have hM := hide (rmapped_any ad n c B k lx x w2 (HP.out.below hlw) (HOK.out.below hlw) HX.out hn hnc HC.out)
              obtain ⟨mb, hmb⟩ : ∃ mb, mappedR (mapsL (lx.take k)) x.a.kind = mb := ⟨_, rfl⟩
              rw [hmb] at hM hE
              have d4 := blk_cell b1 4
              simp at d4
              have L3 := hide l3
              have hbw := hide (HBW.out.trans (hb2.mono HBW.out.size))
              clear hmb hlw l3 b1 hS hb2 c4
              go_wp2_with fail
              ((with_reducible refine hM.out.mono ?_))
              rintro e w3 ⟨rfl, rfl⟩
              clear hM d4
              cases mb
              · have hv : errX lx (k, x) = 35 := by rw [hE.out]; rfl
                have hR : Hid (helperM i mj mn 0 rk lo hi sz lx = 35) := hide (by rw [hN2.out, errL_at HX.out HZ.out (by rw [hv]; decide), hv]; rfl)
                clear hN2 hE hv
                go_wp2
                go_ret
                exact ⟨by rw [hR.out]; rfl, L3.out⟩
              · have hv : errX lx (k, x) = 0 := by rw [hE.out]; rfl
                have HZ2 := hide (zeros_more HX.out HZ.out hv)
                clear hE hv
                go_wp2
                go_roundw
                case rel => exact ⟨k + 1, by omega, by go_num, hbw.out, HZ2.out⟩
                case measure => simp [intOf]; omega
          · have hz : Zeros lx (placed 0 lx) := by
              have := HZ.out
              rwa [List.take_of_length_le (by rw [HLL.out]; omega)] at this
            have hval : ∀ m ∈ mapsL lx, 1 ≤ m ∧ m ≤ 8 := by
              have := maps_valid HZ.out
              rwa [List.take_of_length_le (by rw [HLL.out]; omega)] at this
            have hlw := l1.mono hB
            have hA := hide (ranswer_any i mj mn 0 rk lo hi sz A n c B lx wr (HP.out.below hlw) (HOK.out.below hlw) (Nat.le_trans hB l1.size) hn)
            rw [← ret_R _ _ _ _ _ hval] at hA
            have hN3 : Hid (helperM i mj mn 0 rk lo hi sz lx = if retM rk lo hi sz (mapsL lx) = false then 36 else 0) := hide (by rw [hN2.out, errL_zero hz]; rfl)
            generalize retM rk lo hi sz (mapsL lx) = rb at *
            have B2 := hide b1
            have L2 := hide l1
            have c0 := blk_cell b1 0
            have c1 := blk_cell b1 1
            have c2 := blk_cell b1 2
            have c3 := blk_cell b1 3
            have c4 := blk_cell b1 4
            have c5 := blk_cell b1 5
            have c6 := blk_cell b1 6
            have c7 := blk_cell b1 7
            have c8 := blk_cell b1 8
            simp at c0 c1 c2 c3 c4 c5 c6 c7 c8
            clear hN2 hz hval hlw b1 l1
            go_wp2_with fail
            ((with_reducible refine hA.out.mono ?_))
            rintro e w2 ⟨rfl, hb2⟩
            have b1 := (hb2.block _ (at_lt B2.out)).trans B2.out
            have L3 := hide (L2.out.trans (hb2.mono L2.out.size))
            have d3 := blk_cell b1 3
            simp at d3
            clear hA hb2 b1 c0 c1 c2 c3 c4 c5 c6 c7 c8
            cases rb
            · have hR : Hid (helperM i mj mn 0 rk lo hi sz lx = 36) := hide (by rw [hN3.out]; rfl)
              clear hN3
              go_wp2
              go_ret
              exact ⟨by rw [hR.out]; rfl, L3.out⟩
            · have hR : Hid (helperM i mj mn 0 rk lo hi sz lx = 0) := hide (by rw [hN3.out]; rfl)
              clear hN3
              go_wp2
              go_ret
              exact ⟨by rw [hR.out]; rfl, L3.out⟩
end Go.Proofs.Ytedjmgiblkjonaa
