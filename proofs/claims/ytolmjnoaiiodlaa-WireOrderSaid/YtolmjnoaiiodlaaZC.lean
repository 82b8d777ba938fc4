/-
  WireOrder's walk.
-/
import Derived.Test.YtolmjnoaiiodlaaZB
namespace Go.Proofs.Ytolmjnoaiiodlaa
open Go.RowKit Go.Maps Forest
set_option linter.unusedVariables false

set_option maxRecDepth 100000 in
set_option maxHeartbeats 4000000 in
theorem law_wireOrder (a b : Int) (ha : numOk a) (hb : numOk b) (w : World) : Calls Try.prog 5 #[.int .i64 a, .int .i64 b] w fun e w' => e = .returned (.bool true) ∧ Below w.heap.size w w' := by
  go_enter Try.func5, Try.ntmps5
  go_wp2_with fail
  refine (awake_any w).mono ?_
  rintro e w1 ⟨rfl, hb1⟩
  have HB1 := hide hb1
  clear hb1
  go_wp2_with fail
  rotate_left
  · have hX : min a b < 0 := by omega
    refine (of_any a w1).mono ?_
    rintro e y1 ⟨rfl, hb⟩
    have HY1 := hide (HB1.out.trans (hb.mono HB1.out.size))
    clear hb
    obtain ⟨L, x, y, hL, hxy, hp, hq⟩ := twins ha
    have HXY := hide hxy
    have HP := hide hp
    have HQ := hide hq
    have hwr : wrap64 (-1 - a) = -1 - a := by unfold numOk at ha; unfold wrap64; omega
    obtain ⟨k, hk⟩ : ∃ k, k = L.length := ⟨_, rfl⟩
    rw [← hk] at HP HQ hL
    have HK := hide hk
    clear hxy hp hq hk
    go_wp2_with fail
    refine (HP.out y1).mono ?_
    rintro e y2 ⟨A, c, rfl, hr, hb, hc⟩
    have HY2 := hide (HY1.out.trans (hb.mono HY1.out.size))
    have HR2 := hide hr
    have HC2 := hide hc
    clear hb hr hc HP
    go_wp2_with fail
    rw [hwr]
    refine (of_any (-1 - a) y2).mono ?_
    rintro e y3 ⟨rfl, hb⟩
    have HY3 := hide (HY2.out.trans (hb.mono HY2.out.size))
    have HR3 := hide (HR2.out.below hb)
    have HS3 := hide hb.size
    clear hb HR2
    go_wp2_with fail
    refine (HQ.out y3).mono ?_
    rintro e y4 ⟨A', c', rfl, hr, hb, hc⟩
    have HY4 := hide (HY3.out.trans (hb.mono HY3.out.size))
    have HR4 := hide ((HR3.out.below (hb.mono HS3.out)).mono (Nat.le_trans HS3.out hb.size))
    have HT4 := hide hr
    have HC4 := hide hc
    clear hb hr hc HQ HR3
    go_wp2_with fail
    obtain ⟨ad, rfl, hlt, hcx⟩ := HR4.out.last HK.out.symm
    obtain ⟨ad', rfl, hlt', hcy⟩ := HT4.out.last HK.out.symm
    have hxy := HXY.out
    have hcut1 := cut_bytes (some ad) (k + 1) c k (by have := HC2.out; omega)
    have hcut2 := cut_bytes (some ad') (k + 1) c' k (by have := HC4.out; omega)
    have HS : Hid (∀ W, Below y4.heap.size y4 W → Calls Try.prog 12 #[.slice (some ad) k c, .slice (some ad') k c'] W fun e w' => e = .returned (.bool true) ∧ Below W.heap.size W w') := fun W hb => sameBytes_yes (some ad) (some ad') k c c' y4.heap.size L W ((HR4.out.most HK.out.symm).below hb) ((HT4.out.most HK.out.symm).below hb) hb.size (by omega)
    have HCX : Hid (∀ W, Below y4.heap.size y4 W → W.cell? (ad.add k) = some (.int .u8 x)) := fun W hb => (hb.cell (p := ad.add k) (by rw [block_add]; exact hlt)).trans hcx
    have HCY : Hid (∀ W, Below y4.heap.size y4 W → W.cell? (ad'.add k) = some (.int .u8 y)) := fun W hb => (hb.cell (p := ad'.add k) (by rw [block_add]; exact hlt')).trans hcy
    clear hcx hcy hlt hlt' HXY HC2 HC4 HS3
    go_region_with (go_at_call 12; refine (HS.out _ (Below.refl _ _).drew).mono ?_; rintro e y5 ⟨rfl, hb⟩; have HY5 := hide ((Below.refl y4.heap.size y4).drew.trans (hb.mono (Below.refl y4.heap.size y4).drew.size)); have d1 := HCX.out _ HY5.out; have d2 := HCY.out _ HY5.out; clear hb)
    all_goals
      go_wp2_with fail
      first | go_ret | go_ret2
      exact ⟨rfl, HY4.out.trans (HY5.out.mono HY4.out.size)⟩
  · have hX : 0 ≤ min a b := by omega
    refine (of_any (min a b) w1).mono ?_
    rintro e w2 ⟨rfl, hb⟩
    have HB2 := hide (HB1.out.trans (hb.mono HB1.out.size))
    clear hb
    have hlo : numOk (min a b) := by unfold numOk at *; omega
    have hhi : numOk (max a b) := by unfold numOk at *; omega
    have hle := num_mono hX (show min a b ≤ max a b by omega)
    have hs1 := num_small (min a b)
    have hs2 := num_small (max a b)
    go_wp2_with fail
    refine (numSize_any hlo w2).mono ?_
    rintro e w3 ⟨rfl, hb⟩
    have HB3 := hide (HB2.out.trans (hb.mono HB2.out.size))
    clear hb
    go_wp2_with fail
    refine (of_any (max a b) w3).mono ?_
    rintro e w4 ⟨rfl, hb⟩
    have HB4 := hide (HB3.out.trans (hb.mono HB3.out.size))
    clear hb
    go_wp2_with fail
    refine (numSize_any hhi w4).mono ?_
    rintro e w5 ⟨rfl, hb⟩
    have HB5 := hide (HB4.out.trans (hb.mono HB4.out.size))
    clear hb
    go_wp2_with fail
    refine (of_any a w5).mono ?_
    rintro e y1 ⟨rfl, hb⟩
    have HY1 := hide (HB5.out.trans (hb.mono HB5.out.size))
    clear hb
    obtain ⟨L, x, y, hL, hxy, hp, hq⟩ := twins ha
    have HXY := hide hxy
    have HP := hide hp
    have HQ := hide hq
    have hwr : wrap64 (-1 - a) = -1 - a := by unfold numOk at ha; unfold wrap64; omega
    obtain ⟨k, hk⟩ : ∃ k, k = L.length := ⟨_, rfl⟩
    rw [← hk] at HP HQ hL
    have HK := hide hk
    clear hxy hp hq hk
    go_wp2_with fail
    refine (HP.out y1).mono ?_
    rintro e y2 ⟨A, c, rfl, hr, hb, hc⟩
    have HY2 := hide (HY1.out.trans (hb.mono HY1.out.size))
    have HR2 := hide hr
    have HC2 := hide hc
    clear hb hr hc HP
    go_wp2_with fail
    rw [hwr]
    refine (of_any (-1 - a) y2).mono ?_
    rintro e y3 ⟨rfl, hb⟩
    have HY3 := hide (HY2.out.trans (hb.mono HY2.out.size))
    have HR3 := hide (HR2.out.below hb)
    have HS3 := hide hb.size
    clear hb HR2
    go_wp2_with fail
    refine (HQ.out y3).mono ?_
    rintro e y4 ⟨A', c', rfl, hr, hb, hc⟩
    have HY4 := hide (HY3.out.trans (hb.mono HY3.out.size))
    have HR4 := hide ((HR3.out.below (hb.mono HS3.out)).mono (Nat.le_trans HS3.out hb.size))
    have HT4 := hide hr
    have HC4 := hide hc
    clear hb hr hc HQ HR3
    go_wp2_with fail
    obtain ⟨ad, rfl, hlt, hcx⟩ := HR4.out.last HK.out.symm
    obtain ⟨ad', rfl, hlt', hcy⟩ := HT4.out.last HK.out.symm
    have hxy := HXY.out
    have hcut1 := cut_bytes (some ad) (k + 1) c k (by have := HC2.out; omega)
    have hcut2 := cut_bytes (some ad') (k + 1) c' k (by have := HC4.out; omega)
    have HS : Hid (∀ W, Below y4.heap.size y4 W → Calls Try.prog 12 #[.slice (some ad) k c, .slice (some ad') k c'] W fun e w' => e = .returned (.bool true) ∧ Below W.heap.size W w') := fun W hb => sameBytes_yes (some ad) (some ad') k c c' y4.heap.size L W ((HR4.out.most HK.out.symm).below hb) ((HT4.out.most HK.out.symm).below hb) hb.size (by omega)
    have HCX : Hid (∀ W, Below y4.heap.size y4 W → W.cell? (ad.add k) = some (.int .u8 x)) := fun W hb => (hb.cell (p := ad.add k) (by rw [block_add]; exact hlt)).trans hcx
    have HCY : Hid (∀ W, Below y4.heap.size y4 W → W.cell? (ad'.add k) = some (.int .u8 y)) := fun W hb => (hb.cell (p := ad'.add k) (by rw [block_add]; exact hlt')).trans hcy
    clear hcx hcy hlt hlt' HXY HC2 HC4 HS3
    go_region_with (go_at_call 12; refine (HS.out _ (Below.refl _ _).drew).mono ?_; rintro e y5 ⟨rfl, hb⟩; have HY5 := hide ((Below.refl y4.heap.size y4).drew.trans (hb.mono (Below.refl y4.heap.size y4).drew.size)); have d1 := HCX.out _ HY5.out; have d2 := HCY.out _ HY5.out; clear hb)
    all_goals
      go_wp2_with fail
      first | go_ret | go_ret2
      exact ⟨rfl, HY4.out.trans (HY5.out.mono HY4.out.size)⟩
end Go.Proofs.Ytolmjnoaiiodlaa
