/-
  A helper's answer; is it the host's own one; a number that is picked.
-/
import Derived.Test.YtedjmgiblkjonaaE6
namespace Go.Proofs.Ytedjmgiblkjonaa
open Go.RowKit Go.Maps
set_option linter.unusedVariables false

set_option maxRecDepth 100000 in
set_option maxHeartbeats 1000000 in
theorem every67_any (lo hi : Int) (A : Option Addr) (n c B : Nat) (l : List Int) (w : World) (h : Rd w B 1 A n (mks l)) (hB : B ≤ w.heap.size) (hn : n ≤ 1000000) :
    Calls Try.prog 65 #[.slice A n c, .func (.func 67) #[.agg #[.int .u8 lo, .int .u8 hi]] #[]] w fun e w' => e = .returned (.bool (everyM (inI lo hi) l)) ∧ Below w.heap.size w w' := by
  have hl := hide h.mks_len
  have HF := hide (fun x w => has_mk lo hi x w)
  go_enter Try.func65, Try.ntmps65
  go_wp2
  go_loopw [9] (fun p wr => ∃ k : Nat, k ≤ n ∧ p = .int .i64 k ∧ Below w.heap.size w wr ∧ (l.take k).all (inI lo hi) = true) (fun p _ => n - (intOf p).toNat)
  case atStart => exact ⟨0, Nat.zero_le _, rfl, Below.refl _ _, by simp⟩
  case round =>
    obtain ⟨k, hk, rfl, hb, htk⟩ := hrel
    have HT := hide htk
    clear htk
    by_cases hlt : k < n
    · obtain ⟨ad, b, rfl, hx, hc⟩ := (h.below (hb.mono hB)).mk hlt
      have hC := hide (HF.out b wr)
      have HB := hide hb
      have HX := hide hx
      clear hb h hx
      cases hfb : inI lo hi b
      · rw [hfb] at hC
        have HM : Hid (everyM (inI lo hi) l = false) := hide (by
          unfold everyM
          have : l.all (inI lo hi) = false := List.all_eq_false.2 ⟨b, List.mem_of_getElem? HX.out, by rw [hfb]; decide⟩
          rw [this]; rfl)
        clear hfb
        go_wp2_with (go_at_call 67; ((with_reducible refine hC.out.mono ?_)); rintro e w1 ⟨rfl, hb1⟩; have HB1 := hide (HB.out.trans (hb1.mono HB.out.size)); clear hb1)
        go_ret
        exact ⟨by rw [HM.out]; rfl, HB1.out⟩
      · rw [hfb] at hC
        have HM := hide (all_take2 (inI lo hi) l k b HX.out HT.out hfb)
        clear hfb
        go_wp2_with (go_at_call 67; ((with_reducible refine hC.out.mono ?_)); rintro e w1 ⟨rfl, hb1⟩; have HB1 := hide (HB.out.trans (hb1.mono HB.out.size)); clear hb1)
        go_roundw
        case rel => exact ⟨k + 1, by omega, by go_num, HB1.out, HM.out⟩
        case measure => simp [intOf]; omega
    · have HB := hide hb
      have HM : Hid (everyM (inI lo hi) l = decide (0 < n)) := hide (by
        unfold everyM
        have := HT.out
        rw [List.take_of_length_le (by rw [hl.out]; omega)] at this
        rw [this, hl.out]; rfl)
      clear hb h
      by_cases n0 : n = 0
      · subst n0
        go_wp2
        go_ret
        exact ⟨by rw [HM.out]; rfl, HB.out⟩
      · have hd : decide (0 < (n : Int)) = true := by simp; omega
        have hd' : decide (0 < n) = true := by simp; omega
        rw [hd'] at HM
        go_wp2
        go_ret
        exact ⟨by rw [HM.out]; rfl, HB.out⟩
def retM (rk lo hi sz : Int) (maps : List Int) : Bool :=
  if rk = 1 then decide (lo ≤ hi) && sz == 0 else if rk = 2 then lo == 0 && hi == 0 && sz == 0 && everyM (inI 1 4) maps else if rk = 3 then lo == 0 && hi == 0 && inI 1 1024 sz else false
set_option maxRecDepth 100000 in
set_option maxHeartbeats 2000000 in
theorem rightRet_any (i mj mn ck rk lo hi sz : Int) (A : Option Addr) (n c B : Nat) (lx : List ArgX) (w : World) (hp : Rd w B 4 A n (xcells lx)) (hok : ArgsOk w B lx) (hB : B ≤ w.heap.size) (hn : n ≤ 1000000) :
    Calls Try.prog 36 #[.agg #[.int .i64 i, .int .i64 mj, .int .i64 mn, .int .u8 ck, .slice A n c, .int .u8 rk, .int .i64 lo, .int .i64 hi, .int .i64 sz]] w fun e w' => e = .returned (.bool (retM rk lo hi sz (mapsL lx))) ∧ Below w.heap.size w w' := by
  have hN : Hid (retM rk lo hi sz (mapsL lx) = if rk = 1 then decide (lo ≤ hi) && sz == 0 else if rk = 2 then lo == 0 && hi == 0 && sz == 0 && everyM (inI 1 4) (mapsL lx) else if rk = 3 then lo == 0 && hi == 0 && inI 1 1024 sz else false) := hide rfl
  obtain ⟨A', nq, cq, hmv, q1, q2, q3⟩ := mapsV_rd hok
  have hO : Hid (∀ X : World, Below w.heap.size w X → Calls Try.prog 64 #[.slice A n c] X fun e w' => e = .returned (.slice A' nq cq) ∧ Below X.heap.size X w') := hide (fun X hX => by
    have := mapsOf_any A n c B lx X (hp.below (hX.mono hB)) (Nat.le_trans hB hX.size) hn
    rwa [hmv] at this)
  have hV : Hid (∀ X : World, Below w.heap.size w X → Calls Try.prog 65 #[.slice A' nq cq, .func (.func 67) #[.agg #[.int .u8 1, .int .u8 4]] #[]] X fun e w' => e = .returned (.bool (everyM (inI 1 4) (mapsL lx))) ∧ Below X.heap.size X w') := hide (fun X hX =>
    every67_any 1 4 A' nq cq B (mapsL lx) X (q1.below (hX.mono hB)) (Nat.le_trans hB hX.size) q2)
  clear hp hok hmv q1 q2 q3
  have HB := hide (below2 w (.cells #[.int .i64 i, .int .i64 mj, .int .i64 mn, .int .u8 ck, .slice A n c, .int .u8 rk, .int .i64 lo, .int .i64 hi, .int .i64 sz] 32) (.cells #[.int .u8 rk, .int .i64 lo, .int .i64 hi, .int .i64 sz] 30))
  by_cases k1 : rk = 1
  · subst k1
    clear hO hV
    by_cases z : sz = 0
    · subst z
      go_enter Try.func36, Try.ntmps36
      go_wp2
      all_goals
        go_ret
        exact ⟨by rw [hN.out]; simp [*], HB.out⟩
    · have ez : (sz == 0) = false := by simpa using z
      go_enter Try.func36, Try.ntmps36
      go_wp2
      all_goals
        go_ret
        exact ⟨by rw [hN.out]; simp [*], HB.out⟩
  · by_cases k2 : rk = 2
    · subst k2
      have hN2 : Hid (retM 2 lo hi sz (mapsL lx) = (lo == 0 && hi == 0 && sz == 0 && everyM (inI 1 4) (mapsL lx))) := hide (by rw [hN.out]; rfl)
      clear hN k1
      generalize everyM (inI 1 4) (mapsL lx) = ev at *
      by_cases l0 : lo = 0
      · subst l0
        by_cases h0 : hi = 0
        · subst h0
          by_cases s0 : sz = 0
          · subst s0
            go_enter Try.func36, Try.ntmps36
            go_wp2_with fail
            ((with_reducible refine (hO.out _ HB.out).mono ?_))
            rintro e w1 ⟨rfl, hb1⟩
            have HB1 := hide (HB.out.trans (hb1.mono HB.out.size))
            clear hb1 hO HB
            go_wp2_with fail
            ((with_reducible refine (from_mk 1 4 w1).mono ?_))
            rintro e w2 ⟨rfl, hb2⟩
            have HB2 := hide (HB1.out.trans (hb2.mono HB1.out.size))
            clear hb2 HB1
            go_wp2_with fail
            ((with_reducible refine (hV.out _ HB2.out).mono ?_))
            rintro e w3 ⟨rfl, hb3⟩
            have HB3 := hide (HB2.out.trans (hb3.mono HB2.out.size))
            clear hb3 HB2 hV
            go_wp2
            go_ret
            exact ⟨by rw [hN2.out]; simp, HB3.out⟩
          · have ez : (sz == 0) = false := by simpa using s0
            clear hO hV
            go_enter Try.func36, Try.ntmps36
            go_wp2
            go_ret
            exact ⟨by rw [hN2.out]; simp [*], HB.out⟩
        · have ez : (hi == 0) = false := by simpa using h0
          clear hO hV
          go_enter Try.func36, Try.ntmps36
          go_wp2
          go_ret
          exact ⟨by rw [hN2.out]; simp [*], HB.out⟩
      · have ez : (lo == 0) = false := by simpa using l0
        clear hO hV
        go_enter Try.func36, Try.ntmps36
        go_wp2
        go_ret
        exact ⟨by rw [hN2.out]; simp [*], HB.out⟩
    · have e1 : (rk == 1) = false := by simpa using k1
      have e2 : (rk == 2) = false := by simpa using k2
      clear hO hV
      by_cases k3 : rk = 3
      · subst k3
        have hN2 : Hid (retM 3 lo hi sz (mapsL lx) = (lo == 0 && hi == 0 && inI 1 1024 sz)) := hide (by rw [hN.out]; rfl)
        have hF := hide (fun w => from_int 1 1024 w)
        have hH := hide (fun w => has_int 1 1024 sz w)
        clear hN k1 k2 e1 e2
        generalize inI 1 1024 sz = bs at *
        obtain ⟨c0, c1, c2, c3⟩ := later4 (two_boxes w (.cells #[.int .i64 i, .int .i64 mj, .int .i64 mn, .int .u8 ck, .slice A n c, .int .u8 3, .int .i64 lo, .int .i64 hi, .int .i64 sz] 32) (.cells #[.int .u8 3, .int .i64 lo, .int .i64 hi, .int .i64 sz] 30)).2
        by_cases l0 : lo = 0
        · subst l0
          by_cases h0 : hi = 0
          · subst h0
            go_enter Try.func36, Try.ntmps36
            go_wp2
            refine wp_region_later (by kernel_rfl) (by kernel_rfl) ?_
            repeat (go_big_quiet_step ((first | exact Later.calls _ hF.out | exact Later.calls _ hH.out)))
            refine wpQuiet_nil ?_
            rintro _ ⟨x, rfl⟩
            have HX := hide (HB.out.trans (x.below.mono HB.out.size))
            clear c0 c1 c2 c3
            go_wp2
            go_ret
            exact ⟨by rw [hN2.out]; simp, HX.out⟩
          · have ez : (hi == 0) = false := by simpa using h0
            go_enter Try.func36, Try.ntmps36
            go_wp2
            refine wp_region_later (by kernel_rfl) (by kernel_rfl) ?_
            repeat (go_big_quiet_step ((first | exact Later.calls _ hF.out | exact Later.calls _ hH.out)))
            refine wpQuiet_nil ?_
            rintro _ ⟨x, rfl⟩
            have HX := hide (HB.out.trans (x.below.mono HB.out.size))
            clear c0 c1 c2 c3
            go_wp2
            go_ret
            exact ⟨by rw [hN2.out]; simp [h0], HX.out⟩
        · have ez : (lo == 0) = false := by simpa using l0
          go_enter Try.func36, Try.ntmps36
          go_wp2
          refine wp_region_later (by kernel_rfl) (by kernel_rfl) ?_
          repeat (go_big_quiet_step ((first | exact Later.calls _ hF.out | exact Later.calls _ hH.out)))
          refine wpQuiet_nil ?_
          rintro _ ⟨x, rfl⟩
          have HX := hide (HB.out.trans (x.below.mono HB.out.size))
          clear c0 c1 c2 c3
          go_wp2
          go_ret
          exact ⟨by rw [hN2.out]; simp [l0], HX.out⟩
      · have e3 : (rk == 3) = false := by simpa using k3
        have hN2 : Hid (retM rk lo hi sz (mapsL lx) = false) := hide (by rw [hN.out, if_neg k1, if_neg k2, if_neg k3])
        clear hN k1 k2 k3
        go_enter Try.func36, Try.ntmps36
        go_wp2
        go_ret
        exact ⟨by rw [hN2.out]; rfl, HB.out⟩
end Go.Proofs.Ytedjmgiblkjonaa
