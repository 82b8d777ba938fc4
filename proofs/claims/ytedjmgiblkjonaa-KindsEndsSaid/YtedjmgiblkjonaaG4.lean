/-
  The document's functions of arguments: whether a map suits one, the answer.
-/
import Derived.Test.YtedjmgiblkjonaaG2
namespace Go.Proofs.Ytedjmgiblkjonaa
open Go.RowKit Go.Maps
set_option linter.unusedVariables false

set_option maxRecDepth 100000 in
set_option maxHeartbeats 4000000 in
theorem rmapped_any (ad : Addr) (n c B i : Nat) (l : List ArgX) (x : ArgX) (w : World) (h : Rd w B 4 (some ad) n (xcells l)) (hok : ArgsOk w B l) (hx : l[i]? = some x) (hn : n ≤ 1000000) (hnc : n ≤ c) (hc : c ≤ maxLen) :
    Calls Try.prog 41 #[.slice (some ad) n c, .int .i64 (i : Int)] w fun e w' => e = .returned (.bool (mappedR (mapsL (l.take i)) x.a.kind)) ∧ w = w' := by
  have hll := h.xcells_len
  have hi : i < n := by have := (List.getElem?_eq_some_iff.1 hx).1; omega
  obtain ⟨ad', s, e', hab, hs, c0, _, _, _⟩ := h.argx hi
  cases e'
  rw [hx] at hs
  cases hs
  obtain ⟨A', nq, cq, hmv, q1, q2, q3⟩ := mapsV_rd (show ArgsOk w B (l.take i) from fun x hx => hok x (List.mem_of_mem_take hx))
  have hM := hide (rmaps_any (some ad) i c B (l.take i) w (h.take4 i (by omega)) (by omega))
  rw [hmv] at hM
  have hqn := q1.mks_len
  generalize mapsL (l.take i) = ms at *
  have h5 := hide (has_any 5 A' nq cq B ms w q1 q2)
  have h6 := hide (has_any 6 A' nq cq B ms w q1 q2)
  have h7 := hide (has_any 7 A' nq cq B ms w q1 q2)
  have h8 := hide (has_any 8 A' nq cq B ms w q1 q2)
  generalize x.a.kind = kd at *
  have HR : Hid (mappedR ms kd = if kd = 3 then decide (nq = 0) else if kd = 4 then decide (0 < nq) && !hasR ms 5 && !hasR ms 6 && !hasR ms 7 else if kd = 5 then decide (0 < nq) && !hasR ms 7 else if kd = 6 then decide (0 < nq) && !hasR ms 7 && !hasR ms 8 else true) := hide (by rw [← hqn]; rfl)
  generalize mappedR ms kd = res at *
  generalize hasR ms 5 = b5 at *
  generalize hasR ms 6 = b6 at *
  generalize hasR ms 7 = b7 at *
  generalize hasR ms 8 = b8 at *
  have hcm : c ≤ 9223372036854775807 := by unfold maxLen at hc; omega
  clear h hok hmv q1 q3 hqn hx hll hc
  by_cases e3 : kd = 3
  · subst e3
    by_cases z0 : nq = 0
    · subst z0
      go_enter Try.func41, Try.ntmps41
      go_wp2_with fail
      ((with_reducible refine hM.out.mono ?_))
      rintro e w1 ⟨rfl, rfl⟩
      clear hM h5 h6 h7 h8
      go_wp2
      go_ret
      exact ⟨by rw [HR.out]; rfl, rfl⟩
    · have hz : ((nq : Int) == 0) = false := by simp; omega
      go_enter Try.func41, Try.ntmps41
      go_wp2_with fail
      ((with_reducible refine hM.out.mono ?_))
      rintro e w1 ⟨rfl, rfl⟩
      clear hM h5 h6 h7 h8
      go_wp2
      go_ret
      exact ⟨by rw [HR.out]; simp [z0], rfl⟩
  · have p3 : (kd == 3) = false := by simpa using e3
    by_cases e4 : kd = 4
    · subst e4
      clear e3 p3 h8
      by_cases z0 : nq = 0
      · subst z0
        go_enter Try.func41, Try.ntmps41
        go_wp2_with fail
        ((with_reducible refine hM.out.mono ?_))
        rintro e w1 ⟨rfl, rfl⟩
        clear hM h5 h6 h7
        go_wp2
        go_ret
        exact ⟨by rw [HR.out]; rfl, rfl⟩
      · have hz : decide (0 < (nq : Int)) = true := by simp; omega
        have hzn : decide (0 < nq) = true := by simp; omega
        cases b5 <;> cases b6
        all_goals
          go_enter Try.func41, Try.ntmps41
          go_wp2_with (first
            | (go_at_call 71; ((with_reducible refine hM.out.mono ?_)); rintro e w1 ⟨rfl, rfl⟩)
            | (go_at_call 72; ((with_reducible refine h5.out.mono ?_)); rintro e w1 ⟨rfl, rfl⟩)
            | (go_at_call 72; ((with_reducible refine h6.out.mono ?_)); rintro e w1 ⟨rfl, rfl⟩)
            | (go_at_call 72; ((with_reducible refine h7.out.mono ?_)); rintro e w1 ⟨rfl, rfl⟩))
          go_ret
          exact ⟨by rw [HR.out]; simp [hzn], rfl⟩
    · have p4 : (kd == 4) = false := by simpa using e4
      by_cases e5 : kd = 5
      · subst e5
        clear e3 e4 p3 p4 h8 h5 h6
        by_cases z0 : nq = 0
        · subst z0
          go_enter Try.func41, Try.ntmps41
          go_wp2_with fail
          ((with_reducible refine hM.out.mono ?_))
          rintro e w1 ⟨rfl, rfl⟩
          clear hM h7
          go_wp2
          go_ret
          exact ⟨by rw [HR.out]; rfl, rfl⟩
        · have hz : decide (0 < (nq : Int)) = true := by simp; omega
          have hzn : decide (0 < nq) = true := by simp; omega
          go_enter Try.func41, Try.ntmps41
          go_wp2_with (first
            | (go_at_call 71; ((with_reducible refine hM.out.mono ?_)); rintro e w1 ⟨rfl, rfl⟩)
            | (go_at_call 72; ((with_reducible refine h7.out.mono ?_)); rintro e w1 ⟨rfl, rfl⟩))
          go_ret
          exact ⟨by rw [HR.out]; simp [hzn], rfl⟩
      · have p5 : (kd == 5) = false := by simpa using e5
        by_cases e6 : kd = 6
        · subst e6
          clear e3 e4 p3 p4 e5 p5 h5 h6
          by_cases z0 : nq = 0
          · subst z0
            go_enter Try.func41, Try.ntmps41
            go_wp2_with fail
            ((with_reducible refine hM.out.mono ?_))
            rintro e w1 ⟨rfl, rfl⟩
            clear hM h7 h8
            go_wp2
            go_ret
            exact ⟨by rw [HR.out]; rfl, rfl⟩
          · have hz : decide (0 < (nq : Int)) = true := by simp; omega
            have hzn : decide (0 < nq) = true := by simp; omega
            cases b7
            all_goals
              go_enter Try.func41, Try.ntmps41
              go_wp2_with (first
                | (go_at_call 71; ((with_reducible refine hM.out.mono ?_)); rintro e w1 ⟨rfl, rfl⟩)
                | (go_at_call 72; ((with_reducible refine h7.out.mono ?_)); rintro e w1 ⟨rfl, rfl⟩)
                | (go_at_call 72; ((with_reducible refine h8.out.mono ?_)); rintro e w1 ⟨rfl, rfl⟩))
              go_ret
              exact ⟨by rw [HR.out]; simp [hzn], rfl⟩
        · have p6 : (kd == 6) = false := by simpa using e6
          have HR2 : Hid (res = true) := hide (by rw [HR.out, if_neg e3, if_neg e4, if_neg e5, if_neg e6])
          clear HR h5 h6 h7 h8 e3 e4 e5 e6
          go_enter Try.func41, Try.ntmps41
          go_wp2_with fail
          ((with_reducible refine hM.out.mono ?_))
          rintro e w1 ⟨rfl, rfl⟩
          clear hM
          go_wp2
          go_ret
          exact ⟨by rw [HR2.out]; rfl, rfl⟩
theorem all_stop2 (f : Int → Bool) (l : List Int) (k : Nat) (b : Int) (h : l[k]? = some b) (hb : f b = false) : l.all f = false := List.all_eq_false.2 ⟨b, List.mem_of_getElem? h, by rw [hb]; decide⟩
set_option maxRecDepth 100000 in
set_option maxHeartbeats 4000000 in
theorem ranswer_any (i mj mn ck rk lo hi sz : Int) (A : Option Addr) (n c B : Nat) (lx : List ArgX) (w : World) (hp : Rd w B 4 A n (xcells lx)) (hok : ArgsOk w B lx) (hB : B ≤ w.heap.size) (hn : n ≤ 1000000) :
    Calls Try.prog 42 #[.agg #[.int .i64 i, .int .i64 mj, .int .i64 mn, .int .u8 ck, .slice A n c, .int .u8 rk, .int .i64 lo, .int .i64 hi, .int .i64 sz]] w fun e w' => e = .returned (.bool (ansR rk lo hi sz (mapsL lx))) ∧ Below w.heap.size w w' := by
  have hN : Hid (ansR rk lo hi sz (mapsL lx) = if rk = 1 then decide (lo ≤ hi) && sz == 0 else if rk = 2 then (mapsL lx).all (fun m => decide (m ≤ 4)) && decide (0 < (mapsL lx).length) && lo == 0 && hi == 0 && sz == 0 else if rk = 3 then lo == 0 && hi == 0 && inI 1 1024 sz else false) := hide rfl
  obtain ⟨A', nq, cq, hmv, q1, q2, q3⟩ := mapsV_rd hok
  have hO : Hid (∀ X : World, Below w.heap.size w X → Calls Try.prog 71 #[.slice A n c] X fun e w' => e = .returned (.slice A' nq cq) ∧ X = w') := hide (fun X hX => by
    have := rmaps_any A n c B lx X (hp.below (hX.mono hB)) hn
    rwa [hmv] at this)
  have hIn := hide (fun w => within_any sz 1 1024 w)
  have HB := hide (below2 w (.cells #[.int .i64 i, .int .i64 mj, .int .i64 mn, .int .u8 ck, .slice A n c, .int .u8 rk, .int .i64 lo, .int .i64 hi, .int .i64 sz] 32) (.cells #[.int .u8 rk, .int .i64 lo, .int .i64 hi, .int .i64 sz] 30))
  clear hp hok hmv q3
  have hql := hide q1.mks_len
  by_cases k1 : rk = 1
  · subst k1
    clear hO hIn q1
    by_cases z : sz = 0
    · subst z
      go_enter Try.func42, Try.ntmps42
      go_wp2
      all_goals
        go_ret
        exact ⟨by rw [hN.out]; simp [*], HB.out⟩
    · have ez : (sz == 0) = false := by simpa using z
      go_enter Try.func42, Try.ntmps42
      go_wp2
      all_goals
        go_ret
        exact ⟨by rw [hN.out]; simp [*], HB.out⟩
  · by_cases k2 : rk = 2
    · subst k2
      have hN2 : Hid (ansR 2 lo hi sz (mapsL lx) = ((mapsL lx).all (fun m => decide (m ≤ 4)) && decide (0 < nq) && lo == 0 && hi == 0 && sz == 0)) := hide (by rw [hN.out, hql.out]; rfl)
      have hrd := q1.below (HB.out.mono hB)
      have x2 := (two_boxes w (.cells #[.int .i64 i, .int .i64 mj, .int .i64 mn, .int .u8 ck, .slice A n c, .int .u8 2, .int .i64 lo, .int .i64 hi, .int .i64 sz] 32) (.cells #[.int .u8 2, .int .i64 lo, .int .i64 hi, .int .i64 sz] 30)).2
      have y1 := blk_cell x2 1
      have y2 := blk_cell x2 2
      have y3 := blk_cell x2 3
      simp only [List.getElem?_toArray, List.getElem?_cons_zero, List.getElem?_cons_succ] at y1 y2 y3
      clear hN k1 hIn q1 x2
      go_enter Try.func42, Try.ntmps42
      go_wp2_with fail
      ((with_reducible refine (hO.out _ HB.out).mono ?_))
      rintro e w1 ⟨rfl, rfl⟩
      clear hO
      go_wp2_with fail
      go_loop [5] (fun p => ∃ k : Nat, k ≤ nq ∧ p = .int .i64 k ∧ ((mapsL lx).take k).all (fun m => decide (m ≤ 4)) = true) (fun p => nq - (intOf p).toNat)
      case atStart => exact ⟨0, Nat.zero_le _, rfl, by simp⟩
      case round =>
        obtain ⟨k, hk, rfl, htk⟩ := hrel
        have HT := hide htk
        clear htk
        by_cases hlt : k < nq
        · obtain ⟨ad, b, rfl, hx, hc⟩ := hrd.mk hlt
          have HX := hide hx
          clear hrd hx y1 y2 y3
          by_cases hb : b ≤ 4
          · have HM := hide (all_take2 (fun m => decide (m ≤ 4)) (mapsL lx) k b HX.out HT.out (by simpa using hb))
            have hb2 : decide (4 < b) = false := by simp; omega
            clear hN2
            go_wp2
            go_round
            case rel => exact ⟨k + 1, by omega, by go_num, HM.out⟩
            case measure => simp [intOf]; omega
          · have hall := all_stop2 (fun m => decide (m ≤ 4)) (mapsL lx) k b HX.out (by simpa using hb)
            have HR : Hid (ansR 2 lo hi sz (mapsL lx) = false) := hide (by rw [hN2.out, hall]; rfl)
            have hb2 : decide (4 < b) = true := by simp; omega
            clear hN2 hall
            go_wp2
            go_ret
            exact ⟨by rw [HR.out]; rfl, HB.out⟩
        · have hall : (mapsL lx).all (fun m => decide (m ≤ 4)) = true := by
            have := HT.out
            rwa [List.take_of_length_le (by rw [hql.out]; omega)] at this
          have HN3 : Hid (ansR 2 lo hi sz (mapsL lx) = (decide (0 < nq) && lo == 0 && hi == 0 && sz == 0)) := hide (by rw [hN2.out, hall]; simp)
          clear hrd hN2 hall
          by_cases n0 : nq = 0
          · subst n0
            have HR : Hid (ansR 2 lo hi sz (mapsL lx) = false) := hide (by rw [HN3.out]; rfl)
            clear HN3
            go_wp2
            go_ret
            exact ⟨by rw [HR.out]; rfl, HB.out⟩
          · have hd : decide (0 < (nq : Int)) = true := by simp; omega
            have hdn : decide (0 < nq) = true := by simp; omega
            have HN4 : Hid (ansR 2 lo hi sz (mapsL lx) = (lo == 0 && hi == 0 && sz == 0)) := hide (by rw [HN3.out, hdn]; simp)
            clear HN3
            by_cases l0 : lo = 0
            · subst l0
              by_cases h0 : hi = 0
              · subst h0
                have HR : Hid (ansR 2 0 0 sz (mapsL lx) = (sz == 0)) := hide (by rw [HN4.out]; simp)
                clear HN4
                go_wp2
                go_ret
                exact ⟨by rw [HR.out]; rfl, HB.out⟩
              · have ez : (hi == 0) = false := by simpa using h0
                have HR : Hid (ansR 2 0 hi sz (mapsL lx) = false) := hide (by rw [HN4.out, ez]; rfl)
                clear HN4
                go_wp2
                go_ret
                exact ⟨by rw [HR.out]; rfl, HB.out⟩
            · have ez : (lo == 0) = false := by simpa using l0
              have HR : Hid (ansR 2 lo hi sz (mapsL lx) = false) := hide (by rw [HN4.out, ez]; rfl)
              clear HN4
              go_wp2
              go_ret
              exact ⟨by rw [HR.out]; rfl, HB.out⟩
    · have e1 : (rk == 1) = false := by simpa using k1
      have e2 : (rk == 2) = false := by simpa using k2
      clear hO q1
      by_cases k3 : rk = 3
      · subst k3
        have hN2 : Hid (ansR 3 lo hi sz (mapsL lx) = (lo == 0 && hi == 0 && inI 1 1024 sz)) := hide (by rw [hN.out]; rfl)
        clear hN k1 k2 e1 e2
        generalize inI 1 1024 sz = bs at *
        by_cases l0 : lo = 0
        · subst l0
          by_cases h0 : hi = 0
          · subst h0
            go_enter Try.func42, Try.ntmps42
            go_wp2_with (go_at_call 32; ((with_reducible refine (hIn.out _).mono ?_)); rintro e w1 ⟨rfl, rfl⟩)
            go_ret
            exact ⟨by rw [hN2.out]; simp, HB.out⟩
          · have ez : (hi == 0) = false := by simpa using h0
            go_enter Try.func42, Try.ntmps42
            go_wp2
            go_ret
            exact ⟨by rw [hN2.out]; simp [h0], HB.out⟩
        · have ez : (lo == 0) = false := by simpa using l0
          go_enter Try.func42, Try.ntmps42
          go_wp2
          go_ret
          exact ⟨by rw [hN2.out]; simp [l0], HB.out⟩
      · have e3 : (rk == 3) = false := by simpa using k3
        have hN2 : Hid (ansR rk lo hi sz (mapsL lx) = false) := hide (by rw [hN.out, if_neg k1, if_neg k2, if_neg k3])
        clear hN k1 k2 k3
        go_enter Try.func42, Try.ntmps42
        go_wp2
        go_ret
        exact ⟨by rw [hN2.out]; rfl, HB.out⟩
end Go.Proofs.Ytedjmgiblkjonaa
