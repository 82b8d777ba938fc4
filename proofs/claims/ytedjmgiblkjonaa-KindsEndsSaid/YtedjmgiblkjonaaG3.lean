/-
  The document's functions of arguments: the error of one, the answer; the error of a helper that is none of the host's own.
-/
import Derived.Test.YtedjmgiblkjonaaG2
namespace Go.Proofs.Ytedjmgiblkjonaa
open Go.RowKit Go.Maps
set_option linter.unusedVariables false

set_option maxRecDepth 100000 in
set_option maxHeartbeats 4000000 in
theorem rsort_any (ad : Addr) (n c B i : Nat) (l : List ArgX) (x : ArgX) (w : World) (h : Rd w B 4 (some ad) n (xcells l)) (hok : ArgsOk w B l) (hB : B ≤ w.heap.size) (hx : l[i]? = some x) (hn : n ≤ 1000000) :
    Calls Try.prog 40 #[.slice (some ad) n c, .int .i64 (i : Int)] w fun e w' => e = .returned (.bool (sortR l i x)) ∧ Below w.heap.size w w' := by
  have hll := h.xcells_len
  have hi : i < n := by have := (List.getElem?_eq_some_iff.1 hx).1; omega
  obtain ⟨ad', s, e', hab, hs, c0, c1, c2, c3⟩ := h.argx hi
  cases e'
  rw [hx] at hs
  cases hs
  obtain ⟨k1, k2, k3, k4, k5⟩ := hok x (List.mem_of_getElem? hx)
  obtain ⟨⟨kd, lo, hl, mp⟩, Am, cm⟩ := x
  simp only at c0 c1 c2 c3 k1 k2 k3 k4 k5
  have HS : Hid (sortR l i ⟨⟨kd, lo, hl, mp⟩, Am, cm⟩ = (numbersM kd lo hl && (if kd = 3 then kindsR mp else decide (mp.length = 0)) && pairR l i kd)) := hide rfl
  have HN : Hid (numbersM kd lo hl = if kd = 1 then decide (lo ≤ hl) else if kd = 9 then lo == 0 && inI 1 1024 hl else inI 1 9 kd && lo == 0 && hl == 0) := hide rfl
  have HP : Hid (pairR l i kd = if kd = 7 ∨ kd = 8 then (match l[i + 1]? with | some y => y.a.kind == 9 | none => false) else if kd = 9 then (decide (0 < i) && (match l[i - 1]? with | some y => inI 7 8 y.a.kind | none => false)) else true) := hide rfl
  have HB := hide (below1 w (.cells #[.int .u8 kd, .int .i64 lo, .int .i64 hl, .slice Am mp.length cm] 46))
  have HK : Hid (∀ X : World, Below w.heap.size w X → Calls Try.prog 70 #[.slice Am mp.length cm] X fun e w' => e = .returned (.bool (kindsR mp)) ∧ Below X.heap.size X w') := hide (fun X hX => rkinds_any Am mp.length cm B mp X (k1.below (hX.mono hB)) (Nat.le_trans hB hX.size) k2)
  have HI := hide hi
  have HH := hide h
  generalize sortR l i ⟨⟨kd, lo, hl, mp⟩, Am, cm⟩ = res at *
  generalize hml : mp.length = z at *
  have HML := hide hml
  have hz : z ≤ 1000000 := k2
  have hbx := below1 w (.cells #[.int .u8 kd, .int .i64 lo, .int .i64 hl, .slice Am z cm] 46)
  clear k1 k2 k3 k4 k5 hok hml h hx
  by_cases hk1 : kd < 1
  · have HR : Hid (res = false) := hide (by rw [HS.out, HN.out, if_neg (by omega), if_neg (by omega)]; unfold inI; simp; omega)
    clear HS HN HP HK HH
    go_enter Try.func40, Try.ntmps40
    go_wp2
    go_ret
    exact ⟨by rw [HR.out]; rfl, HB.out⟩
  · by_cases hk9 : 9 < kd
    · have HR : Hid (res = false) := hide (by rw [HS.out, HN.out, if_neg (by omega), if_neg (by omega)]; unfold inI; simp; omega)
      clear HS HN HP HK HH
      go_enter Try.func40, Try.ntmps40
      go_wp2
      go_ret
      exact ⟨by rw [HR.out]; rfl, HB.out⟩
    · by_cases e1 : kd = 1
      · subst e1
        by_cases hlo : lo ≤ hl
        · by_cases z0 : z = 0
          · subst z0
            have HR : Hid (res = true) := hide (by rw [HS.out, HN.out, HP.out]; simp [hlo])
            clear HS HN HP HK HH
            go_enter Try.func40, Try.ntmps40
            go_wp2
            go_ret
            exact ⟨by rw [HR.out]; rfl, HB.out⟩
          · have hd : decide (0 < (z : Int)) = true := by simp; omega
            have HR : Hid (res = false) := hide (by rw [HS.out, HN.out, HP.out]; simp [z0])
            clear HS HN HP HK HH
            go_enter Try.func40, Try.ntmps40
            go_wp2
            go_ret
            exact ⟨by rw [HR.out]; rfl, HB.out⟩
        · have HR : Hid (res = false) := hide (by rw [HS.out, HN.out, HP.out]; simp [hlo])
          clear HS HN HP HK HH
          go_enter Try.func40, Try.ntmps40
          go_wp2
          go_ret
          exact ⟨by rw [HR.out]; rfl, HB.out⟩
      · by_cases e9 : kd = 9
        · subst e9
          have HN2 : Hid (numbersM 9 lo hl = (lo == 0 && inI 1 1024 hl)) := hide (by rw [HN.out]; rfl)
          clear HN
          by_cases l0 : lo = 0
          · subst l0
            by_cases h1 : hl < 1
            · have HR : Hid (res = false) := hide (by rw [HS.out, HN2.out]; unfold inI; simp; omega)
              clear HS HN2 HP HK HH
              go_enter Try.func40, Try.ntmps40
              go_wp2
              go_ret
              exact ⟨by rw [HR.out]; rfl, HB.out⟩
            · by_cases h2 : 1024 < hl
              · have HR : Hid (res = false) := hide (by rw [HS.out, HN2.out]; unfold inI; simp; omega)
                clear HS HN2 HP HK HH
                go_enter Try.func40, Try.ntmps40
                go_wp2
                go_ret
                exact ⟨by rw [HR.out]; rfl, HB.out⟩
              · have hin : inI 1 1024 hl = true := by unfold inI; simp; omega
                by_cases z0 : z = 0
                · subst z0
                  have HS2 : Hid (res = pairR l i 9) := hide (by rw [HS.out, HN2.out, hin]; simp)
                  clear HS HN2 HK hin
                  rcases Nat.eq_zero_or_pos i with i0 | i0
                  · have HR : Hid (res = false) := hide (by rw [HS2.out, HP.out, i0]; simp)
                    have hd : decide (0 < (i : Int)) = false := by simp; omega
                    have hdn : decide (0 < i) = false := by simp; omega
                    clear HS2 HP HH i0
                    go_enter Try.func40, Try.ntmps40
                    go_wp2
                    go_ret
                    exact ⟨by rw [HR.out]; rfl, HB.out⟩
                  · obtain ⟨ad', y, e', _, hy, d0, _, _, _⟩ := HH.out.argx (k := i - 1) (by omega)
                    cases e'
                    have hd0 : decide (0 < i) = true := by simp; omega
                    have HR : Hid (res = inI 7 8 y.a.kind) := hide (by rw [HS2.out, HP.out]; simp [hy, i0])
                    generalize y.a.kind = yk at *
                    replace d0 := (hbx.cell (p := ad.add ((i - 1) * 4)) (by rw [block_add]; omega)).trans d0
                    have hd : decide (0 < (i : Int)) = true := by simp; omega
                    have ht : ((i : Int) - 1).toNat = i - 1 := by omega
                    clear HS2 HP HH hy
                    by_cases y7 : yk = 7
                    · subst y7
                      go_enter Try.func40, Try.ntmps40
                      go_wp2
                      go_ret
                      exact ⟨by rw [HR.out]; rfl, HB.out⟩
                    · by_cases y8 : yk = 8
                      · subst y8
                        go_enter Try.func40, Try.ntmps40
                        go_wp2
                        go_ret
                        exact ⟨by rw [HR.out]; rfl, HB.out⟩
                      · have HR2 : Hid (res = false) := hide (by rw [HR.out]; unfold inI; simp; omega)
                        have p7 : (yk == 7) = false := by simpa using y7
                        have p8 : (yk == 8) = false := by simpa using y8
                        clear HR
                        have HR := HR2
                        clear HR2
                        go_enter Try.func40, Try.ntmps40
                        go_wp2
                        go_ret
                        exact ⟨by rw [HR.out]; rfl, HB.out⟩
                · have hd : decide (0 < (z : Int)) = true := by simp; omega
                  have HR : Hid (res = false) := hide (by rw [HS.out, HN2.out]; simp [z0])
                  clear HS HN2 HP HK HH hin
                  go_enter Try.func40, Try.ntmps40
                  go_wp2
                  go_ret
                  exact ⟨by rw [HR.out]; rfl, HB.out⟩
          · have HR : Hid (res = false) := hide (by rw [HS.out, HN2.out]; simp [l0])
            have qh : (lo == 0) = false := by simpa using l0
            have qh' : (lo != 0) = true := by simpa using l0
            clear HS HN2 HP HK HH
            go_enter Try.func40, Try.ntmps40
            go_wp2
            go_ret
            exact ⟨by rw [HR.out]; rfl, HB.out⟩
        · have hin : inI 1 9 kd = true := by unfold inI; simp; omega
          have HN2 : Hid (numbersM kd lo hl = (lo == 0 && hl == 0)) := hide (by rw [HN.out, if_neg e1, if_neg e9, hin]; rfl)
          have q1 : (kd == 1) = false := by simpa using e1
          have q9 : (kd == 9) = false := by simpa using e9
          clear HN hin
          by_cases l0 : lo = 0
          · subst l0
            by_cases h0 : hl = 0
            · subst h0
              by_cases e3 : kd = 3
              · subst e3
                obtain ⟨kb, hkb⟩ : ∃ kb, kindsR mp = kb := ⟨_, rfl⟩
                have HR : Hid (res = kb) := hide (by rw [HS.out, HN2.out, HP.out, ← hkb]; simp)
                have hC := hide (HK.out _ HB.out)
                rw [hkb] at hC
                clear HS HN2 HP HK HH hkb
                cases kb
                all_goals
                  go_enter Try.func40, Try.ntmps40
                  go_wp2_with fail
                  ((with_reducible refine hC.out.mono ?_))
                  rintro e w1 ⟨rfl, hb1⟩
                  have HX := hide (HB.out.trans (hb1.mono HB.out.size))
                  obtain ⟨f0, f1, f2, f3⟩ := later4 (World.alloc_heap_new w (.cells #[.int .u8 3, .int .i64 0, .int .i64 0, .slice Am z cm] 46))
                  have g0 := f0 ⟨w1, hb1⟩
                  simp only [Later.w] at g0
                  clear hb1 hC f0 f1 f2 f3
                  go_wp2
                  go_ret
                  exact ⟨by rw [HR.out]; rfl, HX.out⟩
              · have q3 : (kd == 3) = false := by simpa using e3
                have q3' : (kd != 3) = true := by simpa using e3
                by_cases z0 : z = 0
                · subst z0
                  have HS2 : Hid (res = pairR l i kd) := hide (by rw [HS.out, HN2.out, if_neg e3]; simp)
                  clear HS HN2 HK
                  by_cases e7 : kd = 7 ∨ kd = 8
                  · have HS3 : Hid (res = (match l[i + 1]? with | some y => y.a.kind == 9 | none => false)) := hide (by rw [HS2.out, HP.out, if_pos e7])
                    clear HS2 HP
                    by_cases hi2 : i + 1 < n
                    · obtain ⟨ad', y, e', _, hy, d0, _, _, _⟩ := HH.out.argx hi2
                      cases e'
                      have HR : Hid (res = (y.a.kind == 9)) := hide (by rw [HS3.out, hy])
                      generalize y.a.kind = yk at *
                      replace d0 := (hbx.cell (p := ad.add ((i + 1) * 4)) (by rw [block_add]; omega)).trans d0
                      have hd : decide ((i : Int) + 1 < (n : Int)) = true := by simp; omega
                      have hdn : decide (i + 1 < n) = true := by simp; omega
                      clear HS3 HH hy
                      rcases e7 with rfl | rfl
                      all_goals
                        go_enter Try.func40, Try.ntmps40
                        go_wp2
                        go_ret
                        exact ⟨by rw [HR.out]; rfl, HB.out⟩
                    · have HR : Hid (res = false) := hide (by rw [HS3.out, List.getElem?_eq_none (by omega)])
                      have hd : decide ((i : Int) + 1 < (n : Int)) = false := by simp; omega
                      have hdn : decide (i + 1 < n) = false := by simp; omega
                      clear HS3 HH
                      rcases e7 with rfl | rfl
                      all_goals
                        go_enter Try.func40, Try.ntmps40
                        go_wp2
                        go_ret
                        exact ⟨by rw [HR.out]; rfl, HB.out⟩
                  · have HR : Hid (res = true) := hide (by rw [HS2.out, HP.out, if_neg e7, if_neg e9])
                    have q7 : (kd == 7) = false := by simp; omega
                    have q8 : (kd == 8) = false := by simp; omega
                    have q9' : (kd != 9) = true := by simpa using e9
                    clear HS2 HP HH e7
                    go_enter Try.func40, Try.ntmps40
                    go_wp2
                    go_ret
                    exact ⟨by rw [HR.out]; rfl, HB.out⟩
                · have hd : decide (0 < (z : Int)) = true := by simp; omega
                  have HR : Hid (res = false) := hide (by rw [HS.out, HN2.out, if_neg e3]; simp [z0])
                  clear HS HN2 HP HK HH
                  go_enter Try.func40, Try.ntmps40
                  go_wp2
                  go_ret
                  exact ⟨by rw [HR.out]; rfl, HB.out⟩
            · have HR : Hid (res = false) := hide (by rw [HS.out, HN2.out]; simp [h0])
              have qh : (hl == 0) = false := by simpa using h0
              have qh' : (hl != 0) = true := by simpa using h0
              clear HS HN2 HP HK HH
              go_enter Try.func40, Try.ntmps40
              go_wp2
              go_ret
              exact ⟨by rw [HR.out]; rfl, HB.out⟩
          · have HR : Hid (res = false) := hide (by rw [HS.out, HN2.out]; simp [l0])
            have qh : (lo == 0) = false := by simpa using l0
            have qh' : (lo != 0) = true := by simpa using l0
            clear HS HN2 HP HK HH
            go_enter Try.func40, Try.ntmps40
            go_wp2
            go_ret
            exact ⟨by rw [HR.out]; rfl, HB.out⟩
end Go.Proofs.Ytedjmgiblkjonaa
