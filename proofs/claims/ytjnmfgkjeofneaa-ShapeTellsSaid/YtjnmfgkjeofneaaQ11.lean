/-
  The law ShapeTells: its walk, for at most 300 slots.
-/
import Derived.Test.YtjnmfgkjeofneaaQE
namespace Go.Proofs.Ytjnmfgkjeofneaa
open Go.RowKit Go.Maps
set_option linter.unusedVariables false

set_option maxRecDepth 100000 in
set_option maxHeartbeats 4000000 in
theorem tells_yes (A : Option Addr) (n c : Nat) (l : List Ins) (at' : Int) (w : World) (rd : Rd w w.heap.size 5 A n (pcells l)) (hf : ∀ s ∈ l, s.Fits) (nn : A = none → n = 0) (hn : n ≤ 300) (hok : (checkM l).2 = 0) :
    Calls Try.prog 3 #[.slice A n c, .int .i64 at'] w fun e w' => e = .returned (.bool true) ∧ Below w.heap.size w w' := by
  have hll : l.length = n := rd.prg.1
  have HA := hide (awake_any w)
  have hs := small_any A n c
  have hd300 : decide (n ≤ 300) = true := by simp; omega
  have HLT := hide (fun (W : World) (hW : Below w.heap.size w W) => lentProgram_any A n c w.heap.size l W (rd.below hW) nn hW.size (by omega))
  have HD1 := hide (fun (W : World) (hW : Below w.heap.size w W) => check_doc_all A n c w.heap.size l W (rd.below hW) hW.size hf (by omega))
  have HD2 := hide (fun (W : World) (hW : Below w.heap.size w W) => next_doc A n c w.heap.size l at' W (rd.below hW) hW.size hf (by omega))
  have HD3 := hide (fun (W : World) (hW : Below w.heap.size w W) => ways_doc A n c w.heap.size l W (rd.below hW) hW.size hf (by omega) hok)
  have HD4 := hide (fun (W : World) (hW : Below w.heap.size w W) => targets_doc_read A n c w.heap.size l W (rd.below hW) hW.size hf (by omega))
  have HP1 := hide (fun (W : World) (g : Nat) (h : Rd W (g + 1) 5 (some ⟨g, 0, none⟩) n (pcells l)) (hg : g < W.heap.size) => check_all (some ⟨g, 0, none⟩) n (n + 12) (g + 1) l W h hg hf (by omega))
  have HP2 := hide (fun (W : World) (g : Nat) (h : Rd W (g + 1) 5 (some ⟨g, 0, none⟩) n (pcells l)) (hg : g < W.heap.size) => next_any (some ⟨g, 0, none⟩) n (n + 12) (g + 1) l at' W h hg hf (by omega))
  have hpos := check_ok hok
  rw [hll] at hpos
  have HP3 := hide (fun (W : World) (g : Nat) (h : Rd W (g + 1) 5 (some ⟨g, 0, none⟩) n (pcells l)) (hg : g < W.heap.size) => ways_yes (some ⟨g, 0, none⟩) n (n + 12) (g + 1) l W h hg hf (by omega) hok hpos.2 hpos.1)
  have HP4 := hide (fun (W : World) (g : Nat) (h : Rd W (g + 1) 5 (some ⟨g, 0, none⟩) n (pcells l)) (hg : g < W.heap.size) => targets_read (some ⟨g, 0, none⟩) n (n + 12) (g + 1) l W h hg hf (by omega))
  have HKP := hide (fun (W : World) (g : Nat) (hW : Below w.heap.size w W) (hr : Row W g (n + 12) 42 5 (n + 12) (pcells (l ++ marksI 1 12))) => keptProgram_any g A n c w.heap.size l W (rd.below hW) hW.size hr (by omega))
  have HTL : Hid ((targetsM l).length ≤ 1000000) := Nat.le_trans (targets_le l) (by omega)
  have HPL : Hid ((pcells l).length = n * 5) := by show (pcells l).length = n * 5; unfold pcells; rw [flat_length Ins.cells 5 (fun _ => rfl), hll]
  generalize (checkM l).1 = cx at *
  generalize (checkM l).2 = cy at *
  generalize (nextM l at').1 = nx at *
  generalize (nextM l at').2 = ny at *
  subst hok
  clear hpos rd hf nn hll
  go_enter Try.func3, Try.ntmps3
  go_wp2_with fail
  refine HA.out.mono ?_
  rintro e w1 ⟨rfl, hb1⟩
  have HB1 := hide hb1
  clear hb1
  go_wp2_with fail
  refine (hs _ (by omega)).mono ?_
  rintro e w' ⟨rfl, rfl⟩
  clear hs
  go_wp2_with fail
  refine (HLT.out _ HB1.out).mono ?_
  rintro e w2 ⟨rfl, hrow, hb2⟩
  have HR2 := hide hrow
  have HB2 := hide (HB1.out.trans (hb2.mono HB1.out.size))
  have HIN : Hid (∀ W, Below w2.heap.size w2 W → Rd W (w1.heap.size + 1) 5 (some ⟨w1.heap.size, 0, none⟩) n (pcells l)) := fun W hW => by
    have h := (Rd.of_owns hrow).below (hW.mono (row_lt hrow))
    rw [pcells_app] at h
    exact h.front HPL.out
  have HGL : Hid (w1.heap.size < w2.heap.size) := row_lt hrow
  clear hrow hb2
  go_wp2_with fail
  refine (HP1.out _ _ (HIN.out _ (Below.refl _ _)) HGL.out).mono ?_
  rintro e w3 ⟨rfl, hb3⟩
  have HC3 := hide hb3
  have HB3 := hide (HB2.out.trans (hb3.mono HB2.out.size))
  clear hb3
  go_wp2_with fail
  refine (HD1.out _ HB3.out).mono ?_
  rintro e w4 ⟨rfl, hb4⟩
  have HC4 := hide (HC3.out.trans (hb4.mono HC3.out.size))
  have HB4 := hide (HB3.out.trans (hb4.mono HB3.out.size))
  clear hb4
  go_wp2_with fail
  refine (HP2.out _ _ (HIN.out _ HC4.out) (Nat.lt_of_lt_of_le HGL.out HC4.out.size)).mono ?_
  rintro e w5 ⟨rfl, hb5⟩
  have HC5 := hide (HC4.out.trans (hb5.mono HC4.out.size))
  have HB5 := hide (HB4.out.trans (hb5.mono HB4.out.size))
  clear hb5
  go_wp2_with fail
  refine (HD2.out _ HB5.out).mono ?_
  rintro e w6 ⟨rfl, hb6⟩
  have HC6 := hide (HC5.out.trans (hb6.mono HC5.out.size))
  have HB6 := hide (HB5.out.trans (hb6.mono HB5.out.size))
  clear hb6
  go_wp2_with fail
  refine (HP3.out _ _ (HIN.out _ HC6.out) (Nat.lt_of_lt_of_le HGL.out HC6.out.size)).mono ?_
  rintro e w7 ⟨ga, rfl, hga, hpa, hb7⟩
  have HPA := hide hpa
  have HC7 := hide (HC6.out.trans (hb7.mono HC6.out.size))
  have HB7 := hide (HB6.out.trans (hb7.mono HB6.out.size))
  clear hb7
  go_wp2_with fail
  refine (HD3.out _ HB7.out).mono ?_
  rintro e w8 ⟨gb, rfl, hgb, hpb, hb8⟩
  have HPB := hide hpb
  have HPA8 := hide (HPA.out.same (hb8.block _ HPA.out.lt))
  clear hpa hpb hga hgb
  have HC8 := hide (HC7.out.trans (hb8.mono HC7.out.size))
  have HB8 := hide (HB7.out.trans (hb8.mono HB7.out.size))
  clear hb8
  go_wp2_with fail
  go_loopw [16] (fun p wr => ∃ k : Nat, k ≤ n ∧ p = .int .i64 k ∧ Below w8.heap.size w8 wr) (fun p _ => n - (intOf p).toNat)
  case atStart => exact ⟨0, Nat.zero_le _, rfl, Below.refl _ _⟩
  case round =>
    obtain ⟨k, hk, rfl, hb⟩ := hrel
    have HB := hide hb
    clear hb
    by_cases hlt : k < n
    · have hd : decide ((k : Int) < (n : Int)) = true := by simp; omega
      have hd2 : decide (k < n) = true := by simp; omega
      obtain ⟨q0, q1⟩ := (HPA8.out.same (HB.out.block _ HPA8.out.lt)).cell hlt
      obtain ⟨r0, r1⟩ := (HPB.out.same (HB.out.block _ HPB.out.lt)).cell hlt
      generalize wayOf (fsts 0 false l) k = y at *
      obtain ⟨ya, yb⟩ := y
      simp only at q0 q1 r0 r1
      replace q0 := Later.cell q0
      replace q1 := Later.cell q1
      replace r0 := Later.cell r0
      replace r1 := Later.cell r1
      have hE : ∀ w, (binOp .neq 33 (.agg #[.int .i64 ya, .int .i64 yb]) (.agg #[.int .i64 ya, .int .i64 yb])).run Try.prog w = .ok (.bool false) w := fun w => by
        have := neqPair w ya yb ya yb
        simpa using this
      go_wp2
      refine wp_region_later (by kernel_rfl) (by kernel_rfl) ?_
      repeat (go_big_quiet_step (fail))
      refine wpQuiet_nil ?_
      rintro _ ⟨x, rfl⟩
      have HX := hide (HB.out.trans (x.below.mono HB.out.size))
      go_wp2
      go_roundw
      case rel => exact ⟨k + 1, by omega, by go_num, HX.out⟩
      case measure => simp [intOf]; omega
    · have hkn : k = n := by omega
      subst hkn
      have hd : decide ((k : Int) < (k : Int)) = false := by simp
      have hd2 : decide (k < k) = false := by simp
      have HC9 := hide (HC8.out.trans (HB.out.mono HC8.out.size))
      have HB9 := hide (HB8.out.trans (HB.out.mono HB8.out.size))
      go_wp2_with fail
      refine (HP4.out _ _ (HIN.out _ HC9.out) (Nat.lt_of_lt_of_le HGL.out HC9.out.size)).mono ?_
      rintro e w10 ⟨T, d, rfl, hrt, hb10⟩
      have HC10 := hide (HC9.out.trans (hb10.mono HC9.out.size))
      have HB10 := hide (HB9.out.trans (hb10.mono HB9.out.size))
      have HT := hide hrt
      clear hrt hb10
      go_wp2_with fail
      refine (HD4.out _ HB10.out).mono ?_
      rintro e w11 ⟨T', d', rfl, hrt, hb11⟩
      have HC11 := hide (HC10.out.trans (hb11.mono HC10.out.size))
      have HB11 := hide (HB10.out.trans (hb11.mono HB10.out.size))
      have HT' := hide hrt
      have HT2 := hide ((HT.out.below hb11).mono hb11.size)
      clear hrt hb11
      go_wp2_with fail
      refine (sameInts_yes T T' _ d d' _ (targetsM l) _ HT2.out HT'.out (Nat.le_refl _) HTL.out).mono ?_
      rintro e w12 ⟨rfl, hb12⟩
      have HC12 := hide (HC11.out.trans (hb12.mono HC11.out.size))
      have HB12 := hide (HB11.out.trans (hb12.mono HB11.out.size))
      clear hb12
      go_wp2_with fail
      refine (HKP.out _ _ HB12.out (row_below HR2.out HC12.out)).mono ?_
      rintro e w13 ⟨rfl, hb13⟩
      have HB13 := hide (HB12.out.trans (hb13.mono HB12.out.size))
      clear hb13
      go_wp2
      go_ret
      exact ⟨rfl, HB13.out⟩
set_option maxRecDepth 100000 in
set_option maxHeartbeats 4000000 in
theorem tells_no (A : Option Addr) (n c : Nat) (l : List Ins) (at' : Int) (w : World) (rd : Rd w w.heap.size 5 A n (pcells l)) (hf : ∀ s ∈ l, s.Fits) (nn : A = none → n = 0) (hn : n ≤ 300) (hno : (checkM l).2 ≠ 0) :
    Calls Try.prog 3 #[.slice A n c, .int .i64 at'] w fun e w' => e = .returned (.bool true) ∧ Below w.heap.size w w' := by
  have hll : l.length = n := rd.prg.1
  have HA := hide (awake_any w)
  have hs := small_any A n c
  have hd300 : decide (n ≤ 300) = true := by simp; omega
  have HLT := hide (fun (W : World) (hW : Below w.heap.size w W) => lentProgram_any A n c w.heap.size l W (rd.below hW) nn hW.size (by omega))
  have HD1 := hide (fun (W : World) (hW : Below w.heap.size w W) => check_doc_all A n c w.heap.size l W (rd.below hW) hW.size hf (by omega))
  have HD2 := hide (fun (W : World) (hW : Below w.heap.size w W) => next_doc A n c w.heap.size l at' W (rd.below hW) hW.size hf (by omega))
  have HD3 := hide (fun (W : World) (hW : Below w.heap.size w W) => ways_no_doc A n c w.heap.size l W (rd.below hW) hW.size hf (by omega) hno)
  have HD4 := hide (fun (W : World) (hW : Below w.heap.size w W) => targets_doc_read A n c w.heap.size l W (rd.below hW) hW.size hf (by omega))
  have HP1 := hide (fun (W : World) (g : Nat) (h : Rd W (g + 1) 5 (some ⟨g, 0, none⟩) n (pcells l)) (hg : g < W.heap.size) => check_all (some ⟨g, 0, none⟩) n (n + 12) (g + 1) l W h hg hf (by omega))
  have HP2 := hide (fun (W : World) (g : Nat) (h : Rd W (g + 1) 5 (some ⟨g, 0, none⟩) n (pcells l)) (hg : g < W.heap.size) => next_any (some ⟨g, 0, none⟩) n (n + 12) (g + 1) l at' W h hg hf (by omega))
  have HP3 := hide (fun (W : World) (g : Nat) (h : Rd W (g + 1) 5 (some ⟨g, 0, none⟩) n (pcells l)) (hg : g < W.heap.size) => ways_no (some ⟨g, 0, none⟩) n (n + 12) (g + 1) l W h hg hf (by omega) hno)
  have HP4 := hide (fun (W : World) (g : Nat) (h : Rd W (g + 1) 5 (some ⟨g, 0, none⟩) n (pcells l)) (hg : g < W.heap.size) => targets_read (some ⟨g, 0, none⟩) n (n + 12) (g + 1) l W h hg hf (by omega))
  have HKP := hide (fun (W : World) (g : Nat) (hW : Below w.heap.size w W) (hr : Row W g (n + 12) 42 5 (n + 12) (pcells (l ++ marksI 1 12))) => keptProgram_any g A n c w.heap.size l W (rd.below hW) hW.size hr (by omega))
  have HTL : Hid ((targetsM l).length ≤ 1000000) := Nat.le_trans (targets_le l) (by omega)
  have HPL : Hid ((pcells l).length = n * 5) := by show (pcells l).length = n * 5; unfold pcells; rw [flat_length Ins.cells 5 (fun _ => rfl), hll]
  generalize (checkM l).1 = cx at *
  generalize (checkM l).2 = cy at *
  generalize (nextM l at').1 = nx at *
  generalize (nextM l at').2 = ny at *
  clear hno rd hf nn hll
  go_enter Try.func3, Try.ntmps3
  go_wp2_with fail
  refine HA.out.mono ?_
  rintro e w1 ⟨rfl, hb1⟩
  have HB1 := hide hb1
  clear hb1
  go_wp2_with fail
  refine (hs _ (by omega)).mono ?_
  rintro e w' ⟨rfl, rfl⟩
  clear hs
  go_wp2_with fail
  refine (HLT.out _ HB1.out).mono ?_
  rintro e w2 ⟨rfl, hrow, hb2⟩
  have HR2 := hide hrow
  have HB2 := hide (HB1.out.trans (hb2.mono HB1.out.size))
  have HIN : Hid (∀ W, Below w2.heap.size w2 W → Rd W (w1.heap.size + 1) 5 (some ⟨w1.heap.size, 0, none⟩) n (pcells l)) := fun W hW => by
    have h := (Rd.of_owns hrow).below (hW.mono (row_lt hrow))
    rw [pcells_app] at h
    exact h.front HPL.out
  have HGL : Hid (w1.heap.size < w2.heap.size) := row_lt hrow
  clear hrow hb2
  go_wp2_with fail
  refine (HP1.out _ _ (HIN.out _ (Below.refl _ _)) HGL.out).mono ?_
  rintro e w3 ⟨rfl, hb3⟩
  have HC3 := hide hb3
  have HB3 := hide (HB2.out.trans (hb3.mono HB2.out.size))
  clear hb3
  go_wp2_with fail
  refine (HD1.out _ HB3.out).mono ?_
  rintro e w4 ⟨rfl, hb4⟩
  have HC4 := hide (HC3.out.trans (hb4.mono HC3.out.size))
  have HB4 := hide (HB3.out.trans (hb4.mono HB3.out.size))
  clear hb4
  go_wp2_with fail
  refine (HP2.out _ _ (HIN.out _ HC4.out) (Nat.lt_of_lt_of_le HGL.out HC4.out.size)).mono ?_
  rintro e w5 ⟨rfl, hb5⟩
  have HC5 := hide (HC4.out.trans (hb5.mono HC4.out.size))
  have HB5 := hide (HB4.out.trans (hb5.mono HB4.out.size))
  clear hb5
  go_wp2_with fail
  refine (HD2.out _ HB5.out).mono ?_
  rintro e w6 ⟨rfl, hb6⟩
  have HC6 := hide (HC5.out.trans (hb6.mono HC5.out.size))
  have HB6 := hide (HB5.out.trans (hb6.mono HB5.out.size))
  clear hb6
  go_wp2_with fail
  refine (HP3.out _ _ (HIN.out _ HC6.out) (Nat.lt_of_lt_of_le HGL.out HC6.out.size)).mono ?_
  rintro e w7 ⟨rfl, hb7⟩
  have HC7 := hide (HC6.out.trans (hb7.mono HC6.out.size))
  have HB7 := hide (HB6.out.trans (hb7.mono HB6.out.size))
  clear hb7
  go_wp2_with fail
  refine (HD3.out _ HB7.out).mono ?_
  rintro e w8 ⟨rfl, hb8⟩
  have HC8 := hide (HC7.out.trans (hb8.mono HC7.out.size))
  have HB8 := hide (HB7.out.trans (hb8.mono HB7.out.size))
  clear hb8
  go_wp2_with fail
  go_loopw [16] (fun p wr => p = .int .i64 0 ∧ Below w8.heap.size w8 wr) (fun p _ => 0)
  case atStart => exact ⟨rfl, Below.refl _ _⟩
  case round =>
    obtain ⟨rfl, hb⟩ := hrel
    have HB := hide hb
    clear hb
    have HC9 := hide (HC8.out.trans (HB.out.mono HC8.out.size))
    have HB9 := hide (HB8.out.trans (HB.out.mono HB8.out.size))
    go_wp2_with fail
    refine (HP4.out _ _ (HIN.out _ HC9.out) (Nat.lt_of_lt_of_le HGL.out HC9.out.size)).mono ?_
    rintro e w10 ⟨T, d, rfl, hrt, hb10⟩
    have HC10 := hide (HC9.out.trans (hb10.mono HC9.out.size))
    have HB10 := hide (HB9.out.trans (hb10.mono HB9.out.size))
    have HT := hide hrt
    clear hrt hb10
    go_wp2_with fail
    refine (HD4.out _ HB10.out).mono ?_
    rintro e w11 ⟨T', d', rfl, hrt, hb11⟩
    have HC11 := hide (HC10.out.trans (hb11.mono HC10.out.size))
    have HB11 := hide (HB10.out.trans (hb11.mono HB10.out.size))
    have HT' := hide hrt
    have HT2 := hide ((HT.out.below hb11).mono hb11.size)
    clear hrt hb11
    go_wp2_with fail
    refine (sameInts_yes T T' _ d d' _ (targetsM l) _ HT2.out HT'.out (Nat.le_refl _) HTL.out).mono ?_
    rintro e w12 ⟨rfl, hb12⟩
    have HC12 := hide (HC11.out.trans (hb12.mono HC11.out.size))
    have HB12 := hide (HB11.out.trans (hb12.mono HB11.out.size))
    clear hb12
    go_wp2_with fail
    refine (HKP.out _ _ HB12.out (row_below HR2.out HC12.out)).mono ?_
    rintro e w13 ⟨rfl, hb13⟩
    have HB13 := hide (HB12.out.trans (hb13.mono HB12.out.size))
    clear hb13
    go_wp2
    go_ret
    exact ⟨rfl, HB13.out⟩

set_option maxRecDepth 100000 in
theorem law_shapeTells (A : Option Addr) (n c : Nat) (l : List Ins) (at' : Int) (_h0 : -9223372036854775808 ≤ at') (_h1 : at' ≤ 9223372036854775807) (w : World) (rd : Rd w w.heap.size 5 A n (pcells l)) (hf : ∀ s ∈ l, s.Fits) (nn : A = none → n = 0) (nc : n ≤ c) (cm : c ≤ maxLen) (re : n ≤ 140737488351232) :
    Calls Try.prog 3 #[.slice A n c, .int .i64 at'] w fun e w' => e = .returned (.bool true) ∧ Below w.heap.size w w' := by
  by_cases hn : n ≤ 300
  · by_cases hok : (checkM l).2 = 0
    · exact tells_yes A n c l at' w rd hf nn hn hok
    · exact tells_no A n c l at' w rd hf nn hn hok
  · have HA := hide (awake_any w)
    have hs := small_any A n c
    have hd300 : decide (n ≤ 300) = false := by simp; omega
    clear rd nn
    go_enter Try.func3, Try.ntmps3
    go_wp2_with fail
    refine HA.out.mono ?_
    rintro e w1 ⟨rfl, hb1⟩
    go_wp2_with fail
    refine (hs _ (by omega)).mono ?_
    rintro e w' ⟨rfl, rfl⟩
    go_wp2
    go_ret
    exact ⟨rfl, hb1⟩
end Go.Proofs.Ytjnmfgkjeofneaa
