/-
  What the law CodeGets says holds.
-/
import Derived.Test.YtjndmpockfmenaaGreatD5
import Derived.Test.YtjndmpockfmenaaGreatD3
import Derived.Test.YtjndmpockfmenaaGreatN4
import Derived.Test.YtjndmpockfmenaaGreatR3
namespace Go.Proofs.YtjndmpockfmenaaGreat
open Go.RowKit
set_option linter.unusedVariables false

/-- Get and the reference answer the same: an error, or a row of slots. -/
theorem outcomeG (n : Nat) (l : List Int) (hn : n ≤ 40000) (hf : ∀ b ∈ l, IsByte b) : ∃ (E : Int) (N : Nat) (X : List Ins), N ≤ 5000 ∧
    (∀ (A : Option Addr) (c B : Nat) (w : World), n ≤ c → c ≤ maxLen → Rd w B 1 A n (u8s l) → B ≤ w.heap.size → Calls Tryz.prog 5 #[.slice A n c] w fun e w' => ∃ A' c', e = .returned (.tuple #[.slice A' N c', .int .i64 E]) ∧ w'.ownsRow 0 27 5 (.slice A' N c') N (pcells X) ∧
      (∀ g, (Value.slice A' N c').ownBlock = some g → w.heap.size ≤ g) ∧ Below w.heap.size w w') ∧
    (∀ (A : Option Addr) (c B : Nat) (w : World), Rd w B 1 A n (u8s l) → B ≤ w.heap.size → Calls Tryz.prog 7 #[.slice A n c] w fun e w' => ∃ A' c', e = .returned (.tuple #[.slice A' N c', .int .i64 E]) ∧ Rd w' w'.heap.size 5 A' N (pcells X) ∧ Below w.heap.size w w') := by
  by_cases hlong : 32768 < n
  · have he : getErr n = 3 := if_pos hlong
    refine ⟨3, 0, [], by omega, fun A c B w _ _ h hB => (get_wrong n c A w (.inl hlong)).mono fun e w' h => ⟨none, 0, by rw [h.1, he], none_owned _ _ _, nofun, h.2⟩, fun A c B w h hB => (refGet_long A n c w hlong (by omega)).mono fun e w' h => ⟨none, 0, h.1, Rd.nil, h.2⟩⟩
  · by_cases h8 : n % 8 = 0
    · obtain ⟨m, hm⟩ : ∃ m, n = 8 * m := ⟨n / 8, by omega⟩
      refine ⟨0, m, slots l m, by omega, fun A c B w hc hcm h hB => (get_right n m c A B l w hm (by omega) hc hcm h.byt hB hf).mono fun e w' ⟨g, he, h1, h2, h3⟩ => ⟨some ⟨g, 0, none⟩, m, he, h1, fun g' e' => ?_, h3⟩,
        fun A c B w h hB => (refGet_right A n m c B l w h hB hm (by omega) hf).mono fun e w' h => ?_⟩
      · simp only [Value.ownBlock, Option.some.injEq] at e'
        omega
      · obtain ⟨v, he, ho, hb⟩ := h
        obtain ⟨A', c', rfl, hr'⟩ := owns_slice ho
        exact ⟨A', c', he, hr', hb⟩
    · have he : getErr n = 4 := if_neg hlong
      refine ⟨4, 0, [], by omega, fun A c B w _ _ h hB => (get_wrong n c A w (.inr h8)).mono fun e w' h => ⟨none, 0, by rw [h.1, he], none_owned _ _ _, nofun, h.2⟩, fun A c B w h hB => (refGet_odd A n c w (by omega) h8).mono fun e w' h => ⟨none, 0, h.1, Rd.nil, h.2⟩⟩

set_option maxRecDepth 100000 in
set_option maxHeartbeats 2000000 in
theorem gets_long (A : Option Addr) (n c : Nat) (w : World) (hn : 40000 < n) (r : n ≤ 140737488351232) : Calls Tryz.prog 10 #[.slice A n c] w fun e w' => e = .returned (.bool true) ∧ Below w.heap.size w w' := by
  have hd : decide (40000 < (n : Int)) = true := by simp; omega
  go_enter Tryz.func10, Tryz.ntmps10
  go_wp2_with (go_at_call 11; refine (awake_any _).mono ?_; rintro e w1 ⟨rfl, hb1⟩)
  go_ret
  exact ⟨rfl, hb1⟩

set_option maxRecDepth 100000 in
set_option maxHeartbeats 4000000 in
theorem gets_short (A : Option Addr) (n c : Nat) (l : List Int) (w : World) (h : Rd w w.heap.size 1 A n (u8s l)) (hA : A = none → n = 0) (hf : ∀ b ∈ l, IsByte b) (hn : n ≤ 40000) :
    Calls Tryz.prog 10 #[.slice A n c] w fun e w' => e = .returned (.bool true) ∧ Below w.heap.size w w' := by
  obtain ⟨E, N, X, hN, hput, href⟩ := outcomeG n l hn hf
  have hd : decide (40000 < (n : Int)) = false := by simp; omega
  have hll : (u8s l).length = n * 1 := h.1
  have HH := hide h
  have HA := hide hA
  have HP := hide hput
  have HR := hide href
  have HLL := hide hll
  clear h hA hput href hll
  go_enter Tryz.func10, Tryz.ntmps10
  go_wp2_with (go_at_call 24; refine stop_here ?_)
  show Hid _
  refine start_here ?_
  refine (lentBytes_any A n c w.heap.size l w HH.out HA.out (Nat.le_refl _) (by omega)).mono ?_
  rintro e w1 ⟨rfl, hr1, hb1⟩
  have hl1 : Rd w1 w1.heap.size 1 (some ⟨w.heap.size, 0, none⟩) n (u8s l) := (owns_rd hr1).pre HLL.out (by omega)
  have HB1 := hide hb1
  have HR1 := hide hr1
  have HL1 := hide hl1
  clear hr1 hb1 hl1
  go_wp2_with (go_at_call 5; refine stop_here ?_)
  show Hid _
  refine start_here ?_
  refine (HP.out _ (n + 12) _ w1 (by omega) (by simp only [maxLen]; omega) HL1.out (Nat.le_refl _)).mono ?_
  rintro e w2 ⟨A1, c1, rfl, ho1, hv1, hb2⟩
  have HO1 := hide ho1
  have HV1 := hide hv1
  have HB2 := hide hb2
  clear ho1 hv1 hb2
  go_wp2_with (go_at_call 5; refine stop_here ?_)
  show Hid _
  refine start_here ?_
  refine (HP.out _ (n + 12) _ w2 (by omega) (by simp only [maxLen]; omega) (HL1.out.below HB2.out) HB2.out.size).mono ?_
  rintro e w3 ⟨A2, c2, rfl, ho2, hv2, hb3⟩
  have HO2 := hide ho2
  have HV2 := hide hv2
  have HB3 := hide hb3
  clear ho2 hv2 hb3
  go_wp2_with (go_at_call 7; refine stop_here ?_)
  show Hid _
  refine start_here ?_
  have hb13 := HB1.out.trans ((HB2.out.trans (HB3.out.mono HB2.out.size)).mono HB1.out.size)
  refine (HR.out A c _ w3 (HH.out.below hb13) hb13.size).mono ?_
  rintro e w4 ⟨A3, c3, rfl, ho3, hb4⟩
  have HO3 := hide ho3
  have HB4 := hide hb4
  have HW4 := hide (hb13.trans (hb4.mono hb13.size))
  have hx1 : Below w2.heap.size w2 w4 := HB3.out.trans (HB4.out.mono HB3.out.size)
  have HX1 := hide hx1
  clear ho3 hb4 hb13 hx1
  go_wp2_with (go_at_call 8; refine stop_here ?_)
  show Hid _
  refine start_here ?_
  refine (sameProgram_yes A1 A3 N c1 c3 w4.heap.size X w4 ((owns_rd (owns_kept_below HO1.out HX1.out)).mono (Nat.le_refl _)) HO3.out (Nat.le_refl _) (by omega)).mono ?_
  rintro e w5 ⟨rfl, hb5⟩
  have HB5 := hide hb5
  have HW5 := hide (HW4.out.trans (hb5.mono HW4.out.size))
  clear hb5
  go_wp2_with (go_at_call 25; refine stop_here ?_)
  show Hid _
  refine start_here ?_
  have h15 : Below w1.heap.size w1 w5 := HB2.out.trans ((HX1.out.trans (HB5.out.mono HX1.out.size)).mono HB2.out.size)
  refine (keptBytes_any w.heap.size A n c w.heap.size l w5 (HH.out.below HW5.out) HW5.out.size (row_below HR1.out h15) (by omega)).mono ?_
  rintro e w6 ⟨rfl, hb6⟩
  have HB6 := hide hb6
  have HW6 := hide (HW5.out.trans (hb6.mono HW5.out.size))
  clear hb6 h15
  go_wp2_with (go_at_call 26; refine stop_here ?_)
  show Hid _
  refine start_here ?_
  have h46 : Below w4.heap.size w4 w6 := HB5.out.trans (HB6.out.mono HB5.out.size)
  have h26 : Below w2.heap.size w2 w6 := HX1.out.trans (h46.mono HX1.out.size)
  have h36 : Below w3.heap.size w3 w6 := HB4.out.trans (h46.mono HB4.out.size)
  have hnew := World.alloc_heap_new w6 (.cells #[.slice A1 N c1, .slice A2 N c2] 28)
  refine (apartProgram_two w6.heap.size w.heap.size A1 A2 N N c1 c2 (pcells X) (pcells X) _ (alloc_lt _ _) ((blk_cell hnew 0).trans rfl) ((blk_cell hnew 1).trans rfl) ((owns_kept_below HO1.out h26).alloc _) ((owns_kept_below HO2.out h36).alloc _)
    (fun b hb hb' => by have := (HO1.out.lt b hb).2; have := HV2.out b hb'; omega) (fun g hg => Nat.le_trans HB1.out.size (HV1.out g hg)) (fun g hg => Nat.le_trans (Nat.le_trans HB1.out.size HB2.out.size) (HV2.out g hg)) (Nat.le_trans HW6.out.size (Nat.le_of_lt (alloc_lt _ _))) (by omega) (by omega)).mono ?_
  rintro e w7 ⟨rfl, hb7⟩
  have HW7 := hide ((HW6.out.alloc HW6.out.size (.cells #[.slice A1 N c1, .slice A2 N c2] 28)).trans hb7)
  clear hb7 hnew h46 h26 h36
  go_wp2_with (go_at_call 11; refine (awake_any _).mono ?_; rintro e w8 ⟨rfl, hb8⟩)
  go_ret
  exact ⟨rfl, HW7.out.trans (hb8.mono HW7.out.size)⟩

theorem law_codeGets (A0 : Option Addr) (n0 c0 : Nat) (l : List Int) (w : World) (h0 : Rd w w.heap.size 1 A0 n0 (u8s l)) (hA0 : A0 = none → n0 = 0) (hf0 : ∀ b ∈ l, IsByte b) (k0 : n0 ≤ c0) (m0 : c0 ≤ maxLen) (r0 : n0 ≤ 140737488351232) :
    Calls Tryz.prog 10 #[.slice A0 n0 c0] w fun e w' => e = .returned (.bool true) ∧ Below w.heap.size w w' := by
  by_cases h : 40000 < n0
  · exact gets_long A0 n0 c0 w h r0
  · exact gets_short A0 n0 c0 l w h0 hA0 hf0 (by omega)
end Go.Proofs.YtjndmpockfmenaaGreat
