/-
  Of as many slots as may be, and one more: the law's walk.
-/
import Derived.Test.YtjnmfgkjeofneaaSl
namespace Go.Proofs.Ytjnmfgkjeofneaa
open Go.RowKit
set_option linter.unusedVariables false

theorem pick_any (d : Int) (h0 : -9223372036854775808 ≤ d) (h1 : d ≤ 9223372036854775807) (w : World) : Calls Try.prog 20 #[.int .i64 d, .int .i64 3] w fun e w' => e = .returned (.int .i64 (d % 3)) ∧ w = w' := by
  have hmod : d.tmod 3 = if 0 ≤ d then d % 3 else -((-d) % 3) := by
    split
    · exact Int.tmod_eq_emod_of_nonneg ‹_›
    · have : d = -(-d) := by omega
      rw [this, Int.neg_tmod, Int.tmod_eq_emod_of_nonneg (by omega)]
      omega
  by_cases hd : 0 ≤ d
  · go_enter Try.func20, Try.ntmps20
    go_wp2
    go_ret
    exact ⟨rfl, rfl⟩
  · by_cases hz : (-d) % 3 = 0
    · have e1 : d.tmod 3 = 0 := by rw [hmod, if_neg hd]; omega
      have e2 : d % 3 = 0 := by omega
      rw [e2]
      clear hmod e2 hz
      go_enter Try.func20, Try.ntmps20
      go_wp2
      go_ret
      exact ⟨rfl, rfl⟩
    · obtain ⟨t, ht⟩ : ∃ t, t = d.tmod 3 := ⟨_, rfl⟩
      have e1 : d.tmod 3 = t := ht.symm
      have ht2 : t = -((-d) % 3) := by rw [ht, hmod, if_neg hd]
      have e2 : d % 3 = t + 3 := by omega
      have ht3 : t < 0 := by omega
      have ht4 : -3 ≤ t := by omega
      rw [e2]
      clear hmod e2 hz ht2 ht
      go_enter Try.func20, Try.ntmps20
      go_wp2
      go_ret
      exact ⟨rfl, rfl⟩
set_option maxRecDepth 100000 in
set_option maxHeartbeats 4000000 in
theorem long_walk (n : Nat) (d : Int) (h0 : -9223372036854775808 ≤ d) (h1 : d ≤ 9223372036854775807) (hn1 : 4095 ≤ n) (hn2 : n ≤ 4097) (hdn : 4095 + d % 3 = (n : Int)) (x nx y : Int) (w : World) (hcs : (x = 0 ∧ nx = 6 ∧ n ≤ 4096) ∨ (x = 3 ∧ nx = -1 ∧ 4096 < n)) (hc : checkM (longP n) = (y, x)) (hnm : nextM (longP n) 5 = (nx, -1)) :
    Calls Try.prog 4 #[.int .i64 d] w fun e w' => e = .returned (.bool true) ∧ Below w.heap.size w w' := by
  have HA := hide (awake_any w)
  have HP := hide (fun w => pick_any d h0 h1 w)
  obtain ⟨C, hC, hmk⟩ := made_slots n (by omega)
  have HCS := hide hC
  have HDN := hide hdn
  have HX := hide hcs
  have HCH := hide hc
  have HNM := hide hnm
  clear hC hdn hcs hc hnm
  go_enter Try.func4, Try.ntmps4
  go_wp2_with fail
  refine HA.out.mono ?_
  rintro e w1 ⟨rfl, hb1⟩
  have HB1 := hide hb1
  clear hb1
  go_wp2_with fail
  refine (HP.out _).mono ?_
  rintro e w' ⟨rfl, rfl⟩
  have e1 := HDN.out
  go_wp2_with fail
  have HS0 : Hid (Slots5 (w1.alloc (.cells C 42)) w1.heap.size n (fun i => i < 0) (fun _ => ⟨183, 0, 0, 0, 0⟩)) := ⟨C.toList, by simp [HCS.out], World.alloc_heap_new w1 _, fun i _ hi => by omega⟩
  clear hmk
  go_loopw [5] (fun p wr => ∃ k : Nat, k ≤ n ∧ p = .int .i64 k ∧ Slots5 wr w1.heap.size n (fun i => i < k) (fun _ => ⟨183, 0, 0, 0, 0⟩) ∧ Below w.heap.size w wr) (fun p _ => n - (intOf p).toNat)
  case atStart => exact ⟨0, by omega, rfl, HS0.out, HB1.out.alloc HB1.out.size _⟩
  case round =>
    obtain ⟨k, hk, rfl, hs, hb⟩ := hrel
    have HS := hide hs
    have HB := hide hb
    have z1 := HB1.out.size
    clear hs hb e1
    by_cases hlt : k < n
    · obtain ⟨v0, c0⟩ := HS.out.cellAt (k := k * 5) (by omega)
      obtain ⟨v1, c1⟩ := HS.out.cellAt (k := k * 5 + 1) (by omega)
      obtain ⟨v2, c2⟩ := HS.out.cellAt (k := k * 5 + 2) (by omega)
      obtain ⟨v3, c3⟩ := HS.out.cellAt (k := k * 5 + 3) (by omega)
      obtain ⟨v4, c4⟩ := HS.out.cellAt (k := k * 5 + 4) (by omega)
      have f0 := HS.out.free (k * 5)
      have f1 := HS.out.free (k * 5 + 1)
      have f2 := HS.out.free (k * 5 + 2)
      have f3 := HS.out.free (k * 5 + 3)
      have f4 := HS.out.free (k * 5 + 4)
      go_wp2
      obtain ⟨t1, t2⟩ := HS.out.set k hlt 183 0 0 0 0
      have HT := hide t1
      have HB2 := hide (HB.out.grown t2 HB.out.size (fun j e => by cases e; exact z1))
      clear t1 t2
      go_roundw
      case rel =>
        refine ⟨k + 1, by omega, by go_num, ?_, HB2.out⟩
        obtain ⟨L, a1, a2, a3⟩ := HT.out
        refine ⟨L, a1, a2, fun i hi hK j u hu => a3 i hi (by omega) j u ?_⟩
        by_cases e : i = k
        · simp only [if_pos e]; exact hu
        · simp only [if_neg e]; exact hu
      case measure => simp [intOf]; omega
    · have hkn : k = n := by omega
      subst hkn
      obtain ⟨v0, c0⟩ := HS.out.cellAt (k := (k - 1) * 5) (by omega)
      obtain ⟨v1, c1⟩ := HS.out.cellAt (k := (k - 1) * 5 + 1) (by omega)
      obtain ⟨v2, c2⟩ := HS.out.cellAt (k := (k - 1) * 5 + 2) (by omega)
      obtain ⟨v3, c3⟩ := HS.out.cellAt (k := (k - 1) * 5 + 3) (by omega)
      obtain ⟨v4, c4⟩ := HS.out.cellAt (k := (k - 1) * 5 + 4) (by omega)
      have f0 := HS.out.free ((k - 1) * 5)
      have f1 := HS.out.free ((k - 1) * 5 + 1)
      have f2 := HS.out.free ((k - 1) * 5 + 2)
      have f3 := HS.out.free ((k - 1) * 5 + 3)
      have f4 := HS.out.free ((k - 1) * 5 + 4)
      have hkk : ((k : Int) - 1).toNat = k - 1 := by omega
      go_wp2_with fail
      obtain ⟨t1, t2⟩ := HS.out.set (k - 1) (by omega) 149 0 0 0 0
      generalize hX : ((((wr.setCell ⟨w1.heap.size, (k - 1) * 5, none⟩ (.int .u8 149)).setCell ⟨w1.heap.size, (k - 1) * 5 + 1, none⟩ (.int .u8 0)).setCell ⟨w1.heap.size, (k - 1) * 5 + 2, none⟩ (.int .u8 0)).setCell ⟨w1.heap.size, (k - 1) * 5 + 3, none⟩ (.int .i16 0)).setCell ⟨w1.heap.size, (k - 1) * 5 + 4, none⟩ (.int .i32 0) = X at t1 t2
      have HBX := hide (HB.out.grown t2 HB.out.size (fun j e => by cases e; exact z1))
      have HRD := hide (t1.rd (fun i hi => by omega) (longP k) (longP_length k (by omega)) (fun i hi => by
        rw [longP_at k (by omega) i hi]))
      have hlt1 : w1.heap.size < X.heap.size := by
        obtain ⟨L, _, a2, _⟩ := t1
        exact at_lt a2
      have HFT := hide (fun s (hs : s ∈ longP k) => show s.Fits from by
        rcases longP_mem hs with rfl | rfl
        · exact fits_lit 183 0 (by omega) (by omega)
        · exact fits_lit 149 0 (by omega) (by omega))
      have HC1 := check_all (some ⟨w1.heap.size, 0, none⟩) k k (w1.heap.size + 1) (longP k) X HRD.out (by omega) HFT.out (by omega)
      rw [HCH.out] at HC1
      have HN1 := hide (fun (W : World) (hW : Below X.heap.size X W) => next_any (some ⟨w1.heap.size, 0, none⟩) k k (w1.heap.size + 1) (longP k) 5 W (HRD.out.below (hW.mono (by omega))) (by have := hW.size; omega) HFT.out (by omega))
      rw [HNM.out] at HN1
      clear t1 t2 hX c0 c1 c2 c3 c4 f0 f1 f2 f3 f4
      refine HC1.mono ?_
      rintro e w2 ⟨rfl, hb2⟩
      have HB2 := hide hb2
      clear hb2 HC1
      go_wp2_with fail
      refine (check_none none 0 w2).mono ?_
      rintro e w3 ⟨rfl, hb3⟩
      have HB3 := hide (HB2.out.trans (hb3.mono HB2.out.size))
      clear hb3
      go_wp2_with fail
      refine (HN1.out w3 HB3.out).mono ?_
      rintro e w4 ⟨rfl, hb4⟩
      have HB4 := hide (HBX.out.trans ((HB3.out.trans (hb4.mono HB3.out.size)).mono (by have := HBX.out.size; omega)))
      clear hb4 HN1
      rcases HX.out with ⟨rfl, rfl, h5⟩ | ⟨rfl, rfl, h5⟩
      · have hd : decide ((k : Int) ≤ 4096) = true := by simp; omega
        go_wp2
        go_ret
        exact ⟨rfl, HB4.out⟩
      · have hd : decide ((k : Int) ≤ 4096) = false := by simp; omega
        go_wp2
        go_ret
        exact ⟨rfl, HB4.out⟩
theorem law_shapeLong (d : Int) (h0 : -9223372036854775808 ≤ d) (h1 : d ≤ 9223372036854775807) (w : World) : Calls Try.prog 4 #[.int .i64 d] w fun e w' => e = .returned (.bool true) ∧ Below w.heap.size w w' := by
  obtain ⟨n, hn⟩ := Int.eq_ofNat_of_zero_le (show 0 ≤ 4095 + d % 3 by omega)
  have hn1 : 4095 ≤ n := by omega
  have hn2 : n ≤ 4097 := by omega
  by_cases h : n ≤ 4096
  · exact long_walk n d h0 h1 hn1 hn2 (by omega) 0 6 0 w (.inl ⟨rfl, rfl, h⟩) (long_check n (by omega) h) (long_next n hn1 h)
  · have hc : checkM (longP n) = (0, 3) := by
      unfold checkM
      rw [if_pos (.inr (by rw [longP_length n (by omega)]; omega))]
    exact long_walk n d h0 h1 hn1 hn2 (by omega) 3 (-1) 0 w (.inr ⟨rfl, rfl, by omega⟩) hc (by
      unfold nextM
      rw [hc, if_neg (by simp)])
end Go.Proofs.Ytjnmfgkjeofneaa
