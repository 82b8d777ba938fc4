/-
  The law WordEnds, walked: four loops, one in the other, over the words and offsets at their ends.
-/
import Derived.Test.YtmlkbpmchcdldaaGreatRef7
import Derived.Deep.RegionHeld3
namespace Go.Proofs.YtmlkbpmchcdldaaGreat
open Go.RowKit Go.Maps
set_option linter.unusedVariables false
set_option linter.unusedSimpArgs false

/-- The words and the offsets that the law goes through. -/
def ws : List Int := [0, 1, 2, 7, 31, 32, 33, 63, 64, 127, 128, 255, 256, 32767, 32768, 2147483647, 2147483648, 4294967295, 4294967296, 4294967297, 9223372036854775807, 9223372036854775808, 9223372036854775809, 18446744073709551614, 18446744073709551615]
def fs : List Int := [0, 1, 2, 8, 16, 32, -1, 64]
theorem ws_wf : ∀ i, i < 25 → (Lit.int .u64 (ws.getD i 0)).wf = true := by decide
theorem fs_wf : ∀ i, i < 8 → (Lit.int .i16 (fs.getD i 0)).wf = true := by decide
/-- The world behind the two lists. -/
def laidW (w : World) : World := (w.alloc (Obj.cells #[Value.int IntKind.u64 0, Value.int IntKind.u64 1, Value.int IntKind.u64 2, Value.int IntKind.u64 7, Value.int IntKind.u64 31, Value.int IntKind.u64 32, Value.int IntKind.u64 33, Value.int IntKind.u64 63, Value.int IntKind.u64 64, Value.int IntKind.u64 127, Value.int IntKind.u64 128, Value.int IntKind.u64 255, Value.int IntKind.u64 256, Value.int IntKind.u64 32767, Value.int IntKind.u64 32768, Value.int IntKind.u64 2147483647, Value.int IntKind.u64 2147483648, Value.int IntKind.u64 4294967295, Value.int IntKind.u64 4294967296, Value.int IntKind.u64 4294967297, Value.int IntKind.u64 9223372036854775807, Value.int IntKind.u64 9223372036854775808, Value.int IntKind.u64 9223372036854775809, Value.int IntKind.u64 18446744073709551614, Value.int IntKind.u64 18446744073709551615] 23)).alloc (Obj.cells #[Value.int IntKind.i16 0, Value.int IntKind.i16 1, Value.int IntKind.i16 2, Value.int IntKind.i16 8, Value.int IntKind.i16 16, Value.int IntKind.i16 32, Value.int IntKind.i16 (-1), Value.int IntKind.i16 64] 25)
theorem laid_1 (w : World) : (laidW w).heap[w.heap.size]? = some (Obj.cells #[Value.int IntKind.u64 0, Value.int IntKind.u64 1, Value.int IntKind.u64 2, Value.int IntKind.u64 7, Value.int IntKind.u64 31, Value.int IntKind.u64 32, Value.int IntKind.u64 33, Value.int IntKind.u64 63, Value.int IntKind.u64 64, Value.int IntKind.u64 127, Value.int IntKind.u64 128, Value.int IntKind.u64 255, Value.int IntKind.u64 256, Value.int IntKind.u64 32767, Value.int IntKind.u64 32768, Value.int IntKind.u64 2147483647, Value.int IntKind.u64 2147483648, Value.int IntKind.u64 4294967295, Value.int IntKind.u64 4294967296, Value.int IntKind.u64 4294967297, Value.int IntKind.u64 9223372036854775807, Value.int IntKind.u64 9223372036854775808, Value.int IntKind.u64 9223372036854775809, Value.int IntKind.u64 18446744073709551614, Value.int IntKind.u64 18446744073709551615] 23) := by
  show ((w.heap.push _).push _)[_]? = _
  simp [Array.getElem?_push]
theorem laid_2 (w : World) : (laidW w).heap[w.heap.size + 1]? = some (Obj.cells #[Value.int IntKind.i16 0, Value.int IntKind.i16 1, Value.int IntKind.i16 2, Value.int IntKind.i16 8, Value.int IntKind.i16 16, Value.int IntKind.i16 32, Value.int IntKind.i16 (-1), Value.int IntKind.i16 64] 25) := by
  show ((w.heap.push _).push _)[_]? = _
  rw [Array.getElem?_push, if_pos (by simp)]
theorem cells_1 (w : World) (i : Nat) (hi : i < 25) : (laidW w).cell? ⟨w.heap.size, i, none⟩ = some (.int .u64 (ws.getD i 0)) := by
  have h : i = 0 ∨ i = 1 ∨ i = 2 ∨ i = 3 ∨ i = 4 ∨ i = 5 ∨ i = 6 ∨ i = 7 ∨ i = 8 ∨ i = 9 ∨ i = 10 ∨ i = 11 ∨ i = 12 ∨ i = 13 ∨ i = 14 ∨ i = 15 ∨ i = 16 ∨ i = 17 ∨ i = 18 ∨ i = 19 ∨ i = 20 ∨ i = 21 ∨ i = 22 ∨ i = 23 ∨ i = 24 := by omega
  rcases h with rfl | rfl | rfl | rfl | rfl | rfl | rfl | rfl | rfl | rfl | rfl | rfl | rfl | rfl | rfl | rfl | rfl | rfl | rfl | rfl | rfl | rfl | rfl | rfl | rfl <;> (simp only [World.cell?, laid_1]; rfl)
theorem cells_2 (w : World) (i : Nat) (hi : i < 8) : (laidW w).cell? ⟨w.heap.size + 1, i, none⟩ = some (.int .i16 (fs.getD i 0)) := by
  have h : i = 0 ∨ i = 1 ∨ i = 2 ∨ i = 3 ∨ i = 4 ∨ i = 5 ∨ i = 6 ∨ i = 7 := by omega
  rcases h with rfl | rfl | rfl | rfl | rfl | rfl | rfl | rfl <;> (simp only [World.cell?, laid_2]; rfl)
theorem u8_wf (n : Int) : (Lit.int .u8 (IntKind.u8.wrap n)).wf = true := by
  have h : IntKind.u8.wrap n = n % 256 := by simp [IntKind.wrap, IntKind.bits, IntKind.signed]
  rw [h]
  simp [Lit.wf, IntKind.min, IntKind.max, IntKind.bits, IntKind.signed]
  omega

set_option maxRecDepth 100000 in
set_option maxHeartbeats 40000000 in
theorem ends_any (w : World) : Calls Tryz.prog 3 #[] w fun e w' => e = .returned (.bool true) ∧ Below w.heap.size w w' := by
  have HB := put_by (Below.refl w.heap.size w)
  go_enter Tryz.func3, Tryz.ntmps3
  go_wp2_with (go_at_call 4; refine (from_w HB.out (awake_any _)).mono ?_; clear HB; rintro e w' ⟨rfl, hb⟩; have HB := put_by hb; clear hb)
  obtain ⟨W0, hW⟩ : ∃ W : World, W = laidW w' := ⟨_, rfl⟩
  have hc1 : ∀ i, i < 25 → W0.cell? ⟨w'.heap.size, i, none⟩ = some (.int .u64 (ws.getD i 0)) := fun i hi => by rw [hW]; exact cells_1 w' i hi
  have hc2 : ∀ i, i < 8 → W0.cell? ⟨w'.heap.size + 1, i, none⟩ = some (.int .i16 (fs.getD i 0)) := fun i hi => by rw [hW]; exact cells_2 w' i hi
  have hs0 : w'.heap.size + 1 < W0.heap.size := by rw [hW]; simp [laidW]
  have hB0 : Below w.heap.size w W0 := by rw [hW]; exact ((HB.out).alloc HB.out.size _).alloc (by have := HB.out.size; simp; omega) _
  show Code.wp _ _ _ _ (laidW w')
  rw [← hW]
  have H1 := put_by hc1
  have H2 := put_by hc2
  have HS := put_by hs0
  have H0 := put_by hB0
  clear hc1 hc2 hs0 hB0 hW HB
  obtain ⟨b1, hb1⟩ : ∃ b : Nat, w'.heap.size = b := ⟨_, rfl⟩
  rw [hb1] at H1 H2 HS ⊢
  clear hb1
  go_loopw [3] (fun o wr => ∃ j : Nat, j ≤ 32 ∧ o = .int .i64 (8 * (j : Int)) ∧ Below W0.heap.size W0 wr) (fun o _ => 256 - (intOf o).toNat)
  case atStart => exact ⟨0, by omega, rfl, Below.refl _ _⟩
  case round =>
    obtain ⟨j, hj, rfl, hX⟩ := hrel
    have HX := put_by hX
    clear hX
    by_cases hlj : j < 32
    · obtain ⟨wo, rfl⟩ : ∃ wo : World, wo = wr := ⟨_, rfl⟩
      have dj : decide (8 * (j : Int) < 256) = true := by simp; omega
      go_wp2
      go_loopw [4] (fun o wr => ∃ i : Nat, i ≤ 25 ∧ o = .int .i64 i ∧ Below W0.heap.size W0 wr) (fun o _ => 25 - (intOf o).toNat)
      case atStart => exact ⟨0, by omega, rfl, HX.out⟩
      case round =>
        obtain ⟨i, hi, rfl, hX⟩ := hrel
        clear HX
        have HX := put_by hX
        clear hX
        by_cases hli : i < 25
        · obtain ⟨wo2, rfl⟩ : ∃ wo : World, wo = wr := ⟨_, rfl⟩
          have di : decide ((i : Int) < 25) = true := by simp; omega
          go_wp2
          go_loopw [5] (fun o wr => ∃ k : Nat, k ≤ 25 ∧ o = .int .i64 k ∧ Below W0.heap.size W0 wr) (fun o _ => 25 - (intOf o).toNat)
          case atStart => exact ⟨0, by omega, rfl, HX.out⟩
          case round =>
            obtain ⟨k, hk, rfl, hX⟩ := hrel
            clear HX
            have HX := put_by hX
            clear hX
            by_cases hlk : k < 25
            · obtain ⟨wo3, rfl⟩ : ∃ wo : World, wo = wr := ⟨_, rfl⟩
              have dk : decide ((k : Int) < 25) = true := by simp; omega
              go_wp2
              go_loopw [6] (fun o wr => ∃ n : Nat, n ≤ 8 ∧ o = .int .i64 n ∧ Below W0.heap.size W0 wr) (fun o _ => 8 - (intOf o).toNat)
              case atStart => exact ⟨0, by omega, rfl, HX.out⟩
              case round =>
                obtain ⟨n, hn, rfl, hX⟩ := hrel
                clear HX
                have HX := put_by hX
                clear hX
                by_cases hln : n < 8
                · have g1 := H2.out n hln
                  have g2 := H1.out i hli
                  have g3 := H1.out k hlk
                  have hfo := fs_wf n hln
                  have hfu : W64 (ws.getD i 0) := ws_wf i hli
                  have hfv : W64 (ws.getD k 0) := ws_wf k hlk
                  generalize fs.getD n 0 = o at g1 hfo
                  generalize ws.getD i 0 = u at g2 hfu
                  generalize ws.getD k 0 = v at g3 hfv
                  have hsb : b1 < W0.heap.size := by have := HS.out; omega
                  have k1 := (HX.out.cell (p := ⟨b1 + 1, n, none⟩) HS.out).trans g1
                  have k2 := (HX.out.cell (p := ⟨b1, i, none⟩) hsb).trans g2
                  have k3 := (HX.out.cell (p := ⟨b1, k, none⟩) hsb).trans g3
                  have q1 : (0 : Int) ≤ (n : Int) := by omega
                  have q2 : (n : Int) < 8 := by omega
                  have q3 : (0 : Int) ≤ (i : Int) := by omega
                  have q4 : (i : Int) < 25 := by omega
                  have q5 : (0 : Int) ≤ (k : Int) := by omega
                  have q6 : (k : Int) < 25 := by omega
                  have dn : decide ((n : Int) < 8) = true := by simp; omega
                  go_wp2_with (fail)
                  go_region_held3 (fun W => W.cell? ⟨b1 + 1, n, none⟩ = some (.int .i16 o) ∧ W.cell? ⟨b1, i, none⟩ = some (.int .u64 u) ∧ W.cell? ⟨b1, k, none⟩ = some (.int .u64 v)) (first | exact ⟨k1, k2, k3⟩ | go_keep)
                    (first | (go_at_call 5; ((first | (with_reducible refine (from_w HX.out (word_alu _ _ (u8_wf _) hfo _ _ _ hfu hfv _)).mono ?_) | (with_reducible refine (from_w HX.out.drew (word_alu _ _ (u8_wf _) hfo _ _ _ hfu hfv _)).mono ?_)); clear HX; rintro e v1 ⟨rfl, hb⟩; have k1 := (hb.cell (p := ⟨b1 + 1, n, none⟩) HS.out).trans g1; have k2 := (hb.cell (p := ⟨b1, i, none⟩) hsb).trans g2; have k3 := (hb.cell (p := ⟨b1, k, none⟩) hsb).trans g3; have HX := put_by hb; clear hb)))
                  go_wp2_with (fail)
                  go_roundw
                  case rel => exact ⟨n + 1, by omega, by go_num, HX.out⟩
                  case measure => simp [intOf]; omega
                · obtain rfl : n = 8 := by omega
                  have g2 := H1.out i hli
                  have g3 := H1.out k hlk
                  have hfu : W64 (ws.getD i 0) := ws_wf i hli
                  have hfv : W64 (ws.getD k 0) := ws_wf k hlk
                  generalize ws.getD i 0 = u at g2 hfu
                  generalize ws.getD k 0 = v at g3 hfv
                  have hsb : b1 < W0.heap.size := by have := HS.out; omega
                  have hlb : b1 < wr.heap.size := Nat.lt_of_lt_of_le hsb HX.out.size
                  have k2 := (HX.out.cell (p := ⟨b1, i, none⟩) hsb).trans g2
                  have k3 := (HX.out.cell (p := ⟨b1, k, none⟩) hsb).trans g3
                  have q3 : (0 : Int) ≤ (i : Int) := by omega
                  have q4 : (i : Int) < 25 := by omega
                  have q5 : (0 : Int) ≤ (k : Int) := by omega
                  have q6 : (k : Int) < 25 := by omega
                  have h5 : (k : Int).tmod 5 = 0 ∨ (k : Int).tmod 5 = 1 ∨ (k : Int).tmod 5 = 2 ∨ (k : Int).tmod 5 = 3 ∨ (k : Int).tmod 5 = 4 := by
                    rw [Int.tmod_eq_emod_of_nonneg (by omega)]; omega
                  go_wp2_with (fail)
                  rcases h5 with h5 | h5 | h5 | h5 | h5
                  all_goals
                   refine wp_region_noPanic ?_
                   refine wp_region_held_drew (S := fun W => W.cell? ⟨b1, i, none⟩ = some (.int .u64 u) ∧ W.cell? ⟨b1, k, none⟩ = some (.int .u64 v)) (by kernel_rfl) ⟨k2, k3⟩ (fun hHeld => ?_)
                   refine wpAnyH_take (i := 0) (v := ?_) (by simp only [List.getElem?_toArray, List.getElem?_cons_succ, List.getElem?_cons_zero]; rfl) (by kernel_rfl) (by kernel_rfl) (by kernel_rfl) (fun _ _ _ h => h) (Or.inl ⟨by rfl, ?_⟩) (by assumption) ?_
                   rotate_left
                   · (intro W hSw; (try dsimp only at hSw); go_simp; (try with_reducible rfl))
                   try simp only [Act.put, List.setIfInBounds_toArray, List.set_cons_zero, List.set_cons_succ]
                   refine wpAnyH_take (i := 1) (v := ?_) (by simp only [List.getElem?_toArray, List.getElem?_cons_succ, List.getElem?_cons_zero]; rfl) (by kernel_rfl) (by kernel_rfl) (by kernel_rfl) (fun _ _ _ h => h) (Or.inl ⟨by rfl, ?_⟩) (by assumption) ?_
                   rotate_left
                   · (intro W hSw; (try dsimp only at hSw); go_simp; (try with_reducible rfl))
                   try simp only [Act.put, List.setIfInBounds_toArray, List.set_cons_zero, List.set_cons_succ]
                   refine wpAnyH_take (i := 2) (v := ?_) (by simp only [List.getElem?_toArray, List.getElem?_cons_succ, List.getElem?_cons_zero]; rfl) (by kernel_rfl) (by kernel_rfl) (by kernel_rfl) (fun _ _ _ h => h) (Or.inl ⟨by rfl, ?_⟩) (by assumption) ?_
                   rotate_left
                   · (intro W hSw; (try dsimp only at hSw); go_simp; (try with_reducible rfl))
                   try simp only [Act.put, List.setIfInBounds_toArray, List.set_cons_zero, List.set_cons_succ]
                   refine wpAnyH_take (i := 3) (v := ?_) (by simp only [List.getElem?_toArray, List.getElem?_cons_succ, List.getElem?_cons_zero]; rfl) (by kernel_rfl) (by kernel_rfl) (by kernel_rfl) (fun _ _ _ h => h) (Or.inl ⟨by rfl, ?_⟩) (by assumption) ?_
                   rotate_left
                   · (intro W hSw; (try dsimp only at hSw); go_simp; (try with_reducible rfl))
                   try simp only [Act.put, List.setIfInBounds_toArray, List.set_cons_zero, List.set_cons_succ]
                   refine wpAnyH_take (i := 4) (v := ?_) (by simp only [List.getElem?_toArray, List.getElem?_cons_succ, List.getElem?_cons_zero]; rfl) (by kernel_rfl) (by kernel_rfl) (by kernel_rfl) (fun _ _ _ h => h) (Or.inl ⟨by rfl, ?_⟩) (by assumption) ?_
                   rotate_left
                   · (intro W hSw; (try dsimp only at hSw); go_simp; (try with_reducible rfl))
                   try simp only [Act.put, List.setIfInBounds_toArray, List.set_cons_zero, List.set_cons_succ]
                   refine wpAnyH_take (i := 5) (v := ?_) (by simp only [List.getElem?_toArray, List.getElem?_cons_succ, List.getElem?_cons_zero]; rfl) (by kernel_rfl) (by kernel_rfl) (by kernel_rfl) (fun _ _ _ h => h) (Or.inl ⟨by rfl, ?_⟩) (by assumption) ?_
                   rotate_left
                   · (intro W hSw; (try dsimp only at hSw); go_simp; (try with_reducible rfl))
                   try simp only [Act.put, List.setIfInBounds_toArray, List.set_cons_zero, List.set_cons_succ]
                   refine wpAnyH_take (i := 6) (v := ?_) (by simp only [List.getElem?_toArray, List.getElem?_cons_succ, List.getElem?_cons_zero]; rfl) (by kernel_rfl) (by kernel_rfl) (by kernel_rfl) (fun _ _ _ h => h) (Or.inl ⟨by rfl, ?_⟩) (by assumption) ?_
                   rotate_left
                   · (intro W hSw; (try dsimp only at hSw); go_simp; (try with_reducible rfl))
                   try simp only [Act.put, List.setIfInBounds_toArray, List.set_cons_zero, List.set_cons_succ]
                   refine wpAnyH_take (i := 7) (v := ?_) (by simp only [List.getElem?_toArray, List.getElem?_cons_succ, List.getElem?_cons_zero]; rfl) (by kernel_rfl) (by kernel_rfl) (by kernel_rfl) (fun _ _ _ h => h) (Or.inl ⟨by rfl, ?_⟩) (by assumption) ?_
                   rotate_left
                   · (intro W hSw; (try dsimp only at hSw); go_simp; (try with_reducible rfl))
                   try simp only [Act.put, List.setIfInBounds_toArray, List.set_cons_zero, List.set_cons_succ]
                   refine wpAnyH_take (i := 8) (v := ?_) (by simp only [List.getElem?_toArray, List.getElem?_cons_succ, List.getElem?_cons_zero]; rfl) (by kernel_rfl) (by kernel_rfl) (by kernel_rfl) (fun _ _ _ h => h) (Or.inl ⟨by rfl, ?_⟩) (by assumption) ?_
                   rotate_left
                   · (intro W hSw; (try dsimp only at hSw); go_simp; (try with_reducible rfl))
                   try simp only [Act.put, List.setIfInBounds_toArray, List.set_cons_zero, List.set_cons_succ]
                   refine wpAnyH_take (i := 9) (v := ?_) (by simp only [List.getElem?_toArray, List.getElem?_cons_succ, List.getElem?_cons_zero]; rfl) (by kernel_rfl) (by kernel_rfl) (by kernel_rfl) (fun _ _ _ h => h) (Or.inl ⟨by rfl, ?_⟩) (by assumption) ?_
                   rotate_left
                   · (intro W hSw; (try dsimp only at hSw); go_simp; (try with_reducible rfl))
                   try simp only [Act.put, List.setIfInBounds_toArray, List.set_cons_zero, List.set_cons_succ]
                   refine wpAnyH_take (i := 10) (v := ?_) (by simp only [List.getElem?_toArray, List.getElem?_cons_succ, List.getElem?_cons_zero]; rfl) (by kernel_rfl) (by kernel_rfl) (by kernel_rfl) (fun _ _ _ h => h) (Or.inl ⟨by rfl, ?_⟩) (by assumption) ?_
                   rotate_left
                   · (intro W hSw; (try dsimp only at hSw); go_simp; (try with_reducible rfl))
                   try simp only [Act.put, List.setIfInBounds_toArray, List.set_cons_zero, List.set_cons_succ]
                   refine wpAnyH_take (i := 11) (v := ?_) (by simp only [List.getElem?_toArray, List.getElem?_cons_succ, List.getElem?_cons_zero]; rfl) (by kernel_rfl) (by kernel_rfl) (by kernel_rfl) (fun _ _ _ h => h) (Or.inl ⟨by rfl, ?_⟩) (by assumption) ?_
                   rotate_left
                   · (intro W hSw; (try dsimp only at hSw); go_simp; (try with_reducible rfl))
                   try simp only [Act.put, List.setIfInBounds_toArray, List.set_cons_zero, List.set_cons_succ]
                   refine wpAnyH_take (i := 12) (v := ?_) (by simp only [List.getElem?_toArray, List.getElem?_cons_succ, List.getElem?_cons_zero]; rfl) (by kernel_rfl) (by kernel_rfl) (by kernel_rfl) (fun _ _ _ h => h) (Or.inl ⟨by rfl, ?_⟩) (by assumption) ?_
                   rotate_left
                   · (intro W hSw; (try dsimp only at hSw); go_simp; (try with_reducible rfl))
                   try simp only [Act.put, List.setIfInBounds_toArray, List.set_cons_zero, List.set_cons_succ]
                   refine wpAnyH_take (i := 14) (v := ?_) (by simp only [List.getElem?_toArray, List.getElem?_cons_succ, List.getElem?_cons_zero]; rfl) (by kernel_rfl) (by kernel_rfl) (by kernel_rfl) (fun _ _ _ h => h) (Or.inl ⟨by rfl, ?_⟩) (by assumption) ?_
                   rotate_left
                   · (intro W hSw; (try dsimp only at hSw); go_simp; (try with_reducible rfl))
                   try simp only [Act.put, List.setIfInBounds_toArray, List.set_cons_zero, List.set_cons_succ]
                   refine wpAnyH_take (i := 15) (v := ?_) (by simp only [List.getElem?_toArray, List.getElem?_cons_succ, List.getElem?_cons_zero]; rfl) (by kernel_rfl) (by kernel_rfl) (by kernel_rfl) (fun _ _ _ h => h) (Or.inl ⟨by rfl, ?_⟩) (by assumption) ?_
                   rotate_left
                   · (intro W hSw; (try dsimp only at hSw); go_simp; (try with_reducible rfl))
                   try simp only [Act.put, List.setIfInBounds_toArray, List.set_cons_zero, List.set_cons_succ]
                   refine wpAnyH_take (i := 18) (v := ?_) (by simp only [List.getElem?_toArray, List.getElem?_cons_succ, List.getElem?_cons_zero]; rfl) (by kernel_rfl) (by kernel_rfl) (by kernel_rfl) (fun _ _ _ h => h) (Or.inl ⟨by rfl, ?_⟩) (by assumption) ?_
                   rotate_left
                   · (intro W hSw; (try dsimp only at hSw); go_simp; (try with_reducible rfl))
                   try simp only [Act.put, List.setIfInBounds_toArray, List.set_cons_zero, List.set_cons_succ]
                   refine wpAnyH_take (i := 19) (v := ?_) (by simp only [List.getElem?_toArray, List.getElem?_cons_succ, List.getElem?_cons_zero]; rfl) (by kernel_rfl) (by kernel_rfl) (by kernel_rfl) (fun _ _ _ h => h) (Or.inl ⟨by rfl, ?_⟩) (by assumption) ?_
                   rotate_left
                   · (intro W hSw; (try dsimp only at hSw); go_simp; (try with_reducible rfl))
                   try simp only [Act.put, List.setIfInBounds_toArray, List.set_cons_zero, List.set_cons_succ]
                   refine wpAnyH_ready (rs := [13]) (by kernel_rfl) (by simp) ?_
                   refine AllReadyH.cons (o := _) (by simp only [List.getElem?_toArray, List.getElem?_cons_succ, List.getElem?_cons_zero]; rfl) (fun K hK => ?_) AllReadyH.nil
                   go_simp
                   clear hHeld
                   refine hK.out _ _ ⟨alloc_cell k2 hlb _, alloc_cell k3 hlb _⟩ (fun hHeld => ?_)
                   clear hK K
                   try simp only [Act.put, List.setIfInBounds_toArray, List.set_cons_zero, List.set_cons_succ]
                   refine wpAnyH_take (i := 16) (v := ?_) (by simp only [List.getElem?_toArray, List.getElem?_cons_succ, List.getElem?_cons_zero]; rfl) (by kernel_rfl) (by kernel_rfl) (by kernel_rfl) (fun _ _ _ h => h) (Or.inl ⟨by rfl, ?_⟩) (by assumption) ?_
                   rotate_left
                   · (intro W hSw; (try dsimp only at hSw); go_simp; (try with_reducible rfl))
                   try simp only [Act.put, List.setIfInBounds_toArray, List.set_cons_zero, List.set_cons_succ]
                   refine wpAnyH_ready (rs := [17]) (by kernel_rfl) (by simp) ?_
                   refine AllReadyH.cons (o := _) (by simp only [List.getElem?_toArray, List.getElem?_cons_succ, List.getElem?_cons_zero]; rfl) (fun K hK => ?_) AllReadyH.nil
                   go_simp
                   clear hHeld
                   refine hK.out _ _ ⟨alloc_cell k2 hlb _, alloc_cell k3 hlb _⟩ (fun hHeld => ?_)
                   clear hK K
                   try simp only [Act.put, List.setIfInBounds_toArray, List.set_cons_zero, List.set_cons_succ]
                   refine wpAnyH_ready (rs := [20]) (by kernel_rfl) (by simp) ?_
                   refine AllReadyH.cons (o := _) (by simp only [List.getElem?_toArray, List.getElem?_cons_succ, List.getElem?_cons_zero]; rfl) (fun K hK => ?_) AllReadyH.nil
                   go_simp
                   ((first | (with_reducible refine (from_w (HX.out.alloc HX.out.size _).drew (word_tests _ (u8_wf _) _ _ _ hfu hfv _ _ _ _)).mono ?_) | (with_reducible refine (from_w (HX.out.alloc HX.out.size _) (word_tests _ (u8_wf _) _ _ _ hfu hfv _ _ _ _)).mono ?_)); clear HX; rintro e v1 ⟨rfl, hb⟩; have k2 := (hb.cell (p := ⟨b1, i, none⟩) hsb).trans g2; have k3 := (hb.cell (p := ⟨b1, k, none⟩) hsb).trans g3; have hlb := Nat.lt_of_lt_of_le hsb hb.size; have HX := put_by hb; clear hb)
                   clear hHeld
                   refine hK.out _ _ ⟨k2, k3⟩ (fun hHeld => ?_)
                   clear hK K
                   try simp only [Act.put, List.setIfInBounds_toArray, List.set_cons_zero, List.set_cons_succ]
                   refine wpAnyH_take (i := 21) (v := ?_) (by simp only [List.getElem?_toArray, List.getElem?_cons_succ, List.getElem?_cons_zero]; rfl) (by kernel_rfl) (by kernel_rfl) (by kernel_rfl) (fun _ _ _ h => h) (Or.inl ⟨by rfl, ?_⟩) (by assumption) ?_
                   rotate_left
                   · (intro W hSw; (try dsimp only at hSw); go_simp; (try with_reducible rfl))
                   try simp only [Act.put, List.setIfInBounds_toArray, List.set_cons_zero, List.set_cons_succ]
                   refine wpAnyH_take (i := 22) (v := ?_) (by simp only [List.getElem?_toArray, List.getElem?_cons_succ, List.getElem?_cons_zero]; rfl) (by kernel_rfl) (by kernel_rfl) (by kernel_rfl) (fun _ _ _ h => h) (Or.inl ⟨by rfl, ?_⟩) (by assumption) ?_
                   rotate_left
                   · (intro W hSw; (try dsimp only at hSw); go_simp; (try with_reducible rfl))
                   try simp only [Act.put, List.setIfInBounds_toArray, List.set_cons_zero, List.set_cons_succ]
                   refine wpAnyH_take (i := 23) (v := ?_) (by simp only [List.getElem?_toArray, List.getElem?_cons_succ, List.getElem?_cons_zero]; rfl) (by kernel_rfl) (by kernel_rfl) (by kernel_rfl) (fun _ _ _ h => h) (Or.inl ⟨by rfl, ?_⟩) (by assumption) ?_
                   rotate_left
                   · (intro W hSw; (try dsimp only at hSw); go_simp; (try with_reducible rfl))
                   try simp only [Act.put, List.setIfInBounds_toArray, List.set_cons_zero, List.set_cons_succ]
                   refine wpAnyH_take (i := 24) (v := ?_) (by simp only [List.getElem?_toArray, List.getElem?_cons_succ, List.getElem?_cons_zero]; rfl) (by kernel_rfl) (by kernel_rfl) (by kernel_rfl) (fun _ _ _ h => h) (Or.inl ⟨by rfl, ?_⟩) (by assumption) ?_
                   rotate_left
                   · (intro W hSw; (try dsimp only at hSw); go_simp; (try with_reducible rfl))
                   try simp only [Act.put, List.setIfInBounds_toArray, List.set_cons_zero, List.set_cons_succ]
                   refine wpAnyH_take (i := 25) (v := ?_) (by simp only [List.getElem?_toArray, List.getElem?_cons_succ, List.getElem?_cons_zero]; rfl) (by kernel_rfl) (by kernel_rfl) (by kernel_rfl) (fun _ _ _ h => h) (Or.inl ⟨by rfl, ?_⟩) (by assumption) ?_
                   rotate_left
                   · (intro W hSw; (try dsimp only at hSw); go_simp; (try with_reducible rfl))
                   try simp only [Act.put, List.setIfInBounds_toArray, List.set_cons_zero, List.set_cons_succ]
                   refine wpAnyH_take (i := 26) (v := ?_) (by simp only [List.getElem?_toArray, List.getElem?_cons_succ, List.getElem?_cons_zero]; rfl) (by kernel_rfl) (by kernel_rfl) (by kernel_rfl) (fun _ _ _ h => h) (Or.inl ⟨by rfl, ?_⟩) (by assumption) ?_
                   rotate_left
                   · (intro W hSw; (try dsimp only at hSw); go_simp; (try with_reducible rfl))
                   try simp only [Act.put, List.setIfInBounds_toArray, List.set_cons_zero, List.set_cons_succ]
                   refine wpAnyH_take (i := 27) (v := ?_) (by simp only [List.getElem?_toArray, List.getElem?_cons_succ, List.getElem?_cons_zero]; rfl) (by kernel_rfl) (by kernel_rfl) (by kernel_rfl) (fun _ _ _ h => h) (Or.inl ⟨by rfl, ?_⟩) (by assumption) ?_
                   rotate_left
                   · (intro W hSw; (try dsimp only at hSw); go_simp; (try with_reducible rfl))
                   try simp only [Act.put, List.setIfInBounds_toArray, List.set_cons_zero, List.set_cons_succ]
                   refine wpAnyH_take (i := 28) (v := ?_) (by simp only [List.getElem?_toArray, List.getElem?_cons_succ, List.getElem?_cons_zero]; rfl) (by kernel_rfl) (by kernel_rfl) (by kernel_rfl) (fun _ _ _ h => h) (Or.inl ⟨by rfl, ?_⟩) (by assumption) ?_
                   rotate_left
                   · (intro W hSw; (try dsimp only at hSw); go_simp; (try with_reducible rfl))
                   try simp only [Act.put, List.setIfInBounds_toArray, List.set_cons_zero, List.set_cons_succ]
                   refine wpAnyH_take (i := 29) (v := ?_) (by simp only [List.getElem?_toArray, List.getElem?_cons_succ, List.getElem?_cons_zero]; rfl) (by kernel_rfl) (by kernel_rfl) (by kernel_rfl) (fun _ _ _ h => h) (Or.inl ⟨by rfl, ?_⟩) (by assumption) ?_
                   rotate_left
                   · (intro W hSw; (try dsimp only at hSw); go_simp; (try with_reducible rfl))
                   try simp only [Act.put, List.setIfInBounds_toArray, List.set_cons_zero, List.set_cons_succ]
                   refine wpAnyH_take (i := 30) (v := ?_) (by simp only [List.getElem?_toArray, List.getElem?_cons_succ, List.getElem?_cons_zero]; rfl) (by kernel_rfl) (by kernel_rfl) (by kernel_rfl) (fun _ _ _ h => h) (Or.inl ⟨by rfl, ?_⟩) (by assumption) ?_
                   rotate_left
                   · (intro W hSw; (try dsimp only at hSw); go_simp; (try with_reducible rfl))
                   try simp only [Act.put, List.setIfInBounds_toArray, List.set_cons_zero, List.set_cons_succ]
                   refine wpAnyH_take (i := 31) (v := ?_) (by simp only [List.getElem?_toArray, List.getElem?_cons_succ, List.getElem?_cons_zero]; rfl) (by kernel_rfl) (by kernel_rfl) (by kernel_rfl) (fun _ _ _ h => h) (Or.inl ⟨by rfl, ?_⟩) (by assumption) ?_
                   rotate_left
                   · (intro W hSw; (try dsimp only at hSw); go_simp; (try with_reducible rfl))
                   try simp only [Act.put, List.setIfInBounds_toArray, List.set_cons_zero, List.set_cons_succ]
                   refine wpAnyH_take (i := 32) (v := ?_) (by simp only [List.getElem?_toArray, List.getElem?_cons_succ, List.getElem?_cons_zero]; rfl) (by kernel_rfl) (by kernel_rfl) (by kernel_rfl) (fun _ _ _ h => h) (Or.inl ⟨by rfl, ?_⟩) (by assumption) ?_
                   rotate_left
                   · (intro W hSw; (try dsimp only at hSw); go_simp; (try with_reducible rfl))
                   try simp only [Act.put, List.setIfInBounds_toArray, List.set_cons_zero, List.set_cons_succ]
                   refine wpAnyH_take (i := 33) (v := ?_) (by simp only [List.getElem?_toArray, List.getElem?_cons_succ, List.getElem?_cons_zero]; rfl) (by kernel_rfl) (by kernel_rfl) (by kernel_rfl) (fun _ _ _ h => h) (Or.inl ⟨by rfl, ?_⟩) (by assumption) ?_
                   rotate_left
                   · (intro W hSw; (try dsimp only at hSw); go_simp; (try with_reducible rfl))
                   try simp only [Act.put, List.setIfInBounds_toArray, List.set_cons_zero, List.set_cons_succ]
                   refine wpAnyH_take (i := 34) (v := ?_) (by simp only [List.getElem?_toArray, List.getElem?_cons_succ, List.getElem?_cons_zero]; rfl) (by kernel_rfl) (by kernel_rfl) (by kernel_rfl) (fun _ _ _ h => h) (Or.inl ⟨by rfl, ?_⟩) (by assumption) ?_
                   rotate_left
                   · (intro W hSw; (try dsimp only at hSw); go_simp; (try with_reducible rfl))
                   try simp only [Act.put, List.setIfInBounds_toArray, List.set_cons_zero, List.set_cons_succ]
                   refine wpAnyH_take (i := 35) (v := ?_) (by simp only [List.getElem?_toArray, List.getElem?_cons_succ, List.getElem?_cons_zero]; rfl) (by kernel_rfl) (by kernel_rfl) (by kernel_rfl) (fun _ _ _ h => h) (Or.inl ⟨by rfl, ?_⟩) (by assumption) ?_
                   rotate_left
                   · (intro W hSw; (try dsimp only at hSw); go_simp; (try with_reducible rfl))
                   try simp only [Act.put, List.setIfInBounds_toArray, List.set_cons_zero, List.set_cons_succ]
                   refine wpAnyH_take (i := 37) (v := ?_) (by simp only [List.getElem?_toArray, List.getElem?_cons_succ, List.getElem?_cons_zero]; rfl) (by kernel_rfl) (by kernel_rfl) (by kernel_rfl) (fun _ _ _ h => h) (Or.inl ⟨by rfl, ?_⟩) (by assumption) ?_
                   rotate_left
                   · (intro W hSw; (try dsimp only at hSw); go_simp; (try with_reducible rfl))
                   try simp only [Act.put, List.setIfInBounds_toArray, List.set_cons_zero, List.set_cons_succ]
                   refine wpAnyH_take (i := 38) (v := ?_) (by simp only [List.getElem?_toArray, List.getElem?_cons_succ, List.getElem?_cons_zero]; rfl) (by kernel_rfl) (by kernel_rfl) (by kernel_rfl) (fun _ _ _ h => h) (Or.inl ⟨by rfl, ?_⟩) (by assumption) ?_
                   rotate_left
                   · (intro W hSw; (try dsimp only at hSw); go_simp; (try with_reducible rfl))
                   try simp only [Act.put, List.setIfInBounds_toArray, List.set_cons_zero, List.set_cons_succ]
                   refine wpAnyH_take (i := 41) (v := ?_) (by simp only [List.getElem?_toArray, List.getElem?_cons_succ, List.getElem?_cons_zero]; rfl) (by kernel_rfl) (by kernel_rfl) (by kernel_rfl) (fun _ _ _ h => h) (Or.inl ⟨by rfl, ?_⟩) (by assumption) ?_
                   rotate_left
                   · (intro W hSw; (try dsimp only at hSw); go_simp; (try with_reducible rfl))
                   try simp only [Act.put, List.setIfInBounds_toArray, List.set_cons_zero, List.set_cons_succ]
                   refine wpAnyH_take (i := 42) (v := ?_) (by simp only [List.getElem?_toArray, List.getElem?_cons_succ, List.getElem?_cons_zero]; rfl) (by kernel_rfl) (by kernel_rfl) (by kernel_rfl) (fun _ _ _ h => h) (Or.inl ⟨by rfl, ?_⟩) (by assumption) ?_
                   rotate_left
                   · (intro W hSw; (try dsimp only at hSw); go_simp; (try with_reducible rfl))
                   try simp only [Act.put, List.setIfInBounds_toArray, List.set_cons_zero, List.set_cons_succ]
                   refine wpAnyH_take (i := 43) (v := ?_) (by simp only [List.getElem?_toArray, List.getElem?_cons_succ, List.getElem?_cons_zero]; rfl) (by kernel_rfl) (by kernel_rfl) (by kernel_rfl) (fun _ _ _ h => h) (Or.inl ⟨by rfl, ?_⟩) (by assumption) ?_
                   rotate_left
                   · (intro W hSw; (try dsimp only at hSw); go_simp; (try with_reducible rfl))
                   try simp only [Act.put, List.setIfInBounds_toArray, List.set_cons_zero, List.set_cons_succ]
                   refine wpAnyH_ready (rs := [36]) (by kernel_rfl) (by simp) ?_
                   refine AllReadyH.cons (o := _) (by simp only [List.getElem?_toArray, List.getElem?_cons_succ, List.getElem?_cons_zero]; rfl) (fun K hK => ?_) AllReadyH.nil
                   go_simp
                   clear hHeld
                   refine hK.out _ _ ⟨alloc_cell k2 hlb _, alloc_cell k3 hlb _⟩ (fun hHeld => ?_)
                   clear hK K
                   try simp only [Act.put, List.setIfInBounds_toArray, List.set_cons_zero, List.set_cons_succ]
                   refine wpAnyH_take (i := 39) (v := ?_) (by simp only [List.getElem?_toArray, List.getElem?_cons_succ, List.getElem?_cons_zero]; rfl) (by kernel_rfl) (by kernel_rfl) (by kernel_rfl) (fun _ _ _ h => h) (Or.inl ⟨by rfl, ?_⟩) (by assumption) ?_
                   rotate_left
                   · (intro W hSw; (try dsimp only at hSw); go_simp; (try with_reducible rfl))
                   try simp only [Act.put, List.setIfInBounds_toArray, List.set_cons_zero, List.set_cons_succ]
                   refine wpAnyH_ready (rs := [40]) (by kernel_rfl) (by simp) ?_
                   refine AllReadyH.cons (o := _) (by simp only [List.getElem?_toArray, List.getElem?_cons_succ, List.getElem?_cons_zero]; rfl) (fun K hK => ?_) AllReadyH.nil
                   go_simp
                   clear hHeld
                   refine hK.out _ _ ⟨alloc_cell k2 hlb _, alloc_cell k3 hlb _⟩ (fun hHeld => ?_)
                   clear hK K
                   try simp only [Act.put, List.setIfInBounds_toArray, List.set_cons_zero, List.set_cons_succ]
                   refine wpAnyH_ready (rs := [44]) (by kernel_rfl) (by simp) ?_
                   refine AllReadyH.cons (o := _) (by simp only [List.getElem?_toArray, List.getElem?_cons_succ, List.getElem?_cons_zero]; rfl) (fun K hK => ?_) AllReadyH.nil
                   go_simp
                   ((first | (with_reducible refine (from_w (HX.out.alloc HX.out.size _).drew (word_tests _ (u8_wf _) _ _ _ hfu hfv _ _ _ _)).mono ?_) | (with_reducible refine (from_w (HX.out.alloc HX.out.size _) (word_tests _ (u8_wf _) _ _ _ hfu hfv _ _ _ _)).mono ?_)); clear HX; rintro e v1 ⟨rfl, hb⟩; have k2 := (hb.cell (p := ⟨b1, i, none⟩) hsb).trans g2; have k3 := (hb.cell (p := ⟨b1, k, none⟩) hsb).trans g3; have hlb := Nat.lt_of_lt_of_le hsb hb.size; have HX := put_by hb; clear hb)
                   clear hHeld
                   refine hK.out _ _ ⟨k2, k3⟩ (fun hHeld => ?_)
                   clear hK K
                   try simp only [Act.put, List.setIfInBounds_toArray, List.set_cons_zero, List.set_cons_succ]
                   refine wpAnyH_take (i := 45) (v := ?_) (by simp only [List.getElem?_toArray, List.getElem?_cons_succ, List.getElem?_cons_zero]; rfl) (by kernel_rfl) (by kernel_rfl) (by kernel_rfl) (fun _ _ _ h => h) (Or.inl ⟨by rfl, ?_⟩) (by assumption) ?_
                   rotate_left
                   · (intro W hSw; (try dsimp only at hSw); go_simp; (try with_reducible rfl))
                   try simp only [Act.put, List.setIfInBounds_toArray, List.set_cons_zero, List.set_cons_succ]
                   refine wpAnyH_take (i := 46) (v := ?_) (by simp only [List.getElem?_toArray, List.getElem?_cons_succ, List.getElem?_cons_zero]; rfl) (by kernel_rfl) (by kernel_rfl) (by kernel_rfl) (fun _ _ _ h => h) (Or.inl ⟨by rfl, ?_⟩) (by assumption) ?_
                   rotate_left
                   · (intro W hSw; (try dsimp only at hSw); go_simp; (try with_reducible rfl))
                   try simp only [Act.put, List.setIfInBounds_toArray, List.set_cons_zero, List.set_cons_succ]
                   refine wpAnyH_done (by kernel_rfl) ?_ _
                   refine NoPanic.normal ?_
                   go_wp2_with (fail)
                   go_roundw
                   case rel => exact ⟨k + 1, by omega, by go_num, HX.out⟩
                   case measure => simp [intOf]; omega
            · obtain rfl : k = 25 := by omega
              go_wp2
              go_roundw
              case rel => exact ⟨i + 1, by omega, by go_num, HX.out⟩
              case measure => simp [intOf]; omega
        · obtain rfl : i = 25 := by omega
          go_wp2
          go_roundw
          case rel => exact ⟨j + 1, by omega, by go_num, HX.out⟩
          case measure => simp [intOf]; omega
    · obtain rfl : j = 32 := by omega
      go_wp2
      go_ret
      exact ⟨rfl, H0.out.trans (HX.out.mono H0.out.size)⟩
end Go.Proofs.YtmlkbpmchcdldaaGreat
