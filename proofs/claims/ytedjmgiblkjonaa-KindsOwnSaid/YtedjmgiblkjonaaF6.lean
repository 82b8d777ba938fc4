/-
  KindsOwn, walked.
-/
import Derived.Test.YtedjmgiblkjonaaF5
import Derived.Test.YtedjmgiblkjonaaD4
namespace Go.Proofs.Ytedjmgiblkjonaa
open Go.RowKit Go.Maps
set_option linter.unusedVariables false

theorem own_none (k : Int) (h : ownB k = false) : ownH k = zeroH := by unfold ownH; rw [h]; rfl
theorem own_some (k : Int) (h : ownB k = true) : ownH k = ⟨0, 0, 0, k, (ownM k).1, (ownM k).2⟩ := by unfold ownH; rw [h]; rfl
set_option maxRecDepth 100000 in
set_option maxHeartbeats 4000000 in
theorem law_none (k i mj mn : Int) (w : World) (hk : ownB k = false) :
    Calls Try.prog 5 #[.int .u8 k, .int .i64 i, .int .i64 mj, .int .i64 mn] w fun e w' => e = .returned (.bool true) ∧ Below w.heap.size w w' := by
  have hW := hide (fun w => awake_any w)
  have hO := hide (fun w => own_any k w)
  have hz := hide (own_none k hk)
  have hc : k < 1 ∨ 10 < k := by unfold ownB at hk; simp at hk; omega
  rw [hk, hz.out] at hO
  simp only [zeroH] at hO
  clear hk hz
  go_enter Try.func5, Try.ntmps5
  go_wp2_with fail
  (with_reducible refine (hW.out _).mono ?_)
  rintro e w1 ⟨rfl, hb1⟩
  have HB1 := hide hb1
  clear hb1 hW
  go_wp2_with fail
  (with_reducible refine (hO.out _).mono ?_)
  rintro e w2 ⟨A, c, rfl, hcc, hf, hb⟩
  have HB2 := hide (HB1.out.trans (hb.mono HB1.out.size))
  clear hcc hb hO HB1 hf
  simp only [HelpM.v, List.length_nil]
  have hS : Hid (∀ X : World, Calls Try.prog 14 #[.agg #[.int .i64 0, .int .i64 0, .int .i64 0, .int .u8 0, .slice A 0 c, .int .u8 0, .int .i64 0, .int .i64 0, .int .i64 0], .agg #[.int .i64 0, .int .i64 0, .int .i64 0, .int .u8 0, .slice none 0 0, .int .u8 0, .int .i64 0, .int .i64 0, .int .i64 0]] X fun e w' => e = .returned (.bool true) ∧ Below X.heap.size X w') := hide (fun X =>
    sameHelper_yes zeroH A none c 0 X ⟨rfl, fun h => absurd h (by decide)⟩ Args.nil (by decide))
  have HB3 := hide (HB2.out.trans ((below1 w2 (.cells #[.int .i64 0, .int .i64 0, .int .i64 0, .int .u8 0, .slice A 0 c, .int .u8 0, .int .i64 0, .int .i64 0, .int .i64 0] 32)).mono HB2.out.size))
  rcases hc with hc | hc
  · have hd : ¬ (1 ≤ k) := by omega
    go_wp2_with fail
    ((with_reducible refine (hS.out _).mono ?_))
    rintro e w3 ⟨rfl, hb⟩
    have HX := hide (HB3.out.trans (hb.mono HB3.out.size))
    clear hb hS
    go_wp2
    go_ret
    exact ⟨rfl, HX.out⟩
  · have hd : 1 ≤ k := by omega
    go_wp2_with fail
    ((with_reducible refine (hS.out _).mono ?_))
    rintro e w3 ⟨rfl, hb⟩
    have HX := hide (HB3.out.trans (hb.mono HB3.out.size))
    clear hb hS
    go_wp2
    go_ret
    exact ⟨rfl, HX.out⟩
set_option maxRecDepth 100000 in
set_option maxHeartbeats 4000000 in
theorem law_some (k i mj mn : Int) (w : World) (hk : ownB k = true) :
    Calls Try.prog 5 #[.int .u8 k, .int .i64 i, .int .i64 mj, .int .i64 mn] w fun e w' => e = .returned (.bool true) ∧ Below w.heap.size w w' := by
  have hW := hide (fun w => awake_any w)
  have hO := hide (fun w => own_any k w)
  have hz := hide (own_some k hk)
  have hk1 : 1 ≤ k ∧ k ≤ 10 := by unfold ownB at hk; simpa using hk
  obtain ⟨hka, hkb⟩ := hk1
  have hP1 := hide (fun w => pick_any i 1073741824 w (by omega) (by omega))
  have hP2 := hide (fun w => pick_any mj 65536 w (by omega) (by omega))
  have hP3 := hide (fun w => pick_any mn 65536 w (by omega) (by omega))
  obtain ⟨ht1, ht2, ht3, hfine, hlen⟩ := own_right k hka hkb
  rw [hk, hz.out] at hO
  clear hk hz
  generalize (ownM k).1 = l at *
  generalize (ownM k).2 = r at *
  obtain ⟨rk, lo, hi, sz⟩ := r
  simp only at ht1 ht2 ht3
  have HT1 := hide ht1
  have HT2 := hide ht2
  have HT3 := hide ht3
  have HFI := hide hfine
  have HLEN := hide hlen
  clear ht1 ht2 ht3 hfine hlen
  go_enter Try.func5, Try.ntmps5
  go_wp2_with fail
  (with_reducible refine (hW.out _).mono ?_)
  rintro e w1 ⟨rfl, hb1⟩
  have HB1 := hide hb1
  clear hb1 hW
  go_wp2_with fail
  (with_reducible refine (hO.out _).mono ?_)
  rintro e w2 ⟨A, c, rfl, hcc, hf, hb⟩
  simp only at hcc hf
  have hargs := hf.args
  obtain ⟨lx0, hm0, hp0, hok0⟩ := args_x hargs (fun a ha => (HFI.out a ha).2)
  have HB2 := hide (HB1.out.trans (hb.mono HB1.out.size))
  simp only [HelpM.v]
  generalize hln : l.length = n at *
  have hn4 : n ≤ 4 := HLEN.out
  obtain ⟨hnc, hcm⟩ := hcc
  have HARGS := hide hargs
  have HP0 := hide hp0
  have HOK0 := hide hok0
  have HM0 := hide hm0
  have HLN := hide hln
  have HCM := hide hcm
  clear hb hO HB1 hf hargs hp0 hok0 hm0 hln hcm HLEN
  go_wp2_with fail
  refine name_call (fun W3 hW3 => ?_)
  have b9 := World.alloc_heap_new w2 (.cells #[.int .i64 0, .int .i64 0, .int .i64 0, .int .u8 k, .slice A n c, .int .u8 rk, .int .i64 lo, .int .i64 hi, .int .i64 sz] 32)
  have l3 := below1 w2 (.cells #[.int .i64 0, .int .i64 0, .int .i64 0, .int .u8 k, .slice A n c, .int .u8 rk, .int .i64 lo, .int .i64 hi, .int .i64 sz] 32)
  rw [← hW3] at b9 l3
  clear hW3
  generalize hg9 : w2.heap.size = g9 at *
  have hG9 := hide hg9
  have lt9 := at_lt b9
  have c0 := blk_cell b9 0
  have c1 := blk_cell b9 1
  have c2 := blk_cell b9 2
  have c3 := blk_cell b9 3
  have c4 := blk_cell b9 4
  have c5 := blk_cell b9 5
  have c6 := blk_cell b9 6
  have c7 := blk_cell b9 7
  have c8 := blk_cell b9 8
  have f0 := Joins.unfrozen_of_block b9 0
  have f1 := Joins.unfrozen_of_block b9 1
  have f2 := Joins.unfrozen_of_block b9 2
  simp at c0 c1 c2 c3 c4 c5 c6 c7 c8
  have B9 := hide b9
  have L3 := hide l3
  clear b9 l3 hg9
  ((with_reducible refine (hP1.out _).mono ?_))
  rintro e w' ⟨r1, p1, p2, rfl, rfl⟩
  clear hP1
  go_wp2_with fail
  ((with_reducible refine (hP2.out _).mono ?_))
  rintro e w' ⟨r2, p3, p4, rfl, rfl⟩
  clear hP2
  go_wp2_with fail
  ((with_reducible refine (hP3.out _).mono ?_))
  rintro e w' ⟨r3, p5, p6, rfl, rfl⟩
  clear hP3
  go_wp2_with fail
  refine name_call (fun W5 hW5 => ?_)
  have s0 : (W3.setCell ⟨g9, 0, none⟩ (.int .i64 (1 + r1))).heap[g9]? = some (.cells #[.int .i64 (1 + r1), .int .i64 0, .int .i64 0, .int .u8 k, .slice A n c, .int .u8 rk, .int .i64 lo, .int .i64 hi, .int .i64 sz] 32 (0, 0)) := Joins.block_setCell (i := 0) B9.out (.int .i64 (1 + r1))
  have s1 : ((W3.setCell ⟨g9, 0, none⟩ (.int .i64 (1 + r1))).setCell ⟨g9, 1, none⟩ (.int .i64 r2)).heap[g9]? = some (.cells #[.int .i64 (1 + r1), .int .i64 r2, .int .i64 0, .int .u8 k, .slice A n c, .int .u8 rk, .int .i64 lo, .int .i64 hi, .int .i64 sz] 32 (0, 0)) := Joins.block_setCell (i := 1) s0 (.int .i64 r2)
  have b9 : (((W3.setCell ⟨g9, 0, none⟩ (.int .i64 (1 + r1))).setCell ⟨g9, 1, none⟩ (.int .i64 r2)).setCell ⟨g9, 2, none⟩ (.int .i64 r3)).heap[g9]? = some (.cells #[.int .i64 (1 + r1), .int .i64 r2, .int .i64 r3, .int .u8 k, .slice A n c, .int .u8 rk, .int .i64 lo, .int .i64 hi, .int .i64 sz] 32 (0, 0)) := Joins.block_setCell (i := 2) s1 (.int .i64 r3)
  have l5 := ((L3.out.setCell (p := ⟨g9, 0, none⟩) (Nat.le_refl _) (.int .i64 (1 + r1))).setCell (p := ⟨g9, 1, none⟩) (Nat.le_refl _) (.int .i64 r2)).setCell (p := ⟨g9, 2, none⟩) (Nat.le_refl _) (.int .i64 r3)
  rw [← hW5] at b9 l5
  clear hW5 s0 s1 B9 L3 lt9 c0 c1 c2 c3 c4 c5 c6 c7 c8 f0 f1 f2
  have hz2 : w2.heap.size ≤ g9 := by rw [hG9.out]; exact Nat.le_refl _
  have hz5 : g9 < W5.heap.size := at_lt b9
  have hH := hide (helper_any (1 + r1) r2 r3 k rk lo hi sz A n c g9 lx0 W5 (HP0.out.below l5) (HOK0.out.below l5) (by omega) (by omega) hnc HCM.out)
  rw [helperM_right _ _ _ _ _ _ _ _ _ (numbers_right r1 r2 r3 p1 p2 p3 p4 p5 p6), tailM_of _ _ _ _ _ _ _ HM0.out, HT1.out] at hH
  ((with_reducible refine hH.out.mono ?_))
  rintro e w6 ⟨rfl, hb⟩
  replace b9 := (hb.block _ (at_lt b9)).trans b9
  have l6 := l5.trans (hb.mono (by omega))
  have hz6 : g9 < w6.heap.size := at_lt b9
  have y0 := blk_cell b9 0
  have y1 := blk_cell b9 1
  have y2 := blk_cell b9 2
  have y3 := blk_cell b9 3
  have y4 := blk_cell b9 4
  have y5 := blk_cell b9 5
  have y6 := blk_cell b9 6
  have y7 := blk_cell b9 7
  have y8 := blk_cell b9 8
  simp at y0 y1 y2 y3 y4 y5 y6 y7 y8
  have hC := hide (copyHelper_any (1 + r1) r2 r3 k rk lo hi sz A n c g9 l w6 (HARGS.out.below l6) (by omega) (by omega))
  have B9 := hide b9
  have L6 := hide l6
  clear hH hb b9 l5 l6 HP0 HOK0 HM0 HT1
  go_wp2_with fail
  ((with_reducible refine hC.out.mono ?_))
  rintro e w7 ⟨A1, n', c1, lx1, rfl, hnn, hm1, ho1, hx1, hf1, hb7⟩
  rw [HLN.out] at hnn ho1
  replace hnn := hnn.symm
  subst hnn
  clear hC y0 y1 y2 y3 y4 y5 y6 y7 y8
  have z7 := hb7.size
  have B97 := hide ((hb7.block _ (at_lt B9.out)).trans B9.out)
  have L7 := hide (L6.out.trans (hb7.mono (by omega)))
  have HO1 := hide ho1
  have HX1 := hide hx1
  have HF1 := hide hf1
  have HM1 := hide hm1
  clear B9 hm1 ho1 hx1 hf1 hb7
  obtain ⟨i0, hinf, hiz0, hiz1, hiz2⟩ := infoParts argInfo
  go_wp2_with (at_builtin; refine stop_here ?_)
  show Hid _
  refine start_here ?_
  refine wpList_append_rd _ ?cg (.tmp 62) (.tmp 64) _ ?c0 46 i0 _ 4 48 Try.underlying27 hinf hiz0 hiz1 hiz2 rfl (by decide) (.slice A1 n c1) n (xcells lx1) rfl (World.ownsRow.alloc (World.ownsRow.alloc HO1.out _) _) _ (some ⟨w7.heap.size + 1, 0, none⟩) 1 1 (ArgX.cells ⟨scA 0 0, none, 0⟩) rfl
    (new_arg _ ⟨scA 0 0, none, 0⟩ (by simp)) (fun h => nomatch h) ?c1 (by unfold maxLen; omega) (by omega) ?_
  case cg => rfl
  case c0 => rfl
  case c1 => intro u hu; exact xcells_one [⟨scA 0 0, none, 0⟩] u (by simpa [xcells] using hu)
  intro v' w9 hlg
  have hg0 : w7.grownBy ((w7.alloc (.cells #[.int .i64 (1 + r1), .int .i64 r2, .int .i64 r3, .int .u8 k, .slice A1 n c1, .int .u8 rk, .int .i64 lo, .int .i64 hi, .int .i64 sz] 32)).alloc (.cells #[.int .u8 1, .int .i64 0, .int .i64 0, .slice none 0 0] 46)) none :=
    ⟨rfl, rfl, rfl, by simp; omega, fun q hq _ => (Below.heap_alloc _ _ q (by simp; omega)).trans (Below.heap_alloc _ _ q hq)⟩
  have hA1 := HO1.out.lt
  have b97 : w9.heap[g9]? = some (.cells #[.int .i64 (1 + r1), .int .i64 r2, .int .i64 r3, .int .u8 k, .slice A n c, .int .u8 rk, .int .i64 lo, .int .i64 hi, .int .i64 sz] 32 (0, 0)) := (hlg.2.1.block g9 (Nat.lt_of_lt_of_le (by omega) hg0.size) (by intro e; have := HF1.out g9 e.symm; omega)).trans ((hg0.block g9 (by omega) (by simp)).trans B97.out)
  have b11 : w9.heap[w7.heap.size]? = some (.cells #[.int .i64 (1 + r1), .int .i64 r2, .int .i64 r3, .int .u8 k, .slice A1 n c1, .int .u8 rk, .int .i64 lo, .int .i64 hi, .int .i64 sz] 32 (0, 0)) := (hlg.2.1.block w7.heap.size (by simp; omega) (by intro e; have := (hA1 _ e.symm).2; omega)).trans (two_boxes w7 _ _).1
  have hx9 : ∀ x ∈ lx1 ++ [⟨scA 0 0, none, 0⟩], OwnX w9 v' x := by
    intro x hx
    rcases List.mem_append.1 hx with hx | hx
    · exact ((HX1.out x hx).1.below hg0).longer hlg
    · simp at hx
      subst hx
      refine OwnX.longer (w := (w7.alloc (.cells #[.int .i64 (1 + r1), .int .i64 r2, .int .i64 r3, .int .u8 k, .slice A1 n c1, .int .u8 rk, .int .i64 lo, .int .i64 hi, .int .i64 sz] 32)).alloc (.cells #[.int .u8 1, .int .i64 0, .int .i64 0, .slice none 0 0] 46)) ⟨World.ownsRow_nil _ 0 22 1, .inl rfl⟩ hlg
  have hxb : ∀ x ∈ lx1 ++ [⟨scA 0 0, none, 0⟩], ∀ g, (Value.slice x.A x.a.maps.length x.c).ownBlock = some g → g ≠ w7.heap.size := by
    intro x hx g hg
    rcases List.mem_append.1 hx with hx | hx
    · have := ((HX1.out x hx).1.1.lt g hg).2
      omega
    · simp at hx
      subst hx
      cases hg
  have hvb : ∀ g, v'.ownBlock = some g → g ≠ w7.heap.size := by
    intro g hg
    rcases hlg.2.2 with h | h
    · have := (hA1 g (h ▸ hg)).2
      omega
    · rw [h] at hg
      injection hg with hg
      simp at hg
      omega
  have l9 : Below g9 w2 w9 := (L7.out.grown hg0 (by omega) (fun k e => by cases e)).grown hlg.2.1 (Nat.le_trans (by omega) hg0.size) (fun q e => by have := HF1.out q e; omega)
  have hrow := hlg.1
  rw [← xcells_snoc] at hrow
  have z9 := hlg.2.1.size
  simp at z9
  have hm2 : (lx1 ++ [(⟨scA 0 0, none, 0⟩ : ArgX)]).map ArgX.a = l ++ [scA 0 0] := by rw [List.map_append, HM1.out]; rfl
  generalize lx1 ++ [(⟨scA 0 0, none, 0⟩ : ArgX)] = lx2 at *
  obtain ⟨A2, c2, rfl, _⟩ := owns_slice hrow
  have y0 := blk_cell b97 0
  have y1 := blk_cell b97 1
  have y2 := blk_cell b97 2
  have y3 := blk_cell b97 3
  have y4 := blk_cell b97 4
  have y5 := blk_cell b97 5
  have y6 := blk_cell b97 6
  have y7 := blk_cell b97 7
  have y8 := blk_cell b97 8
  have d0 := blk_cell b11 0
  have d1 := blk_cell b11 1
  have d2 := blk_cell b11 2
  have d3 := blk_cell b11 3
  have d4 := blk_cell b11 4
  have d5 := blk_cell b11 5
  have d6 := blk_cell b11 6
  have d7 := blk_cell b11 7
  have d8 := blk_cell b11 8
  have f4 := Joins.unfrozen_of_block b11 4
  simp at y0 y1 y2 y3 y4 y5 y6 y7 y8 d0 d1 d2 d3 d4 d5 d6 d7 d8
  generalize hg11 : w7.heap.size = g11 at *
  have hne : g9 < g11 := by omega
  have B9 := hide b97
  have B11 := hide b11
  have HROW := hide hrow
  have HX9 := hide hx9
  have HXB := hide hxb
  have HVB := hide hvb
  have L9 := hide l9
  have HM2 := hide hm2
  clear hlg hg0 hA1 b97 b11 hx9 hxb hvb l9 hrow hm2 HO1 HX1 HF1 HM1 B97 L7 hg11 z9
  go_wp2_with fail
  refine name_call (fun W10 hW10 => ?_)
  have gs := grown_set w9 g11 4 (.slice A2 (n + 1) c2)
  have b11 : (w9.setCell ⟨g11, 4, none⟩ (.slice A2 (n + 1) c2)).heap[g11]? = some (.cells #[.int .i64 (1 + r1), .int .i64 r2, .int .i64 r3, .int .u8 k, .slice A2 (n + 1) c2, .int .u8 rk, .int .i64 lo, .int .i64 hi, .int .i64 sz] 32 (0, 0)) := Joins.block_setCell (i := 4) B11.out (.slice A2 (n + 1) c2)
  have l10 := L9.out.setCell (p := ⟨g11, 4, none⟩) (by show g9 ≤ g11; omega) (.slice A2 (n + 1) c2)
  have b9 := blk_kept B9.out gs (by omega)
  have hrow := own_keep HROW.out gs HVB.out
  have hx : ∀ x ∈ lx2, OwnX (w9.setCell ⟨g11, 4, none⟩ (.slice A2 (n + 1) c2)) (.slice A2 (n + 1) c2) x := fun x hx => ⟨own_keep (HX9.out x hx).1 gs (HXB.out x hx), (HX9.out x hx).2⟩
  rw [← hW10] at b11 l10 b9 hrow hx
  clear hW10 gs y0 y1 y2 y3 y4 y5 y6 y7 y8 d0 d1 d2 d3 d4 d5 d6 d7 d8 f4 B9 B11 HROW HX9 HXB HVB L9
  obtain ⟨hr1, hr2, hrd⟩ := owns_room hrow
  have hok := own_args_ok hx (by rw [HM2.out]; intro a ha; rcases List.mem_append.1 ha with ha | ha; exact HFI.out a ha; simp at ha; subst ha; exact ⟨by simp [scA], by simp [scA]⟩)
  have hz10 : g11 < W10.heap.size := at_lt b11
  have HRD := hide hrd
  have HOK := hide hok
  have HR2 := hide hr2
  have L10 := hide l10
  have B11 := hide b11
  have hC := hide (copyHelper_any (1 + r1) r2 r3 k rk lo hi sz A n c g9 l W10 (HARGS.out.below l10) (by omega) (by omega))
  clear hrow hx hrd hok hr2 l10 b11 b9 HARGS
  ((with_reducible refine hC.out.mono ?_))
  rintro e w11 ⟨A3, n3, c3, lx3, rfl, hnn, hm3, ho3, hx3, hf3, hb11⟩
  rw [HLN.out] at hnn ho3
  replace hnn := hnn.symm
  subst hnn
  have z11 := hb11.size
  have hne2 : g11 < w11.heap.size := by omega
  have b11 := (hb11.block _ (at_lt B11.out)).trans B11.out
  obtain ⟨hq1, hq2, hrd3⟩ := owns_room ho3
  have hok3 := own_args_ok (fun x hx => (hx3 x hx).1) (by rw [hm3]; exact HFI.out)
  have d0 := blk_cell b11 0
  have d1 := blk_cell b11 1
  have d2 := blk_cell b11 2
  have d3 := blk_cell b11 3
  have d4 := blk_cell b11 4
  have d5 := blk_cell b11 5
  have d6 := blk_cell b11 6
  have d7 := blk_cell b11 7
  have d8 := blk_cell b11 8
  simp at d0 d1 d2 d3 d4 d5 d6 d7 d8
  have B11' := hide b11
  have HB11 := hide hb11
  have HRD3 := hide hrd3
  have HOK3 := hide hok3
  have HQ2 := hide hq2
  have HM3 := hide hm3
  clear hC B11 b11 hb11 hrd3 hok3 hq2 hm3 ho3 hx3 hf3
  go_wp2_with fail
  refine name_call (fun W13 hW13 => ?_)
  have b12 := World.alloc_heap_new w11 (.cells #[.int .i64 (1 + r1), .int .i64 r2, .int .i64 r3, .int .u8 k, .slice A3 n c3, .int .u8 1, .int .i64 7, .int .i64 8, .int .i64 0] 32)
  have hbl := below1 w11 (.cells #[.int .i64 (1 + r1), .int .i64 r2, .int .i64 r3, .int .u8 k, .slice A3 n c3, .int .u8 1, .int .i64 7, .int .i64 8, .int .i64 0] 32)
  rw [← hW13] at b12 hbl
  generalize hg12 : w11.heap.size = g12 at *
  clear hW13 d0 d1 d2 d3 d4 d5 d6 d7 d8
  have hz13 : g12 < W13.heap.size := at_lt b12
  have lB := HB11.out.trans (hbl.mono (by omega))
  have hll := HRD.out.xcells_len
  have hH := hide (helper_any (1 + r1) r2 r3 k rk lo hi sz A2 (n + 1) c2 W10.heap.size lx2 W13 (HRD.out.below lB) (HOK.out.below lB) lB.size (by omega) hr1 HR2.out)
  rw [helperM_right _ _ _ _ _ _ _ _ _ (numbers_right r1 r2 r3 p1 p2 p3 p4 p5 p6), tailM_of _ _ _ _ _ _ _ HM2.out, HT2.out] at hH
  ((with_reducible refine hH.out.mono ?_))
  rintro e w14 ⟨rfl, hb⟩
  replace b12 := (hb.block _ (at_lt b12)).trans b12
  have lC := hbl.trans (hb.mono (by omega))
  have z14 := hb.size
  have d0 := blk_cell b12 0
  have d1 := blk_cell b12 1
  have d2 := blk_cell b12 2
  have d3 := blk_cell b12 3
  have d4 := blk_cell b12 4
  have d5 := blk_cell b12 5
  have d6 := blk_cell b12 6
  have d7 := blk_cell b12 7
  have d8 := blk_cell b12 8
  simp at d0 d1 d2 d3 d4 d5 d6 d7 d8
  have hH2 := hide (helper_any (1 + r1) r2 r3 k 1 7 8 0 A3 n c3 g12 lx3 w14 (HRD3.out.below lC) (HOK3.out.below lC) (by omega) (by omega) hq1 HQ2.out)
  rw [helperM_right _ _ _ _ _ _ _ _ _ (numbers_right r1 r2 r3 p1 p2 p3 p4 p5 p6), tailM_of _ _ _ _ _ _ _ HM3.out, HT3.out] at hH2
  have L14 := hide (L10.out.trans ((HB11.out.trans (lC.mono (by omega))).mono (by omega)))
  clear hH hb lB lC hbl b12 HB11 L10 HRD HOK HR2 HRD3 HOK3 HQ2 HM2 HM3 HT2 HT3 hll
  go_wp2_with fail
  ((with_reducible refine hH2.out.mono ?_))
  rintro e w15 ⟨rfl, hb⟩
  have HX := hide (HB2.out.trans ((L14.out.trans (hb.mono (by omega))).mono (by have := HB2.out.size; have := hG9.out; omega)))
  clear hH2 hb d0 d1 d2 d3 d4 d5 d6 d7 d8
  go_wp2
  go_ret
  exact ⟨rfl, HX.out⟩
theorem law_kindsOwn (k i mj mn : Int) (w : World) : Calls Try.prog 5 #[.int .u8 k, .int .i64 i, .int .i64 mj, .int .i64 mn] w fun e w' => e = .returned (.bool true) ∧ Below w.heap.size w w' := by
  cases hk : ownB k
  · exact law_none k i mj mn w hk
  · exact law_some k i mj mn w hk
end Go.Proofs.Ytedjmgiblkjonaa
