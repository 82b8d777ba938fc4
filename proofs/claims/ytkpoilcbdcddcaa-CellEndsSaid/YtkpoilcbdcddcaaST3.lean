/-
  What is stored.
-/
import Derived.Test.YtkpoilcbdcddcaaST2
import Derived.Test.YtkpoilcbdcddcaaRT5
namespace Go.Proofs.Ytkpoilcbdcddcaa
open Go.RowKit
set_option linter.unusedVariables false
set_option linter.unusedSimpArgs false

theorem right_kind {c : C4} (h : rightB c = true) : c.k = 0 ∨ c.k = 1 ∨ c.k = 2 ∨ c.k = 3 := by
  unfold rightB at h
  by_cases h0 : c.k = 0
  · exact .inl h0
  by_cases h1 : c.k = 1
  · exact .inr (.inl h1)
  by_cases h2 : c.k = 2
  · exact .inr (.inr (.inl h2))
  by_cases h3 : c.k = 3
  · exact .inr (.inr (.inr h3))
  · simp [h0, h1, h2, h3] at h
/-- What lasts of the statement that lets a group hold a cell. -/
def TSto (b o G : Nat) (k wd rg of : Int) (j : Nat) (σ : Nat → Value) : Prop :=
  match j with
  | 0 => σ 0 = .pointer (some ⟨b, 0, none⟩)
  | 1 => σ 1 = .pointer (some ⟨b, 0, none⟩)
  | 2 => σ 2 = .pointer (some ⟨b, 1, none⟩)
  | 3 => σ 3 = .int .i64 o
  | 4 => σ 4 = .pointer (some ⟨b, G, none⟩)
  | 5 => σ 5 = .agg #[.int .u8 k, .int .u64 wd, .int .i64 rg, .int .i64 of]
  | 6 => σ 6 = .agg #[.int .u8 k, .int .u64 wd, .int .i64 rg, .int .i64 of, .int .u8 0, .int .u8 0, .int .u8 0, .int .u8 0, .int .u8 0, .int .u8 0, .int .u8 0, .int .u8 0, .int .u8 0]
  | 7 => σ 7 = .pointer (some ⟨b, G, none⟩)
  | _ => True
theorem made_any (b : Nat) (A : AS) : ∀ w, PS w b A → Calls Try.prog 25 #[.pointer (some ⟨b, 0, none⟩)] w fun e w' => e = .returned (.bool true) ∧ w = w' := fun w h => made_yes b A w h
set_option maxRecDepth 100000 in
set_option maxHeartbeats 8000000 in
theorem store_any (b : Nat) (A : AS) (off n : Int) (c : C4) (w : World) (h : PS w b A) (ho : off ≤ 9223372036854775807) (hk : 0 ≤ c.k ∧ c.k < 256) (hwd : 0 ≤ c.wd ∧ c.wd < 18446744073709551616) :
    Calls Try.prog 22 #[.pointer (some ⟨b, 0, none⟩), .int .i64 off, .int .i64 n, c.val] w fun e w' => e = .returned (.int .i64 (storeM A off n c).1) ∧ PS w' b (storeM A off n c).2 ∧ Turn b w w' := by
  have hE : ∀ args (W : World), (callFunc 29 args).run Try.prog W = .ok (.enter 29 args) W := by intro args W; kernel_rfl
  have HPt := hide (fun w => partsOf_any c w hk)
  have HM := hide (made_any b A)
  have HS := hide (fun w => sized_any n w)
  have HPl := hide (fun w => placed_any off n w ho)
  have hblt := h.lt
  obtain ⟨k, wd, rg, of⟩ := c
  have hbw := below1 w (.cells #[.int .u8 k, .int .u64 wd, .int .i64 rg, .int .i64 of] 33)
  have HX := hide (World.alloc_heap_new w (.cells #[.int .u8 k, .int .u64 wd, .int .i64 rg, .int .i64 of] 33))
  have HP := hide (h.below hbw)
  have HBW := hide hbw
  simp only [C4.val, partsV, pv] at HPt ⊢
  clear h hbw
  by_cases h2' : sizedB n = false
  · rw [show storeM A off n ⟨k, wd, rg, of⟩ = (2, A) by simp [storeM, h2']]
    rw [h2'] at HS
    go_enter Try.func22, Try.ntmps22
    go_wp2_with (first
      | (go_at_call 39; refine (HPt.out _).mono ?_; rintro e w1 ⟨rfl, hb⟩; have hx1 := (hb.block _ (at_lt HX.out)).trans HX.out; have d0 := blk_cell hx1 0; have d1 := blk_cell hx1 1; have d2 := blk_cell hx1 2; have d3 := blk_cell hx1 3; simp at d0 d1 d2 d3; have hl1 := at_lt hx1; have HP1 := hide (fun o => (HP.out.below hb).below (below1 w1 o)); have HB1 := hide (HBW.out.trans (hb.mono HBW.out.size)); have HX1 := hide hx1; clear hb hx1)
      | (go_at_call 25; refine (HM.out _ (HP1.out _)).mono ?_; rintro e w2 ⟨rfl, rfl⟩)
      | (go_at_call 26; refine (HS.out _).mono ?_; rintro e w2 ⟨rfl, rfl⟩)
      | fail)
    go_ret
    exact ⟨rfl, (HP1.out _), (Turn.of_below HB1.out).trans (.of_below (below1 w1 _))⟩
  have h2 : sizedB n = true := by simpa using h2'
  rw [h2] at HS
  by_cases h3' : rightB ⟨k, wd, rg, of⟩ = false
  · rw [show storeM A off n ⟨k, wd, rg, of⟩ = (2, A) by simp [storeM, h3']]
    rw [h3'] at HPt
    go_enter Try.func22, Try.ntmps22
    go_wp2_with (first
      | (go_at_call 39; refine (HPt.out _).mono ?_; rintro e w1 ⟨rfl, hb⟩; have hx1 := (hb.block _ (at_lt HX.out)).trans HX.out; have d0 := blk_cell hx1 0; have d1 := blk_cell hx1 1; have d2 := blk_cell hx1 2; have d3 := blk_cell hx1 3; simp at d0 d1 d2 d3; have hl1 := at_lt hx1; have HP1 := hide (fun o => (HP.out.below hb).below (below1 w1 o)); have HB1 := hide (HBW.out.trans (hb.mono HBW.out.size)); have HX1 := hide hx1; clear hb hx1)
      | (go_at_call 25; refine (HM.out _ (HP1.out _)).mono ?_; rintro e w2 ⟨rfl, rfl⟩)
      | (go_at_call 26; refine (HS.out _).mono ?_; rintro e w2 ⟨rfl, rfl⟩)
      | fail)
    go_ret
    exact ⟨rfl, (HP1.out _), (Turn.of_below HB1.out).trans (.of_below (below1 w1 _))⟩
  have h3 : rightB ⟨k, wd, rg, of⟩ = true := by simpa using h3'
  rw [h3] at HPt
  by_cases h4' : placedB off n = false
  · rw [show storeM A off n ⟨k, wd, rg, of⟩ = (32, A) by simp [storeM, h2, h3, h4']]
    rw [h4'] at HPl
    go_enter Try.func22, Try.ntmps22
    go_wp2_with (first
      | (go_at_call 39; refine (HPt.out _).mono ?_; rintro e w1 ⟨rfl, hb⟩; have hx1 := (hb.block _ (at_lt HX.out)).trans HX.out; have d0 := blk_cell hx1 0; have d1 := blk_cell hx1 1; have d2 := blk_cell hx1 2; have d3 := blk_cell hx1 3; simp at d0 d1 d2 d3; have hl1 := at_lt hx1; have HP1 := hide (fun o => (HP.out.below hb).below (below1 w1 o)); have HB1 := hide (HBW.out.trans (hb.mono HBW.out.size)); have HX1 := hide hx1; clear hb hx1)
      | (go_at_call 25; refine (HM.out _ (HP1.out _)).mono ?_; rintro e w2 ⟨rfl, rfl⟩)
      | (go_at_call 26; refine (HS.out _).mono ?_; rintro e w2 ⟨rfl, rfl⟩)
      | (go_at_call 27; refine (HPl.out _).mono ?_; rintro e w2 ⟨rfl, rfl⟩)
      | fail)
    go_ret
    exact ⟨rfl, (HP1.out _), (Turn.of_below HB1.out).trans (.of_below (below1 w1 _))⟩
  have h4 : placedB off n = true := by simpa using h4'
  rw [h4] at HPl
  obtain ⟨h5, h6⟩ := placed_of h4
  have h7 := sized_of h2
  obtain ⟨o, rfl⟩ : ∃ o : Nat, off = o := ⟨off.toNat, by omega⟩
  obtain ⟨q, rfl⟩ : ∃ q : Nat, n = q := ⟨n.toNat, by omega⟩
  have HG := hide (fun w => grouped_any o q w h5)
  have hkk := right_kind h3
  simp only at hkk hk hwd
  by_cases hk0 : k = 0
  · subst hk0
    rw [show storeM A o q ⟨0, wd, rg, of⟩ = (30, A) by simp [storeM, h2, h3, h4]]
    go_enter Try.func22, Try.ntmps22
    go_wp2_with (first
      | (go_at_call 39; refine (HPt.out _).mono ?_; rintro e w1 ⟨rfl, hb⟩; have hx1 := (hb.block _ (at_lt HX.out)).trans HX.out; have d0 := blk_cell hx1 0; have d1 := blk_cell hx1 1; have d2 := blk_cell hx1 2; have d3 := blk_cell hx1 3; simp at d0 d1 d2 d3; have hl1 := at_lt hx1; have HP1 := hide (fun o => (HP.out.below hb).below (below1 w1 o)); have HB1 := hide (HBW.out.trans (hb.mono HBW.out.size)); have HX1 := hide hx1; clear hb hx1)
      | (go_at_call 25; refine (HM.out _ (HP1.out _)).mono ?_; rintro e w2 ⟨rfl, rfl⟩)
      | (go_at_call 26; refine (HS.out _).mono ?_; rintro e w2 ⟨rfl, rfl⟩)
      | (go_at_call 27; refine (HPl.out _).mono ?_; rintro e w2 ⟨rfl, rfl⟩)
      | fail)
    go_ret
    exact ⟨rfl, (HP1.out _), (Turn.of_below HB1.out).trans (.of_below (below1 w1 _))⟩
  have e0 : (k == 0) = false := by simpa using hk0
  by_cases hk1 : k = 1
  · subst hk1
    rw [show storeM A o q ⟨1, wd, rg, of⟩ = (0, A.put o (bytesM q wd)) by simp [storeM, h2, h3, h4, wholeB]]
    have HBy := hide (fun w => bytesOf_any wd q w (by omega) hwd.1 hwd.2)
    go_enter Try.func22, Try.ntmps22
    go_wp2_with (first
      | (go_at_call 39; refine (HPt.out _).mono ?_; rintro e w1 ⟨rfl, hb⟩; have hx1 := (hb.block _ (at_lt HX.out)).trans HX.out; have d0 := blk_cell hx1 0; have d1 := blk_cell hx1 1; have d2 := blk_cell hx1 2; have d3 := blk_cell hx1 3; simp at d0 d1 d2 d3; have hl1 := at_lt hx1; have HP1 := hide (fun o => (HP.out.below hb).below (below1 w1 o)); have HB1 := hide (HBW.out.trans (hb.mono HBW.out.size)); have HX1 := hide hx1; clear hb hx1)
      | (go_at_call 25; refine (HM.out _ (HP1.out _)).mono ?_; rintro e w2 ⟨rfl, rfl⟩)
      | (go_at_call 26; refine (HS.out _).mono ?_; rintro e w2 ⟨rfl, rfl⟩)
      | (go_at_call 27; refine (HPl.out _).mono ?_; rintro e w2 ⟨rfl, rfl⟩)
      | (go_at_call 40; refine (HBy.out _).mono ?_; rintro e w4 ⟨rfl, hb4, hx4⟩; have HB4 := hide hb4; have HX4 := hide hx4; clear hb4 hx4)
      | fail)
    have hx4 : w4.heap[w1.heap.size + 1]? = some (.cells (u8s (bytesM q wd)).toArray 5 (0, 0)) := by simpa using HX4.out
    have hsz := HB1.out.size
    have hsrc : Src w4 b (some ⟨w1.heap.size + 1, 0, none⟩) q (bytesM q wd) := ⟨bytesM_length _ _, fun _ => ⟨_, rfl, by simp only; omega, at_lt hx4, fun j u hu => by
      rw [add_own, PS.cell hx4 j]
      exact hu⟩⟩
    refine (set_any b o q q A (some ⟨w1.heap.size + 1, 0, none⟩) (bytesM q wd) w4 ((HP1.out _).below HB4.out) hsrc (Nat.le_refl _) (by omega)).mono ?_
    rintro e w5 ⟨rfl, hp, ht⟩
    have HP5 := hide hp
    have HT5 := hide ht
    clear hx4 hsrc hp ht
    go_wp2
    go_ret
    exact ⟨rfl, HP5.out, (((Turn.of_below HB1.out).trans (.of_below (below1 w1 _))).trans (.of_below HB4.out)).trans HT5.out⟩
  have e1 : (k == 1) = false := by simpa using hk1
  have hk23 : k = 2 ∨ k = 3 := by omega
  have ew : (k == 2 || k == 3) = true := by rcases hk23 with rfl | rfl <;> rfl
  rw [ew] at HPt
  by_cases hg' : groupedB o q = false
  · rw [show storeM A o q ⟨k, wd, rg, of⟩ = (38, A) by simp [storeM, h2, h3, h4, wholeB, ew, hk0, hg']]
    rw [hg'] at HG
    go_enter Try.func22, Try.ntmps22
    go_wp2_with (first
      | (go_at_call 39; refine (HPt.out _).mono ?_; rintro e w1 ⟨rfl, hb⟩; have hx1 := (hb.block _ (at_lt HX.out)).trans HX.out; have d0 := blk_cell hx1 0; have d1 := blk_cell hx1 1; have d2 := blk_cell hx1 2; have d3 := blk_cell hx1 3; simp at d0 d1 d2 d3; have hl1 := at_lt hx1; have HP1 := hide (fun o => (HP.out.below hb).below (below1 w1 o)); have HB1 := hide (HBW.out.trans (hb.mono HBW.out.size)); have HX1 := hide hx1; clear hb hx1)
      | (go_at_call 25; refine (HM.out _ (HP1.out _)).mono ?_; rintro e w2 ⟨rfl, rfl⟩)
      | (go_at_call 26; refine (HS.out _).mono ?_; rintro e w2 ⟨rfl, rfl⟩)
      | (go_at_call 27; refine (HPl.out _).mono ?_; rintro e w2 ⟨rfl, rfl⟩)
      | (go_at_call 28; refine (HG.out _).mono ?_; rintro e w2 ⟨rfl, rfl⟩)
      | fail)
    go_ret
    exact ⟨rfl, (HP1.out _), (Turn.of_below HB1.out).trans (.of_below (below1 w1 _))⟩
  have hg : groupedB o q = true := by simpa using hg'
  rw [hg] at HG
  rw [show storeM A o q ⟨k, wd, rg, of⟩ = (0, A.hold (o / 8) ⟨k, wd, rg, of⟩) by simp [storeM, h2, h3, h4, wholeB, ew, hk0, hg]]
  go_enter Try.func22, Try.ntmps22
  go_wp2_with (first
    | (go_at_call 39; refine (HPt.out _).mono ?_; rintro e w1 ⟨rfl, hb⟩; have hx1 := (hb.block _ (at_lt HX.out)).trans HX.out; have d0 := blk_cell hx1 0; have d1 := blk_cell hx1 1; have d2 := blk_cell hx1 2; have d3 := blk_cell hx1 3; simp at d0 d1 d2 d3; have hl1 := at_lt hx1; have HP1 := hide (fun o => (HP.out.below hb).below (below1 w1 o)); have HB1 := hide (HBW.out.trans (hb.mono HBW.out.size)); have HX1 := hide hx1; clear hb hx1)
    | (go_at_call 25; refine (HM.out _ (HP1.out _)).mono ?_; rintro e w2 ⟨rfl, rfl⟩)
    | (go_at_call 26; refine (HS.out _).mono ?_; rintro e w2 ⟨rfl, rfl⟩)
    | (go_at_call 27; refine (HPl.out _).mono ?_; rintro e w2 ⟨rfl, rfl⟩)
    | (go_at_call 28; refine (HG.out _).mono ?_; rintro e w2 ⟨rfl, rfl⟩)
    | fail)
  have hx2 := ((below1 w1 (.cells #[.bool false, .bool true, .bool (k == 2), .bool true] 76)).block _ (at_lt HX1.out)).trans HX1.out
  have hp2 := HP1.out (.cells #[.bool false, .bool true, .bool (k == 2), .bool true] 76)
  have hb2 := HB1.out.trans ((below1 w1 (.cells #[.bool false, .bool true, .bool (k == 2), .bool true] 76)).mono HB1.out.size)
  generalize w1.alloc (.cells #[.bool false, .bool true, .bool (k == 2), .bool true] 76) = W2 at hx2 hp2 hb2 ⊢
  have HA : Hid (∀ w, Calls Try.prog 29 #[.pointer (some ⟨b, 1, none⟩), .int .i64 o] w fun e w' => e = .returned (.pointer (some ⟨b, 1 + 13 * (o / 8), none⟩)) ∧ w = w') := fun w => by
    have := at_any b o w (by omega) (by omega)
    rw [Int.toNat_natCast] at this
    exact this
  obtain ⟨cs, hb, hs⟩ := hp2
  have hg8 : o / 8 < 64 := by omega
  have hg1 := hs.grp (o / 8) hg8
  have g0 := (PS.cell hb (1 + 13 * (o / 8))).trans hg1.k
  have g1 := (PS.cell hb (1 + 13 * (o / 8) + 1)).trans hg1.wd
  have g2 := (PS.cell hb (1 + 13 * (o / 8) + 2)).trans hg1.rg
  have g3 := (PS.cell hb (1 + 13 * (o / 8) + 3)).trans hg1.of
  obtain ⟨s, s1, s2, s3⟩ := hg1.set
  have g4 := (PS.cell hb (1 + 13 * (o / 8) + 4)).trans s2
  obtain ⟨y0, z0, _⟩ := hg1.byte 0 (by omega)
  have g5 := (PS.cell hb (1 + 13 * (o / 8) + 5)).trans z0
  obtain ⟨y1, z1, _⟩ := hg1.byte 1 (by omega)
  have g6 := (PS.cell hb (1 + 13 * (o / 8) + 6)).trans z1
  obtain ⟨y2, z2, _⟩ := hg1.byte 2 (by omega)
  have g7 := (PS.cell hb (1 + 13 * (o / 8) + 7)).trans z2
  obtain ⟨y3, z3, _⟩ := hg1.byte 3 (by omega)
  have g8 := (PS.cell hb (1 + 13 * (o / 8) + 8)).trans z3
  obtain ⟨y4, z4, _⟩ := hg1.byte 4 (by omega)
  have g9 := (PS.cell hb (1 + 13 * (o / 8) + 9)).trans z4
  obtain ⟨y5, z5, _⟩ := hg1.byte 5 (by omega)
  have g10 := (PS.cell hb (1 + 13 * (o / 8) + 10)).trans z5
  obtain ⟨y6, z6, _⟩ := hg1.byte 6 (by omega)
  have g11 := (PS.cell hb (1 + 13 * (o / 8) + 11)).trans z6
  obtain ⟨y7, z7, _⟩ := hg1.byte 7 (by omega)
  have g12 := (PS.cell hb (1 + 13 * (o / 8) + 12)).trans z7
  have f0 := blk_free hb (1 + 13 * (o / 8))
  have f1 := blk_free hb (1 + 13 * (o / 8) + 1)
  have f2 := blk_free hb (1 + 13 * (o / 8) + 2)
  have f3 := blk_free hb (1 + 13 * (o / 8) + 3)
  have f4 := blk_free hb (1 + 13 * (o / 8) + 4)
  have f5 := blk_free hb (1 + 13 * (o / 8) + 5)
  have f6 := blk_free hb (1 + 13 * (o / 8) + 6)
  have f7 := blk_free hb (1 + 13 * (o / 8) + 7)
  have f8 := blk_free hb (1 + 13 * (o / 8) + 8)
  have f9 := blk_free hb (1 + 13 * (o / 8) + 9)
  have f10 := blk_free hb (1 + 13 * (o / 8) + 10)
  have f11 := blk_free hb (1 + 13 * (o / 8) + 11)
  have f12 := blk_free hb (1 + 13 * (o / 8) + 12)
  have l0 := blk_cell hx2 0
  have l1 := blk_cell hx2 1
  have l2 := blk_cell hx2 2
  have l3 := blk_cell hx2 3
  simp at l0 l1 l2 l3
  have hlx := at_lt hx2
  have hlb := at_lt hb
  have hpg := put_group (g := o / 8) (w := W2.drew) hb ⟨k, wd, rg, of⟩
  have HPG := hide hpg
  have HS2 := hide hs
  have HBW2 := hide hb2
  clear hpg hs hb hg1 hx2 hb2 s1 s2 s3 z0 z1 z2 z3 z4 z5 z6 z7 d0 d1 d2 d3
  obtain ⟨W6, hW6⟩ : ∃ W6, W6 = (((((((((((((W2.drew.setCell ⟨b, 1 + 13 * (o / 8), none⟩ (.int .u8 k)).setCell ⟨b, 1 + 13 * (o / 8) + 1, none⟩ (.int .u64 wd)).setCell ⟨b, 1 + 13 * (o / 8) + 2, none⟩ (.int .i64 rg)).setCell ⟨b, 1 + 13 * (o / 8) + 3, none⟩ (.int .i64 of)).setCell ⟨b, 1 + 13 * (o / 8) + 4, none⟩ (.int .u8 0)).setCell ⟨b, 1 + 13 * (o / 8) + 5, none⟩ (.int .u8 0)).setCell ⟨b, 1 + 13 * (o / 8) + 6, none⟩ (.int .u8 0)).setCell ⟨b, 1 + 13 * (o / 8) + 7, none⟩ (.int .u8 0)).setCell ⟨b, 1 + 13 * (o / 8) + 8, none⟩ (.int .u8 0)).setCell ⟨b, 1 + 13 * (o / 8) + 9, none⟩ (.int .u8 0)).setCell ⟨b, 1 + 13 * (o / 8) + 10, none⟩ (.int .u8 0)).setCell ⟨b, 1 + 13 * (o / 8) + 11, none⟩ (.int .u8 0)).setCell ⟨b, 1 + 13 * (o / 8) + 12, none⟩ (.int .u8 0)) := ⟨_, rfl⟩
  refine wpIn_wide.1 (?_ : Code.wpIn Fence.wide 3 _ _ _ _ _)
  refine wpIn_tells5 (fun _ => trivial) (by kernel_rfl) (TSto b o (1 + 13 * (o / 8)) k wd rg of) (fun L W => W = if L 8 then W6 else W2.drew) (by kernel_rfl) (by kernel_rfl) (by kernel_rfl) (by kernel_rfl) ?_ rfl ?_ ?_
  · intro j oj σ σ' hj h hs
    have h0 := hs j (.inl rfl)
    have hi : j < 9 := (Array.getElem?_eq_some_iff.1 hj).1
    have hi' : j = 0 ∨ j = 1 ∨ j = 2 ∨ j = 3 ∨ j = 4 ∨ j = 5 ∨ j = 6 ∨ j = 7 ∨ j = 8 := by omega
    rcases hi' with rfl | rfl | rfl | rfl | rfl | rfl | rfl | rfl | rfl
    all_goals first
      | trivial
      | (simp only [TSto] at h ⊢; rw [h0]; exact h)
  · intro i oo ho L a W hi hG hold hh hT hcl
    have hi2 : i < 9 := (Array.getElem?_eq_some_iff.1 ho).1
    have c87 : L 8 = true → L 7 = true := fun h => hcl 8 _ 7 rfl h rfl
    have c86 : L 8 = true → L 6 = true := fun h => hcl 8 _ 6 rfl h rfl
    have c65 : L 6 = true → L 5 = true := fun h => hcl 6 _ 5 rfl h rfl
    have c74 : L 7 = true → L 4 = true := fun h => hcl 7 _ 4 rfl h rfl
    have c43 : L 4 = true → L 3 = true := fun h => hcl 4 _ 3 rfl h rfl
    have c42 : L 4 = true → L 2 = true := fun h => hcl 4 _ 2 rfl h rfl
    have c21 : L 2 = true → L 1 = true := fun h => hcl 2 _ 1 rfl h rfl
    have c10 : L 1 = true → L 0 = true := fun h => hcl 1 _ 0 rfl h rfl
    have hlow : i < 8 → L 8 = false := fun hi9 => by
      cases h8 : L 8 with
      | false => rfl
      | true =>
        exfalso
        have hi3 : i = 0 ∨ i = 1 ∨ i = 2 ∨ i = 3 ∨ i = 4 ∨ i = 5 ∨ i = 6 ∨ i = 7 := by omega
        rcases hi3 with rfl | rfl | rfl | rfl | rfl | rfl | rfl | rfl
        · rw [c10 (c21 (c42 (c74 (c87 h8))))] at hi; cases hi
        · rw [c21 (c42 (c74 (c87 h8)))] at hi; cases hi
        · rw [c42 (c74 (c87 h8))] at hi; cases hi
        · rw [c43 (c74 (c87 h8))] at hi; cases hi
        · rw [c74 (c87 h8)] at hi; cases hi
        · rw [c65 (c86 h8)] at hi; cases hi
        · rw [c86 h8] at hi; cases hi
        · rw [c87 h8] at hi; cases hi
    have hW2 : L 8 = false → W = W2.drew := fun h8 => by
      simp only [h8] at hG
      exact hG
    have hGs : i < 8 → W = if (L 8 || (8 == i)) then W6 else W2.drew := fun hi9 => by
      rw [show (8 == i) = false by simp; omega, Bool.or_false]
      exact hG
    have hi' : i = 0 ∨ i = 1 ∨ i = 2 ∨ i = 3 ∨ i = 4 ∨ i = 5 ∨ i = 6 ∨ i = 7 ∨ i = 8 := by omega
    rcases hi' with rfl | rfl | rfl | rfl | rfl | rfl | rfl | rfl | rfl
    · cases ho
      obtain rfl := hW2 (hlow (by omega))
      refine step5_told (.pointer (some ⟨b, 0, none⟩)) ?_ (by decide) (hGs (by omega)) rfl
      have e5 : a.eval (.tmp 0) = .pointer (some ⟨b, 0, none⟩) := hold 0 (by kernel_rfl)
      generalize a.eval = ev at e5 ⊢
      simp [execOp, go_sem, e5]
    · cases ho
      obtain rfl := hW2 (hlow (by omega))
      refine step5_told (.pointer (some ⟨b, 0, none⟩)) ?_ (by decide) (hGs (by omega)) rfl
      have e5 : a.eval (.tmp 56) = .pointer (some ⟨b, 0, none⟩) := hT 0 (hh 0 rfl)
      generalize a.eval = ev at e5 ⊢
      simp [execOp, go_sem, e5]
    · cases ho
      obtain rfl := hW2 (hlow (by omega))
      refine step5_told (.pointer (some ⟨b, 1, none⟩)) ?_ (by decide) (hGs (by omega)) rfl
      have e5 : a.eval (.tmp 57) = .pointer (some ⟨b, 0, none⟩) := hT 1 (hh 1 rfl)
      generalize a.eval = ev at e5 ⊢
      simp [execOp, go_sem, e5]
    · cases ho
      obtain rfl := hW2 (hlow (by omega))
      refine step5_told (.int .i64 o) ?_ (by decide) (hGs (by omega)) rfl
      have e5 : a.eval (.tmp 1) = .int .i64 o := hold 1 (by kernel_rfl)
      generalize a.eval = ev at e5 ⊢
      simp [execOp, go_sem, e5]
    · cases ho
      obtain rfl := hW2 (hlow (by omega))
      refine step5_called (f := 29) (args := #[.pointer (some ⟨b, 1, none⟩), .int .i64 o]) (.pointer (some ⟨b, 1 + 13 * (o / 8), none⟩)) ?_ (by decide) (HA.out _) (hGs (by omega)) rfl
      have e5 : a.eval (.tmp 58) = .pointer (some ⟨b, 1, none⟩) := hT 2 (hh 2 rfl)
      have e6 : a.eval (.tmp 59) = .int .i64 o := hT 3 (hh 3 rfl)
      have e7 : a.eval (.func 29) = .func (.func 29) #[] #[] := rfl
      generalize a.eval = ev at e5 e6 e7 ⊢
      simp [execOp, go_sem, e5, e6, e7, hE]
    · cases ho
      obtain rfl := hW2 (hlow (by omega))
      refine step5_told (.agg #[.int .u8 k, .int .u64 wd, .int .i64 rg, .int .i64 of]) ?_ (by decide) (hGs (by omega)) rfl
      have e5 : a.eval (.tmp 7) = .pointer (some ⟨w.heap.size, 0, none⟩) := hold 7 (by kernel_rfl)
      generalize a.eval = ev at e5 ⊢
      simp [execOp, go_sem, e5, l0, l1, l2, l3]
    · cases ho
      obtain rfl := hW2 (hlow (by omega))
      refine step5_told (.agg #[.int .u8 k, .int .u64 wd, .int .i64 rg, .int .i64 of, .int .u8 0, .int .u8 0, .int .u8 0, .int .u8 0, .int .u8 0, .int .u8 0, .int .u8 0, .int .u8 0, .int .u8 0]) ?_ (by decide) (hGs (by omega)) rfl
      have e5 : a.eval (.tmp 61) = .agg #[.int .u8 k, .int .u64 wd, .int .i64 rg, .int .i64 of] := hT 5 (hh 5 rfl)
      generalize a.eval = ev at e5 ⊢
      simp [execOp, go_sem, e5]
    · cases ho
      obtain rfl := hW2 (hlow (by omega))
      refine step5_told (.pointer (some ⟨b, 1 + 13 * (o / 8), none⟩)) ?_ (by decide) (hGs (by omega)) rfl
      have e5 : a.eval (.tmp 60) = .pointer (some ⟨b, 1 + 13 * (o / 8), none⟩) := hT 4 (hh 4 rfl)
      generalize a.eval = ev at e5 ⊢
      simp [execOp, go_sem, e5]
    · cases ho
      obtain rfl := hW2 hi
      refine step5_skip (W' := W6) ?_ (by simp) trivial
      have e5 : a.eval (.tmp 63) = .pointer (some ⟨b, 1 + 13 * (o / 8), none⟩) := hT 7 (hh 7 rfl)
      have e6 : a.eval (.tmp 62) = .agg #[.int .u8 k, .int .u64 wd, .int .i64 rg, .int .i64 of, .int .u8 0, .int .u8 0, .int .u8 0, .int .u8 0, .int .u8 0, .int .u8 0, .int .u8 0, .int .u8 0, .int .u8 0] := hT 6 (hh 6 rfl)
      rw [hW6]
      generalize a.eval = ev at e5 e6 ⊢
      simp [execOp, go_sem, e5, e6, g0, g1, g2, g3, g4, g5, g6, g7, g8, g9, g10, g11, g12, f0, f1, f2, f3, f4, f5, f6, f7, f8, f9, f10, f11, f12]
  · intro a W hd hs hold hT hG
    have hWe : W = W6 := by simpa using hG
    have HPG2 : Hid (W6.heap[b]? = some (.cells (setsFrom cs (1 + 13 * (o / 8)) (gcs ⟨k, wd, rg, of⟩)).toArray 58 (0, 0)) ∧ Turn b W2.drew W6) := by
      rw [hW6]; exact HPG.out
    subst hWe
    have hsz : a.tmps.size = 64 := by rw [hs]; rfl
    clear hW6 HPG hG hT hold
    go_wp2
    go_ret
    refine ⟨?_, ⟨_, HPG2.out.1, hold_psl HS2.out hg8 _⟩, ((Turn.of_below HBW2.out).drew).trans HPG2.out.2⟩
    simp [Array.getD_eq_getD_getElem?, hsz]
end Go.Proofs.Ytkpoilcbdcddcaa
