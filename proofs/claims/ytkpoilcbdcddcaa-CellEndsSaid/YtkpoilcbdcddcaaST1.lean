/-
  What a stack loads and reads.
-/
import Derived.Test.YtkpoilcbdcddcaaST0
namespace Go.Proofs.Ytkpoilcbdcddcaa
open Go.RowKit
set_option linter.unusedVariables false
set_option linter.unusedSimpArgs false

theorem placed_of {off n : Int} (h : placedB off n = true) : 0 ≤ off ∧ n ≤ 512 - off := by
  unfold placedB at h
  simpa using h
theorem sized_of {n : Int} (h : sizedB n = true) : n = 1 ∨ n = 2 ∨ n = 4 ∨ n = 8 := by
  unfold sizedB at h
  simp only [Bool.or_eq_true, beq_iff_eq] at h
  omega
/-- What Read tells. -/
def ReadR (w : World) (B q : Nat) (r : Option (List Int)) (v : Value) : Prop := (r = .none ∧ v = .slice .none 0 0) ∨ ∃ l, r = some l ∧ OwnB w B v q l
theorem readM_at (A : AS) (o q : Nat) (h1 : q ≤ 512) (h3 : placedB o q = true) : readM A o q = (A.got o q, if (A.got o q).isSome then 0 else 30) := by
  unfold readM
  rw [h3]
  have e1 : decide ((q : Int) < 0) = false := decide_eq_false (by omega)
  have e2 : decide (512 < (q : Int)) = false := decide_eq_false (by omega)
  rw [e1, e2]
  simp only [Int.toNat_natCast]
  cases A.got o q <;> rfl
theorem loadM_at (A : AS) (o q : Nat) (h1 : sizedB q = true) (h3 : placedB o q = true) (h4 : (groupedB o q && (A.wh (o / 8)).k != 0) = false) : loadM A o q = (A.got o q).elim (c0, 30) (fun l => (wordC (wordM l), 0)) := by
  unfold loadM
  rw [h1, h3]
  simp only [Int.toNat_natCast, h4]
  cases A.got o q <;> rfl
theorem loadM_whole (A : AS) (o q : Nat) (h1 : sizedB q = true) (h3 : placedB o q = true) (h4 : (groupedB o q && (A.wh (o / 8)).k != 0) = true) : loadM A o q = (A.wh (o / 8), 0) := by
  unfold loadM
  rw [h1, h3]
  simp only [Int.toNat_natCast, h4]
  rfl
set_option maxRecDepth 100000 in
set_option maxHeartbeats 2000000 in
theorem read_any (b : Nat) (A : AS) (off n : Int) (w : World) (h : PS w b A) (ho : off ≤ 9223372036854775807) :
    Calls Try.prog 14 #[.pointer (some ⟨b, 0, none⟩), .int .i64 off, .int .i64 n] w fun e w' => ∃ v, e = .returned (.tuple #[v, .int .i64 (readM A off n).2]) ∧ ReadR w' w.heap.size n.toNat (readM A off n).1 v ∧ Below w.heap.size w w' := by
  have HM := hide (made_yes b A w h)
  have H := hide h
  clear h
  by_cases h1 : n < 0
  · rw [show readM A off n = (none, 2) by simp [readM, h1]]
    go_enter Try.func14, Try.ntmps14
    go_wp2_with (go_at_call 25; refine (HM.out).mono ?_; rintro e w1 ⟨rfl, rfl⟩)
    go_ret2
    exact ⟨.slice none 0 0, rfl, .inl ⟨rfl, rfl⟩, Below.refl _ _⟩
  by_cases h2 : 512 < n
  · rw [show readM A off n = (none, 2) by simp [readM, h2]]
    go_enter Try.func14, Try.ntmps14
    go_wp2_with (go_at_call 25; refine (HM.out).mono ?_; rintro e w1 ⟨rfl, rfl⟩)
    go_ret2
    exact ⟨.slice none 0 0, rfl, .inl ⟨rfl, rfl⟩, Below.refl _ _⟩
  have HPl := hide (placed_any off n w ho)
  by_cases h3 : placedB off n = true
  · obtain ⟨h4, h5⟩ := placed_of h3
    obtain ⟨o, rfl⟩ : ∃ o : Nat, off = o := ⟨off.toNat, by omega⟩
    obtain ⟨q, rfl⟩ : ∃ q : Nat, n = q := ⟨n.toNat, by omega⟩
    have HT := hide (told_any b o q A w H.out (by omega))
    have HR := hide (readM_at A o q (by omega) h3)
    rw [h3] at HPl
    clear h3
    go_enter Try.func14, Try.ntmps14
    go_wp2_with (first
      | (go_at_call 25; refine (HM.out).mono ?_; rintro e w1 ⟨rfl, rfl⟩)
      | (go_at_call 27; refine (HPl.out).mono ?_; rintro e w1 ⟨rfl, rfl⟩)
      | (go_at_call 31; refine (HT.out).mono ?_; rintro e w1 ⟨v, E, rfl, hv, hb⟩; have HV := hide hv; have HB := hide hb; clear hv hb))
    rcases HV.out with ⟨l, g1, rfl, g3⟩ | ⟨g1, rfl, rfl⟩
    · rw [g1] at HR
      go_ret2
      rw [HR.out]
      exact ⟨v, rfl, .inr ⟨l, rfl, g3⟩, HB.out⟩
    · rw [g1] at HR
      go_ret2
      rw [HR.out]
      exact ⟨.slice none 0 0, rfl, .inl ⟨rfl, rfl⟩, HB.out⟩
  · have h3' : placedB off n = false := by simpa using h3
    rw [h3'] at HPl
    rw [show readM A off n = (none, 32) by simp [readM, h1, h2, h3']]
    go_enter Try.func14, Try.ntmps14
    go_wp2_with (first
      | (go_at_call 25; refine (HM.out).mono ?_; rintro e w1 ⟨rfl, rfl⟩)
      | (go_at_call 27; refine (HPl.out).mono ?_; rintro e w1 ⟨rfl, rfl⟩))
    all_goals first
      | (exfalso; omega)
      | (go_ret2
         exact ⟨.slice none 0 0, rfl, .inl ⟨rfl, rfl⟩, Below.refl _ _⟩)
theorem read_not (p : Option Addr) (off n : Int) (w : World) (h : ∀ W, Below w.heap.size w W → Calls Try.prog 25 #[.pointer p] W fun e w' => e = .returned (.bool false) ∧ W = w') :
    Calls Try.prog 14 #[.pointer p, .int .i64 off, .int .i64 n] w fun e w' => e = .returned (.tuple #[.slice none 0 0, .int .i64 1]) ∧ Below w.heap.size w w' := by
  have HM := hide (h w (Below.refl _ _))
  clear h
  go_enter Try.func14, Try.ntmps14
  go_wp2_with (go_at_call 25; refine (HM.out).mono ?_; rintro e w1 ⟨rfl, rfl⟩)
  go_ret2
  exact ⟨rfl, Below.refl _ _⟩
theorem c4zero (w : World) : (zeroValue 33).run Try.prog w = .ok (.agg #[.int .u8 0, .int .u64 0, .int .i64 0, .int .i64 0]) w := by kernel_rfl
set_option maxRecDepth 100000 in
theorem load_not (p : Option Addr) (off n : Int) (w : World) (h : ∀ W, Below w.heap.size w W → Calls Try.prog 25 #[.pointer p] W fun e w' => e = .returned (.bool false) ∧ W = w') :
    Calls Try.prog 12 #[.pointer p, .int .i64 off, .int .i64 n] w fun e w' => e = .returned (.tuple #[c0.val, .int .i64 1]) ∧ Below w.heap.size w w' := by
  have HM := hide (h _ (below1 w (.cells #[.int .u8 0, .int .u64 0, .int .i64 0, .int .i64 0] 33)))
  clear h
  go_enter Try.func12, Try.ntmps12
  go_wp2_with (go_at_call 25; refine (HM.out).mono ?_; rintro e w1 ⟨rfl, rfl⟩)
  refine bodyPost_ret (v := .tuple #[c0.val, .int .i64 1]) (by simp [results, Try.results12, go_sem, C4.val, c0]) rfl ⟨rfl, ?_⟩
  exact below1 w _
set_option maxRecDepth 100000 in
set_option maxHeartbeats 4000000 in
theorem load_any (b : Nat) (A : AS) (off n : Int) (w : World) (h : PS w b A) (hok : A.Ok) (ho : off ≤ 9223372036854775807) :
    Calls Try.prog 12 #[.pointer (some ⟨b, 0, none⟩), .int .i64 off, .int .i64 n] w fun e w' => e = .returned (.tuple #[(loadM A off n).1.val, .int .i64 (loadM A off n).2]) ∧ Below w.heap.size w w' := by
  have hbw := below1 w (.cells #[.int .u8 0, .int .u64 0, .int .i64 0, .int .i64 0] 33)
  have hx := World.alloc_heap_new w (.cells #[.int .u8 0, .int .u64 0, .int .i64 0, .int .i64 0] 33)
  have h1 := h.below hbw
  have HS := hide (fun w => sized_any n w)
  have HPl := hide (fun w => placed_any off n w ho)
  by_cases h2' : sizedB n = false
  · have HM := hide (made_yes b A _ h1)
    rw [show loadM A off n = (c0, 2) by simp [loadM, h2']]
    rw [h2'] at HS
    clear h h1 hx hbw
    go_enter Try.func12, Try.ntmps12
    go_wp2_with (first
      | (go_at_call 25; refine (HM.out).mono ?_; rintro e w1 ⟨rfl, rfl⟩)
      | (go_at_call 26; refine (HS.out _).mono ?_; rintro e w1 ⟨rfl, rfl⟩))
    refine bodyPost_ret (v := .tuple #[c0.val, .int .i64 2]) (by simp [results, Try.results12, go_sem, C4.val, c0]) rfl ⟨rfl, ?_⟩
    exact below1 w _
  have h2 : sizedB n = true := by simpa using h2'
  rw [h2] at HS
  by_cases h3' : placedB off n = false
  · have HM := hide (made_yes b A _ h1)
    rw [show loadM A off n = (c0, 32) by simp [loadM, h2, h3']]
    rw [h3'] at HPl
    clear h h1 hx hbw
    go_enter Try.func12, Try.ntmps12
    go_wp2_with (first
      | (go_at_call 25; refine (HM.out).mono ?_; rintro e w1 ⟨rfl, rfl⟩)
      | (go_at_call 26; refine (HS.out _).mono ?_; rintro e w1 ⟨rfl, rfl⟩)
      | (go_at_call 27; refine (HPl.out _).mono ?_; rintro e w1 ⟨rfl, rfl⟩))
    refine bodyPost_ret (v := .tuple #[c0.val, .int .i64 32]) (by simp [results, Try.results12, go_sem, C4.val, c0]) rfl ⟨rfl, ?_⟩
    exact below1 w _
  have h3 : placedB off n = true := by simpa using h3'
  rw [h3] at HPl
  obtain ⟨h4, h5⟩ := placed_of h3
  have h6 := sized_of h2
  obtain ⟨o, rfl⟩ : ∃ o : Nat, off = o := ⟨off.toNat, by omega⟩
  obtain ⟨q, rfl⟩ : ∃ q : Nat, n = q := ⟨n.toNat, by omega⟩
  have HG := hide (fun w => grouped_any o q w h4)
  have hol : o < 512 := by omega
  have HA : Hid (∀ w, Calls Try.prog 29 #[.pointer (some ⟨b, 1, none⟩), .int .i64 o] w fun e w' => e = .returned (.pointer (some ⟨b, 1 + 13 * (o / 8), none⟩)) ∧ w = w') := fun w => by
    have := at_any b o w (by omega) (by omega)
    rw [Int.toNat_natCast] at this
    exact this
  have HH : Hid (∀ w, PS w b A → Calls Try.prog 30 #[.pointer (some ⟨b, 1 + 13 * (o / 8), none⟩)] w fun e w' => e = .returned (.bool ((A.wh (o / 8)).k != 0)) ∧ w = w') := fun w h => holds_any b (o / 8) A w h (by omega)
  by_cases h7 : (groupedB o q && (A.wh (o / 8)).k != 0) = true
  · rw [loadM_whole A o q h2 h3 h7]
    rw [Bool.and_eq_true] at h7
    obtain ⟨h8, h9⟩ := h7
    rw [h8] at HG
    rw [h9] at HH
    have HM := hide (made_yes b A _ h1)
    have HP := hide h1
    obtain ⟨cs, hb, hs⟩ := h1
    have hg1 := hs.grp (o / 8) (by omega)
    have d0 := (PS.cell hb (1 + 13 * (o / 8))).trans hg1.k
    have d1 := (PS.cell hb (1 + 13 * (o / 8) + 1)).trans hg1.wd
    have d2 := (PS.cell hb (1 + 13 * (o / 8) + 2)).trans hg1.rg
    have d3 := (PS.cell hb (1 + 13 * (o / 8) + 3)).trans hg1.of
    clear h hx hb hs hg1 hbw h2 h3 h8 h9
    go_enter Try.func12, Try.ntmps12
    go_wp2_with (first
      | (go_at_call 25; refine (HM.out).mono ?_; rintro e w1 ⟨rfl, rfl⟩)
      | (go_at_call 26; refine (HS.out _).mono ?_; rintro e w1 ⟨rfl, rfl⟩)
      | (go_at_call 27; refine (HPl.out _).mono ?_; rintro e w1 ⟨rfl, rfl⟩)
      | (go_at_call 28; refine (HG.out _).mono ?_; rintro e w1 ⟨rfl, rfl⟩)
      | (go_at_call 29; refine (HA.out _).mono ?_; rintro e w1 ⟨rfl, rfl⟩)
      | (go_at_call 30; refine (HH.out _ HP.out).mono ?_; rintro e w1 ⟨rfl, rfl⟩))
    refine bodyPost_ret (v := .tuple #[(A.wh (o / 8)).val, .int .i64 0]) (by simp [results, Try.results12, go_sem, C4.val]) rfl ⟨rfl, ?_⟩
    exact below1 w _
  · have h7' : (groupedB o q && (A.wh (o / 8)).k != 0) = false := by simpa using h7
    have HL := hide (loadM_at A o q h2 h3 h7')
    have HM := hide (made_yes b A _ h1)
    have HP := hide h1
    have HT := hide (told_any b o q A _ h1 (by omega))
    have HX := hide hx
    have HBW := hide hbw
    have HOK := hide hok
    clear h hx hbw h1 hok h2 h3 h7
    have hcase : groupedB o q = false ∨ (groupedB o q = true ∧ ((A.wh (o / 8)).k != 0) = false) := by
      cases hgr : groupedB o q with
      | false => exact .inl rfl
      | true => rw [hgr] at h7'; exact .inr ⟨rfl, by simpa using h7'⟩
    clear h7'
    rcases hcase with hgr | ⟨hgr, hkk⟩
    all_goals
      first | rw [hkk] at HH | skip
      rw [hgr] at HG
      go_enter Try.func12, Try.ntmps12
      go_wp2_with (first
        | (go_at_call 25; refine (HM.out).mono ?_; rintro e w1 ⟨rfl, rfl⟩)
        | (go_at_call 26; refine (HS.out _).mono ?_; rintro e w1 ⟨rfl, rfl⟩)
        | (go_at_call 27; refine (HPl.out _).mono ?_; rintro e w1 ⟨rfl, rfl⟩)
        | (go_at_call 28; refine (HG.out _).mono ?_; rintro e w1 ⟨rfl, rfl⟩)
        | (go_at_call 29; refine (HA.out _).mono ?_; rintro e w1 ⟨rfl, rfl⟩)
        | (go_at_call 30; refine (HH.out _ HP.out).mono ?_; rintro e w1 ⟨rfl, rfl⟩)
        | fail)
      refine HT.out.mono ?_
      rintro e w5 ⟨v, E, rfl, hv, hb⟩
      have hx5 := (hb.block _ (at_lt HX.out)).trans HX.out
      have HB5 := hide (HBW.out.trans (hb.mono HBW.out.size))
      have x0 := blk_cell hx5 0
      have x1 := blk_cell hx5 1
      have x2 := blk_cell hx5 2
      have x3 := blk_cell hx5 3
      have f0 := blk_free hx5 0
      have f1 := blk_free hx5 1
      have f2 := blk_free hx5 2
      have f3 := blk_free hx5 3
      simp at x0 x1 x2 x3
      have HX5 := hide hx5
      have hl5 := at_lt hx5
      rcases hv with ⟨l, g1, rfl, g3⟩ | ⟨g1, rfl, rfl⟩
      · rw [g1] at HL
        obtain ⟨S5, c5, rfl, hrd⟩ := owns_slice g3.1
        have hby : ∀ x ∈ l, 0 ≤ x ∧ x < 256 := fun x hx => by
          obtain ⟨i, hi⟩ := List.mem_iff_getElem?.1 hx
          obtain ⟨_, h2⟩ := (A.got_iff o q l).1 g1
          have hlt := (List.getElem?_eq_some_iff.1 hi).1
          have hlq := ((A.got_iff o q l).1 g1).1
          exact HOK.out.byte (o + i) x ((h2 i (by omega)).trans hi)
        have HW := hide (wordOf_any S5 q c5 _ l w5 hrd (by omega) hby)
        clear hb hx5 g1 g3 hrd hby
        go_wp2_with (first
          | (go_at_call 32; refine (HW.out).mono ?_; rintro e w6 ⟨rfl, rfl⟩)
          | fail)
        refine (word_any (wordM l) _).mono ?_
        rintro e w7 ⟨rfl, hb7⟩
        have hx7 := (hb7.block _ (at_lt HX5.out)).trans HX5.out
        have HB7 := hide (HB5.out.trans (hb7.mono HB5.out.size))
        have y0 := blk_cell hx7 0
        have y1 := blk_cell hx7 1
        have y2 := blk_cell hx7 2
        have y3 := blk_cell hx7 3
        have g0 := blk_free hx7 0
        have g1 := blk_free hx7 1
        have g2 := blk_free hx7 2
        have g3 := blk_free hx7 3
        simp at y0 y1 y2 y3
        have HX7 := hide hx7
        have hl7 := at_lt hx7
        clear hb7 hx7 x0 x1 x2 x3 f0 f1 f2 f3
        simp only [C4.val]
        go_wp2
        obtain ⟨s1, s2⟩ := store_4 HX7.out (.int .u8 1) (.int .u64 (wordM l)) (.int .i64 0) (.int .i64 0)
        have r0 := blk_cell s1 0
        have r1 := blk_cell s1 1
        have r2 := blk_cell s1 2
        have r3 := blk_cell s1 3
        simp at r0 r1 r2 r3
        rw [HL.out]
        refine bodyPost_ret (v := .tuple #[(wordC (wordM l)).val, .int .i64 0]) (by simp [results, Try.results12, go_sem, C4.val, wordC, r0, r1, r2, r3]) rfl ⟨rfl, ?_⟩
        exact HB7.out.grown s2 (by omega) (fun j e => by cases e; exact Nat.le_refl _)
      · rw [g1] at HL
        clear hb hx5 g1
        go_wp2
        obtain ⟨s1, s2⟩ := store_4 HX5.out (.int .u8 0) (.int .u64 0) (.int .i64 0) (.int .i64 0)
        have r0 := blk_cell s1 0
        have r1 := blk_cell s1 1
        have r2 := blk_cell s1 2
        have r3 := blk_cell s1 3
        simp at r0 r1 r2 r3
        rw [HL.out]
        refine bodyPost_ret (v := .tuple #[c0.val, .int .i64 30]) (by simp [results, Try.results12, go_sem, C4.val, c0, r0, r1, r2, r3]) rfl ⟨rfl, ?_⟩
        exact HB5.out.grown s2 (by omega) (fun j e => by cases e; exact Nat.le_refl _)
end Go.Proofs.Ytkpoilcbdcddcaa
