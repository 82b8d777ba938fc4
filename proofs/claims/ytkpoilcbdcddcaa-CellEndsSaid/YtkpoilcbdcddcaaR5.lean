/-
  The document's stack by definition, in memory: Store.
-/
import Derived.Test.YtkpoilcbdcddcaaR4
namespace Go.Proofs.Ytkpoilcbdcddcaa
open Go.RowKit
set_option linter.unusedVariables false
set_option linter.unusedSimpArgs false

/-- A cell is put whole; then of its group's bytes the first i are unset. -/
def AS.hold1 (A : AS) (g : Nat) (c : C4) (i : Nat) : AS := ⟨fun m => if 8 * g ≤ m ∧ m < 8 * g + i then .none else A.pl m, fun h => if h = g then c else A.wh h⟩
theorem hold1_all (A : AS) (g : Nat) (c : C4) : A.hold1 g c 8 = A.hold g c := by
  refine AS.ext' (fun m => ?_) (fun _ => rfl)
  simp only [AS.hold1, AS.hold]
  by_cases h : m / 8 = g
  · rw [if_pos h, if_pos (by omega)]
  · rw [if_neg h, if_neg (by omega)]
theorem hold1_rsl {cs : List Value} {A : AS} (h : RSL cs A) {g : Nat} (hg : g < 64) (c : C4) : RSL (setsFrom cs (1024 + 4 * g) c.cs) (A.hold1 g c 0) := by
  have hl := h.len
  have hat := fun j => setsFrom_at c.cs cs (1024 + 4 * g) j (by rw [hl]; show 1024 + 4 * g + 4 ≤ 1280; omega)
  have h4 : c.cs.length = 4 := rfl
  rw [h4] at hat
  have hwh : ∀ g', (A.hold1 g c 0).wh g' = if g' = g then c else A.wh g' := fun _ => rfl
  have hpl : ∀ m, (A.hold1 g c 0).pl m = A.pl m := fun m => by simp only [AS.hold1]; rw [if_neg (by omega)]
  have hin : ∀ j, j < 4 → (setsFrom cs (1024 + 4 * g) c.cs)[1024 + 4 * g + j]? = c.cs[j]? := fun j hj => by
    rw [hat, if_pos (by omega), show 1024 + 4 * g + j - (1024 + 4 * g) = j by omega]
  refine ⟨by rw [setsFrom_length, hl], fun m hm => by rw [hat, if_neg (by omega), hpl]; exact h.byte m hm, fun m hm => by rw [hat, if_neg (by omega), hpl]; exact h.set m hm, fun g' hg' => ?_, fun g' hg' => ?_, fun g' hg' => ?_, fun g' hg' => ?_⟩
  all_goals
    rw [hwh]
    by_cases e : g' = g
    · subst e
      rw [if_pos rfl]
      first
        | exact hin 0 (by omega)
        | exact hin 1 (by omega)
        | exact hin 2 (by omega)
        | exact hin 3 (by omega)
    · rw [if_neg e, hat, if_neg (by omega)]
      first
        | exact h.k g' hg'
        | exact h.wd g' hg'
        | exact h.rg g' hg'
        | exact h.of g' hg'
theorem unset_rsl {cs : List Value} {A : AS} {g i : Nat} {c : C4} (h : RSL cs (A.hold1 g c i)) (hg : g < 64) (hi : i < 8) : RSL (cs.set (512 + (8 * g + i)) (.bool false)) (A.hold1 g c (i + 1)) := by
  have hl := h.len
  have hwh : ∀ g', (A.hold1 g c (i + 1)).wh g' = (A.hold1 g c i).wh g' := fun _ => rfl
  have hpl : ∀ m, (A.hold1 g c (i + 1)).pl m = if m = 8 * g + i then .none else (A.hold1 g c i).pl m := fun m => by
    simp only [AS.hold1]
    by_cases e : m = 8 * g + i
    · rw [if_pos e, if_pos (by omega)]
    · rw [if_neg e]
      by_cases e2 : 8 * g ≤ m ∧ m < 8 * g + i
      · rw [if_pos e2, if_pos (by omega)]
      · rw [if_neg e2, if_neg (by omega)]
  refine ⟨by simp [hl], fun m hm => ?_, fun m hm => ?_, fun g' hg' => ?_, fun g' hg' => ?_, fun g' hg' => ?_, fun g' hg' => ?_⟩
  · rw [List.getElem?_set_ne (by omega)]
    obtain ⟨x, h1, h2⟩ := h.byte m hm
    refine ⟨x, h1, fun y hy => h2 y ?_⟩
    rw [hpl] at hy
    by_cases e : m = 8 * g + i
    · rw [if_pos e] at hy; cases hy
    · rw [if_neg e] at hy; exact hy
  · rw [hpl]
    by_cases e : m = 8 * g + i
    · subst e
      rw [List.getElem?_set_self (by omega), if_pos rfl]
      rfl
    · rw [List.getElem?_set_ne (by omega), if_neg e]
      exact h.set m hm
  · rw [List.getElem?_set_ne (by omega), hwh]; exact h.k g' hg'
  · rw [List.getElem?_set_ne (by omega), hwh]; exact h.wd g' hg'
  · rw [List.getElem?_set_ne (by omega), hwh]; exact h.rg g' hg'
  · rw [List.getElem?_set_ne (by omega), hwh]; exact h.of g' hg'
theorem bytesM_snoc (n : Nat) (w : Int) : bytesM (n + 1) w = bytesM n w ++ [w / 256 ^ n % 256] := by
  refine List.ext_getElem? (fun i => ?_)
  by_cases h : i < n
  · rw [bytesM_at (n + 1) w i (by omega), List.getElem?_append_left (by rw [bytesM_length]; exact h), bytesM_at n w i h]
  · by_cases h2 : i = n
    · subst h2
      rw [bytesM_at (i + 1) w i (by omega), List.getElem?_append_right (by rw [bytesM_length]; omega), bytesM_length, Nat.sub_self]
      rfl
    · rw [List.getElem?_eq_none (by rw [bytesM_length]; omega), List.getElem?_eq_none (by rw [List.length_append, bytesM_length]; simp; omega)]
theorem one_byte (w : World) (x : Int) : Rd (w.alloc (.cells #[.int .u8 x] 5)) (w.heap.size + 1) 1 (some ⟨w.heap.size, 0, none⟩) 1 [.int .u8 x] := by
  refine ⟨rfl, fun _ => ⟨_, rfl, Nat.lt_succ_self _, fun j u hu => ?_⟩⟩
  have hj : j = 0 := by
    have := (List.getElem?_eq_some_iff.1 hu).1
    simpa using this
  subst hj
  rw [base_add, blk_cell (World.alloc_heap_new w (.cells #[.int .u8 x] 5)) 0]
  exact hu
set_option maxRecDepth 100000 in
set_option maxHeartbeats 8000000 in
theorem rstore_word (b : Nat) (A : AS) (off n : Int) (c : C4) (w : World) (h : RSt w b A) (hok : A.Ok) (hwd : 0 ≤ c.wd ∧ c.wd < 18446744073709551616) (hnw : ¬ (wholeB c = true ∧ groupedB off n = true ∧ (storeM A off n c).1 = 0)) :
    Calls Try.prog 23 #[.pointer (some ⟨b, 0, none⟩), .int .i64 off, .int .i64 n, c.val] w fun e w' => e = .returned (.int .i64 (storeM A off n c).1) ∧ RSt w' b (storeM A off n c).2 ∧ Turn b w w' := by
  have HR := hide (fun W => rright_any c W)
  obtain ⟨k, wd, rg, of⟩ := c
  have hbw := below1 w (.cells #[.int .u8 k, .int .u64 wd, .int .i64 rg, .int .i64 of] 33)
  have hx := World.alloc_heap_new w (.cells #[.int .u8 k, .int .u64 wd, .int .i64 rg, .int .i64 of] 33)
  have h1 := h.below hbw
  have hbl := h.lt
  have HS := hide (fun w => rsize_any n w)
  simp only [C4.val] at HR ⊢
  by_cases h2' : sizedB n = false
  · rw [show storeM A off n ⟨k, wd, rg, of⟩ = (2, A) by simp [storeM, h2']]
    rw [h2'] at HS
    have H1 := hide h1
    have HB := hide hbw
    clear h h1 hbw
    go_enter Try.func23, Try.ntmps23
    go_wp2_with (first
      | (go_at_call 33; refine (HS.out _).mono ?_; rintro e w1 ⟨rfl, rfl⟩))
    go_ret
    exact ⟨rfl, H1.out, Turn.of_below HB.out⟩
  have h2 : sizedB n = true := by simpa using h2'
  have h6 := sized_of h2
  rw [h2] at HS
  obtain ⟨R, hR⟩ : ∃ R, R = storeM A off n ⟨k, wd, rg, of⟩ := ⟨_, rfl⟩
  rw [← hR]
  have HRR := hide hR
  clear hR
  go_enter Try.func23, Try.ntmps23
  go_upto_region 1 with fail
  generalize w.alloc (.cells _ 33) = w1 at hbw hx h1 ⊢
  have HX := hide hx
  have HBw := hide hbw
  have HP := hide h1
  have x0 := blk_cell hx 0
  have x1 := blk_cell hx 1
  have x2 := blk_cell hx 2
  have x3 := blk_cell hx 3
  simp at x0 x1 x2 x3
  have hl1 := at_lt hx
  clear h hbw hx h1
  cases h3 : rightB ⟨k, wd, rg, of⟩ with
  | false =>
    have hRe : Hid (R = (2, A)) := hide (by rw [HRR.out]; simp [storeM, h2, h3])
    rw [h3] at HR
    go_wp2_with (first
      | (go_at_call 33; refine (HS.out _).mono ?_; rintro e w2 ⟨rfl, rfl⟩)
      | (go_at_call 41; refine (HR.out _).mono ?_; rintro e w2 ⟨rfl, hb⟩; have HB2 := hide (HBw.out.trans (hb.mono HBw.out.size)); have HP2 := hide (HP.out.below hb); clear hb))
    go_ret
    rw [hRe.out]
    exact ⟨rfl, HP2.out, Turn.of_below HB2.out⟩
  | true =>
  rw [h3] at HR
  go_upto_region 3 with (first
      | (go_at_call 33; refine (HS.out _).mono ?_; rintro e w2 ⟨rfl, rfl⟩)
      | (go_at_call 41; refine (HR.out _).mono ?_; rintro e w2 ⟨rfl, hb⟩; have HB2 := hide (HBw.out.trans (hb.mono HBw.out.size)); have HP2 := hide (HP.out.below hb); have hx2 := (hb.block _ (at_lt HX.out)).trans HX.out; clear hb))
  have HX2 := hide hx2
  clear x0 x1 x2 x3
  have x0 := blk_cell hx2 0
  have x1 := blk_cell hx2 1
  have x2 := blk_cell hx2 2
  have x3 := blk_cell hx2 3
  simp at x0 x1 x2 x3
  have hl2 := at_lt hx2
  clear hx2 HX HBw HP hl1
  have HPl := hide (fun w => there_any off n w (by omega) (by omega))
  by_cases h4' : placedB off n = false
  · have hRe : Hid (R = (32, A)) := hide (by rw [HRR.out]; simp [storeM, h2, h3, h4'])
    rw [h4'] at HPl
    go_wp2_with (go_at_call 34; refine (HPl.out _).mono ?_; rintro e w3 ⟨rfl, rfl⟩)
    go_ret
    rw [hRe.out]
    exact ⟨rfl, HP2.out, Turn.of_below HB2.out⟩
  have h4 : placedB off n = true := by simpa using h4'
  rw [h4] at HPl
  obtain ⟨h5, h7⟩ := placed_of h4
  by_cases hk0 : k = 0
  · subst hk0
    have hRe : Hid (R = (30, A)) := hide (by rw [HRR.out]; simp [storeM, h2, h3, h4])
    go_wp2_with (go_at_call 34; refine (HPl.out _).mono ?_; rintro e w3 ⟨rfl, rfl⟩)
    go_ret
    rw [hRe.out]
    exact ⟨rfl, HP2.out, Turn.of_below HB2.out⟩
  obtain ⟨o, rfl⟩ : ∃ o : Nat, off = o := ⟨off.toNat, by omega⟩
  obtain ⟨q, rfl⟩ : ∃ q : Nat, n = q := ⟨n.toNat, by omega⟩
  have e0 : (k == 0) = false := by simpa using hk0
  by_cases hk1 : k = 1
  · subst hk1
    have hRe : Hid (R = (0, A.put o (bytesM q wd))) := hide (by rw [HRR.out]; simp [storeM, h2, h3, h4, wholeB])
    go_upto_region 10 with (go_at_call 34; refine (HPl.out _).mono ?_; rintro e w3 ⟨rfl, rfl⟩)
    go_wp2_with fail
    have hown : w2.ownsRow 0 5 1 (.slice none 0 0) 0 [] := owns_nil w2 5 1
    have HOwn := hide hown
    clear hown x0 x1 x2 x3
    go_loopw [9, 10] (fun v a wr => ∃ i : Nat, i ≤ q ∧ a = .int .i64 i ∧ wr.ownsRow 0 5 1 v i (u8s (bytesM i wd)) ∧ (∀ g, v.ownBlock = some g → w.heap.size < g) ∧ Below w.heap.size w wr ∧ RSt wr b A ∧ wr.heap[w.heap.size]? = some (.cells #[.int .u8 1, .int .u64 wd, .int .i64 rg, .int .i64 of] 33 (0, 0))) (fun _ a _ => q - (intOf a).toNat)
    case atStart => exact ⟨0, Nat.zero_le _, rfl, HOwn.out, (fun g hg => nomatch hg), HB2.out, HP2.out, HX2.out⟩
    case round =>
      obtain ⟨i, hi, rfl, ho, hg, hb, hp, hx⟩ := hrel
      have HOw := hide ho
      have HG := hide hg
      have HB := hide hb
      have HPr := hide hp
      have HXr := hide hx
      have x0 := blk_cell hx 0
      have x1 := blk_cell hx 1
      have x2 := blk_cell hx 2
      have x3 := blk_cell hx 3
      simp at x0 x1 x2 x3
      have hlr := at_lt hx
      clear ho hg hb hp hx
      obtain ⟨i0, hi0, hz0, hz1, hz2⟩ := info_parts u8info
      by_cases hiq : i < q
      · have hi8 : i = 0 ∨ i = 1 ∨ i = 2 ∨ i = 3 ∨ i = 4 ∨ i = 5 ∨ i = 6 ∨ i = 7 := by omega
        rcases hi8 with rfl | rfl | rfl | rfl | rfl | rfl | rfl | rfl
        · simp only [Int.cast_ofNat_Int]
          have e1 : decide (0 < (q : Int)) = true := decide_eq_true (by omega)
          have hbs : u8s (bytesM 0 wd) ++ [.int .u8 (wd % 256)] = u8s (bytesM (0 + 1) wd) := by
            rw [bytesM_snoc 0 wd]
            simp only [u8s, List.map_append, List.map_cons, List.map_nil]
            rw [show wd / 256 ^ 0 % 256 = wd % 256 by simp]
          have HBS := hide hbs
          clear hbs
          go_upto_region 13 with fail
          go_wp2_with (first | (at_builtin; refine stop_here ?_) | fail)
          show Hid _
          refine start_here ?_
          refine wpList_append_rd_w _ ?c0 (.tmp 35) (.tmp 43) 37 rfl 5 i0 _ 1 1 Try.underlying37 hi0 hz0 hz1 hz2 rfl (by decide) _ 0 (u8s (bytesM 0 wd)) rfl (World.ownsRow.alloc HOw.out _) (wr.heap.size + 1) (some ⟨wr.heap.size, 0, none⟩) 1 1 [.int .u8 (wd % 256)] rfl (one_byte wr _) (fun h => nomatch h) (by simp [Value.oneCell']) (by simp only [maxLen]; omega) (by omega) ?_
          case c0 => rfl
          intro v' w3 hl3
          rw [HBS.out] at hl3
          have HL3 := hide hl3
          have hold : ∀ j, j ≤ w.heap.size → w3.heap[j]? = wr.heap[j]? := fun j hj => (hl3.2.1.block j (by simp; omega) (fun e => by have := HG.out j e.symm; omega)).trans (Below.heap_alloc wr _ j (by omega))
          have HOld := hide hold
          clear hl3 hold x0 x1 x2 x3
          go_wp2
          go_roundw
          case rel => exact ⟨0 + 1, by omega, by go_num, HL3.out.1, (fun g hg => by
            rcases HL3.out.2.2 with h | h
            · exact HG.out g (h ▸ hg)
            · rw [h] at hg; cases hg; simp; omega), (HB.out.alloc HB.out.size _).grown HL3.out.2.1 (by simp; have := HB.out.size; omega) (fun j e => Nat.le_of_lt (HG.out j e)), HPr.out.same (HOld.out b (by omega)), (HOld.out _ (Nat.le_refl _)).trans HXr.out⟩
          case measure => simp [intOf]; omega
        · simp only [Int.cast_ofNat_Int]
          skip
          have hbs : u8s (bytesM 1 wd) ++ [.int .u8 (wd / 256 % 256)] = u8s (bytesM (1 + 1) wd) := by
            rw [bytesM_snoc 1 wd]
            simp only [u8s, List.map_append, List.map_cons, List.map_nil]
            rw [show wd / 256 ^ 1 % 256 = wd / 256 % 256 by omega]
          have HBS := hide hbs
          clear hbs
          go_upto_region 13 with fail
          go_wp2_with (first | (at_builtin; refine stop_here ?_) | fail)
          show Hid _
          refine start_here ?_
          refine wpList_append_rd_w _ ?c0 (.tmp 35) (.tmp 43) 37 rfl 5 i0 _ 1 1 Try.underlying37 hi0 hz0 hz1 hz2 rfl (by decide) _ 1 (u8s (bytesM 1 wd)) rfl (World.ownsRow.alloc HOw.out _) (wr.heap.size + 1) (some ⟨wr.heap.size, 0, none⟩) 1 1 [.int .u8 (wd / 256 % 256)] rfl (one_byte wr _) (fun h => nomatch h) (by simp [Value.oneCell']) (by simp only [maxLen]; omega) (by omega) ?_
          case c0 => rfl
          intro v' w3 hl3
          rw [HBS.out] at hl3
          have HL3 := hide hl3
          have hold : ∀ j, j ≤ w.heap.size → w3.heap[j]? = wr.heap[j]? := fun j hj => (hl3.2.1.block j (by simp; omega) (fun e => by have := HG.out j e.symm; omega)).trans (Below.heap_alloc wr _ j (by omega))
          have HOld := hide hold
          clear hl3 hold x0 x1 x2 x3
          go_wp2
          go_roundw
          case rel => exact ⟨1 + 1, by omega, by go_num, HL3.out.1, (fun g hg => by
            rcases HL3.out.2.2 with h | h
            · exact HG.out g (h ▸ hg)
            · rw [h] at hg; cases hg; simp; omega), (HB.out.alloc HB.out.size _).grown HL3.out.2.1 (by simp; have := HB.out.size; omega) (fun j e => Nat.le_of_lt (HG.out j e)), HPr.out.same (HOld.out b (by omega)), (HOld.out _ (Nat.le_refl _)).trans HXr.out⟩
          case measure => simp [intOf]; omega
        · simp only [Int.cast_ofNat_Int]
          skip
          have hbs : u8s (bytesM 2 wd) ++ [.int .u8 (wd / 65536 % 256)] = u8s (bytesM (2 + 1) wd) := by
            rw [bytesM_snoc 2 wd]
            simp only [u8s, List.map_append, List.map_cons, List.map_nil]
            rw [show wd / 256 ^ 2 % 256 = wd / 65536 % 256 by omega]
          have HBS := hide hbs
          clear hbs
          go_upto_region 13 with fail
          go_wp2_with (first | (at_builtin; refine stop_here ?_) | fail)
          show Hid _
          refine start_here ?_
          refine wpList_append_rd_w _ ?c0 (.tmp 35) (.tmp 43) 37 rfl 5 i0 _ 1 1 Try.underlying37 hi0 hz0 hz1 hz2 rfl (by decide) _ 2 (u8s (bytesM 2 wd)) rfl (World.ownsRow.alloc HOw.out _) (wr.heap.size + 1) (some ⟨wr.heap.size, 0, none⟩) 1 1 [.int .u8 (wd / 65536 % 256)] rfl (one_byte wr _) (fun h => nomatch h) (by simp [Value.oneCell']) (by simp only [maxLen]; omega) (by omega) ?_
          case c0 => rfl
          intro v' w3 hl3
          rw [HBS.out] at hl3
          have HL3 := hide hl3
          have hold : ∀ j, j ≤ w.heap.size → w3.heap[j]? = wr.heap[j]? := fun j hj => (hl3.2.1.block j (by simp; omega) (fun e => by have := HG.out j e.symm; omega)).trans (Below.heap_alloc wr _ j (by omega))
          have HOld := hide hold
          clear hl3 hold x0 x1 x2 x3
          go_wp2
          go_roundw
          case rel => exact ⟨2 + 1, by omega, by go_num, HL3.out.1, (fun g hg => by
            rcases HL3.out.2.2 with h | h
            · exact HG.out g (h ▸ hg)
            · rw [h] at hg; cases hg; simp; omega), (HB.out.alloc HB.out.size _).grown HL3.out.2.1 (by simp; have := HB.out.size; omega) (fun j e => Nat.le_of_lt (HG.out j e)), HPr.out.same (HOld.out b (by omega)), (HOld.out _ (Nat.le_refl _)).trans HXr.out⟩
          case measure => simp [intOf]; omega
        · simp only [Int.cast_ofNat_Int]
          skip
          have hbs : u8s (bytesM 3 wd) ++ [.int .u8 (wd / 16777216 % 256)] = u8s (bytesM (3 + 1) wd) := by
            rw [bytesM_snoc 3 wd]
            simp only [u8s, List.map_append, List.map_cons, List.map_nil]
            rw [show wd / 256 ^ 3 % 256 = wd / 16777216 % 256 by omega]
          have HBS := hide hbs
          clear hbs
          go_upto_region 13 with fail
          go_wp2_with (first | (at_builtin; refine stop_here ?_) | fail)
          show Hid _
          refine start_here ?_
          refine wpList_append_rd_w _ ?c0 (.tmp 35) (.tmp 43) 37 rfl 5 i0 _ 1 1 Try.underlying37 hi0 hz0 hz1 hz2 rfl (by decide) _ 3 (u8s (bytesM 3 wd)) rfl (World.ownsRow.alloc HOw.out _) (wr.heap.size + 1) (some ⟨wr.heap.size, 0, none⟩) 1 1 [.int .u8 (wd / 16777216 % 256)] rfl (one_byte wr _) (fun h => nomatch h) (by simp [Value.oneCell']) (by simp only [maxLen]; omega) (by omega) ?_
          case c0 => rfl
          intro v' w3 hl3
          rw [HBS.out] at hl3
          have HL3 := hide hl3
          have hold : ∀ j, j ≤ w.heap.size → w3.heap[j]? = wr.heap[j]? := fun j hj => (hl3.2.1.block j (by simp; omega) (fun e => by have := HG.out j e.symm; omega)).trans (Below.heap_alloc wr _ j (by omega))
          have HOld := hide hold
          clear hl3 hold x0 x1 x2 x3
          go_wp2
          go_roundw
          case rel => exact ⟨3 + 1, by omega, by go_num, HL3.out.1, (fun g hg => by
            rcases HL3.out.2.2 with h | h
            · exact HG.out g (h ▸ hg)
            · rw [h] at hg; cases hg; simp; omega), (HB.out.alloc HB.out.size _).grown HL3.out.2.1 (by simp; have := HB.out.size; omega) (fun j e => Nat.le_of_lt (HG.out j e)), HPr.out.same (HOld.out b (by omega)), (HOld.out _ (Nat.le_refl _)).trans HXr.out⟩
          case measure => simp [intOf]; omega
        · simp only [Int.cast_ofNat_Int]
          skip
          have hbs : u8s (bytesM 4 wd) ++ [.int .u8 (wd / 4294967296 % 256)] = u8s (bytesM (4 + 1) wd) := by
            rw [bytesM_snoc 4 wd]
            simp only [u8s, List.map_append, List.map_cons, List.map_nil]
            rw [show wd / 256 ^ 4 % 256 = wd / 4294967296 % 256 by omega]
          have HBS := hide hbs
          clear hbs
          go_upto_region 13 with fail
          go_wp2_with (first | (at_builtin; refine stop_here ?_) | fail)
          show Hid _
          refine start_here ?_
          refine wpList_append_rd_w _ ?c0 (.tmp 35) (.tmp 43) 37 rfl 5 i0 _ 1 1 Try.underlying37 hi0 hz0 hz1 hz2 rfl (by decide) _ 4 (u8s (bytesM 4 wd)) rfl (World.ownsRow.alloc HOw.out _) (wr.heap.size + 1) (some ⟨wr.heap.size, 0, none⟩) 1 1 [.int .u8 (wd / 4294967296 % 256)] rfl (one_byte wr _) (fun h => nomatch h) (by simp [Value.oneCell']) (by simp only [maxLen]; omega) (by omega) ?_
          case c0 => rfl
          intro v' w3 hl3
          rw [HBS.out] at hl3
          have HL3 := hide hl3
          have hold : ∀ j, j ≤ w.heap.size → w3.heap[j]? = wr.heap[j]? := fun j hj => (hl3.2.1.block j (by simp; omega) (fun e => by have := HG.out j e.symm; omega)).trans (Below.heap_alloc wr _ j (by omega))
          have HOld := hide hold
          clear hl3 hold x0 x1 x2 x3
          go_wp2
          go_roundw
          case rel => exact ⟨4 + 1, by omega, by go_num, HL3.out.1, (fun g hg => by
            rcases HL3.out.2.2 with h | h
            · exact HG.out g (h ▸ hg)
            · rw [h] at hg; cases hg; simp; omega), (HB.out.alloc HB.out.size _).grown HL3.out.2.1 (by simp; have := HB.out.size; omega) (fun j e => Nat.le_of_lt (HG.out j e)), HPr.out.same (HOld.out b (by omega)), (HOld.out _ (Nat.le_refl _)).trans HXr.out⟩
          case measure => simp [intOf]; omega
        · simp only [Int.cast_ofNat_Int]
          skip
          have hbs : u8s (bytesM 5 wd) ++ [.int .u8 (wd / 1099511627776 % 256)] = u8s (bytesM (5 + 1) wd) := by
            rw [bytesM_snoc 5 wd]
            simp only [u8s, List.map_append, List.map_cons, List.map_nil]
            rw [show wd / 256 ^ 5 % 256 = wd / 1099511627776 % 256 by omega]
          have HBS := hide hbs
          clear hbs
          go_upto_region 13 with fail
          go_wp2_with (first | (at_builtin; refine stop_here ?_) | fail)
          show Hid _
          refine start_here ?_
          refine wpList_append_rd_w _ ?c0 (.tmp 35) (.tmp 43) 37 rfl 5 i0 _ 1 1 Try.underlying37 hi0 hz0 hz1 hz2 rfl (by decide) _ 5 (u8s (bytesM 5 wd)) rfl (World.ownsRow.alloc HOw.out _) (wr.heap.size + 1) (some ⟨wr.heap.size, 0, none⟩) 1 1 [.int .u8 (wd / 1099511627776 % 256)] rfl (one_byte wr _) (fun h => nomatch h) (by simp [Value.oneCell']) (by simp only [maxLen]; omega) (by omega) ?_
          case c0 => rfl
          intro v' w3 hl3
          rw [HBS.out] at hl3
          have HL3 := hide hl3
          have hold : ∀ j, j ≤ w.heap.size → w3.heap[j]? = wr.heap[j]? := fun j hj => (hl3.2.1.block j (by simp; omega) (fun e => by have := HG.out j e.symm; omega)).trans (Below.heap_alloc wr _ j (by omega))
          have HOld := hide hold
          clear hl3 hold x0 x1 x2 x3
          go_wp2
          go_roundw
          case rel => exact ⟨5 + 1, by omega, by go_num, HL3.out.1, (fun g hg => by
            rcases HL3.out.2.2 with h | h
            · exact HG.out g (h ▸ hg)
            · rw [h] at hg; cases hg; simp; omega), (HB.out.alloc HB.out.size _).grown HL3.out.2.1 (by simp; have := HB.out.size; omega) (fun j e => Nat.le_of_lt (HG.out j e)), HPr.out.same (HOld.out b (by omega)), (HOld.out _ (Nat.le_refl _)).trans HXr.out⟩
          case measure => simp [intOf]; omega
        · simp only [Int.cast_ofNat_Int]
          skip
          have hbs : u8s (bytesM 6 wd) ++ [.int .u8 (wd / 281474976710656 % 256)] = u8s (bytesM (6 + 1) wd) := by
            rw [bytesM_snoc 6 wd]
            simp only [u8s, List.map_append, List.map_cons, List.map_nil]
            rw [show wd / 256 ^ 6 % 256 = wd / 281474976710656 % 256 by omega]
          have HBS := hide hbs
          clear hbs
          go_upto_region 13 with fail
          go_wp2_with (first | (at_builtin; refine stop_here ?_) | fail)
          show Hid _
          refine start_here ?_
          refine wpList_append_rd_w _ ?c0 (.tmp 35) (.tmp 43) 37 rfl 5 i0 _ 1 1 Try.underlying37 hi0 hz0 hz1 hz2 rfl (by decide) _ 6 (u8s (bytesM 6 wd)) rfl (World.ownsRow.alloc HOw.out _) (wr.heap.size + 1) (some ⟨wr.heap.size, 0, none⟩) 1 1 [.int .u8 (wd / 281474976710656 % 256)] rfl (one_byte wr _) (fun h => nomatch h) (by simp [Value.oneCell']) (by simp only [maxLen]; omega) (by omega) ?_
          case c0 => rfl
          intro v' w3 hl3
          rw [HBS.out] at hl3
          have HL3 := hide hl3
          have hold : ∀ j, j ≤ w.heap.size → w3.heap[j]? = wr.heap[j]? := fun j hj => (hl3.2.1.block j (by simp; omega) (fun e => by have := HG.out j e.symm; omega)).trans (Below.heap_alloc wr _ j (by omega))
          have HOld := hide hold
          clear hl3 hold x0 x1 x2 x3
          go_wp2
          go_roundw
          case rel => exact ⟨6 + 1, by omega, by go_num, HL3.out.1, (fun g hg => by
            rcases HL3.out.2.2 with h | h
            · exact HG.out g (h ▸ hg)
            · rw [h] at hg; cases hg; simp; omega), (HB.out.alloc HB.out.size _).grown HL3.out.2.1 (by simp; have := HB.out.size; omega) (fun j e => Nat.le_of_lt (HG.out j e)), HPr.out.same (HOld.out b (by omega)), (HOld.out _ (Nat.le_refl _)).trans HXr.out⟩
          case measure => simp [intOf]; omega
        · simp only [Int.cast_ofNat_Int]
          skip
          have hbs : u8s (bytesM 7 wd) ++ [.int .u8 (wd / 72057594037927936)] = u8s (bytesM (7 + 1) wd) := by
            rw [bytesM_snoc 7 wd]
            simp only [u8s, List.map_append, List.map_cons, List.map_nil]
            rw [show wd / 256 ^ 7 % 256 = wd / 72057594037927936 by omega]
          have HBS := hide hbs
          clear hbs
          go_upto_region 13 with fail
          go_wp2_with (first | (at_builtin; refine stop_here ?_) | fail)
          show Hid _
          refine start_here ?_
          refine wpList_append_rd_w _ ?c0 (.tmp 35) (.tmp 43) 37 rfl 5 i0 _ 1 1 Try.underlying37 hi0 hz0 hz1 hz2 rfl (by decide) _ 7 (u8s (bytesM 7 wd)) rfl (World.ownsRow.alloc HOw.out _) (wr.heap.size + 1) (some ⟨wr.heap.size, 0, none⟩) 1 1 [.int .u8 (wd / 72057594037927936)] rfl (one_byte wr _) (fun h => nomatch h) (by simp [Value.oneCell']) (by simp only [maxLen]; omega) (by omega) ?_
          case c0 => rfl
          intro v' w3 hl3
          rw [HBS.out] at hl3
          have HL3 := hide hl3
          have hold : ∀ j, j ≤ w.heap.size → w3.heap[j]? = wr.heap[j]? := fun j hj => (hl3.2.1.block j (by simp; omega) (fun e => by have := HG.out j e.symm; omega)).trans (Below.heap_alloc wr _ j (by omega))
          have HOld := hide hold
          clear hl3 hold x0 x1 x2 x3
          go_wp2
          go_roundw
          case rel => exact ⟨7 + 1, by omega, by go_num, HL3.out.1, (fun g hg => by
            rcases HL3.out.2.2 with h | h
            · exact HG.out g (h ▸ hg)
            · rw [h] at hg; cases hg; simp; omega), (HB.out.alloc HB.out.size _).grown HL3.out.2.1 (by simp; have := HB.out.size; omega) (fun j e => Nat.le_of_lt (HG.out j e)), HPr.out.same (HOld.out b (by omega)), (HOld.out _ (Nat.le_refl _)).trans HXr.out⟩
          case measure => simp [intOf]; omega
      · have hie : i = q := by omega
        subst hie
        have hsrc : ∃ S c, u9 = .slice S i c ∧ Src wr b S i (bytesM i wd) := by
          rcases HOw.out.2 with ⟨_, h0⟩ | ⟨g, cap, cur, rfl, _, hgh, _⟩
          · omega
          · obtain ⟨S, c, e, hrd⟩ := owns_slice HOw.out
            cases e
            obtain ⟨ad, ea, hadb, hcell⟩ := hrd.2 (by omega)
            cases ea
            have := HG.out g rfl
            exact ⟨_, _, rfl, bytesM_length _ _, fun _ => ⟨_, rfl, by show g ≠ b; omega, hadb, hcell⟩⟩
        obtain ⟨S, cap, rfl, hsrc⟩ := hsrc
        have HPut := hide (rput_any b A o S i cap (bytesM i wd) wr HPr.out hok (bytesM_byte i wd) hsrc (by omega))
        clear hsrc x0 x1 x2 x3
        go_wp2_with (go_at_call 38; refine (HPut.out).mono ?_; rintro e w5 ⟨rfl, hr, ht⟩; have HR5 := hide hr; have HT5 := hide ht; clear hr ht)
        go_ret
        rw [hRe.out]
        exact ⟨rfl, HR5.out, (Turn.of_below HB.out).trans HT5.out⟩
  · have hkk : k = 2 ∨ k = 3 := by
      have : k = 0 ∨ k = 1 ∨ k = 2 ∨ k = 3 := right_kind h3
      omega
    have hwh : wholeB ⟨k, wd, rg, of⟩ = true := by
      unfold wholeB
      rcases hkk with rfl | rfl <;> rfl
    have e1 : (k == 1) = false := by simpa using hk1
    by_cases hgr : groupedB o q = false
    · have hRe : Hid (R = (38, A)) := hide (by rw [HRR.out]; simp [storeM, h2, h3, h4, hk0, hwh, hgr])
      have hcase : ((q : Int) == 8) = false ∨ (((q : Int) == 8) = true ∧ ((o : Int) % 8 != 0) = true) := by
        unfold groupedB at hgr
        cases g1 : ((q : Int) == 8)
        · exact .inl rfl
        · rw [g1, Bool.true_and] at hgr
          exact .inr ⟨rfl, by rw [bne, hgr]; rfl⟩
      rcases hcase with g1 | ⟨g1, g2⟩
      all_goals
        go_wp2_with (go_at_call 34; refine (HPl.out _).mono ?_; rintro e w3 ⟨rfl, rfl⟩)
        all_goals
          go_ret
          rw [hRe.out]
          exact ⟨rfl, HP2.out, Turn.of_below HB2.out⟩
    have hgr2 : groupedB o q = true := by simpa using hgr
    exact absurd ⟨hwh, hgr2, by simp [storeM, h2, h3, h4, hk0, hwh, hgr2]⟩ hnw
end Go.Proofs.Ytkpoilcbdcddcaa
