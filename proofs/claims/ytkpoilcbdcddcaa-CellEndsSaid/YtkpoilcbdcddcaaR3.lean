/-
  The document's stack by definition, in memory: Load.
-/
import Derived.Test.YtkpoilcbdcddcaaR2
import Derived.Test.YtkpoilcbdcddcaaLB
namespace Go.Proofs.Ytkpoilcbdcddcaa
open Go.RowKit
set_option linter.unusedVariables false
set_option linter.unusedSimpArgs false

theorem rword_step (l : List Int) (j : Nat) (x : Int) (hx : l[j]? = some x) (hby : ∀ x ∈ l, 0 ≤ x ∧ x < 256) (hl : l.length ≤ 8) : bits .or .u64 (IntKind.u64.wrap (wordM (l.drop (j + 1)) * 256)) (IntKind.u64.wrap x) = wordM (l.drop j) := by
  have hxb := hby x (List.mem_of_getElem? hx)
  have hj := (List.getElem?_eq_some_iff.1 hx).1
  rw [wordM_cons l j x hx]
  have hr := wordM_range (l.drop (j + 1)) (fun y hy => hby y (List.mem_of_mem_drop hy))
  obtain ⟨a, ha⟩ : ∃ a : Nat, wordM (l.drop (j + 1)) = a := ⟨(wordM (l.drop (j + 1))).toNat, by omega⟩
  obtain ⟨c, hc'⟩ : ∃ c : Nat, x = c := ⟨x.toNat, by omega⟩
  have hlen : (l.drop (j + 1)).length ≤ 7 := by rw [List.length_drop]; omega
  have hpow : (256 : Int) ^ (l.drop (j + 1)).length ≤ 72057594037927936 := by
    generalize (l.drop (j + 1)).length = n at hlen ⊢
    have hn : n = 0 ∨ n = 1 ∨ n = 2 ∨ n = 3 ∨ n = 4 ∨ n = 5 ∨ n = 6 ∨ n = 7 := by omega
    rcases hn with rfl | rfl | rfl | rfl | rfl | rfl | rfl | rfl <;> decide
  rw [ha] at hr ⊢
  rw [hc'] at hxb ⊢
  have hw := word_shift a c (by omega) (by omega)
  rw [show (2 : Int) ^ 8 = 256 from rfl] at hw
  rw [hw]
  omega
set_option maxRecDepth 8000 in
set_option maxHeartbeats 4000000 in
theorem rload_any (b : Nat) (A : AS) (off n : Int) (w : World) (h : RSt w b A) (hok : A.Ok) :
    Calls Try.prog 13 #[.pointer (some ⟨b, 0, none⟩), .int .i64 off, .int .i64 n] w fun e w' => e = .returned (.tuple #[(loadM A off n).1.val, .int .i64 (loadM A off n).2]) ∧ Below w.heap.size w w' := by
  have hbw := below1 w (.cells #[.int .u8 0, .int .u64 0, .int .i64 0, .int .i64 0] 33)
  have hx := World.alloc_heap_new w (.cells #[.int .u8 0, .int .u64 0, .int .i64 0, .int .i64 0] 33)
  have h1 := h.below hbw
  have hbl := h.lt
  have HS := hide (fun w => rsize_any n w)
  by_cases h2' : sizedB n = false
  · rw [show loadM A off n = (c0, 2) by simp [loadM, h2']]
    rw [h2'] at HS
    clear h h1 hx hbw
    go_enter Try.func13, Try.ntmps13
    go_wp2_with (go_at_call 33; refine (HS.out _).mono ?_; rintro e w1 ⟨rfl, rfl⟩)
    refine bodyPost_ret (v := .tuple #[c0.val, .int .i64 2]) (by simp [results, Try.results13, go_sem, C4.val, c0]) rfl ⟨rfl, ?_⟩
    exact below1 w _
  have h2 : sizedB n = true := by simpa using h2'
  have h6 := sized_of h2
  rw [h2] at HS
  have HPl := hide (fun w => there_any off n w (by omega) (by omega))
  by_cases h3' : placedB off n = false
  · rw [show loadM A off n = (c0, 32) by simp [loadM, h2, h3']]
    rw [h3'] at HPl
    clear h h1 hx hbw
    go_enter Try.func13, Try.ntmps13
    go_wp2_with (first
      | (go_at_call 33; refine (HS.out _).mono ?_; rintro e w1 ⟨rfl, rfl⟩)
      | (go_at_call 34; refine (HPl.out _).mono ?_; rintro e w1 ⟨rfl, rfl⟩))
    refine bodyPost_ret (v := .tuple #[c0.val, .int .i64 32]) (by simp [results, Try.results13, go_sem, C4.val, c0]) rfl ⟨rfl, ?_⟩
    exact below1 w _
  have h3 : placedB off n = true := by simpa using h3'
  rw [h3] at HPl
  obtain ⟨h4, h5⟩ := placed_of h3
  obtain ⟨o, rfl⟩ : ∃ o : Nat, off = o := ⟨off.toNat, by omega⟩
  obtain ⟨q, rfl⟩ : ∃ q : Nat, n = q := ⟨n.toNat, by omega⟩
  have HAll := hide (fun W h => all_any b A o q W h (by omega))
  have HP := hide h1
  obtain ⟨cs, hb, hs⟩ := h1
  have hol : o / 8 < 64 := by omega
  have d0 : (w.alloc (.cells #[.int .u8 0, .int .u64 0, .int .i64 0, .int .i64 0] 33)).cell? ⟨b, 1024 + o / 8 * 4, none⟩ = some (.int .u8 (A.wh (o / 8)).k) := by rw [PS.cell hb, Nat.mul_comm]; exact hs.k _ hol
  have d1 : (w.alloc (.cells #[.int .u8 0, .int .u64 0, .int .i64 0, .int .i64 0] 33)).cell? ⟨b, 1024 + o / 8 * 4 + 1, none⟩ = some (.int .u64 (A.wh (o / 8)).wd) := by rw [PS.cell hb, Nat.mul_comm]; exact hs.wd _ hol
  have d2 : (w.alloc (.cells #[.int .u8 0, .int .u64 0, .int .i64 0, .int .i64 0] 33)).cell? ⟨b, 1024 + o / 8 * 4 + 2, none⟩ = some (.int .i64 (A.wh (o / 8)).rg) := by rw [PS.cell hb, Nat.mul_comm]; exact hs.rg _ hol
  have d3 : (w.alloc (.cells #[.int .u8 0, .int .u64 0, .int .i64 0, .int .i64 0] 33)).cell? ⟨b, 1024 + o / 8 * 4 + 3, none⟩ = some (.int .i64 (A.wh (o / 8)).of) := by rw [PS.cell hb, Nat.mul_comm]; exact hs.of _ hol
  by_cases h7 : (groupedB o q && (A.wh (o / 8)).k != 0) = true
  · rw [loadM_whole A o q h2 h3 h7]
    rw [Bool.and_eq_true] at h7
    obtain ⟨h8, h9⟩ := h7
    unfold groupedB at h8
    simp only [Bool.and_eq_true] at h8
    obtain ⟨h10, h11⟩ := h8
    have h12 : (o : Int) % 8 = 0 := by simpa using h11
    clear h hx hb hs hbw h2 h3
    go_enter Try.func13, Try.ntmps13
    go_wp2_with (first
      | (go_at_call 33; refine (HS.out _).mono ?_; rintro e w1 ⟨rfl, rfl⟩)
      | (go_at_call 34; refine (HPl.out _).mono ?_; rintro e w1 ⟨rfl, rfl⟩)
      | fail)
    refine bodyPost_ret (v := .tuple #[(A.wh (o / 8)).val, .int .i64 0]) (by simp [results, Try.results13, go_sem, C4.val]) rfl ⟨rfl, ?_⟩
    exact below1 w _
  · have h7' : (groupedB o q && (A.wh (o / 8)).k != 0) = false := by simpa using h7
    have HL := hide (loadM_at A o q h2 h3 h7')
    have hcase : (((q : Int) == 8) = false) ∨ (((q : Int) == 8) = true ∧ ((o : Int) % 8 == 0) = false) ∨ (((q : Int) == 8) = true ∧ ((o : Int) % 8 == 0) = true ∧ ((A.wh (o / 8)).k != 0) = false) := by
      unfold groupedB at h7'
      cases e1 : ((q : Int) == 8) <;> cases e2 : ((o : Int) % 8 == 0) <;> cases e3 : ((A.wh (o / 8)).k != 0) <;> simp [e1, e2, e3] at h7' ⊢
    have HX := hide hx
    have HBW := hide hbw
    have HOK := hide hok
    clear h hx hbw hok h2 h3 h7 h7' hb hs
    rcases hcase with e1 | ⟨e1, e2⟩ | ⟨e1, e2, e3⟩
    all_goals
      go_enter Try.func13, Try.ntmps13
      go_upto_region 7 with (first
        | (go_at_call 33; refine (HS.out _).mono ?_; rintro e w1 ⟨rfl, rfl⟩)
        | (go_at_call 34; refine (HPl.out _).mono ?_; rintro e w1 ⟨rfl, rfl⟩)
        | fail)
      cases hg : A.got o q with
      | none =>
        rw [hg] at HAll HL
        go_wp2_with (go_at_call 35; refine (HAll.out _ HP.out).mono ?_; rintro e w1 ⟨rfl, rfl⟩)
        refine bodyPost_ret (v := .tuple #[c0.val, .int .i64 30]) (by simp [results, Try.results13, go_sem, C4.val, c0]) rfl ⟨?_, below1 w _⟩
        rw [HL.out]
        rfl
      | some l =>
        obtain ⟨hll, hat⟩ := (A.got_iff o q l).1 hg
        have hby : ∀ x ∈ l, 0 ≤ x ∧ x < 256 := fun x hx => by
          obtain ⟨i, hi⟩ := List.mem_iff_getElem?.1 hx
          have hlt := (List.getElem?_eq_some_iff.1 hi).1
          exact HOK.out.byte (o + i) x ((hat i (by omega)).trans hi)
        rw [hg] at HAll HL
        have HBy := hide hby
        have HAt := hide hat
        clear hby hat hg d0 d1 d2 d3
        go_upto_region 10 with (go_at_call 35; refine (HAll.out _ HP.out).mono ?_; rintro e w1 ⟨rfl, rfl⟩)
        obtain ⟨z6, z8⟩ := two_boxes w (.cells #[.int .u8 0, .int .u64 0, .int .i64 0, .int .i64 0] 33) (.cells #[.int .u8 1, .int .u64 0, .int .i64 0, .int .i64 0] 33)
        have hb2 := (HBW.out).trans ((below1 (w.alloc (.cells #[.int .u8 0, .int .u64 0, .int .i64 0, .int .i64 0] 33)) (.cells #[.int .u8 1, .int .u64 0, .int .i64 0, .int .i64 0] 33)).mono HBW.out.size)
        have hp2 := HP.out.below (below1 (w.alloc (.cells #[.int .u8 0, .int .u64 0, .int .i64 0, .int .i64 0] 33)) (.cells #[.int .u8 1, .int .u64 0, .int .i64 0, .int .i64 0] 33))
        generalize (w.alloc (.cells _ 33)).alloc (.cells _ 33) = w2 at z6 z8 hb2 hp2 ⊢
        have HB2 := hide hb2
        have HP2 := hide hp2
        have Z6 := hide z6
        have Z8 := hide z8
        clear z6 z8 hb2 hp2 HBW HP HX
        go_wp2_with fail
        go_loopw [9] (fun a wr => ∃ W : Int, ((a = .int .i64 (-1) ∧ W = wordM l) ∨ ∃ j : Nat, j < q ∧ a = .int .i64 j ∧ W = wordM (l.drop (j + 1))) ∧ wr.heap[w.heap.size + 1]? = some (.cells #[.int .u8 1, .int .u64 W, .int .i64 0, .int .i64 0] 33 (0, 0)) ∧ wr.heap[w.heap.size]? = some (.cells #[.int .u8 0, .int .u64 0, .int .i64 0, .int .i64 0] 33 (0, 0)) ∧ Below w.heap.size w wr ∧ RSt wr b A) (fun a _ => (intOf a + 1).toNat)
        case atStart => exact ⟨0, .inr ⟨q - 1, by omega, congrArg (Value.int .i64) (by omega), by rw [List.drop_eq_nil_of_le (by omega)]; rfl⟩, Z8.out, Z6.out, HB2.out, HP2.out⟩
        case round =>
          obtain ⟨W, hW, z8, z6, hb, hp⟩ := hrel
          have HBr := hide hb
          have HPr := hide hp
          have x0 := blk_cell z8 0
          have x1 := blk_cell z8 1
          have x2 := blk_cell z8 2
          have x3 := blk_cell z8 3
          have y0 := blk_cell z6 0
          have y1 := blk_cell z6 1
          have y2 := blk_cell z6 2
          have y3 := blk_cell z6 3
          simp at x0 x1 x2 x3 y0 y1 y2 y3
          have hl8 := at_lt z8
          have hl6 := at_lt z6
          have Z8r := hide z8
          have Z6r := hide z6
          rcases hW with ⟨rfl, hWe⟩ | ⟨j, hj, rfl, hWe⟩
          · have f0 := blk_free z6 0
            have f1 := blk_free z6 1
            have f2 := blk_free z6 2
            have f3 := blk_free z6 3
            have HWe := hide hWe
            clear hb hp z8 z6 hWe
            go_wp2
            obtain ⟨s1, s2⟩ := store_4 Z6r.out (.int .u8 1) (.int .u64 W) (.int .i64 0) (.int .i64 0)
            have r0 := blk_cell s1 0
            have r1 := blk_cell s1 1
            have r2 := blk_cell s1 2
            have r3 := blk_cell s1 3
            simp at r0 r1 r2 r3
            refine bodyPost_ret (v := .tuple #[(wordC W).val, .int .i64 0]) (by simp [results, Try.results13, go_sem, C4.val, wordC, r0, r1, r2, r3]) rfl ⟨?_, HBr.out.grown s2 HBr.out.size (fun j e => by cases e; exact Nat.le_refl _)⟩
            rw [HL.out, HWe.out]
            rfl
          · have g1 := blk_free z8 1
            obtain ⟨cs2, hc2, hs2⟩ := hp
            have hjx : l[j]? = some (l[j]'(by omega)) := List.getElem?_eq_getElem (by omega)
            obtain ⟨x, hxe⟩ : ∃ x, x = l[j]'(by omega) := ⟨_, rfl⟩
            rw [← hxe] at hjx
            have cx : wr.cell? ⟨b, o + j, none⟩ = some (.int .u8 x) := by
              rw [PS.cell hc2]
              obtain ⟨u, hu1, hu2⟩ := hs2.byte (o + j) (by omega)
              rw [hu1, hu2 x ((HAt.out j hj).trans hjx)]
            have hst := rword_step l j x hjx HBy.out (by omega)
            rw [← hWe] at hst
            have HST := hide hst
            clear hb z8 z6 hWe hc2 hs2 hxe hst
            go_upto_region 13 with fail
            go_region
            have z8' : (wr.setCell ⟨w.heap.size + 1, 1, none⟩ (.int .u64 (bits .or .u64 (IntKind.u64.wrap (W * 256)) (IntKind.u64.wrap x)))).drew.heap[w.heap.size + 1]? = some (.cells #[.int .u8 1, .int .u64 (wordM (l.drop j)), .int .i64 0, .int .i64 0] 33 (0, 0)) := by
              have := Joins.block_setCell (i := 1) Z8r.out (.int .u64 (bits .or .u64 (IntKind.u64.wrap (W * 256)) (IntKind.u64.wrap x)))
              rw [HST.out] at this ⊢
              exact this
            have hg8 : wr.grownBy (wr.setCell ⟨w.heap.size + 1, 1, none⟩ (.int .u64 (bits .or .u64 (IntKind.u64.wrap (W * 256)) (IntKind.u64.wrap x)))).drew (some (w.heap.size + 1)) := Turn.drew (Turn.set wr (w.heap.size + 1) 1 _)
            generalize (wr.setCell ⟨w.heap.size + 1, 1, none⟩ (.int .u64 (bits .or .u64 (IntKind.u64.wrap (W * 256)) (IntKind.u64.wrap x)))).drew = w5 at z8' hg8 ⊢
            have z6' := (hg8.block _ (at_lt Z6r.out) (fun e => by injection e; omega)).trans Z6r.out
            have HP5 := hide (HPr.out.same (hg8.block _ HPr.out.lt (fun e => by injection e; omega)))
            have HB5 := hide (HBr.out.grown hg8 HBr.out.size (fun k e => by injection e; omega))
            have Z85 := hide z8'
            have Z65 := hide z6'
            clear z8' z6' hg8 x0 x1 x2 x3 y0 y1 y2 y3 g1 cx
            go_wp2
            go_roundw
            case rel =>
              refine ⟨_, ?_, Z85.out, Z65.out, HB5.out, HP5.out⟩
              by_cases j0 : j = 0
              · subst j0
                exact .inl ⟨by simp, by rw [List.drop_zero]⟩
              · exact .inr ⟨j - 1, by omega, congrArg (Value.int .i64) (by omega), by rw [show j - 1 + 1 = j by omega]⟩
            case measure => simp [intOf]
end Go.Proofs.Ytkpoilcbdcddcaa
