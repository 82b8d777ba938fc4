/-
  RingNumbers' walk.
-/
import Derived.Test.YtdbflopfcnkjbaaGreatJN0
import Derived.Lib.SmallJoins
namespace Go.Proofs.YtdbflopfcnkjbaaGreat
open Go.RowKit
set_option linter.unusedVariables false
set_option linter.unusedSimpArgs false

theorem third (k : Nat) (h : k < 30) : ∃ kk : Nat, kk < 10 ∧ (k : Int).tdiv 3 = (kk : Int) ∧ IntKind.i64.wrap (kk : Int) = (kk : Int) ∧ IntKind.u8.wrap (kk : Int) = (kk : Int) := by
  refine ⟨k / 3, by omega, ?_, ?_, ?_⟩
  · rw [Int.tdiv_eq_ediv_of_nonneg (by omega)]; omega
  · simp [IntKind.wrap, IntKind.bits, IntKind.signed]; omega
  · simp [IntKind.wrap, IntKind.bits, IntKind.signed]; omega
theorem and15 (n : Nat) (h : n < 30) : ∃ q : Nat, q ≤ 15 ∧ bits BinOp.and IntKind.i64 (n : Int) 15 = (q : Int) := by
  have hall : ∀ n : Fin 30, ∃ q : Fin 16, bits BinOp.and IntKind.i64 (n.val : Int) 15 = (q.val : Int) := by decide +kernel
  obtain ⟨q, hq⟩ := hall ⟨n, h⟩
  exact ⟨q.val, by have := q.isLt; omega, hq⟩
theorem below_drewL {B : Nat} {w w' : World} (h : Below B w.drew w') : Below B w w' := ⟨h.os, h.tape, h.output, h.size, h.block⟩
set_option maxRecDepth 100000 in
set_option maxHeartbeats 20000000 in
theorem law_ringNumbers (w : World) : Calls Tryz.prog 3 #[] w fun e w' => e = .returned (.bool true) ∧ Below w.heap.size w w' := by
  have hx := World.alloc_heap_new w (.cells numCells 3)
  have hb := below1 w (.cells numCells 3)
  generalize hW1 : w.alloc (.cells numCells 3) = W1 at hx hb
  have HW1 := hide hW1
  have HX := hide hx
  have HB := hide hb
  have HN : Hid (∀ W, Below W1.heap.size W1 W → ∀ (i : Nat) (x : Int), numL[i]? = some x → W.cell? ⟨w.heap.size, i, none⟩ = some (.int .i64 x)) := hide (fun W hbW i x hxx => num_cell ((hbW.block _ (at_lt hx)).trans hx) hxx)
  have HZ := hide (Below.refl W1.heap.size W1)
  clear hx hb hW1
  go_enter Tryz.func3, Tryz.ntmps3
  go_upto_region 2 with fail
  refine Eq.mp (congrArg (Code.wp Tryz.prog _ _ _) HW1.out.symm) ?_
  go_wp2_with fail
  go_loopw [2] (fun u wq => ∃ i : Nat, i ≤ 10 ∧ u = .int .i64 i ∧ Below W1.heap.size W1 wq) (fun u _ => 10 - (intOf u).toNat)
  case atStart => exact ⟨0, by omega, rfl, HZ.out⟩
  case round =>
    obtain ⟨i, hi, rfl, hb⟩ := hrel
    have HBI := hide hb
    clear hb
    by_cases hi9 : i < 10
    · have di : decide ((i : Int) < 10) = true := decide_eq_true (by omega)
      obtain ⟨x, hx, hx64⟩ := num_at hi9
      have HXI := hide hx
      clear hx
      go_wp2_with fail
      go_loopw [3] (fun u wq => ∃ k : Nat, k ≤ 30 ∧ u = .int .i64 k ∧ Below W1.heap.size W1 wq) (fun u _ => 30 - (intOf u).toNat)
      case atStart => exact ⟨0, by omega, rfl, HBI.out⟩
      case round =>
        obtain ⟨k, hk, rfl, hb⟩ := hrel
        have HBK := hide hb
        clear hb
        by_cases hk30 : k < 30
        · have dk : decide ((k : Int) < 30) = true := decide_eq_true (by omega)
          obtain ⟨kk, hkk10, hkd, hk64, hk8⟩ := third k hk30
          have hkk : (0 : Int) ≤ (kk : Int) ∧ (kk : Int) < 256 := by omega
          have hbx := below1 wr (.cells #[.int .u8 kk, .int .i64 0, .int .i64 0, .int .i64 16] 25)
          have hxx := World.alloc_heap_new wr (.cells #[.int .u8 kk, .int .i64 0, .int .i64 0, .int .i64 16] 25)
          have cN := HN.out _ (HBK.out.trans (hbx.mono HBK.out.size)) i x HXI.out
          have hf0 : ∀ j, (wr.alloc (.cells #[.int .u8 kk, .int .i64 0, .int .i64 0, .int .i64 16] 25)).frozen? ⟨wr.heap.size, j, none⟩ = false := fun j => by unfold World.frozen?; simp only [hxx]; simp
          have j0 : (0 : Int) ≤ (i : Int) := by omega
          have j1 : (i : Int) < 10 := by omega
          by_cases h0 : (k : Int).tmod 3 = 0
          · skip
            have t0 : ((k : Int).tmod 3 == 0) = true := by simpa using h0
            have hb5 := below1 wr (.cells #[.int .u8 kk, .int .i64 x, .int .i64 0, .int .i64 16] 25)
            have hx5 := World.alloc_heap_new wr (.cells #[.int .u8 kk, .int .i64 x, .int .i64 0, .int .i64 16] 25)
            have cu : (wr.alloc (.cells #[.int .u8 kk, .int .i64 0, .int .i64 0, .int .i64 16] 25)).cell? ⟨wr.heap.size, 1, none⟩ = some (.int .i64 0) := (blk_cell hxx 1).trans rfl
            have hfz := hf0 1
            have HB5 := hide (HBK.out.trans (hb5.mono HBK.out.size))
            have HXX := hide hx5
            clear hb5 hx5 hbx hxx hf0
            go_upto_region 15 with fail
            generalize hSb : wr.heap.size = Sb at *
            generalize wr.alloc (.cells #[.int .u8 kk, .int .i64 x, .int .i64 0, .int .i64 16] 25) = W3 at HB5 HXX ⊢
            have y0 : W3.cell? ⟨Sb, 0, none⟩ = some (.int .u8 kk) := (blk_cell HXX.out 0).trans rfl
            have y1 : W3.cell? ⟨Sb, 1, none⟩ = some (.int .i64 x) := (blk_cell HXX.out 1).trans rfl
            have y2 : W3.cell? ⟨Sb, 2, none⟩ = some (.int .i64 0) := (blk_cell HXX.out 2).trans rfl
            have y3 : W3.cell? ⟨Sb, 3, none⟩ = some (.int .i64 16) := (blk_cell HXX.out 3).trans rfl
            have hc1 := hmk3 W3 97 98 99
            have HL4 := hide (lives4 kk x 0 16 hkk W3)
            clear cN cu hfz
            go_wp2_with (go_at_call 4; refine stop_here ?_)
            show Hid _
            refine start_here ?_
            refine HL4.out.mono ?_
            rintro e w7 ⟨rfl, hb⟩
            have HB7 := hide (HB5.out.trans (hb.mono HB5.out.size))
            clear hb y0 y1 y2 y3 hc1 HL4
            go_wp2_with fail
            go_roundw
            case rel => exact ⟨k + 1, by omega, by go_num, HB7.out⟩
            case measure => simp [intOf]; omega
          by_cases h1 : (k : Int).tmod 3 = 1
          · skip
            have t0 : ((k : Int).tmod 3 == 0) = false := by simpa using h0
            have t1 : ((k : Int).tmod 3 == 1) = true := by simpa using h1
            have hb5 := below1 wr (.cells #[.int .u8 kk, .int .i64 0, .int .i64 x, .int .i64 16] 25)
            have hx5 := World.alloc_heap_new wr (.cells #[.int .u8 kk, .int .i64 0, .int .i64 x, .int .i64 16] 25)
            have cu : (wr.alloc (.cells #[.int .u8 kk, .int .i64 0, .int .i64 0, .int .i64 16] 25)).cell? ⟨wr.heap.size, 2, none⟩ = some (.int .i64 0) := (blk_cell hxx 2).trans rfl
            have hfz := hf0 2
            have HB5 := hide (HBK.out.trans (hb5.mono HBK.out.size))
            have HXX := hide hx5
            clear hb5 hx5 hbx hxx hf0
            go_upto_region 15 with fail
            generalize hSb : wr.heap.size = Sb at *
            generalize wr.alloc (.cells #[.int .u8 kk, .int .i64 0, .int .i64 x, .int .i64 16] 25) = W3 at HB5 HXX ⊢
            have y0 : W3.cell? ⟨Sb, 0, none⟩ = some (.int .u8 kk) := (blk_cell HXX.out 0).trans rfl
            have y1 : W3.cell? ⟨Sb, 1, none⟩ = some (.int .i64 0) := (blk_cell HXX.out 1).trans rfl
            have y2 : W3.cell? ⟨Sb, 2, none⟩ = some (.int .i64 x) := (blk_cell HXX.out 2).trans rfl
            have y3 : W3.cell? ⟨Sb, 3, none⟩ = some (.int .i64 16) := (blk_cell HXX.out 3).trans rfl
            have hc1 := hmk3 W3 97 98 99
            have HL4 := hide (lives4 kk 0 x 16 hkk W3)
            clear cN cu hfz
            go_wp2_with (go_at_call 4; refine stop_here ?_)
            show Hid _
            refine start_here ?_
            refine HL4.out.mono ?_
            rintro e w7 ⟨rfl, hb⟩
            have HB7 := hide (HB5.out.trans (hb.mono HB5.out.size))
            clear hb y0 y1 y2 y3 hc1 HL4
            go_wp2_with fail
            go_roundw
            case rel => exact ⟨k + 1, by omega, by go_num, HB7.out⟩
            case measure => simp [intOf]; omega
          · skip
            have e3 : (k : Int).tmod 3 = (k : Int) % 3 := Int.tmod_eq_emod_of_nonneg (by omega)
            have h2 : (k : Int).tmod 3 = 2 := by omega
            clear e3
            have hb5 := below1 wr (.cells #[.int .u8 kk, .int .i64 0, .int .i64 0, .int .i64 x] 25)
            have hx5 := World.alloc_heap_new wr (.cells #[.int .u8 kk, .int .i64 0, .int .i64 0, .int .i64 x] 25)
            have cu : (wr.alloc (.cells #[.int .u8 kk, .int .i64 0, .int .i64 0, .int .i64 16] 25)).cell? ⟨wr.heap.size, 3, none⟩ = some (.int .i64 16) := (blk_cell hxx 3).trans rfl
            have hfz := hf0 3
            have HB5 := hide (HBK.out.trans (hb5.mono HBK.out.size))
            have HXX := hide hx5
            clear hb5 hx5 hbx hxx hf0
            go_upto_region 15 with fail
            generalize hSb : wr.heap.size = Sb at *
            generalize wr.alloc (.cells #[.int .u8 kk, .int .i64 0, .int .i64 0, .int .i64 x] 25) = W3 at HB5 HXX ⊢
            have y0 : W3.cell? ⟨Sb, 0, none⟩ = some (.int .u8 kk) := (blk_cell HXX.out 0).trans rfl
            have y1 : W3.cell? ⟨Sb, 1, none⟩ = some (.int .i64 0) := (blk_cell HXX.out 1).trans rfl
            have y2 : W3.cell? ⟨Sb, 2, none⟩ = some (.int .i64 0) := (blk_cell HXX.out 2).trans rfl
            have y3 : W3.cell? ⟨Sb, 3, none⟩ = some (.int .i64 x) := (blk_cell HXX.out 3).trans rfl
            have hc1 := hmk3 W3 97 98 99
            have HL4 := hide (lives4 kk 0 0 x hkk W3)
            clear cN cu hfz
            go_wp2_with (go_at_call 4; refine stop_here ?_)
            show Hid _
            refine start_here ?_
            refine HL4.out.mono ?_
            rintro e w7 ⟨rfl, hb⟩
            have HB7 := hide (HB5.out.trans (hb.mono HB5.out.size))
            clear hb y0 y1 y2 y3 hc1 HL4
            go_wp2_with fail
            go_roundw
            case rel => exact ⟨k + 1, by omega, by go_num, HB7.out⟩
            case measure => simp [intOf]; omega
        · obtain rfl : k = 30 := by omega
          go_wp2_with fail
          go_roundw
          case rel => exact ⟨i + 1, by omega, by go_num, HBK.out⟩
          case measure => simp [intOf]; omega
    · obtain rfl : i = 10 := by omega
      rw [show ((10 : Nat) : Int) = 10 from rfl]
      go_wp2_with fail
      go_loopw [5] (fun u wq => ∃ r : Nat, 16 ≤ r ∧ r ≤ 34 ∧ u = .int .i64 r ∧ Below W1.heap.size W1 wq) (fun u _ => 34 - (intOf u).toNat)
      case atStart => exact ⟨16, by omega, by omega, rfl, HBI.out⟩
      case round =>
        obtain ⟨r, hr16, hr34, rfl, hb⟩ := hrel
        have HB4 := hide hb
        clear hb
        by_cases hrlt : r < 34
        · have dr : decide ((r : Int) < 34) = true := decide_eq_true (by omega)
          go_wp2_with fail
          go_loopw [6] (fun u wq => ∃ n : Nat, n ≤ 30 ∧ u = .int .i64 n ∧ Below W1.heap.size W1 wq) (fun u _ => 30 - (intOf u).toNat)
          case atStart => exact ⟨0, by omega, rfl, HB4.out⟩
          case round =>
            obtain ⟨n, hn, rfl, hb⟩ := hrel
            have HB6 := hide hb
            clear hb
            by_cases hn30 : n < 30
            · have dn : decide ((n : Int) < 30) = true := decide_eq_true (by omega)
              obtain ⟨q, hq, hand⟩ := and15 n hn30
              obtain ⟨m, hm⟩ : ∃ m : Nat, (r : Int) - (q : Int) = (m : Int) := ⟨r - q, by omega⟩
              have HAND := hide hand
              have HSUB : Hid (IntKind.i64.wrap ((r : Int) - (q : Int)) = (m : Int)) := hide (by rw [IntWalk.i64_in _ (by omega)]; exact hm)
              obtain ⟨base, hbase⟩ : ∃ base, base = wr.heap.size := ⟨_, rfl⟩
              have HBASE := hide hbase
              have HG0 : Hid (GRN base wr.drew (fun _ => false) wr.drew) := hide ⟨Stb.refl _, Below.refl _ _, by rw [hbase]; exact Nat.le_refl _⟩
              clear hand hbase
              go_upto_region 23 with fail
              refine wp_tells4 (by kernel_rfl) (TRN r n q m base) (GRN base wr.drew) (by kernel_rfl) (by kernel_rfl) (by kernel_rfl) (by kernel_rfl) ?_ ?_ ?_ ?_
              · intro k oj σ σ' W hj h hs
                exact h.dep (hs k (.inl rfl))
              · exact HG0.out
              · intro k o ho L a W hi hG hold hT hcl hh
                have hi2 : k < 21 := (Array.getElem?_eq_some_iff.1 ho).1
                have hi' : k = 0 ∨ k = 1 ∨ k = 2 ∨ k = 3 ∨ k = 4 ∨ k = 5 ∨ k = 6 ∨ k = 7 ∨ k = 8 ∨ k = 9 ∨ k = 10 ∨ k = 11 ∨ k = 12 ∨ k = 13 ∨ k = 14 ∨ k = 15 ∨ k = 16 ∨ k = 17 ∨ k = 18 ∨ k = 19 ∨ k = 20 := by omega
                rcases hi' with rfl | rfl | rfl | rfl | rfl | rfl | rfl | rfl | rfl | rfl | rfl | rfl | rfl | rfl | rfl | rfl | rfl | rfl | rfl | rfl | rfl
                · cases ho
                  refine step4_told (.int .i64 n) ?_ (by decide) hG.same hT rfl
                  have e0 : a.eval (.tmp 6) = .int .i64 n := hold 6 (unyet_of (by kernel_rfl))
                  generalize a.eval = ev at e0 ⊢
                  simp [execOp, go_sem, e0]
                · cases ho
                  have e0 : a.eval (.tmp 65) = .int .i64 n := hT 0 (hh 0 rfl)
                  have hbw := below1 W (.cells (u8s (List.replicate n 0)).toArray 5)
                  have hzm := zeros_made Tryz.underlying27 n (by omega) W
                  refine step4_turned (.slice (some ⟨W.heap.size, 0, none⟩) n n) (W.alloc (.cells (u8s (List.replicate n 0)).toArray 5)) ?_ (by decide) (hG.alloc hbw) (fun jj hjj => (hT jj hjj).stb (Stb.below hbw)) ⟨_, rfl, zerosLit n (by omega) W⟩
                  generalize a.eval = ev at e0 ⊢
                  simp [execOp, go_sem, e0, hzm]
                · cases ho
                  obtain ⟨r0, e0, hr0⟩ : LitT (a.eval (.tmp 66)) W := hT 1 (hh 1 rfl)
                  refine step4_told (.agg #[.bool false, .slice r0.A r0.n r0.c]) ?_ (by decide) hG.same hT ⟨⟨false, r0⟩, rfl, hr0⟩
                  generalize a.eval = ev at e0 ⊢
                  simp [execOp, go_sem, e0]
                · cases ho
                  have hbw := below1 W (.cells #[.int .u8 120] 5)
                  refine step4_turned (.slice (some ⟨W.heap.size, 0, none⟩) 1 1) (W.alloc (.cells #[.int .u8 120] 5)) ?_ (by decide) (hG.alloc hbw) (fun jj hjj => (hT jj hjj).stb (Stb.below hbw)) ⟨W.heap.size, (0, 0), rfl, World.alloc_heap_new W _, hG.2.2⟩
                  have cc0 : a.eval (.const (.int .u8 120)) = .int .u8 120 := rfl
                  generalize a.eval = ev at cc0 ⊢
                  simp [execOp, go_sem, cc0]
                · cases ho
                  obtain ⟨g, fr, e0, hg, hgb⟩ : Lit1 base (a.eval (.tmp 68)) W := hT 3 (hh 3 rfl)
                  obtain ⟨W', hrun, hst, hbel⟩ := conv_any (n := 1) (c := 1) hg
                  obtain ⟨fr', hg', _⟩ := hst.blk g _ _ _ hg
                  refine step4_turned (.slice (some ⟨g, 0, none⟩) 1 1) W' ?_ (by decide) (hG.step hst (hbel _ hgb)) (fun jj hjj => (hT jj hjj).stb hst) ⟨⟨some ⟨g, 0, none⟩, 1, 1, [120]⟩, rfl, .inr ⟨g, [120], fr', rfl, hg', rfl, Nat.le_refl _, Nat.le_refl _, (by show 1 ≤ 1000; decide), fun b hb => by
                    simp only [List.mem_cons, List.not_mem_nil, or_false] at hb
                    unfold IsByte
                    omega⟩⟩
                  generalize a.eval = ev at e0 ⊢
                  simp [execOp, go_sem, e0, hrun]
                · cases ho
                  obtain ⟨r0, e0, hr0⟩ : LitT (a.eval (.tmp 69)) W := hT 4 (hh 4 rfl)
                  refine step4_told (.agg #[.bool false, .slice r0.A r0.n r0.c]) ?_ (by decide) hG.same hT ⟨⟨false, r0⟩, rfl, hr0⟩
                  generalize a.eval = ev at e0 ⊢
                  simp [execOp, go_sem, e0]
                · cases ho
                  refine step4_told (.int .i64 r) ?_ (by decide) hG.same hT rfl
                  have e0 : a.eval (.tmp 5) = .int .i64 r := hold 5 (unyet_of (by kernel_rfl))
                  generalize a.eval = ev at e0 ⊢
                  simp [execOp, go_sem, e0]
                · cases ho
                  refine step4_told (.int .i64 n) ?_ (by decide) hG.same hT rfl
                  have e0 : a.eval (.tmp 6) = .int .i64 n := hold 6 (unyet_of (by kernel_rfl))
                  generalize a.eval = ev at e0 ⊢
                  simp [execOp, go_sem, e0]
                · cases ho
                  refine step4_told (.int .i64 q) ?_ (by decide) hG.same hT rfl
                  have e0 : a.eval (.tmp 72) = .int .i64 n := hT 7 (hh 7 rfl)
                  have cc0 : a.eval (.const (.int .i64 15)) = .int .i64 15 := rfl
                  generalize a.eval = ev at e0 cc0 ⊢
                  simp [execOp, go_sem, e0, cc0, HAND.out]
                · cases ho
                  refine step4_told (.int .i64 m) ?_ (by decide) hG.same hT rfl
                  have e0 : a.eval (.tmp 71) = .int .i64 r := hT 6 (hh 6 rfl)
                  have e1 : a.eval (.tmp 73) = .int .i64 q := hT 8 (hh 8 rfl)
                  generalize a.eval = ev at e0 e1 ⊢
                  simp [execOp, go_sem, e0, e1, HSUB.out]
                · cases ho
                  have e0 : a.eval (.tmp 74) = .int .i64 m := hT 9 (hh 9 rfl)
                  have hbw := below1 W (.cells (u8s (List.replicate m 0)).toArray 5)
                  have hzm := zeros_made Tryz.underlying27 m (by omega) W
                  refine step4_turned (.slice (some ⟨W.heap.size, 0, none⟩) m m) (W.alloc (.cells (u8s (List.replicate m 0)).toArray 5)) ?_ (by decide) (hG.alloc hbw) (fun jj hjj => (hT jj hjj).stb (Stb.below hbw)) ⟨_, rfl, zerosLit m (by omega) W⟩
                  generalize a.eval = ev at e0 ⊢
                  simp [execOp, go_sem, e0, hzm]
                · cases ho
                  obtain ⟨r0, e0, hr0⟩ : LitT (a.eval (.tmp 75)) W := hT 10 (hh 10 rfl)
                  refine step4_told (.agg #[.bool false, .slice r0.A r0.n r0.c]) ?_ (by decide) hG.same hT ⟨⟨false, r0⟩, rfl, hr0⟩
                  generalize a.eval = ev at e0 ⊢
                  simp [execOp, go_sem, e0]
                · cases ho
                  refine step4_told (.agg #[.bool true, .slice none 0 0]) ?_ (by decide) hG.same hT ⟨⟨true, noRow⟩, rfl, noR _⟩
                  have cc0 : a.eval (.const (.bool true)) = .bool true := rfl
                  generalize a.eval = ev at cc0 ⊢
                  simp [execOp, go_sem, cc0]
                · cases ho
                  refine step4_told (.int .i64 n) ?_ (by decide) hG.same hT rfl
                  have e0 : a.eval (.tmp 6) = .int .i64 n := hold 6 (unyet_of (by kernel_rfl))
                  generalize a.eval = ev at e0 ⊢
                  simp [execOp, go_sem, e0]
                · cases ho
                  have e0 : a.eval (.tmp 78) = .int .i64 n := hT 13 (hh 13 rfl)
                  have hbw := below1 W (.cells (u8s (List.replicate n 0)).toArray 5)
                  have hzm := zeros_made Tryz.underlying27 n (by omega) W
                  refine step4_turned (.slice (some ⟨W.heap.size, 0, none⟩) n n) (W.alloc (.cells (u8s (List.replicate n 0)).toArray 5)) ?_ (by decide) (hG.alloc hbw) (fun jj hjj => (hT jj hjj).stb (Stb.below hbw)) ⟨_, rfl, zerosLit n (by omega) W⟩
                  generalize a.eval = ev at e0 ⊢
                  simp [execOp, go_sem, e0, hzm]
                · cases ho
                  obtain ⟨r0, e0, hr0⟩ : LitT (a.eval (.tmp 79)) W := hT 14 (hh 14 rfl)
                  refine step4_told (.agg #[.bool false, .slice r0.A r0.n r0.c]) ?_ (by decide) hG.same hT ⟨⟨false, r0⟩, rfl, hr0⟩
                  generalize a.eval = ev at e0 ⊢
                  simp [execOp, go_sem, e0]
                · cases ho
                  refine step4_told (.agg #[.bool true, .slice none 0 0]) ?_ (by decide) hG.same hT ⟨⟨true, noRow⟩, rfl, noR _⟩
                  have cc0 : a.eval (.const (.bool true)) = .bool true := rfl
                  generalize a.eval = ev at cc0 ⊢
                  simp [execOp, go_sem, cc0]
                · cases ho
                  refine step4_told (.agg #[.bool true, .slice none 0 0]) ?_ (by decide) hG.same hT ⟨⟨true, noRow⟩, rfl, noR _⟩
                  have cc0 : a.eval (.const (.bool true)) = .bool true := rfl
                  generalize a.eval = ev at cc0 ⊢
                  simp [execOp, go_sem, cc0]
                · cases ho
                  refine step4_told (.agg #[.bool true, .slice none 0 0]) ?_ (by decide) hG.same hT ⟨⟨true, noRow⟩, rfl, noR _⟩
                  have cc0 : a.eval (.const (.bool true)) = .bool true := rfl
                  generalize a.eval = ev at cc0 ⊢
                  simp [execOp, go_sem, cc0]
                · cases ho
                  obtain ⟨d0, e0, hd0⟩ : DoT (a.eval (.tmp 67)) W := hT 2 (hh 2 rfl)
                  obtain ⟨d1, e1, hd1⟩ : DoT (a.eval (.tmp 70)) W := hT 5 (hh 5 rfl)
                  obtain ⟨d2, e2, hd2⟩ : DoT (a.eval (.tmp 76)) W := hT 11 (hh 11 rfl)
                  obtain ⟨d3, e3, hd3⟩ : DoT (a.eval (.tmp 77)) W := hT 12 (hh 12 rfl)
                  obtain ⟨d4, e4, hd4⟩ : DoT (a.eval (.tmp 80)) W := hT 15 (hh 15 rfl)
                  obtain ⟨d5, e5, hd5⟩ : DoT (a.eval (.tmp 81)) W := hT 16 (hh 16 rfl)
                  obtain ⟨d6, e6, hd6⟩ : DoT (a.eval (.tmp 82)) W := hT 17 (hh 17 rfl)
                  obtain ⟨d7, e7, hd7⟩ : DoT (a.eval (.tmp 83)) W := hT 18 (hh 18 rfl)
                  have hbw := below1 W (.cells #[.bool d0.take, .slice d0.b.A d0.b.n d0.b.c, .bool d1.take, .slice d1.b.A d1.b.n d1.b.c, .bool d2.take, .slice d2.b.A d2.b.n d2.b.c, .bool d3.take, .slice d3.b.A d3.b.n d3.b.c, .bool d4.take, .slice d4.b.A d4.b.n d4.b.c, .bool d5.take, .slice d5.b.A d5.b.n d5.b.c, .bool d6.take, .slice d6.b.A d6.b.n d6.b.c, .bool d7.take, .slice d7.b.A d7.b.n d7.b.c] 29)
                  refine step4_turned (.slice (some ⟨W.heap.size, 0, none⟩) 8 8) (W.alloc (.cells #[.bool d0.take, .slice d0.b.A d0.b.n d0.b.c, .bool d1.take, .slice d1.b.A d1.b.n d1.b.c, .bool d2.take, .slice d2.b.A d2.b.n d2.b.c, .bool d3.take, .slice d3.b.A d3.b.n d3.b.c, .bool d4.take, .slice d4.b.A d4.b.n d4.b.c, .bool d5.take, .slice d5.b.A d5.b.n d5.b.c, .bool d6.take, .slice d6.b.A d6.b.n d6.b.c, .bool d7.take, .slice d7.b.A d7.b.n d7.b.c] 29)) ?_ (by decide) (hG.alloc hbw) (fun jj hjj => (hT jj hjj).stb (Stb.below hbw)) ⟨W.heap.size, [d0, d1, d2, d3, d4, d5, d6, d7], rfl, rfl, (fun d hd => by
                    simp only [List.mem_cons, List.not_mem_nil, or_false] at hd
                    rcases hd with rfl | rfl | rfl | rfl | rfl | rfl | rfl | rfl
                    · exact hd0.stb (Stb.below hbw)
                    · exact hd1.stb (Stb.below hbw)
                    · exact hd2.stb (Stb.below hbw)
                    · exact hd3.stb (Stb.below hbw)
                    · exact hd4.stb (Stb.below hbw)
                    · exact hd5.stb (Stb.below hbw)
                    · exact hd6.stb (Stb.below hbw)
                    · exact hd7.stb (Stb.below hbw)), World.alloc_heap_new W _, hG.2.2⟩
                  generalize a.eval = ev at e0 e1 e2 e3 e4 e5 e6 e7 ⊢
                  simp [execOp, go_sem, e0, e1, e2, e3, e4, e5, e6, e7]
                · cases ho
                  have ht : EsT base (a.eval (.tmp 84)) W := hT 19 (hh 19 rfl)
                  obtain ⟨vv, hvv⟩ : ∃ vv, a.eval (.tmp 84) = vv := ⟨_, rfl⟩
                  rw [hvv] at ht
                  refine step4_told vv ?_ (by decide) hG.same hT ht
                  generalize a.eval = ev at hvv ⊢
                  simp [execOp, go_sem, hvv]
              · intro a W hd hs hold hT hG
                obtain ⟨gD, es, hev, hel, hlit, hgc, hgb⟩ : EsT base (a.tmps.getD 7 undef) W := hT 20 (by decide)
                obtain ⟨f, hf, ha⟩ := act_puts [7, 65, 66, 67, 68, 69, 70, 71, 72, 73, 74, 75, 76, 77, 78, 79, 80, 81, 82, 83, 84] (fun t ht => written_in ht [7, 65, 66, 67, 68, 69, 70, 71, 72, 73, 74, 75, 76, 77, 78, 79, 80, 81, 82, 83, 84] (by kernel_rfl)) (fun t ht => by
                  have hsz : t < 129 := by
                    simp only [List.mem_cons, List.mem_nil_iff, or_false] at ht
                    omega
                  exact hsz) hd hs hold
                rw [← hf 7] at hev
                have HAD : Hid (ADos W W.heap.size (some ⟨gD, 0, none⟩) 8 es) := hide ⟨es_rd hel hgc, fun d hd => (hlit d hd).is⟩
                have HBW := hide (HB6.out.trans ((below_drewL hG.2.1).mono (by rw [HBASE.out]; exact HB6.out.size)))
                subst ha
                clear hd hs hold hT hf hG hlit hgc hgb hel
                simp only [List.foldl_cons, List.foldl_nil, hev]
                generalize f 65 = z65
                generalize f 66 = z66
                generalize f 67 = z67
                generalize f 68 = z68
                generalize f 69 = z69
                generalize f 70 = z70
                generalize f 71 = z71
                generalize f 72 = z72
                generalize f 73 = z73
                generalize f 74 = z74
                generalize f 75 = z75
                generalize f 76 = z76
                generalize f 77 = z77
                generalize f 78 = z78
                generalize f 79 = z79
                generalize f 80 = z80
                generalize f 81 = z81
                generalize f 82 = z82
                generalize f 83 = z83
                generalize f 84 = z84
                clear hev
                go_simp
                go_simp
                have HQL := hide (law_ringLives 7 0 0 r (by decide) (some ⟨gD, 0, none⟩) 8 8 es W HAD.out (by decide))
                go_wp2_with (go_at_call 4; refine stop_here ?_)
                show Hid _
                refine start_here ?_
                refine HQL.out.mono ?_
                rintro e w8 ⟨rfl, hb⟩
                have HB8 := hide (HBW.out.trans (hb.mono HBW.out.size))
                clear hb
                go_wp2_with fail
                go_roundw
                case rel => exact ⟨n + 1, by omega, by go_num, HB8.out⟩
                case measure => simp [intOf]; omega
            · obtain rfl : n = 30 := by omega
              go_wp2_with fail
              go_roundw
              case rel => exact ⟨r + 1, by omega, by omega, by go_num, HB6.out⟩
              case measure => simp [intOf]; omega
        · obtain rfl : r = 34 := by omega
          have HBX : Hid (Below w.heap.size w wr) := hide (HB.out.trans (HB4.out.mono HB.out.size))
          go_wp2_with fail
          refine (new_yes 16384 wr (by omega)).mono ?_
          rintro e w2 ⟨b, bx, rfl, ha, hb⟩
          have HA := hide ha
          have HB2 := hide (below_in HBX.out hb)
          obtain ⟨l, hl, hrd⟩ := zeros_rd 65537 16376 (by decide) w2
          have hzm := zeros_made Tryz.underlying27 65537 (by decide) w2
          have hbz := below1 w2 (.cells (u8s (List.replicate 65537 0)).toArray 5)
          have hzs : (w2.alloc (.cells (u8s (List.replicate 65537 0)).toArray 5)).heap.size = w2.heap.size + 1 := by rw [World.size_alloc]
          obtain ⟨wz, hwz⟩ : ∃ wz, wz = w2.alloc (.cells (u8s (List.replicate 65537 0)).toArray 5) := ⟨_, rfl⟩
          rw [← hwz] at hrd hzm hbz hzs
          clear hwz ha hb
          have HA2 := hide (HA.out.below hbz)
          have HBZ := hide (below_in HB2.out hbz)
          have hcut := cut_head (some ⟨w2.heap.size, 0, none⟩) 65537 65537 16376 (by decide) wz
          have HP1 := hide (put_room (some ⟨w2.heap.size, 0, none⟩) 16376 65537 (w2.heap.size + 1) l HA2.out hrd (by omega) (fun e => by cases e) (by simp [sumR]))
          rw [show ((16376 : Nat) : Int) = 16376 from rfl] at hcut
          rw [show ((65537 : Nat) : Int) = 65537 from rfl] at hzm
          clear hrd hbz hzs
          go_wp2_with (go_at_call 6; refine stop_here ?_)
          show Hid _
          refine start_here ?_
          refine HP1.out.mono ?_
          rintro e w3 ⟨rfl, r, hrb, hr3, hk3, hs3⟩
          have HB3 := hide ((HBZ.out.trans ((HA2.out.low2 hk3).mono (Nat.le_trans HBX.out.size (Nat.le_refl _)))))
          have HA3 : Hid (Rng w3 wr.heap.size b bx 16384 [r]) := hide hr3
          have hsum : sumR [r] = 16384 := by simp [sumR, hrb, hl]
          clear hrb hr3 hk3 hs3 hzm hcut HP1
          go_wp2_with fail
          refine (room_ex 0 HA3.out (by rw [hsum])).mono ?_
          rintro e w4 ⟨rfl, ha, hb⟩
          have HA4 := hide ha
          have HB5 := hide (below_in HB3.out hb)
          clear ha hb
          go_wp2_with (go_at_call 6; refine stop_here ?_)
          show Hid _
          refine start_here ?_
          refine (put_full _ 65536 65536 HA4.out (by decide) (by rw [hsum]; decide)).mono ?_
          rintro e w5 ⟨rfl, hb⟩
          have HA5 := hide (HA4.out.below hb)
          have HB6 := hide (below_in HB5.out hb)
          clear hb hsum
          go_wp2_with (go_at_call 6; refine stop_here ?_)
          show Hid _
          refine start_here ?_
          refine (put_long _ 65537 65537 HA5.out (by decide)).mono ?_
          rintro e w' ⟨rfl, rfl⟩
          go_wp2_with fail
          refine (law_ringNil none 0 0 w5).mono ?_
          rintro e w7 ⟨rfl, hb⟩
          have HB7 := hide (below_in HB6.out hb)
          clear hb
          go_wp2_with fail
          refine (awake_any w7).mono ?_
          rintro e w9 ⟨rfl, hb⟩
          have HB9 := hide (below_in HB7.out hb)
          clear hb
          go_wp2_with fail
          go_ret
          exact ⟨rfl, HB9.out⟩
end Go.Proofs.YtdbflopfcnkjbaaGreat
