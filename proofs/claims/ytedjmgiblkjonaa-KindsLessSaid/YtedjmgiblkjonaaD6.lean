/-
  KindsWords, walked.
-/
import Derived.Test.YtedjmgiblkjonaaD5
namespace Go.Proofs.Ytedjmgiblkjonaa
open Go.RowKit Go.Maps
set_option linter.unusedVariables false

theorem later9 {W0 : World} {b : Nat} {u0 u1 u2 u3 u4 u5 u6 u7 u8 : Value} {t : TypeId} (h : W0.heap[b]? = some (.cells #[u0, u1, u2, u3, u4, u5, u6, u7, u8] t (0, 0))) : (∀ y : Later W0, y.w.cell? ⟨b, 0, none⟩ = some u0) ∧ (∀ y : Later W0, y.w.cell? ⟨b, 1, none⟩ = some u1) ∧ (∀ y : Later W0, y.w.cell? ⟨b, 2, none⟩ = some u2) ∧ (∀ y : Later W0, y.w.cell? ⟨b, 3, none⟩ = some u3) ∧ (∀ y : Later W0, y.w.cell? ⟨b, 4, none⟩ = some u4) ∧ (∀ y : Later W0, y.w.cell? ⟨b, 5, none⟩ = some u5) ∧ (∀ y : Later W0, y.w.cell? ⟨b, 6, none⟩ = some u6) ∧ (∀ y : Later W0, y.w.cell? ⟨b, 7, none⟩ = some u7) ∧ (∀ y : Later W0, y.w.cell? ⟨b, 8, none⟩ = some u8) :=
  ⟨Later.cell (by rw [blk_cell h]; rfl), Later.cell (by rw [blk_cell h]; rfl), Later.cell (by rw [blk_cell h]; rfl), Later.cell (by rw [blk_cell h]; rfl), Later.cell (by rw [blk_cell h]; rfl), Later.cell (by rw [blk_cell h]; rfl), Later.cell (by rw [blk_cell h]; rfl), Later.cell (by rw [blk_cell h]; rfl), Later.cell (by rw [blk_cell h]; rfl)⟩
theorem ownH_len (k : Int) : (ownH k).args.length ≤ 1000000 := by
  unfold ownH
  split
  · unfold ownM
    repeat' split
    all_goals simp
  · simp [zeroH]
theorem below_same {P : Program} {f : FuncId} {args : Array Value} {v : Value} (h : ∀ w, Calls P f args w fun e w' => e = .returned v ∧ w = w') (w : World) : Calls P f args w fun e w' => e = .returned v ∧ Below w.heap.size w w' :=
  (h w).mono fun e w' ⟨h1, h2⟩ => ⟨h1, h2 ▸ Below.refl _ _⟩
set_option maxRecDepth 100000 in
set_option maxHeartbeats 4000000 in
theorem law_kindsWords (s : ByteArray) (k key val ent ck : Int) (w : World) (hs : s.size ≤ maxLen) (hk : 0 ≤ k ∧ k < 256) :
    Calls Try.prog 3 #[.string s, .agg #[.int .u8 k, .int .i64 key, .int .i64 val, .int .i64 ent], .int .u8 ck] w fun e w' => e = .returned (.bool true) ∧ Below w.heap.size w w' := by
  have hW := hide (fun w => awake_any w)
  have hO := hide (fun w => own_any ck w)
  have hR := hide (fun w => rown_any ck w)
  have hN := hide (fun w => name_any s w hs)
  have hM := hide (fun w => below_same (fun w => rname_any s w hs) w)
  have hS := hide (fun w => spec_any k key val ent w hk)
  have hT := hide (fun w => rspec_any k key val ent w hk)
  have hL := hide (ownH_len ck)
  have hsz : s.size ≤ 9223372036854775807 := by unfold maxLen at hs; omega
  clear hs hk
  generalize nameM s.data.toList = nm at *
  generalize specM k key val ent = sp at *
  generalize ownH ck = h at *
  generalize ownB ck = ob at *
  obtain ⟨i, mj, mn, kk, l, ⟨rk, lo, hi, sz⟩⟩ := h
  go_enter Try.func3, Try.ntmps3
  go_wp2_with fail
  refine name_call (fun W1 hW1 => ?_)
  have b4 := World.alloc_heap_new w (.cells #[.int .u8 k, .int .i64 key, .int .i64 val, .int .i64 ent] 24)
  have l1 := below1 w (.cells #[.int .u8 k, .int .i64 key, .int .i64 val, .int .i64 ent] 24)
  rw [← hW1] at b4 l1
  clear hW1
  (with_reducible refine (Later.calls0 hW.out).mono ?_)
  rintro e w1 ⟨rfl, x, rfl⟩
  replace b4 := (x.below.block _ (at_lt b4)).trans b4
  replace l1 := l1.trans (x.below.mono l1.size)
  generalize x.w = W1' at *
  clear x
  have B4 := hide b4
  have L1 := hide l1
  clear b4 l1
  by_cases h300 : 300 < s.size
  · go_wp2
    go_ret
    exact ⟨rfl, L1.out⟩
  · go_wp2_with fail
    refine (hO.out _).mono ?_
    rintro e w1 ⟨A, ca, rfl, hcc, hf, hb⟩
    clear hcc
    simp only [HelpM.v]
    have HF := hide hf.args
    have HB := hide hb
    clear hf hb
    simp only at HF hL
    go_wp2_with fail
    refine name_call (fun W2 hW2 => ?_)
    have b7 := World.alloc_heap_new w1 (.cells #[.int .i64 i, .int .i64 mj, .int .i64 mn, .int .u8 kk, .slice A l.length ca, .int .u8 rk, .int .i64 lo, .int .i64 hi, .int .i64 sz] 32)
    have l2 := below1 w1 (.cells #[.int .i64 i, .int .i64 mj, .int .i64 mn, .int .u8 kk, .slice A l.length ca, .int .u8 rk, .int .i64 lo, .int .i64 hi, .int .i64 sz] 32)
    rw [← hW2] at b7 l2
    have B7 := hide b7
    have L2 := hide l2
    clear hW2 b7 l2
    refine (hR.out _).mono ?_
    rintro e w2 ⟨A', ca', rfl, hcc, hf, hb⟩
    clear hcc
    simp only [HelpM.v]
    have HF' := hide hf.args
    have HB' := hide hb
    clear hf hb
    simp only at HF'
    go_wp2_with fail
    refine name_world (fun W3 hW3 => ?_)
    have b9 := World.alloc_heap_new w2 (.cells #[.int .i64 i, .int .i64 mj, .int .i64 mn, .int .u8 kk, .slice A' l.length ca', .int .u8 rk, .int .i64 lo, .int .i64 hi, .int .i64 sz] 32)
    have l3 := below1 w2 (.cells #[.int .i64 i, .int .i64 mj, .int .i64 mn, .int .u8 kk, .slice A' l.length ca', .int .u8 rk, .int .i64 lo, .int .i64 hi, .int .i64 sz] 32)
    rw [← hW3] at b9 l3
    clear hW3
    have l23 := HB'.out.trans (l3.mono HB'.out.size)
    have l13 := L2.out.trans (l23.mono L2.out.size)
    have l03 := HB.out.trans (l13.mono HB.out.size)
    have lw := hide (L1.out.trans (l03.mono L1.out.size))
    have b7 := (l23.block _ (at_lt B7.out)).trans B7.out
    have b4 := (l03.block _ (at_lt B4.out)).trans B4.out
    have ha := hide ((HF.out.below l13).mono l13.size)
    have ha' := hide ((HF'.out.below l3).mono l3.size)
    have hSame : Hid (∀ y : Later W3, Calls Try.prog 14 #[.agg #[.int .i64 i, .int .i64 mj, .int .i64 mn, .int .u8 kk, .slice A l.length ca, .int .u8 rk, .int .i64 lo, .int .i64 hi, .int .i64 sz], .agg #[.int .i64 i, .int .i64 mj, .int .i64 mn, .int .u8 kk, .slice A' l.length ca', .int .u8 rk, .int .i64 lo, .int .i64 hi, .int .i64 sz]] y.w fun e w' => e = .returned (.bool true) ∧ Below y.w.heap.size y.w w') := hide (fun y =>
      sameHelper_yes ⟨i, mj, mn, kk, l, ⟨rk, lo, hi, sz⟩⟩ A A' ca ca' y.w ((ha.out.below y.below).mono y.below.size) ((ha'.out.below y.below).mono y.below.size) hL.out)
    obtain ⟨c0, c1, c2, c3⟩ := later4 b4
    have d := later9 b7
    have f := later9 b9
    obtain ⟨d0, d1, d2, d3, d4, d5, d6, d7, d8⟩ := d
    obtain ⟨f0, f1, f2, f3, f4, f5, f6, f7, f8⟩ := f
    generalize l.length = n at *
    clear b4 b7 b9 l23 l13 l03 l3 HF HF' ha ha' hL B7 L2 hO hR hW
    cases nm
    all_goals cases ob
    all_goals
      refine wp_region_later (by kernel_rfl) (by kernel_rfl) ?_
      repeat (go_big_quiet_step ((first | exact Later.calls _ hN.out | exact Later.calls _ hM.out | exact Later.calls _ hS.out | exact Later.calls _ hT.out | exact Later.callsL _ hSame.out)))
      refine wpQuiet_nil ?_
      rintro _ ⟨y, rfl⟩
      have HX := hide (lw.out.trans (y.below.mono lw.out.size))
      clear c0 c1 c2 c3 d0 d1 d2 d3 d4 d5 d6 d7 d8 f0 f1 f2 f3 f4 f5 f6 f7 f8
      go_wp2
      go_ret
      exact ⟨by simp, HX.out⟩
end Go.Proofs.Ytedjmgiblkjonaa
