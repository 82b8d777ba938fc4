/-
  The document's stack by definition, in memory: Store of what a group holds whole.
-/
import Derived.Test.YtkpoilcbdcddcaaR5
import Derived.Test.YtkpoilcbdcddcaaLK0
namespace Go.Proofs.Ytkpoilcbdcddcaa
open Go.RowKit
set_option linter.unusedVariables false
set_option linter.unusedSimpArgs false

theorem arr34 : Try.prog.underlying 34 = some (.array (Try.prog.arrayLen 34) (Try.prog.elem 34)) := by kernel_rfl
theorem len34 : Try.prog.arrayLen 34 = 64 := by kernel_rfl
theorem elem34 : Try.prog.elem 34 = 33 := by kernel_rfl
theorem size33 (W : World) : (sizeOf 33).run Try.prog W = .ok 4 W := by kernel_rfl
theorem index34 (W : World) (b : Nat) (i : Int) (g : Nat) (hg : g < 64) (hi : i = (g : Int)) : (Instr.indexAt 34 (.pointer (some ⟨b, 1024, none⟩)) (.int .i64 i)).run Try.prog W = .ok (.pointer (some ⟨b, 1024 + g * 4, none⟩)) W := by
  have := run_indexAt_array (P := Try.prog) (w := W) 34 ⟨b, 1024, none⟩ .i64 i arr34
  rw [this, elem34, len34, size33, if_pos (by omega)]
  have e : i.toNat = g := by omega
  simp only [Result.andThen_ok, e, at_add]
set_option maxRecDepth 8000 in
set_option maxHeartbeats 1000000 in
theorem rstore_whole (b : Nat) (A : AS) (o : Nat) (k wd rg of : Int) (w : World) (h : RSt w b A) (hkk : k = 2 ∨ k = 3) (h3 : rightB ⟨k, wd, rg, of⟩ = true) (hfit : o + 8 ≤ 512) (ho8 : o % 8 = 0) :
    Calls Try.prog 23 #[.pointer (some ⟨b, 0, none⟩), .int .i64 o, .int .i64 8, .agg #[.int .u8 k, .int .u64 wd, .int .i64 rg, .int .i64 of]] w fun e w' => e = .returned (.int .i64 0) ∧ RSt w' b (A.hold (o / 8) ⟨k, wd, rg, of⟩) ∧ Turn b w w' := by
  have HR := hide (fun W => rright_any ⟨k, wd, rg, of⟩ W)
  have hbw := below1 w (.cells #[.int .u8 k, .int .u64 wd, .int .i64 rg, .int .i64 of] 33)
  have hx := World.alloc_heap_new w (.cells #[.int .u8 k, .int .u64 wd, .int .i64 rg, .int .i64 of] 33)
  have h1 := h.below hbw
  have hbl := h.lt
  have HS := hide (fun w => rsize_any 8 w)
  have HPl := hide (fun w => there_any o 8 w (by omega) (by omega))
  rw [show sizedB 8 = true from rfl] at HS
  rw [show placedB o 8 = true by unfold placedB; simp; omega] at HPl
  simp only [C4.val] at HR
  rw [h3] at HR
  have e0 : (k == 0) = false := by rcases hkk with rfl | rfl <;> rfl
  have e1 : (k == 1) = false := by rcases hkk with rfl | rfl <;> rfl
  have e8 : ((o : Int) % 8 != 0) = false := by
    have : (o : Int) % 8 = 0 := by omega
    rw [this]; rfl
  go_enter Try.func23, Try.ntmps23
  go_upto_region 1 with fail
  generalize w.alloc (.cells _ 33) = w1 at hbw hx h1 ⊢
  have HX := hide hx
  have HBw := hide hbw
  have HP := hide h1
  have x0 := blk_cell hx 0
  have x1 := blk_cell hx 1
  have x2 := blk_cell hx 2
  have x3 := blk_cell hx 3
  simp at x0 x1 x2 x3
  have hl1 := at_lt hx
  clear h hbw hx h1
  go_upto_region 3 with (first
      | (go_at_call 33; refine (HS.out _).mono ?_; rintro e w2 ⟨rfl, rfl⟩)
      | (go_at_call 41; refine (HR.out _).mono ?_; rintro e w2 ⟨rfl, hb⟩; have HB2 := hide (HBw.out.trans (hb.mono HBw.out.size)); have HP2 := hide (HP.out.below hb); have hx2 := (hb.block _ (at_lt HX.out)).trans HX.out; clear hb))
  have HX2 := hide hx2
  clear x0 x1 x2 x3
  have x0 := blk_cell hx2 0
  have x1 := blk_cell hx2 1
  have x2 := blk_cell hx2 2
  have x3 := blk_cell hx2 3
  simp at x0 x1 x2 x3
  have hl2 := at_lt hx2
  clear hx2 HX HBw HP hl1
  obtain ⟨cs, hb, hs⟩ := HP2.out
  have hg : o / 8 < 64 := by omega
  go_upto_region 18 with (go_at_call 34; refine (HPl.out _).mono ?_; rintro e w3 ⟨rfl, rfl⟩)
  have d0 : w2.cell? ⟨b, 1024 + o / 8 * 4, none⟩ = some (.int .u8 (A.wh (o / 8)).k) := by rw [PS.cell hb, Nat.mul_comm]; exact hs.k _ hg
  have d1 : w2.cell? ⟨b, 1024 + o / 8 * 4 + 1, none⟩ = some (.int .u64 (A.wh (o / 8)).wd) := by rw [PS.cell hb, Nat.mul_comm]; exact hs.wd _ hg
  have d2 : w2.cell? ⟨b, 1024 + o / 8 * 4 + 2, none⟩ = some (.int .i64 (A.wh (o / 8)).rg) := by rw [PS.cell hb, Nat.mul_comm]; exact hs.rg _ hg
  have d3 : w2.cell? ⟨b, 1024 + o / 8 * 4 + 3, none⟩ = some (.int .i64 (A.wh (o / 8)).of) := by rw [PS.cell hb, Nat.mul_comm]; exact hs.of _ hg
  have f0 := blk_free hb (1024 + o / 8 * 4)
  have f1 := blk_free hb (1024 + o / 8 * 4 + 1)
  have f2 := blk_free hb (1024 + o / 8 * 4 + 2)
  have f3 := blk_free hb (1024 + o / 8 * 4 + 3)
  have hlb := at_lt hb
  have hwr : IntKind.i64.wrap ((o : Int) / 8) = (o : Int) / 8 := (IntWalk.i64_left _).trans (IntWalk.wrap64_in _ (by omega))
  have ha0 : 0 ≤ (o : Int) / 8 := by omega
  have ha1 : (o : Int) / 8 < 64 := by omega
  have ha2 : ((o : Int) / 8).toNat = o / 8 := by omega
  have hix := index34 w2.drew b ((o : Int) / 8) (o / 8) hg (by omega)
  refine wp_region_still_tail 7 (by kernel_rfl) (by kernel_rfl) ?_
  simp only [List.take_succ_cons, List.take_zero, List.drop_succ_cons, List.drop_zero]
  repeat still_step
  refine wpStill_nil ?_
  clear hix hwr
  go_upto_region 19 with fail
  have hb5 : (((((w2.setCell ⟨b, 1024 + o / 8 * 4, none⟩ (.int .u8 k)).setCell ⟨b, 1024 + o / 8 * 4 + 1, none⟩ (.int .u64 wd)).setCell ⟨b, 1024 + o / 8 * 4 + 2, none⟩ (.int .i64 rg)).setCell ⟨b, 1024 + o / 8 * 4 + 3, none⟩ (.int .i64 of)).drew).heap[b]? = some (.cells (setsFrom cs (1024 + 4 * (o / 8)) (C4.cs ⟨k, wd, rg, of⟩)).toArray 36 (0, 0)) := by
    have := put_cell (put_cell (put_cell (put_cell hb (1024 + o / 8 * 4) (.int .u8 k)) (1024 + o / 8 * 4 + 1) (.int .u64 wd)) (1024 + o / 8 * 4 + 2) (.int .i64 rg)) (1024 + o / 8 * 4 + 3) (.int .i64 of)
    rw [Nat.mul_comm 4 (o / 8)]
    exact this
  have ht5 : Turn b w2 (((((w2.setCell ⟨b, 1024 + o / 8 * 4, none⟩ (.int .u8 k)).setCell ⟨b, 1024 + o / 8 * 4 + 1, none⟩ (.int .u64 wd)).setCell ⟨b, 1024 + o / 8 * 4 + 2, none⟩ (.int .i64 rg)).setCell ⟨b, 1024 + o / 8 * 4 + 3, none⟩ (.int .i64 of)).drew) :=
    ((((Turn.set w2 b (1024 + o / 8 * 4) (.int .u8 k)).trans (Turn.set _ b (1024 + o / 8 * 4 + 1) (.int .u64 wd))).trans (Turn.set _ b (1024 + o / 8 * 4 + 2) (.int .i64 rg))).trans (Turn.set _ b (1024 + o / 8 * 4 + 3) (.int .i64 of))).drew
  generalize (((((w2.setCell ⟨b, 1024 + o / 8 * 4, none⟩ (.int .u8 k)).setCell ⟨b, 1024 + o / 8 * 4 + 1, none⟩ (.int .u64 wd)).setCell ⟨b, 1024 + o / 8 * 4 + 2, none⟩ (.int .i64 rg)).setCell ⟨b, 1024 + o / 8 * 4 + 3, none⟩ (.int .i64 of)).drew) = w5 at hb5 ht5 ⊢
  have HR5 := hide (show RSt w5 b (A.hold1 (o / 8) ⟨k, wd, rg, of⟩ 0) from ⟨_, hb5, hold1_rsl hs hg _⟩)
  have HT5 := hide ((Turn.of_below HB2.out).trans ht5)
  clear hb5 ht5 d0 d1 d2 d3 f0 f1 f2 f3 hb hs x0 x1 x2 x3 hlb ha0 ha1 ha2
  go_wp2_with fail
  go_loopw [11] (fun a wr => ∃ i : Nat, i ≤ 8 ∧ a = .int .i64 i ∧ RSt wr b (A.hold1 (o / 8) ⟨k, wd, rg, of⟩ i) ∧ Turn b w wr) (fun a _ => 8 - (intOf a).toNat)
  case atStart => exact ⟨0, Nat.zero_le _, rfl, HR5.out, HT5.out⟩
  case round =>
    obtain ⟨i, hi, rfl, hr, ht⟩ := hrel
    have HRr := hide hr
    have HTr := hide ht
    clear ht
    obtain ⟨cs2, hb2, hs2⟩ := hr
    by_cases hi8 : i < 8
    · have e8 : decide ((i : Int) < 8) = true := decide_eq_true (by omega)
      have m0 : wr.cell? ⟨b, 512 + (o + i), none⟩ = some (.bool ((A.hold1 (o / 8) ⟨k, wd, rg, of⟩ i).pl (o + i)).isSome) := by rw [PS.cell hb2]; exact hs2.set _ (by omega)
      have m1 := blk_free hb2 (512 + (o + i))
      have hlb := at_lt hb2
      have HB2r := hide hb2
      have HS2r := hide hs2
      clear hb2 hs2
      go_wp2
      go_roundw
      case rel =>
        have hus := unset_rsl HS2r.out hg hi8
        rw [show 512 + (8 * (o / 8) + i) = 512 + (o + i) by omega] at hus
        exact ⟨i + 1, by omega, by go_num, ⟨_, put_cell HB2r.out (512 + (o + i)) (.bool false), hus⟩, HTr.out.trans (Turn.set _ b (512 + (o + i)) (.bool false))⟩
      case measure => simp [intOf]; omega
    · have hie : i = 8 := by omega
      subst hie
      clear hb2 hs2
      go_wp2
      go_ret
      have := HRr.out
      rw [hold1_all] at this
      exact ⟨rfl, this, HTr.out⟩
/-- What the document's stack does when a cell is stored. -/
theorem rstore_any (b : Nat) (A : AS) (off n : Int) (c : C4) (w : World) (h : RSt w b A) (hok : A.Ok) (hwd : 0 ≤ c.wd ∧ c.wd < 18446744073709551616) :
    Calls Try.prog 23 #[.pointer (some ⟨b, 0, none⟩), .int .i64 off, .int .i64 n, c.val] w fun e w' => e = .returned (.int .i64 (storeM A off n c).1) ∧ RSt w' b (storeM A off n c).2 ∧ Turn b w w' := by
  by_cases hw : wholeB c = true ∧ groupedB off n = true ∧ (storeM A off n c).1 = 0
  · obtain ⟨hw1, hw2, hw3⟩ := hw
    obtain ⟨h1, h2, h3, h4, ⟨_, _, h5⟩ | ⟨h5, _⟩⟩ := store_ok hw3
    · rw [hw3, h5]
      obtain ⟨h6, h7⟩ := placed_of h3
      unfold groupedB at hw2
      simp only [Bool.and_eq_true, beq_iff_eq] at hw2
      obtain ⟨rfl, h8⟩ := hw2
      obtain ⟨o, rfl⟩ : ∃ o : Nat, off = o := ⟨off.toNat, by omega⟩
      rw [Int.toNat_natCast]
      unfold wholeB at hw1
      simp only [Bool.or_eq_true, beq_iff_eq] at hw1
      exact rstore_whole b A o c.k c.wd c.rg c.of w h hw1 h2 (by omega) (by omega)
    · rw [hw1] at h5; cases h5
  · exact rstore_word b A off n c w h hok hwd hw
end Go.Proofs.Ytkpoilcbdcddcaa
