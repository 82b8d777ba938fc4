/-
  A stack that nobody made tells nothing: CellNone's walk.
-/
import Derived.Test.YthgmbgncekfplaaAW
namespace Go.Proofs.Ythgmbgncekfplaa
open Go.RowKit
set_option linter.unusedVariables false
set_option linter.unusedSimpArgs false

/-- A stack that New did not make. -/
def NoS (p : Option Addr) (w0 : World) : Prop := ∀ W, Below w0.heap.size w0 W → Calls Try.prog 25 #[.pointer p] W fun e w' => e = .returned (.bool false) ∧ W = w'
set_option maxRecDepth 100000 in
set_option maxHeartbeats 2000000 in
theorem store_not (p : Option Addr) (off n : Int) (c : C4) (w : World) (h : NoS p w) (hk : 0 ≤ c.k ∧ c.k < 256) :
    Calls Try.prog 22 #[.pointer p, .int .i64 off, .int .i64 n, c.val] w fun e w' => e = .returned (.int .i64 1) ∧ Below w.heap.size w w' := by
  have HPt := hide (fun w => partsOf_any c w hk)
  obtain ⟨k, wd, rg, of⟩ := c
  have hbw := below1 w (.cells #[.int .u8 k, .int .u64 wd, .int .i64 rg, .int .i64 of] 33)
  have HBW := hide hbw
  have H := hide h
  simp only [C4.val, partsV, pv] at HPt ⊢
  clear h hbw
  go_enter Try.func22, Try.ntmps22
  go_wp2_with (first
    | (go_at_call 39; refine (HPt.out _).mono ?_; rintro e w1 ⟨rfl, hb⟩; have HB1 := hide (HBW.out.trans (hb.mono HBW.out.size)); clear hb)
    | (go_at_call 25; refine (H.out _ (HB1.out.trans ((below1 w1 _).mono HB1.out.size))).mono ?_; rintro e w2 ⟨rfl, rfl⟩)
    | fail)
  go_ret
  exact ⟨rfl, HB1.out.trans ((below1 w1 _).mono HB1.out.size)⟩
theorem Later.calls2 {P : Program} {f : FuncId} {args : Array Value} {w0 : World} {v : Value} (x : Later w0) (h : ∀ w, Below w0.heap.size w0 w → Calls P f args w fun e w' => e = .returned v ∧ Below w.heap.size w w') :
    Calls P f args x.w fun e w' => e = .returned v ∧ ∃ y : Later w0, w' = y.w :=
  (h x.w x.below).mono fun e w' ⟨he, hb⟩ => ⟨he, ⟨w', x.below.trans (hb.mono x.below.size)⟩, rfl⟩
theorem NoS.later {p : Option Addr} {w0 W : World} (h : NoS p w0) (hb : Below w0.heap.size w0 W) : NoS p W := fun W2 h2 => h W2 (hb.trans (h2.mono hb.size))
set_option maxRecDepth 100000 in
set_option maxHeartbeats 4000000 in
theorem law_cellNone (off n : Int) (c : C4) (S : Option Addr) (q sc : Nat) (w : World) (hk : 0 ≤ c.k ∧ c.k < 256) : Calls Try.prog 4 #[.int .i64 off, .int .i64 n, c.val, .slice S q sc] w fun e w' => e = .returned (.bool true) ∧ Below w.heap.size w w' := by
  obtain ⟨p, hp, hz⟩ := zero_stack
  have hp2 : p = zcells.toArray := hp
  subst hp2
  clear hp
  have HST := hide (fun p W (h : NoS p W) => store_not p off n c W h hk)
  obtain ⟨k, wd, rg, of⟩ := c
  simp only [C4.val] at HST ⊢
  go_enter Try.func4, Try.ntmps4
  go_wp2_with fail
  refine (awake_any _).mono ?_
  rintro e w1 ⟨rfl, hb⟩
  have HX1 := hide ((hb.block _ (by simp)).trans (World.alloc_heap_new w (.cells #[.int .u8 k, .int .u64 wd, .int .i64 rg, .int .i64 of] 33)))
  have HB1 := hide ((below1 w (.cells #[.int .u8 k, .int .u64 wd, .int .i64 rg, .int .i64 of] 33)).trans (hb.mono (by simp)))
  clear hb
  by_cases hq : 600 < q
  · have hd : decide (600 < (q : Int)) = true := decide_eq_true (by omega)
    go_wp2
    go_ret
    exact ⟨rfl, HB1.out⟩
  have hd : decide (600 < (q : Int)) = false := decide_eq_false (by omega)
  go_wp2
  have hx := two_boxes w1 (.cells zcells.toArray 58) (.cells #[.pointer none, .pointer (some ⟨w1.heap.size, 0, none⟩)] 25)
  have hb0 := below2 w1 (.cells zcells.toArray 58) (.cells #[.pointer none, .pointer (some ⟨w1.heap.size, 0, none⟩)] 25)
  generalize (w1.alloc (.cells zcells.toArray 58)).alloc (.cells #[.pointer none, .pointer (some ⟨w1.heap.size, 0, none⟩)] 25) = W0 at hx hb0 ⊢
  obtain ⟨hx0, hx1⟩ := hx
  have HS0 := hide hx1
  have HC0 := hide ((hb0.block _ (at_lt HX1.out)).trans HX1.out)
  have HB0 := hide (HB1.out.trans (hb0.mono HB1.out.size))
  have HN1 : Hid (NoS none W0) := fun W _ => made_nil W
  have HN2 : Hid (NoS (some ⟨w1.heap.size, 0, none⟩) W0) := fun W hb => made_no _ W ((hb.cell (p := ⟨w1.heap.size, 0, none⟩) (at_lt hx0)).trans (by rw [PS.cell hx0 0]; rfl))
  have HZ : Hid (∀ W, (zeroValue 33).run Try.prog W = .ok (.agg #[.int .u8 0, .int .u64 0, .int .i64 0, .int .i64 0]) W) := c4zero
  clear hx0 hx1 hb0 hz
  have hnq : ∀ W, (binOp .neq 33 (.agg #[.int .u8 0, .int .u64 0, .int .i64 0, .int .i64 0]) (.agg #[.int .u8 0, .int .u64 0, .int .i64 0, .int .i64 0])).run Try.prog W = .ok (.bool false) W := fun W => neq33 W 0 0 0 0 0 0 0 0
  go_loopw [10] (fun a wr => ∃ i : Nat, i ≤ 2 ∧ a = .int .i64 i ∧ Below W0.heap.size W0 wr) (fun a _ => 2 - (intOf a).toNat)
  case atStart => exact ⟨0, by omega, rfl, Below.refl _ _⟩
  case round =>
    obtain ⟨i, hi, rfl, hbr⟩ := hrel
    have HBR := hide hbr
    by_cases h2 : i = 2
    · subst h2
      clear hbr
      go_wp2
      go_ret
      exact ⟨rfl, HB0.out.trans (HBR.out.mono HB0.out.size)⟩
    have hsl := (hbr.block _ (at_lt HS0.out)).trans HS0.out
    have hcl := (hbr.block _ (at_lt HC0.out)).trans HC0.out
    have s0 := blk_cell hsl 0
    have s1 := blk_cell hsl 1
    simp at s0 s1
    have HSL := hide hsl
    have HCL := hide hcl
    have hlt := at_lt hsl
    clear hbr hsl hcl
    have h01 : i = 0 ∨ i = 1 := by omega
    rcases h01 with rfl | rfl
    · have HN := hide (HN1.out.later HBR.out)
      go_wp2_with fail
      refine (load_not none off n wr HN.out).mono ?_
      rintro e w2 ⟨rfl, hb2⟩
      have hx2 := World.alloc_heap_new w2 (.cells #[.int .u8 0, .int .u64 0, .int .i64 0, .int .i64 0] 33)
      have hb3 := hb2.trans ((below1 w2 (.cells #[.int .u8 0, .int .u64 0, .int .i64 0, .int .i64 0] 33)).mono hb2.size)
      have t0 := blk_cell ((hb3.block _ (at_lt HSL.out)).trans HSL.out) 0
      have t1 := blk_cell ((hb3.block _ (at_lt HSL.out)).trans HSL.out) 1
      simp at t0 t1
      have hz2 := hb2.size
      have HX2 := hide hx2
      have HB3 := hide hb3
      have s0' := blk_cell ((hb2.block _ (at_lt HSL.out)).trans HSL.out) 0
      have s1' := blk_cell ((hb2.block _ (at_lt HSL.out)).trans HSL.out) 1
      simp at s0' s1'
      clear hb2 hx2 hb3 s0 s1
      simp only [C4.val, c0]
      go_wp2_with fail
      generalize w2.alloc (.cells _ 33) = w3 at HX2 HB3 t0 t1 ⊢
      refine (read_not none off n w3 (HN.out.later HB3.out)).mono ?_
      rintro e w4 ⟨rfl, hb4⟩
      have HX4 := hide ((hb4.block _ (at_lt HX2.out)).trans HX2.out)
      have HB4 := hide (HB3.out.trans (hb4.mono HB3.out.size))
      clear hb4 t0 t1 s0' s1'
      go_wp2_with fail
      obtain ⟨l0, l1, l2, l3⟩ := later4 HX4.out
      obtain ⟨m0, m1⟩ := later2 ((HB4.out.block _ (at_lt HSL.out)).trans HSL.out)
      obtain ⟨k0, k1, k2, k3⟩ := later4 ((HB4.out.block _ (at_lt HCL.out)).trans HCL.out)
      have HN4 := hide (HN.out.later HB4.out)
      refine wp_region_later (by kernel_rfl) (by kernel_rfl) ?_
      repeat (go_big_quiet_step ((first | exact Later.calls2 _ (fun W hb => HST.out none W (HN4.out.later hb)) | exact Later.calls2 _ (fun W hb => write_not none off S q sc W (HN4.out.later hb)))))
      refine wpQuiet_nil ?_
      rintro _ ⟨x, rfl⟩
      have HE := hide (HB4.out.trans (x.below.mono HB4.out.size))
      clear l0 l1 l2 l3 m0 m1 k0 k1 k2 k3
      go_wp2
      go_roundw
      case rel => exact ⟨_, by decide, rfl, HBR.out.trans (HE.out.mono HBR.out.size)⟩
      case measure => simp [intOf]
    · have HN := hide (HN2.out.later HBR.out)
      go_wp2_with fail
      refine (load_not (some ⟨w1.heap.size, 0, none⟩) off n wr HN.out).mono ?_
      rintro e w2 ⟨rfl, hb2⟩
      have hx2 := World.alloc_heap_new w2 (.cells #[.int .u8 0, .int .u64 0, .int .i64 0, .int .i64 0] 33)
      have hb3 := hb2.trans ((below1 w2 (.cells #[.int .u8 0, .int .u64 0, .int .i64 0, .int .i64 0] 33)).mono hb2.size)
      have t0 := blk_cell ((hb3.block _ (at_lt HSL.out)).trans HSL.out) 0
      have t1 := blk_cell ((hb3.block _ (at_lt HSL.out)).trans HSL.out) 1
      simp at t0 t1
      have hz2 := hb2.size
      have HX2 := hide hx2
      have HB3 := hide hb3
      have s0' := blk_cell ((hb2.block _ (at_lt HSL.out)).trans HSL.out) 0
      have s1' := blk_cell ((hb2.block _ (at_lt HSL.out)).trans HSL.out) 1
      simp at s0' s1'
      clear hb2 hx2 hb3 s0 s1
      simp only [C4.val, c0]
      go_wp2_with fail
      generalize w2.alloc (.cells _ 33) = w3 at HX2 HB3 t0 t1 ⊢
      refine (read_not (some ⟨w1.heap.size, 0, none⟩) off n w3 (HN.out.later HB3.out)).mono ?_
      rintro e w4 ⟨rfl, hb4⟩
      have HX4 := hide ((hb4.block _ (at_lt HX2.out)).trans HX2.out)
      have HB4 := hide (HB3.out.trans (hb4.mono HB3.out.size))
      clear hb4 t0 t1 s0' s1'
      go_wp2_with fail
      obtain ⟨l0, l1, l2, l3⟩ := later4 HX4.out
      obtain ⟨m0, m1⟩ := later2 ((HB4.out.block _ (at_lt HSL.out)).trans HSL.out)
      obtain ⟨k0, k1, k2, k3⟩ := later4 ((HB4.out.block _ (at_lt HCL.out)).trans HCL.out)
      have HN4 := hide (HN.out.later HB4.out)
      refine wp_region_later (by kernel_rfl) (by kernel_rfl) ?_
      repeat (go_big_quiet_step ((first | exact Later.calls2 _ (fun W hb => HST.out (some ⟨w1.heap.size, 0, none⟩) W (HN4.out.later hb)) | exact Later.calls2 _ (fun W hb => write_not (some ⟨w1.heap.size, 0, none⟩) off S q sc W (HN4.out.later hb)))))
      refine wpQuiet_nil ?_
      rintro _ ⟨x, rfl⟩
      have HE := hide (HB4.out.trans (x.below.mono HB4.out.size))
      clear l0 l1 l2 l3 m0 m1 k0 k1 k2 k3
      go_wp2
      go_roundw
      case rel => exact ⟨_, by decide, rfl, HBR.out.trans (HE.out.mono HBR.out.size)⟩
      case measure => simp [intOf]
end Go.Proofs.Ythgmbgncekfplaa
