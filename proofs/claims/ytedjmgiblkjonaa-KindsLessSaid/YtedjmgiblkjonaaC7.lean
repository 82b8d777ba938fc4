/-
  The document's examples of types.
-/
import Derived.Test.YtedjmgiblkjonaaC6
namespace Go.Proofs.Ytedjmgiblkjonaa
open Go.RowKit Go.Maps
set_option linter.unusedVariables false

def exF : FieldM := ⟨4, 8, 1, false⟩
set_option maxRecDepth 100000 in
theorem lies_no (w : World) : Calls Try.prog 79 #[.agg #[.int .i64 4, .int .i64 8, .int .u8 1, .bool false], .int .i64 8] w fun e w' => e = .returned (.bool false) ∧ Below w.heap.size w w' := by
  have hF := hide (fun w => from_int 0 0 w)
  have hH : Hid (∀ w, Calls Try.prog 28 #[.agg #[.int .i64 0, .int .i64 0], .int .i64 4] w fun e w' => e = .returned (.bool false) ∧ Below w.heap.size w w') := hide (fun w => has_int 0 0 4 w)
  obtain ⟨c0, c1, c2, c3⟩ := later4 (World.alloc_heap_new w (.cells #[.int .i64 4, .int .i64 8, .int .u8 1, .bool false] 65))
  go_enter Try.func79, Try.ntmps79
  go_wp2
  refine wp_region_later (by kernel_rfl) (by kernel_rfl) ?_
  repeat (go_big_quiet_step ((first | exact Later.calls _ hF.out | exact Later.calls _ hH.out)))
  refine wpQuiet_nil ?_
  rintro _ ⟨x, rfl⟩
  have HX := hide (below1c x.below)
  clear c0 c1 c2 c3
  go_wp2
  go_ret
  exact ⟨rfl, HX.out⟩
theorem field_no (bt : Nat) (w : World) (hb : w.cell? ⟨bt, 1, none⟩ = some (.int .i64 8)) : Calls Try.prog 78 #[exF.v, .pointer (some ⟨bt, 0, none⟩)] w fun e w' => e = .returned (.int .i64 22) ∧ Below w.heap.size w w' := by
  have hL := hide (fun w => lies_no w)
  have hlt := World.block_lt_of_cell? w _ hb
  simp only [exF, FieldM.v]
  go_enter Try.func78, Try.ntmps78
  go_wp2_with (first
    | (go_at_call 79; ((with_reducible refine (hL.out _).mono ?_)); rintro e w1 ⟨rfl, hb1⟩; have HB := hide (below1c hb1); clear hb1)
    | (go_at_call 31; ((with_reducible refine (unless_any _ _ _).mono ?_)); rintro e w1 ⟨rfl, rfl⟩))
  go_ret
  exact ⟨rfl, HB.out⟩
theorem count_nil (s : ByteArray) (cx lo hi k : Int) (w : World) : Calls Try.prog 83 #[.agg #[.string s, .int .i64 cx, .slice none 0 0, .slice none 0 0, .int .i64 lo, .int .i64 hi], .int .u8 k] w fun e w' => e = .returned (.int .i64 0) ∧ Below w.heap.size w w' := by
  go_enter Try.func83, Try.ntmps83
  go_wp2
  go_loop [5, 11] (fun n i => n = .int .i64 0 ∧ i = .int .i64 0) (fun _ _ => 0)
  case atStart => exact ⟨rfl, rfl⟩
  case round =>
    obtain ⟨rfl, rfl⟩ := hrel
    go_wp2
    go_ret
    exact ⟨rfl, below1 _ _⟩
set_option maxRecDepth 100000 in
set_option maxHeartbeats 1000000 in
theorem fields_yes (s : ByteArray) (lo hi : Int) (w : World) : Calls Try.prog 48 #[.agg #[.string s, .int .i64 8, .slice none 0 0, .slice none 0 0, .int .i64 lo, .int .i64 hi]] w fun e w' => e = .returned (.bool true) ∧ Below w.heap.size w w' := by
  have hmf : ∀ (fn : Fn) (first cap : Array Value) (w : World), (Instr.makeFunc fn first cap).run Try.prog w = .ok (.func fn first cap) w := fun _ _ _ _ => rfl
  have hR := hide (fun (bo : Nat) (w : World) => riseField_first none 0 0 w.heap.size [] (fun _ => 1) bo 22 w Rd.nil (Nat.le_refl _) (by omega) (by omega) (by unfold maxLen; omega) (by omega) (by simp) (by simp))
  have hC := hide (fun k w => count_nil s 8 lo hi k w)
  have hx := World.alloc_heap_new w (.cells #[.string s, .int .i64 8, .slice none 0 0, .slice none 0 0, .int .i64 lo, .int .i64 hi] 62)
  go_enter Try.func48, Try.ntmps48
  go_wp2_with fail
  refine name_call (fun W1 hW1 => ?_)
  have hz := below1 w (.cells #[.string s, .int .i64 8, .slice none 0 0, .slice none 0 0, .int .i64 lo, .int .i64 hi] 62)
  rw [← hW1] at hx hz
  clear hW1
  (with_reducible refine (Later.calls0 (hR.out _)).mono ?_)
  rintro e w1 ⟨rfl, x, rfl⟩
  have hb := hide (hz.trans (x.below.mono hz.size))
  have hxx := (x.below.block _ (at_lt hx)).trans hx
  obtain ⟨c0, c1, c2, c3, c4, c5⟩ := later6 hxx
  clear hx hz hxx
  go_wp2
  refine wp_region_later (by kernel_rfl) (by kernel_rfl) ?_
  repeat (go_big_quiet_step ((exact Later.calls _ (hC.out _))))
  refine wpQuiet_nil ?_
  rintro _ ⟨y, rfl⟩
  have HX := hide (hb.out.trans (y.below.mono hb.out.size))
  clear c0 c1 c2 c3 c4 c5
  go_wp2
  go_ret
  exact ⟨rfl, HX.out⟩
set_option maxRecDepth 100000 in
set_option maxHeartbeats 1000000 in
theorem fields_no (s : ByteArray) (A : Option Addr) (c : Nat) (lo hi : Int) (w : World) (hrd : Rd w w.heap.size 4 A 1 (fcells [exF])) (h1c : 1 ≤ c) (hc : c ≤ maxLen) :
    Calls Try.prog 48 #[.agg #[.string s, .int .i64 8, .slice A 1 c, .slice none 0 0, .int .i64 lo, .int .i64 hi]] w fun e w' => e = .returned (.bool false) ∧ Below w.heap.size w w' := by
  have hmf : ∀ (fn : Fn) (first cap : Array Value) (w : World), (Instr.makeFunc fn first cap).run Try.prog w = .ok (.func fn first cap) w := fun _ _ _ _ => rfl
  have hx := World.alloc_heap_new w (.cells #[.string s, .int .i64 8, .slice A 1 c, .slice none 0 0, .int .i64 lo, .int .i64 hi] 62)
  have hc1 := blk_cell hx 1
  simp at hc1
  have HRD := hide hrd
  have HC := hide hc
  clear hrd hc
  go_enter Try.func48, Try.ntmps48
  go_wp2_with fail
  refine name_call (fun W1 hW1 => ?_)
  have hz := below1 w (.cells #[.string s, .int .i64 8, .slice A 1 c, .slice none 0 0, .int .i64 lo, .int .i64 hi] 62)
  rw [← hW1] at hx hz
  have hc1 := blk_cell hx 1
  simp at hc1
  have hlt := at_lt hx
  clear hW1
  refine (riseField_first A 1 c w.heap.size [exF] (fun _ => 22) w.heap.size 22 W1 (HRD.out.below hz) hz.size (by omega) h1c HC.out (by omega) (by simp) (fun x hx X hX => ?_)).mono ?_
  · rw [List.mem_singleton] at hx
    subst hx
    exact field_no _ X ((hX.cell (p := ⟨w.heap.size, 1, none⟩) hlt).trans hc1)
  rintro e w1 ⟨rfl, hb⟩
  have HB := hide (hz.trans (hb.mono hz.size))
  have hr : riseM (fun _ : FieldM => (22 : Int)) (fun _ _ => true) 22 [exF] = 22 := rfl
  rw [hr]
  clear hx hz hb hr hc1
  go_wp2
  go_ret
  exact ⟨rfl, HB.out⟩
set_option maxRecDepth 100000 in
set_option maxHeartbeats 2000000 in
theorem type_yes (w : World) : Calls Try.prog 21 #[.agg #[.string ⟨#[116]⟩, .int .i64 8, .slice none 0 0, .slice none 0 0, .int .i64 0, .int .i64 1]] w fun e w' => e = .returned (.int .i64 0) ∧ Below w.heap.size w w' := by
  have hNm : Hid (∀ w, Calls Try.prog 10 #[.string ⟨#[116]⟩] w fun e w' => e = .returned (.bool true) ∧ Below w.heap.size w w') := hide (fun w => name_any ⟨#[116]⟩ w (by unfold maxLen; decide))
  have hF := hide (fun w => from_int 8 256 w)
  have hH : Hid (∀ w, Calls Try.prog 28 #[.agg #[.int .i64 8, .int .i64 256], .int .i64 8] w fun e w' => e = .returned (.bool true) ∧ Below w.heap.size w w') := hide (fun w => has_int 8 256 8 w)
  have hN := hide (fun w => riseNeed_nil none 0 34 w)
  have hFl := hide (fun w => fields_yes ⟨#[116]⟩ 0 1 w)
  have hx := World.alloc_heap_new w (.cells #[.string ⟨#[116]⟩, .int .i64 8, .slice none 0 0, .slice none 0 0, .int .i64 0, .int .i64 1] 62)
  go_enter Try.func21, Try.ntmps21
  go_wp2_with fail
  refine name_call (fun W1 hW1 => ?_)
  have hz := below1 w (.cells #[.string ⟨#[116]⟩, .int .i64 8, .slice none 0 0, .slice none 0 0, .int .i64 0, .int .i64 1] 62)
  rw [← hW1] at hx hz
  clear hW1
  have HZ := hide hz
  obtain ⟨d0, d1, d2, d3, d4, d5⟩ := later6 hx
  clear hz hx
  (with_reducible refine (Later.calls0 hNm.out).mono ?_)
  rintro e w1 ⟨rfl, x, rfl⟩
  have c0 : ∀ y : Later x.w, y.w.cell? ⟨w.heap.size, 0, none⟩ = some _ := fun y => d0 ⟨y.w, x.below.trans (y.below.mono x.below.size)⟩
  have c1 : ∀ y : Later x.w, y.w.cell? ⟨w.heap.size, 1, none⟩ = some _ := fun y => d1 ⟨y.w, x.below.trans (y.below.mono x.below.size)⟩
  have c2 : ∀ y : Later x.w, y.w.cell? ⟨w.heap.size, 2, none⟩ = some _ := fun y => d2 ⟨y.w, x.below.trans (y.below.mono x.below.size)⟩
  have c3 : ∀ y : Later x.w, y.w.cell? ⟨w.heap.size, 3, none⟩ = some _ := fun y => d3 ⟨y.w, x.below.trans (y.below.mono x.below.size)⟩
  have c4 : ∀ y : Later x.w, y.w.cell? ⟨w.heap.size, 4, none⟩ = some _ := fun y => d4 ⟨y.w, x.below.trans (y.below.mono x.below.size)⟩
  have c5 : ∀ y : Later x.w, y.w.cell? ⟨w.heap.size, 5, none⟩ = some _ := fun y => d5 ⟨y.w, x.below.trans (y.below.mono x.below.size)⟩
  have HX := hide (HZ.out.trans (x.below.mono HZ.out.size))
  clear d0 d1 d2 d3 d4 d5
  go_wp2
  refine wp_region_later (by kernel_rfl) (by kernel_rfl) ?_
  repeat (go_big_quiet_step ((first | exact Later.calls _ hF.out | exact Later.calls _ hH.out)))
  refine wpQuiet_nil ?_
  rintro _ ⟨y, rfl⟩
  go_wp2_with (first
    | (go_at_call 48; ((with_reducible refine (Later.calls _ hFl.out).mono ?_)); rintro e w1 ⟨rfl, y, rfl⟩)
    | (go_at_call 49; ((with_reducible refine (Later.calls _ hN.out).mono ?_)); rintro e w1 ⟨rfl, y, rfl⟩)
    | (go_at_call 31; ((with_reducible refine (unless_any _ _ _).mono ?_)); rintro e w1 ⟨rfl, rfl⟩))
  go_ret
  exact ⟨rfl, HX.out.trans ((Later.below _).mono HX.out.size)⟩
set_option maxRecDepth 100000 in
set_option maxHeartbeats 2000000 in
theorem type_no (A : Option Addr) (c : Nat) (w : World) (hrd : Rd w w.heap.size 4 A 1 (fcells [exF])) (h1c : 1 ≤ c) (hc : c ≤ maxLen) : Calls Try.prog 21 #[.agg #[.string ⟨#[116]⟩, .int .i64 8, .slice A 1 c, .slice none 0 0, .int .i64 0, .int .i64 1]] w fun e w' => e = .returned (.int .i64 22) ∧ Below w.heap.size w w' := by
  have hNm : Hid (∀ w, Calls Try.prog 10 #[.string ⟨#[116]⟩] w fun e w' => e = .returned (.bool true) ∧ Below w.heap.size w w') := hide (fun w => name_any ⟨#[116]⟩ w (by unfold maxLen; decide))
  have hF := hide (fun w => from_int 8 256 w)
  have hH : Hid (∀ w, Calls Try.prog 28 #[.agg #[.int .i64 8, .int .i64 256], .int .i64 8] w fun e w' => e = .returned (.bool true) ∧ Below w.heap.size w w') := hide (fun w => has_int 8 256 8 w)
  have HRD := hide hrd
  have HC := hide hc
  clear hrd hc
  have hx := World.alloc_heap_new w (.cells #[.string ⟨#[116]⟩, .int .i64 8, .slice A 1 c, .slice none 0 0, .int .i64 0, .int .i64 1] 62)
  go_enter Try.func21, Try.ntmps21
  go_wp2_with fail
  refine name_call (fun W1 hW1 => ?_)
  have hz := below1 w (.cells #[.string ⟨#[116]⟩, .int .i64 8, .slice A 1 c, .slice none 0 0, .int .i64 0, .int .i64 1] 62)
  rw [← hW1] at hx hz
  clear hW1
  have HZ := hide hz
  obtain ⟨d0, d1, d2, d3, d4, d5⟩ := later6 hx
  clear hz hx
  (with_reducible refine (Later.calls0 hNm.out).mono ?_)
  rintro e w1 ⟨rfl, x, rfl⟩
  have c0 : ∀ y : Later x.w, y.w.cell? ⟨w.heap.size, 0, none⟩ = some _ := fun y => d0 ⟨y.w, x.below.trans (y.below.mono x.below.size)⟩
  have c1 : ∀ y : Later x.w, y.w.cell? ⟨w.heap.size, 1, none⟩ = some _ := fun y => d1 ⟨y.w, x.below.trans (y.below.mono x.below.size)⟩
  have c2 : ∀ y : Later x.w, y.w.cell? ⟨w.heap.size, 2, none⟩ = some _ := fun y => d2 ⟨y.w, x.below.trans (y.below.mono x.below.size)⟩
  have c3 : ∀ y : Later x.w, y.w.cell? ⟨w.heap.size, 3, none⟩ = some _ := fun y => d3 ⟨y.w, x.below.trans (y.below.mono x.below.size)⟩
  have c4 : ∀ y : Later x.w, y.w.cell? ⟨w.heap.size, 4, none⟩ = some _ := fun y => d4 ⟨y.w, x.below.trans (y.below.mono x.below.size)⟩
  have c5 : ∀ y : Later x.w, y.w.cell? ⟨w.heap.size, 5, none⟩ = some _ := fun y => d5 ⟨y.w, x.below.trans (y.below.mono x.below.size)⟩
  have HX := hide (HZ.out.trans (x.below.mono HZ.out.size))
  clear d0 d1 d2 d3 d4 d5
  go_wp2
  refine wp_region_later (by kernel_rfl) (by kernel_rfl) ?_
  repeat (go_big_quiet_step ((first | exact Later.calls _ hF.out | exact Later.calls _ hH.out)))
  refine wpQuiet_nil ?_
  rintro _ ⟨y, rfl⟩
  have hFl : Hid (∀ z : Later x.w, Calls Try.prog 48 #[.agg #[.string ⟨#[116]⟩, .int .i64 8, .slice A 1 c, .slice none 0 0, .int .i64 0, .int .i64 1]] z.w fun e w' => e = .returned (.bool false) ∧ Below z.w.heap.size z.w w') := hide (fun z =>
    fields_no ⟨#[116]⟩ A c 0 1 z.w (((HRD.out.below HX.out).mono HX.out.size).below z.below |>.mono z.below.size) h1c HC.out)
  go_wp2_with (first
    | (go_at_call 48; ((with_reducible refine (Later.callsL _ hFl.out).mono ?_)); rintro e w1 ⟨rfl, y, rfl⟩))
  go_ret
  exact ⟨rfl, HX.out.trans ((Later.below _).mono HX.out.size)⟩
end Go.Proofs.Ytedjmgiblkjonaa
