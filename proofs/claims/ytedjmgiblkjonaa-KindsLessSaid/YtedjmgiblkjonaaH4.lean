/-
  A type's fields; the error of a type, of whatever type.
-/
import Derived.Test.YtedjmgiblkjonaaH3
namespace Go.Proofs.Ytedjmgiblkjonaa
open Go.RowKit Go.Maps
set_option linter.unusedVariables false

theorem later6s {W0 : World} {b : Nat} {u0 u1 u2 u3 u4 u5 : Value} {t : TypeId} (h : W0.heap[b]? = some (.cells #[u0, u1, u2, u3, u4, u5] t (0, 0))) : (∀ y : Later W0, y.w.cell? ⟨b, 0, none⟩ = some u0) ∧ (∀ y : Later W0, y.w.cell? ⟨b, 1, none⟩ = some u1) ∧ (∀ y : Later W0, y.w.cell? ⟨b, 2, none⟩ = some u2) ∧ (∀ y : Later W0, y.w.cell? ⟨b, 3, none⟩ = some u3) ∧ (∀ y : Later W0, y.w.cell? ⟨b, 4, none⟩ = some u4) ∧ (∀ y : Later W0, y.w.cell? ⟨b, 5, none⟩ = some u5) :=
  ⟨Later.cell (by rw [blk_cell h]; rfl), Later.cell (by rw [blk_cell h]; rfl), Later.cell (by rw [blk_cell h]; rfl), Later.cell (by rw [blk_cell h]; rfl), Later.cell (by rw [blk_cell h]; rfl), Later.cell (by rw [blk_cell h]; rfl)⟩
set_option maxRecDepth 100000 in
set_option maxHeartbeats 2000000 in
theorem fields_any (nm : ByteArray) (ctx lo hi : Int) (F N : Option Addr) (n fc nn nc B : Nat) (l : List FieldM) (w : World) (hp : Rd w B 4 F n (fcells l)) (hB : B ≤ w.heap.size) (hn : n ≤ 1000000) (hnc : n ≤ fc) (hc : fc ≤ maxLen) :
    Calls Try.prog 48 #[.agg #[.string nm, .int .i64 ctx, .slice F n fc, .slice N nn nc, .int .i64 lo, .int .i64 hi]] w fun e w' => e = .returned (.bool (fieldsM ctx l)) ∧ Below w.heap.size w w' := by
  have hmf : ∀ (fn : Fn) (first cap : Array Value) (w : World), (Instr.makeFunc fn first cap).run Try.prog w = .ok (.func fn first cap) w := fun _ _ _ _ => rfl
  have HN : Hid (fieldsM ctx l = (riseM (fieldErr ctx) fieldAbv 22 l == 0 && (countM l 2 == countM l 3) && decide (countM l 2 ≤ 1))) := hide rfl
  have b1 := World.alloc_heap_new w (.cells #[.string nm, .int .i64 ctx, .slice F n fc, .slice N nn nc, .int .i64 lo, .int .i64 hi] 62)
  have l1 := below1 w (.cells #[.string nm, .int .i64 ctx, .slice F n fc, .slice N nn nc, .int .i64 lo, .int .i64 hi] 62)
  go_enter Try.func48, Try.ntmps48
  go_wp2_with fail
  refine name_call (fun W1 hW1 => ?_)
  rw [← hW1] at b1 l1
  clear hW1
  obtain ⟨c0, c1, c2, c3, c4, c5⟩ := later6s b1
  have hlw := l1.mono hB
  have hR := hide (rise_field F n fc B l (fieldErr ctx) fieldAbv w.heap.size 22 W1 (hp.below hlw) (Nat.le_trans hB l1.size) hn hnc hc (by decide)
    (fun x hx X hX => fieldErr_any x ctx w.heap.size X (c1 ⟨X, hX⟩)) (fun q hq x hx X hX => fieldAbv_any q x X))
  have hC2 : Hid (∀ y : Later W1, Calls Try.prog 83 #[.agg #[.string nm, .int .i64 ctx, .slice F n fc, .slice N nn nc, .int .i64 lo, .int .i64 hi], .int .u8 2] y.w fun e w' => e = .returned (.int .i64 (countM l 2)) ∧ Below y.w.heap.size y.w w') := hide (fun y =>
    count_any nm ctx lo hi 2 F N n fc nn nc B l y.w (hp.below (hlw.trans (y.below.mono (Nat.le_trans hB l1.size)))) (Nat.le_trans (Nat.le_trans hB l1.size) y.below.size) hn)
  have hC3 : Hid (∀ y : Later W1, Calls Try.prog 83 #[.agg #[.string nm, .int .i64 ctx, .slice F n fc, .slice N nn nc, .int .i64 lo, .int .i64 hi], .int .u8 3] y.w fun e w' => e = .returned (.int .i64 (countM l 3)) ∧ Below y.w.heap.size y.w w') := hide (fun y =>
    count_any nm ctx lo hi 3 F N n fc nn nc B l y.w (hp.below (hlw.trans (y.below.mono (Nat.le_trans hB l1.size)))) (Nat.le_trans (Nat.le_trans hB l1.size) y.below.size) hn)
  have L1 := hide l1
  generalize riseM (fieldErr ctx) fieldAbv 22 l = er at *
  generalize countM l 2 = n2 at *
  generalize countM l 3 = n3 at *
  clear hp b1 l1 hlw
  ((with_reducible refine hR.out.mono ?_))
  rintro e w1 ⟨rfl, hb⟩
  obtain ⟨x, rfl⟩ : ∃ x : Later W1, w1 = x.w := ⟨⟨w1, hb⟩, rfl⟩
  clear hb hR
  by_cases he : er = 0
  · subst he
    have HN2 : Hid (fieldsM ctx l = ((n2 == n3) && decide (n2 ≤ 1))) := hide (by rw [HN.out]; simp)
    clear HN
    go_wp2_with fail
    have d0 : ∀ y : Later x.w, y.w.cell? ⟨w.heap.size, 0, none⟩ = some (.string nm) := fun y => c0 ⟨y.w, x.below.trans (y.below.mono x.below.size)⟩
    have d1 : ∀ y : Later x.w, y.w.cell? ⟨w.heap.size, 1, none⟩ = some (.int .i64 ctx) := fun y => c1 ⟨y.w, x.below.trans (y.below.mono x.below.size)⟩
    have d2 : ∀ y : Later x.w, y.w.cell? ⟨w.heap.size, 2, none⟩ = some (.slice F n fc) := fun y => c2 ⟨y.w, x.below.trans (y.below.mono x.below.size)⟩
    have d3 : ∀ y : Later x.w, y.w.cell? ⟨w.heap.size, 3, none⟩ = some (.slice N nn nc) := fun y => c3 ⟨y.w, x.below.trans (y.below.mono x.below.size)⟩
    have d4 : ∀ y : Later x.w, y.w.cell? ⟨w.heap.size, 4, none⟩ = some (.int .i64 lo) := fun y => c4 ⟨y.w, x.below.trans (y.below.mono x.below.size)⟩
    have d5 : ∀ y : Later x.w, y.w.cell? ⟨w.heap.size, 5, none⟩ = some (.int .i64 hi) := fun y => c5 ⟨y.w, x.below.trans (y.below.mono x.below.size)⟩
    have hD2 : Hid (∀ y : Later x.w, Calls Try.prog 83 #[.agg #[.string nm, .int .i64 ctx, .slice F n fc, .slice N nn nc, .int .i64 lo, .int .i64 hi], .int .u8 2] y.w fun e w' => e = .returned (.int .i64 n2) ∧ Below y.w.heap.size y.w w') := hide (fun y : Later x.w => hC2.out ⟨y.w, x.below.trans (y.below.mono x.below.size)⟩)
    have hD3 : Hid (∀ y : Later x.w, Calls Try.prog 83 #[.agg #[.string nm, .int .i64 ctx, .slice F n fc, .slice N nn nc, .int .i64 lo, .int .i64 hi], .int .u8 3] y.w fun e w' => e = .returned (.int .i64 n3) ∧ Below y.w.heap.size y.w w') := hide (fun y : Later x.w => hC3.out ⟨y.w, x.below.trans (y.below.mono x.below.size)⟩)
    have LX := hide (L1.out.trans (x.below.mono L1.out.size))
    clear c0 c1 c2 c3 c4 c5 hC2 hC3
    refine wp_region_later (by kernel_rfl) (by kernel_rfl) ?_
    repeat (first | go_big_quiet_step (first | with_reducible exact Later.callsL _ hD2.out | with_reducible exact Later.callsL _ hD3.out) | (refine wpQuiet_step (fun K hK => ?_); go_simp; refine hK _ ?_; clear hK K))
    refine wpQuiet_nil ?_
    rintro _ ⟨y, rfl⟩
    have HX := hide (LX.out.trans (y.below.mono LX.out.size))
    clear d0 d1 d2 d3 d4 d5 hD2 hD3
    by_cases h23 : n2 = n3
    · subst h23
      have HN3 : Hid (fieldsM ctx l = decide (n2 ≤ 1)) := hide (by rw [HN2.out]; simp)
      clear HN2
      by_cases hle : n2 ≤ 1
      · have hd : decide ((n2 : Int) ≤ 1) = true := by simp; omega
        go_wp2
        go_ret
        exact ⟨by rw [HN3.out]; simp [hle], HX.out⟩
      · have hd : decide ((n2 : Int) ≤ 1) = false := by simp; omega
        go_wp2
        go_ret
        exact ⟨by rw [HN3.out]; simp [hle], HX.out⟩
    · have hd : ((n2 : Int) == (n3 : Int)) = false := by simp; omega
      have hd2 : (n2 == n3) = false := by simpa using h23
      have HN3 : Hid (fieldsM ctx l = false) := hide (by rw [HN2.out, hd2]; rfl)
      clear HN2 h23
      go_wp2
      go_ret
      exact ⟨by rw [HN3.out]; rfl, HX.out⟩
  · have he2 : (er == 0) = false := by simpa using he
    have he3 : (er != 0) = true := by simpa using he
    have HN2 : Hid (fieldsM ctx l = false) := hide (by rw [HN.out, he2]; rfl)
    have HX := hide (L1.out.trans (x.below.mono L1.out.size))
    clear HN he c0 c1 c2 c3 c4 c5 hC2 hC3
    go_wp2
    go_ret
    exact ⟨by rw [HN2.out]; rfl, HX.out⟩
end Go.Proofs.Ytedjmgiblkjonaa
