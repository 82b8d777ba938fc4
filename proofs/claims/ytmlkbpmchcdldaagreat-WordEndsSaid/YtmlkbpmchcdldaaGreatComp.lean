/-
  What 'compute' tells: it makes the table, and asks it.
-/
import Derived.Test.YtmlkbpmchcdldaaGreatTell
import Derived.Deep.RegionWith
namespace Go.Proofs.YtmlkbpmchcdldaaGreat
open Go.RowKit Go.Maps
set_option linter.unusedVariables false

theorem made64 (w : World) : Calls Tryz.prog 29 #[] w fun e w' => ∃ (bm : Nat) (p : Addr) (es : Array MapEntry) (clock : Nat), e = .returned (.map (some bm)) ∧ Below w.heap.size w w' ∧
    (bm < w'.heap.size ∧ p.block < w'.heap.size ∧ w'.heap[bm]? = some (.map es clock) ∧ w'.cell? p = some (.int .u64 64) ∧ HasJust es (pairs64 p ++ [(key 176 32, .func (.func 61) #[] #[])])) := by
  refine (ops64 w).mono ?_
  rintro e w' ⟨es, clock, he, hb, hs, hh, hc, hj⟩
  exact ⟨_, _, es, clock, he, hb, by rw [hs]; omega, by show w.heap.size < _; rw [hs]; omega, hh, hc, hj⟩

/-- What is told at a key, whatever world the table lies in. -/
def Tells64 (op off a b r : Int) (ok : Bool) : Prop := ∀ (W : World) (bm : Nat) (p : Addr) (es : Array MapEntry) (clock : Nat),
  (bm < W.heap.size ∧ p.block < W.heap.size ∧ W.heap[bm]? = some (.map es clock) ∧ W.cell? p = some (.int .u64 64) ∧ HasJust es (pairs64 p ++ [(key 176 32, .func (.func 61) #[] #[])])) →
  Calls Tryz.prog 30 #[.map (some bm), .agg #[.int .u8 op, .int .i16 off], .int .u64 a, .int .u64 b] W fun e w' => e = .returned (.tuple #[.int .u64 r, .bool ok]) ∧ W.alloc (Obj.cells #[.int .u8 op, .int .i16 off] 38) = w'

theorem below_box64 {w w1 : World} {c : Array Value} {t : TypeId} (h : Below (w.alloc (Obj.cells c t)).drew.heap.size (w.alloc (Obj.cells c t)).drew w1) (o : Obj) : Below w.heap.size w (w1.alloc o) := by
  have h0 : Below w.heap.size w (w.alloc (Obj.cells c t)).drew := ((Below.refl _ _).alloc (Nat.le_refl _) _).drew
  have h1 := h0.trans (h.mono (by simp))
  exact h1.alloc h1.size _

set_option maxRecDepth 100000 in
set_option maxHeartbeats 400000 in
theorem compute64_of (op off a b r : Int) (ok : Bool) (w : World) (HT : Tells64 op off a b r ok) :
    Calls Tryz.prog 15 #[.agg #[.int .u8 op, .int .i16 off], .int .u64 a, .int .u64 b] w fun e w' => e = .returned (.tuple #[.int .u64 (r), .bool ok]) ∧ Below w.heap.size w w' := by
  go_enter Tryz.func15, Tryz.ntmps15
  go_wp2_with (fail)
  go_region_with (first
    | (go_at_call 29; refine (made64 _).mono ?_; rintro e w1 ⟨bm, p, es, clock, rfl, hb1, hh1⟩; have k0 := (hb1.cell (p := ⟨w.heap.size, 0, none⟩) (by simp)).trans (show _ = some (Value.int .u8 op) by simp); have k1 := (hb1.cell (p := ⟨w.heap.size, 1, none⟩) (by simp)).trans (show _ = some (Value.int .i16 off) by simp); have HB := put_by hb1; have HH := put_by hh1; clear hb1 hh1)
    | (go_at_call 30; refine (HT _ bm p es clock HH.out).mono ?_; rintro e w2 ⟨rfl, rfl⟩; clear k0 k1))
  all_goals go_wp2_with (fail)
  all_goals go_ret2
  all_goals exact ⟨rfl, below_box64 HB.out _⟩

theorem made32 (w : World) : Calls Tryz.prog 31 #[] w fun e w' => ∃ (bm : Nat) (p : Addr) (es : Array MapEntry) (clock : Nat), e = .returned (.map (some bm)) ∧ Below w.heap.size w w' ∧
    (bm < w'.heap.size ∧ p.block < w'.heap.size ∧ w'.heap[bm]? = some (.map es clock) ∧ w'.cell? p = some (.int .u32 32) ∧ HasJust es (pairs32 p)) := by
  refine (ops32 w).mono ?_
  rintro e w' ⟨es, clock, he, hb, hs, hh, hc, hj⟩
  exact ⟨_, _, es, clock, he, hb, by rw [hs]; omega, by show w.heap.size < _; rw [hs]; omega, hh, hc, hj⟩

/-- What is told at a key, whatever world the table lies in. -/
def Tells32 (op off a b r : Int) (ok : Bool) : Prop := ∀ (W : World) (bm : Nat) (p : Addr) (es : Array MapEntry) (clock : Nat),
  (bm < W.heap.size ∧ p.block < W.heap.size ∧ W.heap[bm]? = some (.map es clock) ∧ W.cell? p = some (.int .u32 32) ∧ HasJust es (pairs32 p)) →
  Calls Tryz.prog 32 #[.map (some bm), .agg #[.int .u8 op, .int .i16 off], .int .u32 a, .int .u32 b] W fun e w' => e = .returned (.tuple #[.int .u32 r, .bool ok]) ∧ W.alloc (Obj.cells #[.int .u8 op, .int .i16 off] 38) = w'

theorem below_box32 {w w1 : World} {c : Array Value} {t : TypeId} (h : Below (w.alloc (Obj.cells c t)).drew.heap.size (w.alloc (Obj.cells c t)).drew w1) (o : Obj) : Below w.heap.size w (w1.alloc o) := by
  have h0 : Below w.heap.size w (w.alloc (Obj.cells c t)).drew := ((Below.refl _ _).alloc (Nat.le_refl _) _).drew
  have h1 := h0.trans (h.mono (by simp))
  exact h1.alloc h1.size _

set_option maxRecDepth 100000 in
set_option maxHeartbeats 400000 in
theorem compute32_of (op off a b r : Int) (ok : Bool) (w : World) (HT : Tells32 op off a b r ok) :
    Calls Tryz.prog 16 #[.agg #[.int .u8 op, .int .i16 off], .int .u32 a, .int .u32 b] w fun e w' => e = .returned (.tuple #[.int .u64 (IntKind.u64.wrap r), .bool ok]) ∧ Below w.heap.size w w' := by
  go_enter Tryz.func16, Tryz.ntmps16
  go_wp2_with (fail)
  go_region_with (first
    | (go_at_call 31; refine (made32 _).mono ?_; rintro e w1 ⟨bm, p, es, clock, rfl, hb1, hh1⟩; have k0 := (hb1.cell (p := ⟨w.heap.size, 0, none⟩) (by simp)).trans (show _ = some (Value.int .u8 op) by simp); have k1 := (hb1.cell (p := ⟨w.heap.size, 1, none⟩) (by simp)).trans (show _ = some (Value.int .i16 off) by simp); have HB := put_by hb1; have HH := put_by hh1; clear hb1 hh1)
    | (go_at_call 32; refine (HT _ bm p es clock HH.out).mono ?_; rintro e w2 ⟨rfl, rfl⟩; clear k0 k1))
  all_goals go_wp2_with (fail)
  all_goals go_ret2
  all_goals exact ⟨rfl, below_box32 HB.out _⟩

end Go.Proofs.YtmlkbpmchcdldaaGreat
