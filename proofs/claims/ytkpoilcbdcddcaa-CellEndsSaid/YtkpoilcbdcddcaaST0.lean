/-
  A stack is made; whether New made it.
-/
import Derived.Test.YtkpoilcbdcddcaaS2
namespace Go.Proofs.Ytkpoilcbdcddcaa
open Go.RowKit
set_option linter.unusedVariables false
set_option linter.unusedSimpArgs false

theorem stackInfo : (Try.prog.info? 58).isSome = true := by kernel_rfl
theorem eql_same (a : Addr) (w : World) : (binOp .eql 25 (.pointer (some a)) (.pointer (some a))).run Try.prog w = .ok (.bool true) w := by
  obtain ⟨j, hj⟩ := Option.isSome_iff_exists.1 stackInfo
  exact run_eql_ptr_same w a Try.underlying25 hj
theorem eql_none (a : Addr) (w : World) : (binOp .eql 25 (.pointer none) (.pointer (some a))).run Try.prog w = .ok (.bool false) w := by
  have h : ∀ d : Nat, (Op.equalIn (d + 1) 25 (.pointer none) (.pointer (some a))).run Try.prog w = .ok false w := fun d => by
    simp [Op.equalIn, run_underlying Try.underlying25]
  simp only [binOp]
  simp [Op.equal, Op.maxDepth, h 9999]
set_option maxRecDepth 100000 in
theorem made_yes (b : Nat) (A : AS) (w : World) (h : PS w b A) :
    Calls Try.prog 25 #[.pointer (some ⟨b, 0, none⟩)] w fun e w' => e = .returned (.bool true) ∧ w = w' := by
  obtain ⟨cs, hb, hs⟩ := h
  have c0 := (PS.cell hb 0).trans hs.self
  have hq := eql_same ⟨b, 0, none⟩ w
  clear hb hs
  go_enter Try.func25, Try.ntmps25
  go_wp2
  go_ret
  exact ⟨rfl, rfl⟩
theorem made_nil (w : World) : Calls Try.prog 25 #[.pointer none] w fun e w' => e = .returned (.bool false) ∧ w = w' := by
  go_enter Try.func25, Try.ntmps25
  go_wp2
  go_ret
  exact ⟨rfl, rfl⟩
set_option maxRecDepth 100000 in
theorem made_no (b : Nat) (w : World) (h : w.cell? ⟨b, 0, none⟩ = some (.pointer none)) :
    Calls Try.prog 25 #[.pointer (some ⟨b, 0, none⟩)] w fun e w' => e = .returned (.bool false) ∧ w = w' := by
  have hq := eql_none ⟨b, 0, none⟩ w
  go_enter Try.func25, Try.ntmps25
  go_wp2
  go_ret
  exact ⟨rfl, rfl⟩
/-- The zero stack's cells. -/
def zgrp : List Value := [.int .u8 0, .int .u64 0, .int .i64 0, .int .i64 0, .int .u8 0, .int .u8 0, .int .u8 0, .int .u8 0, .int .u8 0, .int .u8 0, .int .u8 0, .int .u8 0, .int .u8 0]
def zcells : List Value := .pointer none :: (List.range 64).flatMap (fun _ => zgrp)
def aggOf : Value → Option (Array Value)
  | .agg p => some p
  | _ => none
theorem zstack : (((Try.prog.info? 58).bind (·.zero)).bind aggOf).map (fun p => (Value.agg p).cells) = some zcells.toArray := by kernel_rfl
theorem zero_stack : ∃ p : Array Value, (Value.agg p).cells = zcells.toArray ∧ ∀ w, (zeroValue 58).run Try.prog w = .ok (.agg p) w := by
  have h := zstack
  rw [Option.map_eq_some_iff] at h
  obtain ⟨p, h1, h2⟩ := h
  rw [Option.bind_eq_some_iff] at h1
  obtain ⟨z, h1, h3⟩ := h1
  rw [Option.bind_eq_some_iff] at h1
  obtain ⟨i, h1, h4⟩ := h1
  refine ⟨p, h2, fun w => ?_⟩
  have hz : z = .agg p := by
    cases z <;> simp [aggOf] at h3
    rw [h3]
  subst hz
  simp [zeroValue, typeInfo, h1, h4]
theorem zcells_at (u : Value) (g j : Nat) (hg : g < 64) (hj : j < 13) : (zcells.set 0 u)[1 + 13 * g + j]? = zgrp[j]? := by
  rw [List.getElem?_set_ne (by omega)]
  unfold zcells
  rw [show 1 + 13 * g + j = (g * 13 + j) + 1 by omega, List.getElem?_cons_succ, flat_at (fun _ => zgrp) 13 (fun _ => rfl) (List.range 64) g j hj, List.getElem?_range hg]
  rfl
theorem zpsl (b : Nat) : PSL (zcells.set 0 (.pointer (some ⟨b, 0, none⟩))) b AS.none := by
  have hl : zcells.length = 833 := by
    unfold zcells
    rw [List.length_cons, flat_length (fun _ => zgrp) 13 (fun _ => rfl), List.length_range]
  refine ⟨by rw [List.length_set, hl], List.getElem?_set_self (by omega), fun g hg => ?_⟩
  have h := fun j hj => zcells_at (.pointer (some ⟨b, 0, none⟩)) g j hg hj
  refine ⟨h 0 (by omega), h 1 (by omega), h 2 (by omega), h 3 (by omega), ⟨0, by omega, h 4 (by omega), fun i hi => by simp [AS.none]⟩, fun i hi => ⟨0, ?_, fun x hx => by cases hx⟩⟩
  have h2 := h (5 + i) (by omega)
  rw [show 1 + 13 * g + (5 + i) = 1 + 13 * g + 5 + i by omega] at h2
  rw [h2]
  have hi' : i = 0 ∨ i = 1 ∨ i = 2 ∨ i = 3 ∨ i = 4 ∨ i = 5 ∨ i = 6 ∨ i = 7 := by omega
  rcases hi' with rfl | rfl | rfl | rfl | rfl | rfl | rfl | rfl <;> rfl
set_option maxRecDepth 100000 in
theorem new_any (w : World) : Calls Try.prog 10 #[] w fun e w' => e = .returned (.pointer (some ⟨w.heap.size, 0, none⟩)) ∧ PS w' w.heap.size AS.none ∧ Below w.heap.size w w' := by
  obtain ⟨p, hp, hb⟩ := zero_stack
  have hp2 : p = zcells.toArray := hp
  subst hp2
  have h0 : zcells[0]? = some (.pointer none) := rfl
  have hx := World.alloc_heap_new w (.cells zcells.toArray 58)
  have c0 := PS.cell hx 0
  rw [h0] at c0
  have f0 := blk_free hx 0
  have h1 := put_cell hx 0 (.pointer (some ⟨w.heap.size, 0, none⟩))
  have HB := hide ((below1 w (.cells zcells.toArray 58)).setCell (p := ⟨w.heap.size, 0, none⟩) (Nat.le_refl _) (.pointer (some ⟨w.heap.size, 0, none⟩)))
  have H1 := hide h1
  have hlt : 0 < zcells.length := by decide
  clear hp hx h1
  go_enter Try.func10, Try.ntmps10
  go_wp2
  go_ret
  exact ⟨rfl, ⟨_, World.alloc_heap_new w _, zpsl _⟩, below1 w _⟩
end Go.Proofs.Ytkpoilcbdcddcaa
