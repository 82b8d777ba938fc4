/-
  A helper with a key alone.
-/
import Derived.Test.YtedjmgiblkjonaaD1
namespace Go.Proofs.Ytedjmgiblkjonaa
open Go.RowKit Go.Maps
set_option linter.unusedVariables false

def keyV : Value := .agg #[.int .u8 4, .int .i64 0, .int .i64 0, .slice none 0 0]
set_option maxRecDepth 100000 in
theorem numbers_key (w : World) : Calls Try.prog 60 #[keyV] w fun e w' => e = .returned (.bool true) ∧ Below w.heap.size w w' := by
  have hF := hide (fun w => from_ak 1 9 w)
  have hH : Hid (∀ w, Calls Try.prog 90 #[.agg #[.int .u8 1, .int .u8 9], .int .u8 4] w fun e w' => e = .returned (.bool true) ∧ Below w.heap.size w w') := hide (fun w => has_ak 1 9 4 w)
  obtain ⟨c0, c1, c2, c3⟩ := later4 (World.alloc_heap_new w (.cells #[.int .u8 4, .int .i64 0, .int .i64 0, .slice none 0 0] 46))
  unfold keyV
  go_enter Try.func60, Try.ntmps60
  go_wp2
  refine wp_region_later (by kernel_rfl) (by kernel_rfl) ?_
  repeat (go_big_quiet_step ((first | exact Later.calls _ hF.out | exact Later.calls _ hH.out)))
  refine wpQuiet_nil ?_
  rintro _ ⟨x, rfl⟩
  have HX := hide (below1c x.below)
  clear c0 c1 c2 c3
  go_wp2
  go_ret
  exact ⟨rfl, HX.out⟩
theorem maps_key (b : Nat) (w : World) : Calls Try.prog 61 #[.map (some b), keyV] w fun e w' => e = .returned (.bool true) ∧ Below w.heap.size w w' := by
  unfold keyV
  go_enter Try.func61, Try.ntmps61
  go_wp2
  go_ret
  exact ⟨rfl, below2 _ _ _⟩
theorem paired_key (v u : Value) (w : World) : Calls Try.prog 62 #[v, keyV, u] w fun e w' => e = .returned (.bool true) ∧ Below w.heap.size w w' := by
  unfold keyV
  go_enter Try.func62, Try.ntmps62
  go_wp2
  go_ret
  exact ⟨rfl, below1 _ _⟩
theorem mapsOf_nil (A : Option Addr) (c : Nat) (w : World) : Calls Try.prog 64 #[.slice A 0 c] w fun e w' => e = .returned (.slice none 0 0) ∧ w = w' := by
  go_enter Try.func64, Try.ntmps64
  go_wp2
  go_loop [7] (fun i => i = .int .i64 0) (fun _ => 0)
  case atStart => rfl
  case round =>
    subst hrel
    go_wp2
    go_ret
    exact ⟨rfl, rfl⟩
theorem every_nil (f : Value) (w : World) : Calls Try.prog 65 #[.slice none 0 0, f] w fun e w' => e = .returned (.bool false) ∧ w = w' := by
  go_enter Try.func65, Try.ntmps65
  go_wp2
  go_loop [9] (fun i => i = .int .i64 0) (fun _ => 0)
  case atStart => rfl
  case round =>
    subst hrel
    go_wp2
    go_ret
    exact ⟨rfl, rfl⟩
theorem suits_key (b : Nat) (w : World) : Calls Try.prog 63 #[.map (some b), .slice none 0 0, keyV] w fun e w' => e = .returned (.bool false) ∧ Below w.heap.size w w' := by
  have hmf : ∀ (fn : Fn) (first cap : Array Value) (w : World), (Instr.makeFunc fn first cap).run Try.prog w = .ok (.func fn first cap) w := fun _ _ _ _ => rfl
  have hE := hide (fun f w => every_nil f w)
  unfold keyV
  go_enter Try.func63, Try.ntmps63
  go_wp2_with (go_at_call 65; ((with_reducible refine (hE.out _ _).mono ?_)); rintro e w1 ⟨rfl, rfl⟩)
  go_ret
  exact ⟨rfl, below2 _ _ _⟩
end Go.Proofs.Ytedjmgiblkjonaa
