/-
  What may not be is a panic, which a deferred call recovers: demand, tried.
-/
import Derived.Test.YtolodcdhpnapmaaGreatAA
namespace Go.Proofs.YtolodcdhpnapmaaGreat
open Go.RowKit
set_option linter.unusedVariables false

def panicOf (n : Int) : List PanicEntry := [{ v := .iface 27 (.int .i64 n), recovered := false }]
theorem demand_yes (n : Int) (w : World) : Calls Tryz.prog 12 #[.bool true, .int .i64 n] w fun e w' => e = .returned (.tuple #[]) ∧ w = w' := by
  go_enter Tryz.func12, Tryz.ntmps12
  go_wp2
  go_end0
  exact ⟨rfl, rfl⟩
theorem demand_no (n : Int) (w : World) : Calls Tryz.prog 12 #[.bool false, .int .i64 n] w fun e w' => e = .panicked (panicOf n) ∧ w = w' := by
  go_enter Tryz.func12, Tryz.ntmps12
  go_wp2
  exact ⟨rfl, rfl, rfl⟩
theorem assert_errno (n : Int) (w : World) : (Instr.typeAssert (.iface 27 (.int .i64 n)) 20 27 false).run Tryz.prog w = .ok (.int .i64 n) w := by kernel_rfl
set_option maxRecDepth 100000 in
/-- The deferred call of a frame that panics: the error is laid. -/
theorem saved_err (p : Addr) (x n : Int) (older : List PanicEntry) (w : World) (hc : w.cell? p = some (.int .i64 x)) (hz : w.frozen? p = false) :
    CallsD Tryz.prog 64 #[.pointer (some p)] (.panicking ({ v := .iface 27 (.int .i64 n), recovered := false } :: older)) w fun e u' w' =>
      e = .returned (.tuple #[]) ∧ u' = .panicking ({ v := .iface 27 (.int .i64 n), recovered := true } :: older) ∧ w' = w.setCell p (.int .i64 n) := by
  refine callsD_of_wpS Tryz.func64 rfl fun c₀ cs hu => ?_
  apply wpS_seq
  apply wpS_region
  simp [wpOpsS, go_sem, recoverD, hu, Tryz.ntmps64, Exit.thenS]
  refine wpS_of_wp ?_
  simp only [Array.replicate_succ, Array.replicate_zero]
  have hta := assert_errno n
  go_wp2
  cases c₀
  simp_all [bodyPostS, results, Tryz.results64]
theorem idle_err (p : Addr) (w : World) :
    CallsD Tryz.prog 64 #[.pointer (some p)] .returning w fun e u' w' => e = .returned (.tuple #[]) ∧ u' = .returning ∧ w' = w := by
  refine callsD_of_wpS Tryz.func64 rfl fun c₀ cs hu => ?_
  apply wpS_seq
  apply wpS_region
  simp [wpOpsS, go_sem, recoverD, hu, Tryz.ntmps64, Exit.thenS]
  refine wpS_of_wp ?_
  simp only [Array.replicate_succ, Array.replicate_zero]
  go_wp2
  cases c₀
  simp_all [bodyPostS, results, Tryz.results64]
/-- What 'G' says of a world, and a store behind it into block b. -/
def SetLast (b : Nat) (n : Int) (G : World → Prop) (w' : World) : Prop := ∃ w1, G w1 ∧ w' = w1.setCell ⟨b, 0, none⟩ (.int .i64 n)
set_option maxRecDepth 100000 in
set_option maxHeartbeats 1000000 in
theorem tried_ok (F : FuncId) (caps : Array Value) (w : World) (G : World → Prop) (hF : ∀ (args : Array Value) (W : World), (callFunc F args).run Tryz.prog W = .ok (.enter F args) W)
    (h : Calls Tryz.prog F caps (w.alloc (.cells #[.int .i64 0] 27)) fun e w' => e = .returned (.tuple #[]) ∧ Boxed w' w.heap.size 27 (.int .i64 0) ∧ G w') :
    Calls Tryz.prog 28 #[.func (.func F) #[] caps] w fun e w' => e = .returned (.int .i64 0) ∧ SetLast w.heap.size 0 G w' := by
  have hmf : ∀ (fn : Fn) (first cap : Array Value) (w : World), (Instr.makeFunc fn first cap).run Tryz.prog w = .ok (.func fn first cap) w := fun _ _ _ _ => rfl
  have H := hide h
  clear h
  go_enter_defers Tryz.func28, Tryz.ntmps28
  go_wp2_with (refine H.out.mono ?_; rintro e w1 ⟨rfl, hb, hG⟩; have hc := hb.cell; have hf := hb.frozen)
  refine leaves_cons (f := 64) (args := #[.pointer (some ⟨w.heap.size, 0, none⟩)]) (by simp) (by simp [go_sem]) ?_
  refine (idle_err ⟨w.heap.size, 0, none⟩ _).mono ?_
  rintro e u' w'' ⟨rfl, rfl, rfl⟩
  have hc2 := (hb.set (.int .i64 0)).cell
  have hfin : SetLast w.heap.size 0 G (w1.setCell ⟨w.heap.size, 0, none⟩ (.int .i64 0)) := ⟨w1, hG, rfl⟩
  clear hc hf hG hmf H
  simp [Leaves, settle, results, Tryz.results28, go_sem, hc2, hfin]
set_option maxRecDepth 100000 in
set_option maxHeartbeats 1000000 in
theorem tried_no (F : FuncId) (caps : Array Value) (n : Int) (w : World) (G : World → Prop) (hF : ∀ (args : Array Value) (W : World), (callFunc F args).run Tryz.prog W = .ok (.enter F args) W)
    (h : Calls Tryz.prog F caps (w.alloc (.cells #[.int .i64 0] 27)) fun e w' => e = .panicked (panicOf n) ∧ Boxed w' w.heap.size 27 (.int .i64 0) ∧ G w') :
    Calls Tryz.prog 28 #[.func (.func F) #[] caps] w fun e w' => e = .returned (.int .i64 n) ∧ SetLast w.heap.size n G w' := by
  have hmf : ∀ (fn : Fn) (first cap : Array Value) (w : World), (Instr.makeFunc fn first cap).run Tryz.prog w = .ok (.func fn first cap) w := fun _ _ _ _ => rfl
  have H := hide h
  clear h
  go_enter_defers Tryz.func28, Tryz.ntmps28
  go_wp2_with (refine H.out.mono ?_; rintro e w1 ⟨rfl, hb, hG⟩; have hc := hb.cell; have hf := hb.frozen)
  refine leaves_cons (f := 64) (args := #[.pointer (some ⟨w.heap.size, 0, none⟩)]) (by simp) (by simp [go_sem]) ?_
  refine (saved_err ⟨w.heap.size, 0, none⟩ 0 n [] _ hc hf).mono ?_
  rintro e u' w'' ⟨rfl, rfl, rfl⟩
  have hc2 := (hb.set (.int .i64 n)).cell
  have hfin : SetLast w.heap.size n G (w1.setCell ⟨w.heap.size, 0, none⟩ (.int .i64 n)) := ⟨w1, hG, rfl⟩
  clear hc hf hG hmf H
  simp [Leaves, settle, results, Tryz.results28, go_sem, hc2, hfin]
end Go.Proofs.YtolodcdhpnapmaaGreat
