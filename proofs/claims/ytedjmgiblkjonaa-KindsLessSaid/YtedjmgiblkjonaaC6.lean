/-
  A row of needs that has none.
-/
import Derived.Test.YtedjmgiblkjonaaC5
namespace Go.Proofs.Ytedjmgiblkjonaa
open Go.RowKit Go.Maps
set_option linter.unusedVariables false
attribute [local go_sem] Oper.semAt_some

theorem aheadNeed_any (A : Option Addr) (n c : Nat) (w : World) : Calls Try.prog 84 #[.slice A n c] w fun e w' =>
    e = .returned (.func (.func 105) #[] #[.pointer (some ⟨w.heap.size, 0, none⟩)]) ∧ w.alloc (.cells #[.slice A n c] 60) = w' := by
  have hmf : ∀ (fn : Fn) (first cap : Array Value) (w : World), (Instr.makeFunc fn first cap).run Try.prog w = .ok (.func fn first cap) w := fun _ _ _ _ => rfl
  go_enter Try.func84, Try.ntmps84
  go_wp2
  go_ret
  exact ⟨rfl, rfl⟩
set_option maxRecDepth 100000 in
set_option maxHeartbeats 1000000 in
theorem need_iter (n : Nat) (hn : 1 ≤ n) (Bx c n0 : Nat) (A : Option Addr) (w0 : World) (hbox : Boxed w0 Bx 60 (.slice A 0 c)) :
    IterX Fence.wide n Try.prog 105 #[.pointer (some ⟨Bx, 0, none⟩)] (fun _ : Unit => #[.slice A 0 c, .agg #[.int .i64 0, .int .i64 0, .int .i64 0]]) (fun _ => KeepB n0 Bx) (fun _ _ => False) (fun xs => xs = []) w0 := by
  intro lp J Jx W hW hJ hJx hY h0
  have hW0 : Bx < w0.heap.size := hbox.lt
  have hbW : Boxed W Bx 60 (.slice A 0 c) := (hW.block Bx hW0).trans hbox
  have cb := hbW.cell
  have hbl0 := hbW.lt
  clear hbW
  refine callsIn_of_wp Try.func105 rfl trivial ?_ rfl
  simp only [Try.ntmps105, List.size_toArray, List.length_cons, List.length_nil, Nat.reduceAdd, Nat.reduceSub, Array.replicate_succ, Array.replicate_zero, List.push_toArray, List.append_toArray, List.nil_append, List.cons_append]
  gi_wp2
  gi_loopw [7] (fun p wr => p = .int .i64 0 ∧ J [] wr) (fun p _ => 0)
  case atStart => exact ⟨rfl, h0⟩
  case round =>
    obtain ⟨rfl, hJ0⟩ := hrel
    gi_wp2
    go_end0
    exact ⟨_, rfl, .inl ⟨[], rfl, hJ0⟩⟩
set_option maxRecDepth 100000 in
set_option maxHeartbeats 4000000 in
theorem riseNeed_nil (A : Option Addr) (c : Nat) (na : Int) (w : World) :
    Calls Try.prog 49 #[.slice A 0 c, .func (.func 50) #[] #[], .func (.func 51) #[] #[], .int .i64 na] w fun e w' => e = .returned (.int .i64 0) ∧ Below w.heap.size w w' := by
  refine (callsIn_wide (n := 3)).1 ?_
  refine callsIn_of_wp_marks Try.func49 rfl trivial ?_ rfl
  simp only [Try.ntmps49, List.size_toArray, List.length_cons, List.length_nil, Nat.reduceAdd, Nat.reduceSub, Array.replicate_succ, Array.replicate_zero, List.push_toArray, List.append_toArray, List.nil_append, List.cons_append]
  gi_wp2_with fail
  refine ⟨trivial, ?_⟩
  refine name_callIn (fun W1 hW1 => ?_)
  obtain ⟨b5, b6, b7, b8⟩ := blocks4 w (.cells #[.func (.func 50) #[] #[]] 100) (.cells #[.func (.func 51) #[] #[]] 101) (.cells #[.int .i64 na] 36) (.cells #[.int .i64 0] 36)
  have lw := below4 w (.cells #[.func (.func 50) #[] #[]] 100) (.cells #[.func (.func 51) #[] #[]] 101) (.cells #[.int .i64 na] 36) (.cells #[.int .i64 0] 36)
  rw [← hW1] at b5 b6 b7 b8 lw
  have Z1 : Hid (W1.heap.size = w.heap.size + 4) := hide (by rw [hW1]; simp)
  clear hW1
  refine (callsIn_wide.2 (aheadNeed_any _ _ _ _)).mono ?_
  rintro e w' ⟨rfl, rfl⟩
  gi_wp2_with fail
  have b7' : W1.heap[w.heap.size + 1 + 1]? = _ := b7
  have b8' : W1.heap[w.heap.size + 1 + 1 + 1]? = _ := b8
  generalize h7 : w.heap.size + 1 + 1 = g7 at *
  generalize h8 : g7 + 1 = g8 at *
  generalize h6 : w.heap.size + 1 = g6 at *
  have u6 : w.heap.size < g6 := by omega
  have u7 : g6 < g7 := by omega
  have u8 : g7 < g8 := by omega
  have u9 : g8 < W1.heap.size := by rw [Z1.out]; omega
  clear h6 h7 h8 Z1
  generalize hW0 : W1.alloc (.cells #[.slice A 0 c] 60) = W0
  have hs0 : W1.heap.size < W0.heap.size := by rw [← hW0]; simp
  have hB0 : Below W1.heap.size W1 W0 := by rw [← hW0]; exact below1 _ _
  have hbx : Boxed W0 W1.heap.size 60 (.slice A 0 c) := by rw [← hW0]; exact boxed_at rfl
  clear hW0
  have hbw : Below w.heap.size w W0 := lw.trans (hB0.mono lw.size)
  have q5 : Boxed W0 w.heap.size 100 (.func (.func 50) #[] #[]) := (hB0.block _ (at_lt b5)).trans b5
  have q6 : Boxed W0 g6 101 (.func (.func 51) #[] #[]) := (hB0.block _ (at_lt b6)).trans b6
  have q7 : Boxed W0 g7 36 (.int .i64 na) := (hB0.block _ (at_lt b7')).trans b7'
  have q8 : Boxed W0 g8 36 (.int .i64 0) := (hB0.block _ (at_lt b8')).trans b8'
  have l8 : g8 < W0.heap.size := q8.lt
  have HBW := hide hbw
  clear b5 b6 b7 b8 b7' b8' lw
  refine range_ends (α := Unit) (F := Fence.wide) (n := 3) rfl (by omega) (gf := 105) (lb := #[.pointer (some ⟨W1.heap.size, 0, none⟩)]) rfl trivial (enters_of Try.func105 (by kernel_rfl) rfl)
    (need_iter (3 - 1) (by omega) W1.heap.size c w.heap.size A W0 hbx) (Below.refl _ _) KeepB.trans ?_ (fun _ => rfl)
    (fun pre W => Below W0.heap.size W0 W)
    (fun xs W => False)
    ?_ ?_ (Below.refl _ _) ?round ?done ?stop
  · intro X l o o' hl hl2 h ho
    exact KeepB.put X o' (by omega) (by omega)
  · intro s X Y h1 hst
    exact hst.below (by omega) (Nat.le_refl _) h1
  · intro s X Y h hst
    exact h
  case round =>
    rintro lp pre x W hle hloop hws h1 hpre
    exact hpre.elim
  case done =>
    rintro D xs W hD _ h1 hdef
    have e8 := (boxed_below q8 h1).cell
    have f8 := (boxed_below q8 h1).frozen
    have q8' := hide (boxed_below q8 h1)
    have HW := hide (HBW.out.trans (h1.mono HBW.out.size))
    have HDEF := hide hdef
    clear h1 hdef
    gi_wp2
    have hK := (KeepsOthers.setCell W ⟨g8, 0, none⟩ (.int .i64 0)).same D _ HDEF.out rfl
    refine ⟨by simp, .inl ⟨_, _, rfl, run_takeDeferred hK, ?_⟩⟩
    have hst := Stays.putObj (B := w.heap.size) (.deferred none) (by omega) hK rfl
    have r8 := (hst.boxed (q8'.out.set (.int .i64 0))).cell
    exact ⟨.int .i64 0, by simp [results, Try.results49, go_sem, r8], rfl, hst.below (Nat.le_refl _) (Nat.le_refl _) (HW.out.setCell (p := ⟨g8, 0, none⟩) (by show w.heap.size ≤ g8; omega) _)⟩
  case stop =>
    rintro D xs W hD h hdef
    exact h.elim
end Go.Proofs.Ytedjmgiblkjonaa
