/-
  Get: what is not right is a panic, which a deferred call recovers.
-/
import Derived.Test.YtjndmpockfmenaaGreatG5
namespace Go.Proofs.YtjndmpockfmenaaGreat
open Go.RowKit
set_option linter.unusedVariables false

set_option maxRecDepth 100000 in
/-- The deferred call of a frame that panics: the error is laid. -/
theorem saved62 (p : Addr) (x n : Int) (older : List PanicEntry) (w : World) (hc : w.cell? p = some (.int .i64 x)) (hz : w.frozen? p = false) :
    CallsD Tryz.prog 30 #[.pointer (some p)] (.panicking ({ v := .iface 30 (.int .i64 n), recovered := false } :: older)) w fun e u' w' =>
      e = .returned (.tuple #[]) ∧ u' = .panicking ({ v := .iface 30 (.int .i64 n), recovered := true } :: older) ∧ w' = w.setCell p (.int .i64 n) := by
  refine callsD_of_wpS Tryz.func30 rfl fun c₀ cs hu => ?_
  apply wpS_seq
  apply wpS_region
  simp [wpOpsS, go_sem, recoverD, hu, Tryz.ntmps30, Exit.thenS]
  refine wpS_of_wp ?_
  simp only [Array.replicate_succ, Array.replicate_zero]
  have hta := assert_errno n
  go_wp2
  cases c₀
  simp_all [bodyPostS, results, Tryz.results30]
theorem idle62 (p : Addr) (w : World) :
    CallsD Tryz.prog 30 #[.pointer (some p)] .returning w fun e u' w' => e = .returned (.tuple #[]) ∧ u' = .returning ∧ w' = w := by
  refine callsD_of_wpS Tryz.func30 rfl fun c₀ cs hu => ?_
  apply wpS_seq
  apply wpS_region
  simp [wpOpsS, go_sem, recoverD, hu, Tryz.ntmps30, Exit.thenS]
  refine wpS_of_wp ?_
  simp only [Array.replicate_succ, Array.replicate_zero]
  go_wp2
  cases c₀
  simp_all [bodyPostS, results, Tryz.results30]
set_option maxRecDepth 100000 in
set_option maxHeartbeats 1000000 in
theorem caught28_ok (p : Addr) (v : Value) (w : World) (G : World → Prop) (h : Calls Tryz.prog 17 #[.pointer (some p)] (w.alloc (.cells #[.int .i64 0] 30)) fun e w' => e = .returned v ∧ Boxed w' w.heap.size 30 (.int .i64 0) ∧ G w') :
    Calls Tryz.prog 16 #[.func (.func 17) #[] #[.pointer (some p)]] w fun e w' => e = .returned (.tuple #[v, .int .i64 0]) ∧ SetLast G w w' := by
  have hmf : ∀ (fn : Fn) (first cap : Array Value) (w : World), (Instr.makeFunc fn first cap).run Tryz.prog w = .ok (.func fn first cap) w := fun _ _ _ _ => rfl
  have H := hide h
  clear h
  go_enter_defers Tryz.func16, Tryz.ntmps16
  go_wp2_with (go_at_call 17; refine H.out.mono ?_; rintro e w1 ⟨rfl, hb, hG⟩; have hc := hb.cell; have hf := hb.frozen)
  refine leaves_cons (f := 30) (args := #[.pointer (some ⟨w.heap.size, 0, none⟩)]) (by simp) (by simp [go_sem]) ?_
  refine (idle62 ⟨w.heap.size, 0, none⟩ _).mono ?_
  rintro e u' w'' ⟨rfl, rfl, rfl⟩
  have hc2 := (hb.set (.int .i64 0)).cell
  have hfin : SetLast G w (w1.setCell ⟨w.heap.size, 0, none⟩ (.int .i64 0)) := ⟨w1, hG, rfl⟩
  clear hc hf hG hmf H
  simp [Leaves, settle, results, Tryz.results16, go_sem, hc2, hfin]
set_option maxRecDepth 100000 in
set_option maxHeartbeats 1000000 in
theorem caught28_no (p : Addr) (n : Int) (w : World) (h : Calls Tryz.prog 17 #[.pointer (some p)] (w.alloc (.cells #[.int .i64 0] 30)) fun e w' => e = .panicked (panicOf n) ∧ Boxed w' w.heap.size 30 (.int .i64 0) ∧ Below w.heap.size w w') :
    Calls Tryz.prog 16 #[.func (.func 17) #[] #[.pointer (some p)]] w fun e w' => e = .returned (.tuple #[.slice none 0 0, .int .i64 n]) ∧ Below w.heap.size w w' := by
  have hmf : ∀ (fn : Fn) (first cap : Array Value) (w : World), (Instr.makeFunc fn first cap).run Tryz.prog w = .ok (.func fn first cap) w := fun _ _ _ _ => rfl
  have H := hide h
  clear h
  go_enter_defers Tryz.func16, Tryz.ntmps16
  go_wp2_with (go_at_call 17; refine H.out.mono ?_; rintro e w1 ⟨rfl, hb, hG⟩; have hc := hb.cell; have hf := hb.frozen)
  refine leaves_cons (f := 30) (args := #[.pointer (some ⟨w.heap.size, 0, none⟩)]) (by simp) (by simp [go_sem]) ?_
  refine (saved62 ⟨w.heap.size, 0, none⟩ 0 n [] _ hc hf).mono ?_
  rintro e u' w'' ⟨rfl, rfl, rfl⟩
  have hc2 := (hb.set (.int .i64 n)).cell
  have hfin : Below w.heap.size w (w1.setCell ⟨w.heap.size, 0, none⟩ (.int .i64 n)) := hG.setCell (p := ⟨w.heap.size, 0, none⟩) (Nat.le_refl _) _
  clear hc hf hG hmf H
  simp [Leaves, settle, results, Tryz.results16, go_sem, hc2, hfin]

/-- What Get tells of n bytes that are not right: the error's number. -/
def getErr (n : Nat) : Int := if 32768 < n then 3 else 4
set_option maxRecDepth 100000 in
set_option maxHeartbeats 1000000 in
theorem get_wrong (n c : Nat) (A : Option Addr) (w : World) (hm : 32768 < n ∨ n % 8 ≠ 0) : Calls Tryz.prog 5 #[.slice A n c] w fun e w' => e = .returned (.tuple #[.slice none 0 0, .int .i64 (getErr n)]) ∧ Below w.heap.size w w' := by
  have hmf : ∀ (fn : Fn) (first cap : Array Value) (w : World), (Instr.makeFunc fn first cap).run Tryz.prog w = .ok (.func fn first cap) w := fun _ _ _ _ => rfl
  have hb := Boxed.new w 22 (.slice A n c)
  have HB : Calls Tryz.prog 17 #[.pointer (some ⟨w.heap.size, 0, none⟩)] ((w.alloc (.cells #[.slice A n c] 22)).alloc (.cells #[.int .i64 0] 30)) fun e w' => e = .panicked (panicOf (getErr n)) ∧ Below ((w.alloc (.cells #[.slice A n c] 22)).alloc (.cells #[.int .i64 0] 30)).heap.size ((w.alloc (.cells #[.slice A n c] 22)).alloc (.cells #[.int .i64 0] 30)) w' := by
    unfold getErr
    by_cases h : 32768 < n
    · rw [if_pos h]
      exact gbody_long w.heap.size n c A _ (hb.alloc _) h
    · rw [if_neg h]
      exact gbody_odd w.heap.size n c A _ (hb.alloc _) (by omega) (by omega)
  have HC := hide (caught28_no ⟨w.heap.size, 0, none⟩ (getErr n) (w.alloc (.cells #[.slice A n c] 22)) (HB.mono fun e w' h => ⟨h.1, boxed_below (Boxed.new _ _ _) h.2, (((Below.refl _ _).alloc (Nat.le_refl _) _).trans (h.2.mono (by simp)))⟩))
  clear hb HB hm
  generalize getErr n = r at HC ⊢
  go_enter Tryz.func5, Tryz.ntmps5
  go_wp2_with (go_at_call 16; refine HC.out.mono ?_; rintro e w1 ⟨rfl, hb⟩)
  go_ret2
  exact ⟨rfl, ((Below.refl _ w).alloc (Nat.le_refl _) _).trans (hb.mono (by simp))⟩
set_option maxRecDepth 100000 in
set_option maxHeartbeats 1000000 in
theorem get_right (n m c : Nat) (A : Option Addr) (B : Nat) (bs : List Int) (w : World) (hn : n = 8 * m) (hm : m ≤ 4096) (hc8 : n ≤ c) (hcm : c ≤ maxLen) (hp : Byt w B A n bs) (hB : B ≤ w.heap.size) (hbs : ∀ b ∈ bs, IsByte b) :
    Calls Tryz.prog 5 #[.slice A n c] w fun e w' => ∃ g, e = .returned (.tuple #[.slice (some ⟨g, 0, none⟩) m m, .int .i64 0]) ∧ Made 27 5 m ((slots bs m).flatMap Ins.cells) w w' g m := by
  have hmf : ∀ (fn : Fn) (first cap : Array Value) (w : World), (Instr.makeFunc fn first cap).run Tryz.prog w = .ok (.func fn first cap) w := fun _ _ _ _ => rfl
  have hb := Boxed.new w 22 (.slice A n c)
  have hp2 : Byt ((w.alloc (.cells #[.slice A n c] 22)).alloc (.cells #[.int .i64 0] 30)) B A n bs := hp.below (((Below.refl _ w).alloc hB _).alloc (by simp; omega) _)
  have hB2 := gbody_any w.heap.size n m c B A bs _ (hb.alloc _) hn hm hc8 hcm hp2 (by simp; omega) hbs
  have hB3 := hB2.mono (R' := fun e w' => e = .returned (.slice (some ⟨w.heap.size + 2, 0, none⟩) m m) ∧ Boxed w' (w.alloc (.cells #[.slice A n c] 22)).heap.size 30 (.int .i64 0) ∧
      (Row w' (w.heap.size + 2) m 27 5 m ((slots bs m).flatMap Ins.cells) ∧ Below w.heap.size w w')) fun e w' h => by
    obtain ⟨h2, h3, h1⟩ := h
    exact ⟨by rw [h2]; simp, boxed_below (Boxed.new _ _ _) h1, by simpa using h3, (((Below.refl _ w).alloc (Nat.le_refl _) _).alloc (by simp) _).trans (h1.mono (by simp; omega))⟩
  have HC := hide (caught28_ok ⟨w.heap.size, 0, none⟩ _ (w.alloc (.cells #[.slice A n c] 22)) (fun w' => Row w' (w.heap.size + 2) m 27 5 m ((slots bs m).flatMap Ins.cells) ∧ Below w.heap.size w w') hB3)
  clear hb hp2 hB2 hB3 hp hn
  go_enter Tryz.func5, Tryz.ntmps5
  go_wp2_with (go_at_call 16; refine HC.out.mono ?_; rintro e w1 ⟨rfl, hb⟩)
  go_ret2
  obtain ⟨w2, ⟨h1, h2⟩, rfl⟩ := hb
  exact ⟨w.heap.size + 2, rfl, row_set h1 (by simp) _, by omega, h2.setCell (p := ⟨_, 0, none⟩) (by simp) _⟩
end Go.Proofs.YtjndmpockfmenaaGreat
