/-
  Put: what is not right is a panic, which a deferred call recovers.
-/
import Derived.Test.YtjndmpockfmenaaGreatS5
import Derived.Recover
namespace Go.Proofs.YtjndmpockfmenaaGreat
open Go.RowKit
set_option linter.unusedVariables false

theorem assert_errno (n : Int) (w : World) : (Instr.typeAssert (.iface 30 (.int .i64 n)) 20 30 false).run Tryz.prog w = .ok (.int .i64 n) w := by kernel_rfl
set_option maxRecDepth 100000 in
/-- The deferred call of a frame that panics: the error is laid. -/
theorem saved33 (p : Addr) (x n : Int) (older : List PanicEntry) (w : World) (hc : w.cell? p = some (.int .i64 x)) (hz : w.frozen? p = false) :
    CallsD Tryz.prog 34 #[.pointer (some p)] (.panicking ({ v := .iface 30 (.int .i64 n), recovered := false } :: older)) w fun e u' w' =>
      e = .returned (.tuple #[]) ∧ u' = .panicking ({ v := .iface 30 (.int .i64 n), recovered := true } :: older) ∧ w' = w.setCell p (.int .i64 n) := by
  refine callsD_of_wpS Tryz.func34 rfl fun c₀ cs hu => ?_
  apply wpS_seq
  apply wpS_region
  simp [wpOpsS, go_sem, recoverD, hu, Tryz.ntmps34, Exit.thenS]
  refine wpS_of_wp ?_
  simp only [Array.replicate_succ, Array.replicate_zero]
  have hta := assert_errno n
  go_wp2
  cases c₀
  simp_all [bodyPostS, results, Tryz.results34]
theorem idle33 (p : Addr) (w : World) :
    CallsD Tryz.prog 34 #[.pointer (some p)] .returning w fun e u' w' => e = .returned (.tuple #[]) ∧ u' = .returning ∧ w' = w := by
  refine callsD_of_wpS Tryz.func34 rfl fun c₀ cs hu => ?_
  apply wpS_seq
  apply wpS_region
  simp [wpOpsS, go_sem, recoverD, hu, Tryz.ntmps34, Exit.thenS]
  refine wpS_of_wp ?_
  simp only [Array.replicate_succ, Array.replicate_zero]
  go_wp2
  cases c₀
  simp_all [bodyPostS, results, Tryz.results34]
theorem boxed_below {W W' : World} {B : Nat} {t : TypeId} {v : Value} (h : Boxed W B t v) (hb : Below W.heap.size W W') : Boxed W' B t v := (hb.block B h.lt).trans h
theorem row_set {w : World} {g cap : Nat} {e : TypeId} {sz n : Nat} {xs : List Value} (h : Row w g cap e sz n xs) {b : Nat} (hb : g ≠ b) (v : Value) : Row (w.setCell ⟨b, 0, none⟩ v) g cap e sz n xs :=
  World.ownsRow.kept h (grownBy_setCell' w b v) (.inr (by simp [Value.ownBlock]; exact hb))

/-- What 'G' says of a world, and a store behind it into block w.heap.size. -/
def SetLast (G : World → Prop) (w w' : World) : Prop := ∃ w1, G w1 ∧ w' = w1.setCell ⟨w.heap.size, 0, none⟩ (.int .i64 0)
set_option maxRecDepth 100000 in
set_option maxHeartbeats 1000000 in
theorem caught20_ok (p : Addr) (v : Value) (w : World) (G : World → Prop) (h : Calls Tryz.prog 21 #[.pointer (some p)] (w.alloc (.cells #[.int .i64 0] 30)) fun e w' => e = .returned v ∧ Boxed w' w.heap.size 30 (.int .i64 0) ∧ G w') :
    Calls Tryz.prog 20 #[.func (.func 21) #[] #[.pointer (some p)]] w fun e w' => e = .returned (.tuple #[v, .int .i64 0]) ∧ SetLast G w w' := by
  have hmf : ∀ (fn : Fn) (first cap : Array Value) (w : World), (Instr.makeFunc fn first cap).run Tryz.prog w = .ok (.func fn first cap) w := fun _ _ _ _ => rfl
  have H := hide h
  clear h
  go_enter_defers Tryz.func20, Tryz.ntmps20
  go_wp2_with (go_at_call 21; refine H.out.mono ?_; rintro e w1 ⟨rfl, hb, hG⟩; have hc := hb.cell; have hf := hb.frozen)
  refine leaves_cons (f := 34) (args := #[.pointer (some ⟨w.heap.size, 0, none⟩)]) (by simp) (by simp [go_sem]) ?_
  refine (idle33 ⟨w.heap.size, 0, none⟩ _).mono ?_
  rintro e u' w'' ⟨rfl, rfl, rfl⟩
  have hc2 := (hb.set (.int .i64 0)).cell
  have hfin : SetLast G w (w1.setCell ⟨w.heap.size, 0, none⟩ (.int .i64 0)) := ⟨w1, hG, rfl⟩
  clear hc hf hG hmf H
  simp [Leaves, settle, results, Tryz.results20, go_sem, hc2, hfin]
set_option maxRecDepth 100000 in
set_option maxHeartbeats 1000000 in
theorem caught20_no (p : Addr) (n : Int) (w : World) (h : Calls Tryz.prog 21 #[.pointer (some p)] (w.alloc (.cells #[.int .i64 0] 30)) fun e w' => e = .panicked (panicOf n) ∧ Boxed w' w.heap.size 30 (.int .i64 0) ∧ Below w.heap.size w w') :
    Calls Tryz.prog 20 #[.func (.func 21) #[] #[.pointer (some p)]] w fun e w' => e = .returned (.tuple #[.slice none 0 0, .int .i64 n]) ∧ Below w.heap.size w w' := by
  have hmf : ∀ (fn : Fn) (first cap : Array Value) (w : World), (Instr.makeFunc fn first cap).run Tryz.prog w = .ok (.func fn first cap) w := fun _ _ _ _ => rfl
  have H := hide h
  clear h
  go_enter_defers Tryz.func20, Tryz.ntmps20
  go_wp2_with (go_at_call 21; refine H.out.mono ?_; rintro e w1 ⟨rfl, hb, hG⟩; have hc := hb.cell; have hf := hb.frozen)
  refine leaves_cons (f := 34) (args := #[.pointer (some ⟨w.heap.size, 0, none⟩)]) (by simp) (by simp [go_sem]) ?_
  refine (saved33 ⟨w.heap.size, 0, none⟩ 0 n [] _ hc hf).mono ?_
  rintro e u' w'' ⟨rfl, rfl, rfl⟩
  have hc2 := (hb.set (.int .i64 n)).cell
  have hfin : Below w.heap.size w (w1.setCell ⟨w.heap.size, 0, none⟩ (.int .i64 n)) := hG.setCell (p := ⟨w.heap.size, 0, none⟩) (Nat.le_refl _) _
  clear hc hf hG hmf H
  simp [Leaves, settle, results, Tryz.results20, go_sem, hc2, hfin]

/-- What Put tells of slots. -/
def allRight (l : List Ins) : Bool := l.all fun s => decide (s.dst < 16) && decide (s.src < 16)
theorem allRight_iff (l : List Ins) : allRight l = true ↔ ∀ s ∈ l, Right s := by simp [allRight, Right]

set_option maxRecDepth 100000 in
set_option maxHeartbeats 1000000 in
theorem put_long (m c : Nat) (A : Option Addr) (w : World) (hm : 4096 < m) : Calls Tryz.prog 6 #[.slice A m c] w fun e w' => e = .returned (.tuple #[.slice none 0 0, .int .i64 3]) ∧ Below w.heap.size w w' := by
  have hmf : ∀ (fn : Fn) (first cap : Array Value) (w : World), (Instr.makeFunc fn first cap).run Tryz.prog w = .ok (.func fn first cap) w := fun _ _ _ _ => rfl
  have hb := Boxed.new w 28 (.slice A m c)
  have HC := hide (caught20_no ⟨w.heap.size, 0, none⟩ 3 (w.alloc (.cells #[.slice A m c] 28)) ((body_long w.heap.size m c A _ (hb.alloc _) hm).mono fun e w' h => ⟨h.1, boxed_below (Boxed.new _ _ _) h.2, (((Below.refl _ _).alloc (Nat.le_refl _) _).trans (h.2.mono (by simp)))⟩))
  clear hb
  go_enter Tryz.func6, Tryz.ntmps6
  go_wp2_with (go_at_call 20; refine HC.out.mono ?_; rintro e w1 ⟨rfl, hb⟩)
  go_ret2
  exact ⟨rfl, ((Below.refl _ w).alloc (Nat.le_refl _) _).trans (hb.mono (by simp))⟩
set_option maxRecDepth 100000 in
set_option maxHeartbeats 1000000 in
theorem put_wrong (m c : Nat) (A : Option Addr) (B : Nat) (l : List Ins) (w : World) (hm : m ≤ 4096) (hp : Prg w B A m l) (hB : B ≤ w.heap.size) (hf : ∀ s ∈ l, s.Fits) (hr : allRight l = false) :
    Calls Tryz.prog 6 #[.slice A m c] w fun e w' => e = .returned (.tuple #[.slice none 0 0, .int .i64 21]) ∧ Below w.heap.size w w' := by
  have hmf : ∀ (fn : Fn) (first cap : Array Value) (w : World), (Instr.makeFunc fn first cap).run Tryz.prog w = .ok (.func fn first cap) w := fun _ _ _ _ => rfl
  have hb := Boxed.new w 28 (.slice A m c)
  have hp2 : Prg ((w.alloc (.cells #[.slice A m c] 28)).alloc (.cells #[.int .i64 0] 30)) B A m l := hp.below (((Below.refl _ w).alloc hB _).alloc (by simp; omega) _)
  have HC := hide (caught20_no ⟨w.heap.size, 0, none⟩ 21 (w.alloc (.cells #[.slice A m c] 28)) ((body_any w.heap.size m c B A l _ (hb.alloc _) hm hp2 (by simp; omega) hf).mono fun e w' h => by
    obtain ⟨h1, ⟨h2, _⟩ | ⟨_, h2⟩⟩ := h
    · rw [← allRight_iff] at h2
      rw [h2] at hr
      cases hr
    · exact ⟨h2, boxed_below (Boxed.new _ _ _) h1, (((Below.refl _ _).alloc (Nat.le_refl _) _).trans (h1.mono (by simp)))⟩))
  clear hb hp2 hr
  go_enter Tryz.func6, Tryz.ntmps6
  go_wp2_with (go_at_call 20; refine HC.out.mono ?_; rintro e w1 ⟨rfl, hb⟩)
  go_ret2
  exact ⟨rfl, ((Below.refl _ w).alloc (Nat.le_refl _) _).trans (hb.mono (by simp))⟩
/-- What Put makes: a row of its own. -/
def Made (e : TypeId) (sz n : Nat) (xs : List Value) (w w' : World) (g cap : Nat) : Prop := Row w' g cap e sz n xs ∧ w.heap.size ≤ g ∧ Below w.heap.size w w'
set_option maxRecDepth 100000 in
set_option maxHeartbeats 1000000 in
theorem put_right (m c : Nat) (A : Option Addr) (B : Nat) (l : List Ins) (w : World) (hm : m ≤ 4096) (hp : Prg w B A m l) (hB : B ≤ w.heap.size) (hf : ∀ s ∈ l, s.Fits) (hr : allRight l = true) :
    Calls Tryz.prog 6 #[.slice A m c] w fun e w' => ∃ g, e = .returned (.tuple #[.slice (some ⟨g, 0, none⟩) (8 * m) (8 * m), .int .i64 0]) ∧ Made 5 1 (8 * m) (u8s (l.flatMap Ins.bytes)) w w' g (8 * m) := by
  have hmf : ∀ (fn : Fn) (first cap : Array Value) (w : World), (Instr.makeFunc fn first cap).run Tryz.prog w = .ok (.func fn first cap) w := fun _ _ _ _ => rfl
  have hb := Boxed.new w 28 (.slice A m c)
  have hp2 : Prg ((w.alloc (.cells #[.slice A m c] 28)).alloc (.cells #[.int .i64 0] 30)) B A m l := hp.below (((Below.refl _ w).alloc hB _).alloc (by simp; omega) _)
  have hB2 := body_any w.heap.size m c B A l _ (hb.alloc _) hm hp2 (by simp; omega) hf
  have hB3 := hB2.mono (R' := fun e w' => e = .returned (.slice (some ⟨w.heap.size + 2, 0, none⟩) (8 * m) (8 * m)) ∧ Boxed w' (w.alloc (.cells #[.slice A m c] 28)).heap.size 30 (.int .i64 0) ∧
      (Row w' (w.heap.size + 2) (8 * m) 5 1 (8 * m) (u8s (l.flatMap Ins.bytes)) ∧ Below w.heap.size w w')) fun e w' h => by
    obtain ⟨h1, ⟨_, h2, h3⟩ | ⟨⟨s, hs, h2⟩, _⟩⟩ := h
    · exact ⟨by rw [h2]; simp, boxed_below (Boxed.new _ _ _) h1, by simpa using h3, (((Below.refl _ w).alloc (Nat.le_refl _) _).alloc (by simp) _).trans (h1.mono (by simp; omega))⟩
    · exact absurd ((allRight_iff l).1 hr s hs) h2
  have HC := hide (caught20_ok ⟨w.heap.size, 0, none⟩ _ (w.alloc (.cells #[.slice A m c] 28)) (fun w' => Row w' (w.heap.size + 2) (8 * m) 5 1 (8 * m) (u8s (l.flatMap Ins.bytes)) ∧ Below w.heap.size w w') hB3)
  clear hb hp2 hB2 hB3 hr hp
  go_enter Tryz.func6, Tryz.ntmps6
  go_wp2_with (go_at_call 20; refine HC.out.mono ?_; rintro e w1 ⟨rfl, hb⟩)
  go_ret2
  obtain ⟨w2, ⟨h1, h2⟩, rfl⟩ := hb
  exact ⟨w.heap.size + 2, rfl, row_set h1 (by simp) _, by omega, h2.setCell (p := ⟨_, 0, none⟩) (by simp) _⟩
end Go.Proofs.YtjndmpockfmenaaGreat
