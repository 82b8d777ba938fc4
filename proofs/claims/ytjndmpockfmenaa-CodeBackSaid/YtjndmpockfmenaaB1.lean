/-
  There and back: what the law does at whatever slots and bytes.
-/
import Derived.Test.YtjndmpockfmenaaP1
namespace Go.Proofs.Ytjndmpockfmenaa
open Go.RowKit
set_option linter.unusedVariables false

theorem pcells_one (l : List Ins) : ∀ u ∈ pcells l, u.oneCell' = true := by
  intro u hu
  unfold pcells at hu
  rw [List.mem_flatMap] at hu
  obtain ⟨s, _, hu⟩ := hu
  unfold Ins.cells at hu
  simp only [List.mem_cons, List.not_mem_nil, or_false] at hu
  rcases hu with rfl | rfl | rfl | rfl | rfl <;> rfl
theorem u8s_one (l : List Int) : ∀ u ∈ u8s l, u.oneCell' = true := by
  intro u hu
  unfold u8s at hu
  rw [List.mem_map] at hu
  obtain ⟨b, _, rfl⟩ := hu
  rfl
theorem put_some (m c : Nat) (A : Option Addr) (B : Nat) (l : List Ins) (w : World) (hm : m ≤ 4096) (hp : Prg w B A m l) (hB : B ≤ w.heap.size) (hf : ∀ s ∈ l, s.Fits) :
    Calls Try.prog 8 #[.slice A m c] w fun e w' => ∃ v err, e = .returned (.tuple #[v, .int .i64 err]) ∧ Below w.heap.size w w' := by
  cases hr : allRight l with
  | true => exact (put_right m c A B l w hm hp hB hf hr).mono fun e w' ⟨g, he, hm⟩ => ⟨_, _, he, hm.2.2⟩
  | false => exact (put_wrong m c A B l w hm hp hB hf hr).mono fun e w' ⟨he, hb⟩ => ⟨_, _, he, hb⟩

set_option maxRecDepth 100000 in
set_option maxHeartbeats 2000000 in
theorem back_long (A0 A1 A2 : Option Addr) (n0 n1 n2 c0 c1 c2 : Nat) (w : World) (r0 : n0 ≤ 140737488351232) (r1 : n1 ≤ 140737488351232) (r2 : n2 ≤ 140737488351232) (h : 2000 < n0 + n1 ∨ 16000 < n2) :
    Calls Try.prog 5 #[.slice A0 n0 c0, .slice A1 n1 c1, .slice A2 n2 c2] w fun e w' => e = .returned (.bool true) ∧ Below w.heap.size w w' := by
  by_cases h1 : 2000 < n0 + n1
  · have hd : decide (2000 < (n0 : Int) + n1) = true := by simp; omega
    clear h
    go_enter Try.func5, Try.ntmps5
    go_wp2_with (go_at_call 6; refine (awake_any _).mono ?_; rintro e w1 ⟨rfl, hb⟩; have HB := hide hb; clear hb)
    go_ret
    exact ⟨rfl, HB.out⟩
  · have hd : decide (2000 < (n0 : Int) + n1) = false := by simp; omega
    have hd2 : decide (16000 < (n2 : Int)) = true := by simp; omega
    clear h
    go_enter Try.func5, Try.ntmps5
    go_wp2_with (go_at_call 6; refine (awake_any _).mono ?_; rintro e w1 ⟨rfl, hb⟩; have HB := hide hb; clear hb)
    go_ret
    exact ⟨rfl, HB.out⟩
end Go.Proofs.Ytjndmpockfmenaa
