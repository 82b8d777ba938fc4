/-
  The small functions: words, sizes, places, groups, parts.
-/
import Derived.Test.YtkpoilcbdcddcaaKB
import Derived.Test.YtkpoilcbdcddcaaCM
import Derived.LaidEqlPtr
namespace Go.Proofs.Ytkpoilcbdcddcaa
open Go.RowKit
set_option linter.unusedVariables false

def u8s (l : List Int) : List Value := l.map (.int .u8 ·)
theorem u8s_one (l : List Int) : ∀ u ∈ u8s l, u.oneCell' = true := by
  intro u hu
  unfold u8s at hu
  rw [List.mem_map] at hu
  obtain ⟨b, _, rfl⟩ := hu
  rfl
theorem u8info : (Try.prog.info? 5).map (fun i => (i.zero, i.size, i.bytes)) = some (some (.int .u8 0), 1, 1) := by kernel_rfl
theorem u8size : (Try.prog.info? 5).map (·.size) = some 1 := by kernel_rfl
theorem blk_free {W : World} {b : Nat} {cs : Array Value} {t : TypeId} (h : W.heap[b]? = some (.cells cs t (0, 0))) (i : Nat) : W.frozen? ⟨b, i, none⟩ = false := by simp [World.frozen?, h]
theorem add_own (g i : Nat) : (⟨g, 0, none⟩ : Addr).add i = ⟨g, i, none⟩ := by unfold Addr.add; split <;> simp_all
/-- A cell as a value, and its four parts. -/
def C4.val (c : C4) : Value := .agg #[.int .u8 c.k, .int .u64 c.wd, .int .i64 c.rg, .int .i64 c.of]
def C4.cs (c : C4) : List Value := [.int .u8 c.k, .int .u64 c.wd, .int .i64 c.rg, .int .i64 c.of]

theorem below_new4 (w : World) (cs : Array Value) (t : TypeId) (u0 u1 u2 u3 : Value) : Below w.heap.size w (((((w.alloc (.cells cs t)).setCell ⟨w.heap.size, 0, none⟩ u0).setCell ⟨w.heap.size, 1, none⟩ u1).setCell ⟨w.heap.size, 2, none⟩ u2).setCell ⟨w.heap.size, 3, none⟩ u3) :=
  ((((below1 w _).setCell (p := ⟨w.heap.size, 0, none⟩) (Nat.le_refl _) _).setCell (p := ⟨w.heap.size, 1, none⟩) (Nat.le_refl _) _).setCell (p := ⟨w.heap.size, 2, none⟩) (Nat.le_refl _) _).setCell (p := ⟨w.heap.size, 3, none⟩) (Nat.le_refl _) _
set_option maxRecDepth 100000 in
theorem word_any (n : Int) (w : World) : Calls Try.prog 24 #[.int .u64 n] w fun e w' => e = .returned (wordC n).val ∧ Below w.heap.size w w' := by
  go_enter Try.func24, Try.ntmps24
  go_wp2
  refine bodyPost_ret (v := (wordC n).val) (by simp [results, Try.results24, go_sem, C4.val, wordC]) rfl ⟨rfl, ?_⟩
  exact below1 w _
theorem sized_any (n : Int) (w : World) : Calls Try.prog 26 #[.int .i64 n] w fun e w' => e = .returned (.bool (sizedB n)) ∧ w = w' := by
  by_cases h1 : n = 1
  · subst h1
    go_enter Try.func26, Try.ntmps26
    go_wp2
    go_ret
    exact ⟨rfl, rfl⟩
  by_cases h2 : n = 2
  · subst h2
    go_enter Try.func26, Try.ntmps26
    go_wp2
    go_ret
    exact ⟨rfl, rfl⟩
  by_cases h4 : n = 4
  · subst h4
    go_enter Try.func26, Try.ntmps26
    go_wp2
    go_ret
    exact ⟨rfl, rfl⟩
  by_cases h8 : n = 8
  · subst h8
    go_enter Try.func26, Try.ntmps26
    go_wp2
    go_ret
    exact ⟨rfl, rfl⟩
  · have e1 : (n == 1) = false := by simpa using h1
    have e2 : (n == 2) = false := by simpa using h2
    have e4 : (n == 4) = false := by simpa using h4
    have e8 : (n == 8) = false := by simpa using h8
    rw [show sizedB n = false by simp [sizedB, h1, h2, h4, h8]]
    go_enter Try.func26, Try.ntmps26
    go_wp2
    go_ret
    exact ⟨rfl, rfl⟩
theorem placed_any (off n : Int) (w : World) (h1 : off ≤ 9223372036854775807) : Calls Try.prog 27 #[.int .i64 off, .int .i64 n] w fun e w' => e = .returned (.bool (placedB off n)) ∧ w = w' := by
  by_cases h : 0 ≤ off
  · rw [show placedB off n = decide (n ≤ 512 - off) by simp [placedB, h]]
    go_enter Try.func27, Try.ntmps27
    go_wp2
    go_ret
    exact ⟨rfl, rfl⟩
  · have e : decide (0 ≤ off) = false := by simpa using h
    rw [show placedB off n = false by simp [placedB, h]]
    go_enter Try.func27, Try.ntmps27
    go_wp2
    go_ret
    exact ⟨rfl, rfl⟩
theorem grouped_any (off n : Int) (w : World) (h0 : 0 ≤ off) : Calls Try.prog 28 #[.int .i64 off, .int .i64 n] w fun e w' => e = .returned (.bool (groupedB off n)) ∧ w = w' := by
  by_cases h : n = 8
  · subst h
    rw [show groupedB off 8 = (off % 8 == 0) by simp [groupedB]]
    go_enter Try.func28, Try.ntmps28
    go_wp2
    go_ret
    exact ⟨rfl, rfl⟩
  · have e : (n == 8) = false := by simpa using h
    rw [show groupedB off n = false by simp [groupedB, h]]
    go_enter Try.func28, Try.ntmps28
    go_wp2
    go_ret
    exact ⟨rfl, rfl⟩
set_option maxRecDepth 100000 in
theorem partSize_any (x y : Int) (w : World) (h : 0 ≤ y - x) (h2 : y - x ≤ 8) : Calls Try.prog 46 #[.agg #[.int .i64 x, .int .i64 y]] w fun e w' => e = .returned (.int .i64 (y - x)) ∧ Below w.heap.size w w' := by
  go_enter Try.func46, Try.ntmps46
  go_wp2
  go_ret
  exact ⟨rfl, below1 w _⟩
def bitsM (x y : Nat) : Int := 2 ^ y - 2 ^ x
theorem bits_fin : ∀ y : Fin 9, ∀ x : Fin 9, x.1 < y.1 → ((2 : Int) ^ y.1 % 256 - 2 ^ x.1 % 256) % 256 = bitsM x.1 y.1 := by decide
set_option maxRecDepth 100000 in
theorem partBits_any (x y : Nat) (w : World) (h : x < y) (h2 : y ≤ 8) : Calls Try.prog 49 #[.agg #[.int .i64 x, .int .i64 y]] w fun e w' => e = .returned (.int .u8 (bitsM x y)) ∧ Below w.heap.size w w' := by
  go_enter Try.func49, Try.ntmps49
  go_wp2
  go_region
  go_wp2
  go_ret
  refine ⟨congrArg (fun n => Ending.returned (.int .u8 n)) (bits_fin ⟨y, by omega⟩ ⟨x, by omega⟩ h), (below1 w _).drew⟩
end Go.Proofs.Ytkpoilcbdcddcaa
