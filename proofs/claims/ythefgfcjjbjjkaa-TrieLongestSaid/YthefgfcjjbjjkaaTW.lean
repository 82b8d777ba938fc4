/-
  The document's examples.
-/
import Derived.Test.YthefgfcjjbjjkaaTV
namespace Go.Proofs.Ythefgfcjjbjjkaa
open Go.RowKit
set_option linter.unusedVariables false
set_option linter.unusedSimpArgs false

/-- A row of the call's own, below which nothing lies. -/
def KeyTold (b : Int) (l : List Int) (w : World) (e : Ending) (w' : World) : Prop := ∃ g c, e = .returned (.slice (some ⟨g, 0, none⟩) (4 + l.length) c) ∧ OwnB w' w.heap.size (.slice (some ⟨g, 0, none⟩) (4 + l.length) c) (4 + l.length) ([b, 0, 0, 0] ++ l) ∧ 4 + l.length ≤ c ∧ Below w.heap.size w w'
theorem owns_lit (w : World) (l : List Int) (hl : l.length ≤ 1000) : (w.alloc (.cells (u8s l).toArray 5)).ownsRow 0 5 1 (.slice (some ⟨w.heap.size, 0, none⟩) l.length l.length) l.length (u8s l) :=
  ⟨by simp [u8s], .inr ⟨w.heap.size, l.length, _, rfl, Nat.zero_le _, World.alloc_heap_new w _, Nat.le_refl _, by unfold maxLen; omega, by simp [u8s], by rw [List.take_of_length_le (by simp [u8s])]⟩⟩
theorem own_cap {w : World} {g n c : Nat} {l : List Int} (h : w.ownsRow 0 5 1 (.slice (some ⟨g, 0, none⟩) n c) n (u8s l)) : n ≤ c := by
  rcases h.2 with ⟨e, _⟩ | ⟨g', cap, cur, e, _, _, h3, _⟩
  · cases e
  · injection e with _ _ e3
    omega
set_option maxRecDepth 100000 in
set_option maxHeartbeats 1000000 in
theorem key_any (b : Int) (A : Option Addr) (c B : Nat) (l : List Int) (w : World) (hb : 0 ≤ b ∧ b < 256) (hr : Rd w B 1 A l.length (u8s l)) (hB : B ≤ w.heap.size) (hl : l.length ≤ 64) (hA : A = none → l.length = 0) :
    Calls Try.prog 32 #[.int .i64 b, .slice A l.length c] w (KeyTold b l w) := by
  obtain ⟨i0, hinf, hz0, hz1, hz2⟩ := info_parts u8info
  have hwr : IntKind.u8.wrap b = b := by rw [IntKind.wrap_u8]; omega
  have hb1 := below1 w (.cells (u8s [b, 0, 0, 0]).toArray 5)
  have HO := hide (owns_lit w [b, 0, 0, 0] (by simp))
  have HR := hide (hr.below (hb1.mono hB))
  have HB := hide hb1
  clear hb1 hr
  go_enter Try.func32, Try.ntmps32
  go_wp2_with (with_reducible refine stop_append ?_)
  show Hid _
  refine start_here ?_
  refine wpList_append_rd2 rfl _ _ _ _ rfl 5 i0 _ 1 1 Try.underlying35 Try.underlying35 hinf hz0 hz1 hz2 rfl (by decide) _ 4 (u8s [b, 0, 0, 0]) rfl HO.out (w.alloc (.cells (u8s [b, 0, 0, 0]).toArray 5)).heap.size A l.length c (u8s l) rfl (HR.out.mono (Nat.le_trans hB (by simp))) hA (fun u hu => by unfold u8s at hu; obtain ⟨x, _, rfl⟩ := List.mem_map.1 hu; rfl) (by unfold maxLen; omega) (by omega) ?_
  intro v w1 hl1
  have hv : ∀ g, (Value.slice (some ⟨w.heap.size, 0, none⟩) 4 4).ownBlock = some g → w.heap.size ≤ g := fun g hg => by
    simp [Value.ownBlock] at hg
    omega
  have h1 : w1.ownsRow 0 5 1 v (4 + l.length) (u8s ([b, 0, 0, 0] ++ l)) := by
    have := hl1.1
    unfold u8s at this ⊢
    rw [List.map_append]
    exact this
  have h2 := longer_from hl1 (by simp) hv
  have H3 := hide (longer_below HB.out (by simp) hv hl1)
  obtain ⟨g, cap, rfl⟩ := ownsRow_succ (k := 3 + l.length) (by rw [show 3 + l.length + 1 = 4 + l.length by omega]; exact h1)
  rw [show 3 + l.length + 1 = 4 + l.length by omega] at h1 h2 ⊢
  have H1 := hide h1
  have H2 := hide h2
  clear hl1 hv h1 h2
  go_wp2
  go_ret
  exact ⟨g, cap, rfl, ⟨H1.out, H2.out⟩, own_cap H1.out, H3.out⟩
end Go.Proofs.Ythefgfcjjbjjkaa
