/-
  Rows of numbers: held against each other; one cut out.
-/
import Derived.Test.YtgancfllpmgciaaM8
import Derived.Deep.QuietTactic
namespace Go.Proofs.Ytgancfllpmgciaa
open Go.RowKit
set_option linter.unusedVariables false

def i64s (l : List Int) : List Value := l.map (fun m => Value.int .i64 m)
def I64 (n : Int) : Prop := -9223372036854775808 ≤ n ∧ n ≤ 9223372036854775807
structure AIs (w : World) (B : Nat) (A : Option Addr) (m : Nat) (l : List Int) : Prop where
  rd : Rd w B 1 A m (i64s l)
  all : ∀ x ∈ l, I64 x
theorem AIs.below {w w' : World} {B m : Nat} {A : Option Addr} {l : List Int} (h : AIs w B A m l) (hb : Below B w w') : AIs w' B A m l := ⟨h.rd.below hb, h.all⟩
theorem AIs.cell {w : World} {B m j : Nat} {A : Option Addr} {l : List Int} (h : AIs w B A m l) (hj : j < m) : ∃ ad p, A = some ad ∧ l[j]? = some p ∧ I64 p ∧ w.cell? (ad.add j) = some (.int .i64 p) := by
  obtain ⟨ad, e, hb, hc⟩ := h.rd.2 (by omega)
  have hl : l.length = m := by have := h.rd.1; simpa [i64s] using this
  have hp : l[j]? = some l[j] := List.getElem?_eq_getElem (by omega)
  exact ⟨ad, l[j], e, hp, h.all _ (List.mem_of_getElem? hp), hc j _ (by simp [i64s, hp])⟩
theorem Rd.int {w : World} {B n k : Nat} {A : Option Addr} {l : List Int} (h : Rd w B 1 A n (i64s l)) (hk : k < n) : ∃ ad b, A = some ad ∧ l[k]? = some b ∧ w.cell? (ad.add k) = some (.int .i64 b) := by
  obtain ⟨ad, e, _, hc⟩ := h.2 (by omega)
  have hl : k < l.length := by have := h.1; simp [i64s] at this; omega
  exact ⟨ad, l[k], e, List.getElem?_eq_getElem hl, hc k _ (by simp [i64s, List.getElem?_eq_getElem hl])⟩
set_option maxRecDepth 100000 in
set_option maxHeartbeats 1000000 in
theorem sameInts_yes (A A' : Option Addr) (n c c' B : Nat) (l : List Int) (w : World) (h : Rd w B 1 A n (i64s l)) (h' : Rd w B 1 A' n (i64s l)) (hB : B ≤ w.heap.size) (hn : n ≤ 1000000) :
    Calls Try.prog 12 #[.slice A n c, .slice A' n c'] w fun e w' => e = .returned (.bool true) ∧ Below w.heap.size w w' := by
  go_enter Try.func12, Try.ntmps12
  go_wp2
  go_loopw [5] (fun p wr => ∃ k : Nat, k ≤ n ∧ p = .int .i64 k ∧ Below w.heap.size w wr) (fun p _ => n - (intOf p).toNat)
  case atStart => exact ⟨0, Nat.zero_le _, rfl, Below.refl _ _⟩
  case round =>
    obtain ⟨k, hk, rfl, hb⟩ := hrel
    by_cases hlt : k < n
    · obtain ⟨ad, b, rfl, hl, hc⟩ := (h.below (hb.mono hB)).int hlt
      obtain ⟨ad', b', rfl, hl', hc'⟩ := (h'.below (hb.mono hB)).int hlt
      rw [hl] at hl'
      cases hl'
      have HB := hide hb
      have HL := hide hl
      clear hb h h' hl
      go_wp2
      go_region
      go_wp2
      go_roundw
      case rel => exact ⟨k + 1, by omega, by go_num, HB.out.drew⟩
      case measure => simp [intOf]; omega
    · have HB := hide hb
      clear hb h h'
      go_wp2
      go_ret
      exact ⟨rfl, HB.out⟩
theorem hands_i64 (L : List SE) : hands L = i64s (L.map fun r => (r.h : Int)) := by simp [hands, i64s]
theorem empty_owns (w : World) : ((w.alloc (.cells #[] 3)).drew).ownsRow 0 3 1 (.slice (some ⟨w.heap.size, 0, none⟩) 0 0) 0 [] :=
  ⟨rfl, .inr ⟨w.heap.size, 0, #[], rfl, Nat.zero_le _, World.alloc_heap_new _ _, Nat.le_refl _, by simp [maxLen], by simp, by simp⟩⟩
/-- One is cut out of a row: the run of both appends. -/
theorem cut_out {w : World} {g n cap k : Nat} {xs : List Value} (ho : w.ownsRow 0 3 1 (.slice (some ⟨g, 0, none⟩) n cap) n xs) (hk : k < n) (hn : n ≤ 1000) (h1 : ∀ u ∈ xs, u.oneCell' = true) :
    ∃ A2 A1 c1 A3 c3 w1 w2, (if cap = k + 1 then some (⟨g, 0, none⟩ : Addr) else some ⟨g, k + 1, none⟩) = some A2 ∧
      (Builtin.append_ #[35, 35] 35 #[.slice (some ⟨w.heap.size, 0, none⟩) 0 0, .slice (some ⟨g, 0, none⟩) k cap]).run Try.prog ((w.alloc (.cells #[] 3)).drew) = .ok (.slice A1 k c1) w1 ∧
      (Builtin.append_ #[35, 35] 35 #[.slice A1 k c1, .slice (some A2) (n - (k + 1)) (cap - (k + 1))]).run Try.prog w1 = .ok (.slice A3 (n - 1) c3) w2 ∧
      w2.ownsRow 0 3 1 (.slice A3 (n - 1) c3) (n - 1) (xs.take k ++ xs.drop (k + 1)) ∧ (∀ g', blkOf A3 g' → w.heap.size ≤ g') ∧ Below w.heap.size w w2 := by
  obtain ⟨i0, hi, hz0, hz1, hz2⟩ := info_parts intInfo
  have hl := ho.1
  have hb0 : Below w.heap.size w ((w.alloc (.cells #[] 3)).drew) := (below1 w _).drew
  have hglt := (ho.lt g rfl).2
  have hd := owns_kept_below ho hb0
  have hpre := owns_prefix (n := k) hd (by omega)
  have hr1 : Rd ((w.alloc (.cells #[] 3)).drew) (g + 1) 1 (some ⟨g, 0, none⟩) k (xs.take k) := by have := Rd.of_owns hpre; simpa using this
  obtain ⟨v1, w1, hrun1, l1⟩ := run_append_rd (P := Try.prog) ((w.alloc (.cells #[] 3)).drew) 35 35 3 i0 _ 1 8 Try.underlying35 hi hz0 hz1 hz2 rfl (by decide)
    (.slice (some ⟨w.heap.size, 0, none⟩) 0 0) 0 [] (empty_owns w) (g + 1) (some ⟨g, 0, none⟩) k cap (xs.take k) hr1 (fun e => by cases e) (fun u hu => h1 u (List.mem_of_mem_take hu)) (by unfold maxLen; omega) (by omega)
  have f0 : ∀ g', (Value.slice (some ⟨w.heap.size, 0, none⟩) 0 0).ownBlock = some g' → w.heap.size ≤ g' := fun g' e => by cases e; exact Nat.le_refl _
  have hb1 := longer_below hb0 hb0.size f0 l1
  have f1 := longer_from l1 hb0.size f0
  rw [Nat.zero_add] at l1
  obtain ⟨A1, c1, rfl, _⟩ := owns_slice l1.1
  have hd1 := owns_kept_below ho hb1
  obtain ⟨A2, hA2, hrd⟩ : ∃ A2 : Addr, (if cap = k + 1 then some (⟨g, 0, none⟩ : Addr) else some ⟨g, k + 1, none⟩) = some A2 ∧ Rd w1 (g + 1) 1 (some A2) (n - (k + 1)) (xs.drop (k + 1)) := by
    have hcap : n ≤ cap := by
      rcases ho.2 with ⟨h0, _⟩ | ⟨g', cap', cur, hv, _, _, hnc, _⟩
      · cases h0
      · cases hv; exact hnc
    by_cases hc : cap = k + 1
    · refine ⟨⟨g, 0, none⟩, by simp [hc], by simp; omega, fun h0 => by omega⟩
    · refine ⟨⟨g, k + 1, none⟩, by simp [hc], by simp; omega, fun _ => ⟨_, rfl, Nat.lt_succ_self _, fun j u hu => ?_⟩⟩
      rw [List.getElem?_drop] at hu
      have := hd1.cells (g := g) rfl (k + 1 + j) u hu
      rw [own_add] at this ⊢
      rwa [Nat.zero_add] at this
  obtain ⟨v2, w2, hrun2, l2⟩ := run_append_rd (P := Try.prog) w1 35 35 3 i0 _ 1 8 Try.underlying35 hi hz0 hz1 hz2 rfl (by decide)
    (.slice A1 k c1) k (xs.take k) (by have := l1.1; simpa using this) (g + 1) (some A2) (n - (k + 1)) (cap - (k + 1)) (xs.drop (k + 1)) hrd (fun e => by cases e) (fun u hu => h1 u (List.mem_of_mem_drop hu)) (by unfold maxLen; omega) (by omega)
  have hb2 := longer_below hb1 hb1.size f1 l2
  have f2 := longer_from l2 hb1.size f1
  have e1 : k + (n - (k + 1)) = n - 1 := by omega
  rw [e1] at l2
  obtain ⟨A3, c3, rfl, _⟩ := owns_slice l2.1
  exact ⟨A2, A1, c1, A3, c3, w1, w2, hA2, hrun1, hrun2, l2.1, fun g' hg' => f2 g' (own_of_slice.trans hg'), hb2⟩
end Go.Proofs.Ytgancfllpmgciaa
