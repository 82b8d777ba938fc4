/-
  A slice of rows of one length, some of them not yet made: what ArrayKeeps remembers.
-/
import Derived.Test.YtjkoaphomimebaaAWK
namespace Go.Proofs.Ytjkoaphomimebaa
open Go.RowKit
set_option linter.unusedVariables false

def OfL (G sz : Nat) (M : List AR) (g : Nat) : Prop := g = G ∨ ∃ r ∈ M, (r.sl sz).ownBlock = some g
structure Alls (w : World) (B G sz : Nat) (M : List AR) (k : Nat) : Prop where
  cel : w.heap[G]? = some (.cells (M.map (AR.sl sz) ++ List.replicate k (Value.slice none 0 0)).toArray 22 (0, 0))
  row : ∀ (i : Nat) (r : AR), M[i]? = some r → w.ownsRow 0 5 1 (.slice r.A sz r.c) sz (u8s r.bs)
  low : ∀ g, OfL G sz M g → B ≤ g
  sep : ∀ (i j : Nat) (r s : AR), M[i]? = some r → M[j]? = some s → i ≠ j → ∀ g, (r.sl sz).ownBlock = some g → (s.sl sz).ownBlock ≠ some g
theorem Alls.lt {w : World} {B G sz k : Nat} {M : List AR} (h : Alls w B G sz M k) : ∀ g, OfL G sz M g → g < w.heap.size := by
  rintro g (rfl | ⟨r, hr, hg⟩)
  · exact at_lt h.cel
  · obtain ⟨i, hi⟩ := List.mem_iff_getElem?.1 hr
    exact ((h.row i r hi).lt g hg).2
theorem Alls.kept {w w' : World} {B G sz k : Nat} {M : List AR} {F : Nat → Prop} (h : Alls w B G sz M k) (hk : Kept F w w') (hF : ∀ g, OfL G sz M g → F g) : Alls w' B G sz M k :=
  ⟨(hk.block G (at_lt h.cel) (hF G (.inl rfl))).trans h.cel, fun i r hi => owns_kept (h.row i r hi) hk (fun g hg => hF g (.inr ⟨r, List.mem_of_getElem? hi, hg⟩)), h.low, h.sep⟩
theorem Alls.below {w w' : World} {B G sz k : Nat} {M : List AR} (h : Alls w B G sz M k) (hb : Below w.heap.size w w') : Alls w' B G sz M k :=
  h.kept (F := fun _ => True) (Kept.of_below hb) (fun _ _ => trivial)
theorem Alls.cell {w : World} {B G sz k : Nat} {M : List AR} (h : Alls w B G sz M k) {i : Nat} {r : AR} (hr : M[i]? = some r) : w.cell? ⟨G, i, none⟩ = some (.slice r.A sz r.c) := by
  have hi := (List.getElem?_eq_some_iff.1 hr).1
  rw [blk_cell h.cel]
  have hm : M[i] = r := (List.getElem?_eq_some_iff.1 hr).2
  simp [List.getElem?_append_left, hi, hm, AR.sl]
theorem Alls.off {w : World} {B G sz k : Nat} {M : List AR} (h : Alls w B G sz M k) {i : Nat} {r : AR} (hr : M[i]? = some r) : (r.sl sz).ownBlock ≠ some G := fun e => by
  obtain ⟨cur, hc⟩ := owns_cells (h.row i r hr) e
  rw [h.cel] at hc; cases hc
theorem set_heap {w : World} {b i : Nat} {cs : Array Value} {t : TypeId} (h : w.heap[b]? = some (.cells cs t (0, 0))) (u : Value) : (w.setCell ⟨b, i, none⟩ u).heap[b]? = some (.cells (cs.setIfInBounds i u) t (0, 0)) := by
  simp [World.setCell, Array.getElem?_modify, h]
/-- A made row is put at a place that is made. -/
theorem Alls.set {w : World} {B G sz i : Nat} {M : List AR} {r : AR} (h : Alls w B G sz M 0) (hi : i < M.length) (ho : w.ownsRow 0 5 1 (.slice r.A sz r.c) sz (u8s r.bs)) (hn : ∀ g, (r.sl sz).ownBlock = some g → B ≤ g ∧ ¬ OfL G sz M g) :
    Alls (w.setCell ⟨G, i, none⟩ (r.sl sz)) B G sz (M.set i r) 0 := by
  have hk : Kept (fun g => g ≠ G) w (w.setCell ⟨G, i, none⟩ (r.sl sz)) := (Kept.of_below (F := fun g => g ≠ G) (Below.refl _ w)).setCell (fun _ e => e rfl) _
  refine ⟨?_, fun j s hj => ?_, ?_, fun j k s t hj hk2 hjk g hg => ?_⟩
  · rw [set_heap h.cel]
    congr 2
    simp [List.map_set]
  · by_cases e : i = j
    · subst e
      simp [hi] at hj
      subst hj
      exact owns_kept ho hk (fun g hg e => (hn g hg).2 (.inl e))
    · rw [List.getElem?_set_ne e] at hj
      exact owns_kept (h.row j s hj) hk (fun g hg e => h.off hj (e ▸ hg))
  · rintro g (rfl | ⟨s, hs, hg⟩)
    · exact h.low _ (.inl rfl)
    · rcases List.mem_or_eq_of_mem_set hs with hs | rfl
      · exact h.low _ (.inr ⟨s, hs, hg⟩)
      · exact (hn g hg).1
  · by_cases e1 : i = j
    · subst e1
      simp [hi] at hj
      subst hj
      rw [List.getElem?_set_ne hjk] at hk2
      exact fun e => (hn g hg).2 (.inr ⟨t, List.mem_of_getElem? hk2, e⟩)
    · rw [List.getElem?_set_ne e1] at hj
      by_cases e2 : i = k
      · subst e2
        simp [hi] at hk2
        subst hk2
        exact fun e => (hn g e).2 (.inr ⟨s, List.mem_of_getElem? hj, hg⟩)
      · rw [List.getElem?_set_ne e2] at hk2
        exact h.sep j k s t hj hk2 hjk g hg
/-- A made row is put at the first place that is not made. -/
theorem Alls.next {w : World} {B G sz k : Nat} {M : List AR} {r : AR} (h : Alls w B G sz M (k + 1)) (ho : w.ownsRow 0 5 1 (.slice r.A sz r.c) sz (u8s r.bs)) (hn : ∀ g, (r.sl sz).ownBlock = some g → B ≤ g ∧ ¬ OfL G sz M g) :
    Alls (w.setCell ⟨G, M.length, none⟩ (r.sl sz)) B G sz (M ++ [r]) k := by
  have hk : Kept (fun g => g ≠ G) w (w.setCell ⟨G, M.length, none⟩ (r.sl sz)) := (Kept.of_below (F := fun g => g ≠ G) (Below.refl _ w)).setCell (fun _ e => e rfl) _
  have hat : ∀ (j : Nat) (s : AR), (M ++ [r])[j]? = some s → M[j]? = some s ∨ (j = M.length ∧ s = r) := fun j s hj => by
    rcases Nat.lt_trichotomy j M.length with hl | hl | hl
    · rw [List.getElem?_append_left hl] at hj
      exact .inl hj
    · subst hl
      simp at hj
      exact .inr ⟨rfl, hj.symm⟩
    · rw [List.getElem?_eq_none (by simp; omega)] at hj
      cases hj
  refine ⟨?_, fun j s hj => ?_, ?_, fun i j s t hj hk2 hjk g hg => ?_⟩
  · rw [set_heap h.cel]
    congr 2
    simp [List.replicate_succ]
  · rcases hat j s hj with hj | ⟨_, rfl⟩
    · exact owns_kept (h.row j s hj) hk (fun g hg e => h.off hj (e ▸ hg))
    · exact owns_kept ho hk (fun g hg e => (hn g hg).2 (.inl e))
  · rintro g (rfl | ⟨s, hs, hg⟩)
    · exact h.low _ (.inl rfl)
    · rcases List.mem_append.1 hs with hs | hs
      · exact h.low _ (.inr ⟨s, hs, hg⟩)
      · simp at hs
        subst hs
        exact (hn g hg).1
  · rcases hat i s hj with hi | ⟨e1, rfl⟩
    · rcases hat j t hk2 with hj2 | ⟨e2, rfl⟩
      · exact h.sep i j s t hi hj2 hjk g hg
      · exact fun e => (hn g e).2 (.inr ⟨s, List.mem_of_getElem? hi, hg⟩)
    · rcases hat j t hk2 with hj2 | ⟨e2, rfl⟩
      · exact fun e => (hn g hg).2 (.inr ⟨t, List.mem_of_getElem? hj2, e⟩)
      · omega
/-- A make of 1 to 40 values of 1 to 40 bytes is right. -/
theorem spec_small {sz n : Nat} (h1 : 1 ≤ sz) (h2 : sz ≤ 40) (h3 : 1 ≤ n) (h4 : n ≤ 40) : specM 1 4 sz n = 0 := by
  have hsz : sz - 1 < 40 := by omega
  have hn : n - 1 < 40 := by omega
  have H : ∀ a < 40, ∀ b < 40, specM 1 4 ((a + 1 : Nat) : Int) ((b + 1 : Nat) : Int) = 0 := by decide +kernel
  have := H (sz - 1) hsz (n - 1) hn
  rwa [show sz - 1 + 1 = sz by omega, show n - 1 + 1 = n by omega] at this
end Go.Proofs.Ytjkoaphomimebaa
