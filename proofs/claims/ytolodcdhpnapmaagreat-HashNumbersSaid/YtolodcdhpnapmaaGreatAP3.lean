/-
  Rows and what was grown from them. No program is named here.
-/
import Derived.Test.YtolodcdhpnapmaaGreatAP2
namespace Go.Proofs.YtolodcdhpnapmaaGreat
open Go.RowKit
set_option linter.unusedVariables false

/-- The rows v 0 .. v (m - 1) hold their marks; from those ahead of k another row was grown, and it lies apart from all rows but its own. -/
structure Fam (w : World) (e : TypeId) (sz m : Nat) (v : Nat → Value) (n : Nat → Nat) (mk : Nat → Nat → List Value) (k t : Nat) (H : Nat → Value) (C : Nat → List Value) : Prop where
  rows : ∀ i, i < m → w.ownsRow 0 e sz (v i) (n i) (marks (mk i) (n i))
  gone : ∀ i, i < k → w.ownsRow 0 e sz (H i) (n i + t) (C i)
  apart : ∀ i, i < k → ∀ j, j < m → j ≠ i → ∀ b, (H i).ownBlock = some b → (v j).ownBlock ≠ some b
  sep : Sep m v
theorem Fam.start {w : World} {e : TypeId} {sz m t k : Nat} {v H : Nat → Value} {n : Nat → Nat} {mk : Nat → Nat → List Value} {C : Nat → List Value} (h : Marked w e sz m v n mk m k) (hs : Sep m v) : Fam w e sz m v n mk 0 t H C :=
  ⟨fun i hi => by
    obtain ⟨ys, h1, h2, _⟩ := h i hi
    rw [← h2 hi]
    exact h1, fun i hi => absurd hi (by omega), fun i hi => absurd hi (by omega), hs⟩
theorem Fam.again {w : World} {e : TypeId} {sz m t k t' : Nat} {v H H' : Nat → Value} {n : Nat → Nat} {mk : Nat → Nat → List Value} {C C' : Nat → List Value} (h : Fam w e sz m v n mk k t H C) : Fam w e sz m v n mk 0 t' H' C' :=
  ⟨h.rows, fun i hi => absurd hi (by omega), fun i hi => absurd hi (by omega), h.sep⟩
theorem Fam.below {w w' : World} {e : TypeId} {sz m t k : Nat} {v H : Nat → Value} {n : Nat → Nat} {mk : Nat → Nat → List Value} {C : Nat → List Value} (h : Fam w e sz m v n mk k t H C) (hb : Below w.heap.size w w') : Fam w' e sz m v n mk k t H C :=
  ⟨fun i hi => owns_kept_below (h.rows i hi) hb, fun i hi => owns_kept_below (h.gone i hi) hb, h.apart, h.sep⟩
/-- A cell of a row of another kind is laid. -/
theorem Fam.set {w : World} {e e' : TypeId} {sz m t k g j N cap sz' : Nat} {v H : Nat → Value} {n : Nat → Nat} {mk : Nat → Nat → List Value} {C : Nat → List Value} {zs : List Value} (h : Fam w e sz m v n mk k t H C) (ho : w.ownsRow 0 e' sz' (.slice (some ⟨g, 0, none⟩) N cap) N zs) (hne : e ≠ e') (u : Value) : Fam (w.setCell ⟨g, j, none⟩ u) e sz m v n mk k t H C :=
  ⟨fun i hi => (h.rows i hi).kept (grown_set w g j u) (by
      rcases owns_ne (h.rows i hi) ho hne with h | h
      · exact .inl h
      · exact .inr h), fun i hi => (h.gone i hi).kept (grown_set w g j u) (by
      rcases owns_ne (h.gone i hi) ho hne with h | h
      · exact .inl h
      · exact .inr h), h.apart, h.sep⟩
theorem Fam.step {w w' : World} {e : TypeId} {sz m t k : Nat} {v H : Nat → Value} {n : Nat → Nat} {mk : Nat → Nat → List Value} {C : Nat → List Value} {G : Value} (h : Fam w e sz m v n mk k t H C) (hk : k < m)
    (hg : Grow w w' e sz (v k) G (n k) (n k + t) (marks (mk k) (n k)) (C k)) : Fam w' e sz m v n mk (k + 1) t (fun i => if i = k then G else H i) C := by
  refine ⟨fun i hi => ?_, fun i hi => ?_, fun i hi j hj hji b hb => ?_, h.sep⟩
  · by_cases hik : i = k
    · subst hik; exact hg.base
    · refine (h.rows i hi).kept hg.frame ?_
      cases hb : (v i).ownBlock with
      | none => exact .inl rfl
      | some b => exact .inr (fun e => h.sep i k hi hk hik b hb e.symm)
  · by_cases hik : i = k
    · subst hik; simp only [if_pos]; exact hg.top
    · have hlt : i < k := by omega
      simp only [if_neg hik]
      refine (h.gone i hlt).kept hg.frame ?_
      cases hb : (H i).ownBlock with
      | none => exact .inl rfl
      | some b => exact .inr (fun e => h.apart i hlt k hk (by omega) b hb e.symm)
  · by_cases hik : i = k
    · subst hik
      simp only [if_pos] at hb
      rcases hg.from_ with ⟨b', cap, e1, e2⟩ | ⟨b', e1, e2⟩ | e1
      · rw [e2] at hb
        have : (v i).ownBlock = some b := by rw [e1]; exact hb
        exact h.sep i j hk hj (by omega) b this
      · rw [e1] at hb
        injection hb with hb
        subst hb
        intro hv
        have := ((h.rows j hj).lt b' hv).2
        omega
      · rw [e1] at hb
        cases hb
    · have hlt : i < k := by omega
      simp only [if_neg hik] at hb
      exact h.apart i hlt j hj hji b hb

/-- The blocks of which F holds lie as they lay. -/
structure Kept (F : Nat → Prop) (w w' : World) : Prop where
  os : w'.os = w.os
  tape : w'.tape = w.tape
  output : w'.output = w.output
  size : w.heap.size ≤ w'.heap.size
  block : ∀ k, k < w.heap.size → F k → w'.heap[k]? = w.heap[k]?
theorem Kept.refl (F : Nat → Prop) (w : World) : Kept F w w := ⟨rfl, rfl, rfl, Nat.le_refl _, fun _ _ _ => rfl⟩
theorem Kept.drew {F : Nat → Prop} {a w : World} (h : Kept F a w) : Kept F a w.drew := ⟨h.os, h.tape, h.output, h.size, h.block⟩
theorem Kept.later {F : Nat → Prop} {a b c : World} (h : Kept F a b) (k : Below b.heap.size b c) : Kept F a c :=
  ⟨k.os.trans h.os, k.tape.trans h.tape, k.output.trans h.output, Nat.le_trans h.size k.size, fun i hi hF => (k.block i (Nat.lt_of_lt_of_le hi h.size)).trans (h.block i hi hF)⟩
theorem Kept.grown {F : Nat → Prop} {a w w' : World} {row : Option Nat} (h : Kept F a w) (hg : w.grownBy w' row) (hr : ∀ k, row = some k → k < a.heap.size → ¬ F k) : Kept F a w' :=
  ⟨hg.os.trans h.os, hg.tape.trans h.tape, hg.output.trans h.output, Nat.le_trans h.size hg.size, fun i hi hF => (hg.block i (Nat.lt_of_lt_of_le hi h.size) (fun e => hr i e.symm hi hF)).trans (h.block i hi hF)⟩
theorem Kept.setCell {F : Nat → Prop} {a w : World} (h : Kept F a w) {p : Addr} (hp : p.block < a.heap.size → ¬ F p.block) (u : Value) : Kept F a (w.setCell p u) :=
  ⟨h.os, h.tape, h.output, by simpa [World.setCell] using h.size, fun i hi hF => (Below.heap_setCell w p u i (fun e => hp (by rw [← e]; exact hi) (by rw [← e]; exact hF))).trans (h.block i hi hF)⟩
theorem Kept.to_below {F : Nat → Prop} {w w' : World} {B : Nat} (h : Kept F w w') (hB : ∀ k, k < B → F k) (hBs : B ≤ w.heap.size) : Below B w w' := ⟨h.os, h.tape, h.output, h.size, fun k hk => h.block k (by omega) (hB k hk)⟩
end Go.Proofs.YtolodcdhpnapmaaGreat
