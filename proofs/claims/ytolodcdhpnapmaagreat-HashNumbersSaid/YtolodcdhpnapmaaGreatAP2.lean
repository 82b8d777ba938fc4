/-
  Families of rows that lie apart. No program is named here.
-/
import Derived.Test.YtolodcdhpnapmaaGreatAP1
namespace Go.Proofs.YtolodcdhpnapmaaGreat
open Go.RowKit
set_option linter.unusedVariables false

theorem grown_set (w : World) (b i : Nat) (u : Value) : w.grownBy (w.setCell ⟨b, i, none⟩ u) (some b) :=
  ⟨rfl, rfl, rfl, by simp [World.setCell], fun k _ hk => Below.heap_setCell _ _ _ k (fun e => hk (by rw [e]))⟩
theorem owns_set {w : World} {e : TypeId} {sz g n cap j : Nat} {xs : List Value} (h : w.ownsRow 0 e sz (.slice (some ⟨g, 0, none⟩) n cap) n xs) (hj : j < n * sz) (u : Value) :
    (w.setCell ⟨g, j, none⟩ u).ownsRow 0 e sz (.slice (some ⟨g, 0, none⟩) n cap) n (xs.set j u) := by
  refine ⟨by rw [List.length_set]; exact h.1, ?_⟩
  rcases h.2 with ⟨h0, _⟩ | ⟨g', cap', cur, hv, hb, hg, hnc, hcm, hcs, htake⟩
  · cases h0
  · cases hv
    refine .inr ⟨g, cap, cur.setIfInBounds j u, rfl, hb, ?_, hnc, hcm, by simpa using hcs, ?_⟩
    · simp [World.setCell, Array.getElem?_modify, hg]
    · rw [Array.toList_setIfInBounds, List.take_set, htake]
theorem owns_free {w : World} {e : TypeId} {sz g n cap : Nat} {xs : List Value} (h : w.ownsRow 0 e sz (.slice (some ⟨g, 0, none⟩) n cap) n xs) (j : Nat) : w.frozen? ⟨g, j, none⟩ = false := by
  rcases h.2 with ⟨h0, _⟩ | ⟨g', cap', cur, hv, hb, hg, _⟩
  · cases h0
  · cases hv
    simp [World.frozen?, hg]
theorem owns_at {w : World} {e : TypeId} {sz g n cap j : Nat} {xs : List Value} (h : w.ownsRow 0 e sz (.slice (some ⟨g, 0, none⟩) n cap) n xs) (hj : j < n * sz) : ∃ u, xs[j]? = some u ∧ w.cell? ⟨g, j, none⟩ = some u := by
  have hl : j < xs.length := by rw [h.1]; exact hj
  have hc := h.cells (g := g) rfl j _ (List.getElem?_eq_getElem hl)
  have e : (⟨g, 0, none⟩ : Addr).add j = ⟨g, j, none⟩ := by unfold Addr.add; split <;> simp_all
  rw [e] at hc
  exact ⟨_, List.getElem?_eq_getElem hl, hc⟩
/-- Rows of different kinds share no block. -/
theorem owns_ne {w : World} {e e' : TypeId} {sz sz' n n' : Nat} {v v' : Value} {xs xs' : List Value} (h : w.ownsRow 0 e sz v n xs) (h' : w.ownsRow 0 e' sz' v' n' xs') (hne : e ≠ e') : v.ownBlock = none ∨ v.ownBlock ≠ v'.ownBlock := by
  rcases h.2 with ⟨rfl, _⟩ | ⟨g, cap, cur, rfl, _, hg, _⟩
  · exact .inl rfl
  · right
    intro he
    rcases h'.2 with ⟨rfl, _⟩ | ⟨g', cap', cur', rfl, _, hg', _⟩
    · simp [Value.ownBlock] at he
    · simp only [Value.ownBlock, Option.some.injEq] at he
      subst he
      rw [hg] at hg'
      injection hg' with hg'
      injection hg' with _ ht
      exact hne ht
theorem owns_kept_below {w w' : World} {e : TypeId} {sz n : Nat} {v : Value} {xs : List Value} (h : w.ownsRow 0 e sz v n xs) (hb : Below w.heap.size w w') : w'.ownsRow 0 e sz v n xs := by
  refine ⟨h.1, ?_⟩
  rcases h.2 with hn | ⟨g, cap, cur, rfl, h1, h2, rest⟩
  · exact .inl hn
  · exact .inr ⟨g, cap, cur, rfl, h1, (hb.block g (Array.getElem?_eq_some_iff.1 h2).1).trans h2, rest⟩

def marks (mk : Nat → List Value) (j : Nat) : List Value := (List.range j).flatMap mk
theorem marks_snoc (mk : Nat → List Value) (j : Nat) : marks mk (j + 1) = marks mk j ++ mk j := by
  unfold marks
  rw [List.range_succ, List.flatMap_append]
  simp
theorem marks_length (mk : Nat → List Value) (sz : Nat) (h : ∀ t, (mk t).length = sz) (j : Nat) : (marks mk j).length = j * sz := by
  induction j with
  | zero => simp [marks]
  | succ j ih => rw [marks_snoc, List.length_append, ih, h, Nat.succ_mul]
theorem marks_at (mk : Nat → List Value) (sz : Nat) (h : ∀ t, (mk t).length = sz) : ∀ (j i t : Nat), i < j → t < sz → (marks mk j)[i * sz + t]? = (mk i)[t]? := by
  intro j
  induction j with
  | zero => intro i t hi; omega
  | succ j ih =>
    intro i t hi ht
    have hl := marks_length mk sz h j
    rw [marks_snoc]
    rcases Nat.lt_or_ge i j with hlt | hge
    · have : i * sz + t < j * sz := by
        have := Nat.mul_le_mul_right sz (show i + 1 ≤ j from hlt)
        rw [Nat.succ_mul] at this
        omega
      rw [List.getElem?_append_left (by rw [hl]; exact this)]
      exact ih i t hlt ht
    · have hij : i = j := by omega
      subst hij
      rw [List.getElem?_append_right (by rw [hl]; omega), hl, Nat.add_sub_cancel_left]
theorem marks_take (mk : Nat → List Value) (sz : Nat) (h : ∀ t, (mk t).length = sz) {i j : Nat} (hij : i ≤ j) : (marks mk j).take (i * sz) = marks mk i := by
  induction j with
  | zero => have : i = 0 := by omega
            subst this; simp [marks]
  | succ j ih =>
    rw [marks_snoc]
    rcases Nat.lt_or_ge i (j + 1) with hlt | hge
    · rw [List.take_append_of_le_length (by rw [marks_length mk sz h]; exact Nat.mul_le_mul_right _ (by omega))]
      exact ih (by omega)
    · have : i = j + 1 := by omega
      subst this
      rw [← marks_snoc, ← marks_length mk sz h (j + 1), List.take_length]

/-- The rows v 0 .. v (m - 1), none of which shares its block with another. -/
def Sep (m : Nat) (v : Nat → Value) : Prop := ∀ i j, i < m → j < m → i ≠ j → ∀ b, (v i).ownBlock = some b → (v j).ownBlock ≠ some b
/-- The rows ahead of k hold their marks, row k its first j ones. -/
def Marked (w : World) (e : TypeId) (sz m : Nat) (v : Nat → Value) (n : Nat → Nat) (mk : Nat → Nat → List Value) (k j : Nat) : Prop :=
  ∀ i, i < m → ∃ ys, w.ownsRow 0 e sz (v i) (n i) ys ∧ (i < k → ys = marks (mk i) (n i)) ∧ (i = k → ys.take (j * sz) = marks (mk i) j)
theorem Marked.below {w w' : World} {e : TypeId} {sz m : Nat} {v : Nat → Value} {n : Nat → Nat} {mk : Nat → Nat → List Value} {k j : Nat} (h : Marked w e sz m v n mk k j) (hb : Below w.heap.size w w') : Marked w' e sz m v n mk k j := fun i hi => by
  obtain ⟨ys, h1, h2⟩ := h i hi
  exact ⟨ys, owns_kept_below h1 hb, h2⟩
theorem Marked.next {w : World} {e : TypeId} {sz m : Nat} {v : Nat → Value} {n : Nat → Nat} {mk : Nat → Nat → List Value} {k : Nat} (h : Marked w e sz m v n mk k (n k)) : Marked w e sz m v n mk (k + 1) 0 := fun i hi => by
  obtain ⟨ys, h1, h2, h3⟩ := h i hi
  refine ⟨ys, h1, fun hik => ?_, fun _ => by simp [marks]⟩
  rcases Nat.lt_or_ge i k with hlt | hge
  · exact h2 hlt
  · have hik' : i = k := by omega
    subst hik'
    have := h3 rfl
    rw [← h1.1, List.take_length] at this
    exact this
/-- A mark of one cell is laid. -/
theorem Marked.set1 {w : World} {e : TypeId} {m : Nat} {v : Nat → Value} {n : Nat → Nat} {mk : Nat → Nat → List Value} {k j g cap : Nat} {u : Value} (h : Marked w e 1 m v n mk k j) (hs : Sep m v) (hk : k < m) (hv : v k = .slice (some ⟨g, 0, none⟩) (n k) cap) (hj : j < n k) (hu : mk k j = [u]) :
    Marked (w.setCell ⟨g, j, none⟩ u) e 1 m v n mk k (j + 1) := fun i hi => by
  obtain ⟨ys, h1, h2, h3⟩ := h i hi
  by_cases hik : i = k
  · subst hik
    rw [hv] at h1
    have hyl : ys.length = n i := by have := h1.1; omega
    refine ⟨ys.set j u, by rw [hv]; exact owns_set h1 (by omega) u, fun hlt => by omega, fun _ => ?_⟩
    have h4 := h3 rfl
    rw [Nat.mul_one] at h4 ⊢
    rw [List.take_add_one, List.take_set_of_le (Nat.le_refl j), h4, marks_snoc, hu, List.getElem?_set_self (by omega)]
    rfl
  · refine ⟨ys, h1.kept (grown_set w g j u) ?_, h2, fun e => absurd e hik⟩
    cases hb : (v i).ownBlock with
    | none => exact .inl rfl
    | some b =>
      right
      have := hs i k hi hk hik b hb
      rw [hv] at this
      exact fun e => this (by simpa [Value.ownBlock] using e.symm)
end Go.Proofs.YtolodcdhpnapmaaGreat
