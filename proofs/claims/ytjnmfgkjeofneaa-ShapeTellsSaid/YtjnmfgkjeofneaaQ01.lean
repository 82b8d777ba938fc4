/-
  Which slots are first ones, and those below a place.
-/
import Derived.Test.YtjnmfgkjeofneaaTg
import Derived.Test.YtjnmfgkjeofneaaQ00
namespace Go.Proofs.Ytjnmfgkjeofneaa
open Go.RowKit Go.Maps
set_option linter.unusedVariables false

/-- Of each slot whether it is a first one. -/
def firstsL : Bool → List Ins → List Bool
  | _, [] => []
  | true, _ :: r => false :: firstsL false r
  | false, s :: r => true :: firstsL (decide (s.op = 24)) r
theorem firstsL_length : ∀ (b : Bool) (l : List Ins), (firstsL b l).length = l.length
  | b, [] => by cases b <;> rfl
  | true, _ :: r => by simp [firstsL, firstsL_length false r]
  | false, s :: r => by simp [firstsL, firstsL_length _ r]
theorem firstsL_yes : ∀ (l : List Ins) (k : Nat) (b : Bool) (i : Nat), (firstsL b l)[i]? = some true ↔ ∃ s, (k + i, s) ∈ fsts k b l
  | [], k, b, i => by cases b <;> simp [firstsL, fsts]
  | s :: r, k, true, 0 => by
    simp only [firstsL, fsts, List.getElem?_cons_zero, Nat.add_zero]
    constructor
    · intro h; cases h
    · rintro ⟨x, hx⟩; have := (fsts_mem r (k + 1) false _ hx).1; simp at this; omega
  | s :: r, k, true, i + 1 => by
    simp only [firstsL, fsts, List.getElem?_cons_succ]
    rw [firstsL_yes r (k + 1) false i, show k + 1 + i = k + (i + 1) by omega]
  | s :: r, k, false, 0 => by
    simp only [firstsL, fsts, List.getElem?_cons_zero, Nat.add_zero, true_iff]
    exact ⟨s, by simp⟩
  | s :: r, k, false, i + 1 => by
    simp only [firstsL, fsts, List.getElem?_cons_succ]
    rw [firstsL_yes r (k + 1) _ i, show k + 1 + i = k + (i + 1) by omega]
    constructor
    · rintro ⟨x, hx⟩; exact ⟨x, List.mem_cons_of_mem _ hx⟩
    · rintro ⟨x, hx⟩
      rcases List.mem_cons.1 hx with h | h
      · injection h with h1 _; omega
      · exact ⟨x, h⟩
theorem firstsL_no : ∀ (l : List Ins) (k : Nat) (b : Bool) (i : Nat), i < l.length → ((firstsL b l)[i]? = some false ↔ (b = true ∧ i = 0) ∨ ((k + i : Nat) : Int) ∈ secsOf (fsts k b l))
  | [], k, b, i, h => by simp at h
  | s :: r, k, true, 0, h => by simp [firstsL]
  | s :: r, k, true, i + 1, h => by
    simp only [firstsL, fsts, List.getElem?_cons_succ]
    rw [firstsL_no r (k + 1) false i (by simpa using h), show k + 1 + i = k + (i + 1) by omega]
    simp
  | s :: r, k, false, 0, h => by
    simp only [firstsL, fsts, List.getElem?_cons_zero]
    constructor
    · intro h; cases h
    · rintro (h | h)
      · cases h.1
      · unfold secsOf at h
        rw [List.mem_map] at h
        obtain ⟨p, hp, e⟩ := h
        rw [List.mem_filter, List.mem_cons] at hp
        rcases hp.1 with rfl | hp1
        · simp at e; omega
        · have := (fsts_mem r (k + 1) _ p hp1).1
          omega
  | s :: r, k, false, i + 1, h => by
    simp only [firstsL, fsts, List.getElem?_cons_succ]
    rw [firstsL_no r (k + 1) _ i (by simpa using h), show k + 1 + i = k + (i + 1) by omega]
    have e : secsOf ((k, s) :: fsts (k + 1) (decide (s.op = 24)) r) = (if s.op = 24 then [(k : Int) + 1] else []) ++ secsOf (fsts (k + 1) (decide (s.op = 24)) r) := by
      unfold secsOf
      by_cases h24 : s.op = 24 <;> simp [isWide, h24]
    rw [e, List.mem_append]
    by_cases h24 : s.op = 24
    · simp only [h24, decide_true, true_and, if_true, List.mem_singleton, Bool.false_eq_true, false_and, false_or]
      constructor
      · rintro (rfl | h)
        · exact .inl (by omega)
        · exact .inr h
      · rintro (h | h)
        · exact .inl (by omega)
        · exact .inr h
    · simp [h24]
/-- Those of the first slots that lie below a place. -/
def preL (l : List Ins) (k : Nat) : List (Nat × Ins) := (fsts 0 false l).filter fun p => decide (p.1 < k)
theorem pre_sorted {L : List (Nat × Ins)} (h : L.Pairwise (fun p q => p.1 < q.1)) (k : Nat) : (L.filter fun p => decide (p.1 < k)) <+: L ∧ (L.filter fun p => decide (p.1 < k + 1)) = (L.filter fun p => decide (p.1 < k)) ++ (L.filter fun p => decide (p.1 = k)) := by
  induction L with
  | nil => simp
  | cons p r ih =>
    rw [List.pairwise_cons] at h
    obtain ⟨i1, i2⟩ := ih h.2
    by_cases h1 : p.1 < k
    · rw [List.filter_cons_of_pos (by simpa using h1), List.filter_cons_of_pos (by simp; omega), List.filter_cons_of_neg (by simp; omega), i2]
      exact ⟨(List.prefix_cons_inj p).2 i1, rfl⟩
    · have hr : ∀ q ∈ r, ¬ q.1 < k := fun q hq => by have := h.1 q hq; omega
      have hr1 : ∀ q ∈ r, ¬ q.1 < k + 1 := fun q hq => by have := h.1 q hq; omega
      have hr2 : ∀ q ∈ r, ¬ q.1 = k := fun q hq => by have := h.1 q hq; omega
      have e0 : r.filter (fun p => decide (p.1 < k)) = [] := List.filter_eq_nil_iff.2 (fun q hq => by simpa using hr q hq)
      have e1 : r.filter (fun p => decide (p.1 < k + 1)) = [] := List.filter_eq_nil_iff.2 (fun q hq => by simpa using hr1 q hq)
      have e2 : r.filter (fun p => decide (p.1 = k)) = [] := List.filter_eq_nil_iff.2 (fun q hq => by simpa using hr2 q hq)
      rw [List.filter_cons_of_neg (by simpa using h1), e0]
      refine ⟨List.nil_prefix, ?_⟩
      by_cases h2 : p.1 = k
      · rw [List.filter_cons_of_pos (by simp; omega), List.filter_cons_of_pos (by simpa using h2), e1, e2]; rfl
      · rw [List.filter_cons_of_neg (by simp; omega), List.filter_cons_of_neg (by simpa using h2), e1, e2]; rfl
theorem pre_is (l : List Ins) (k : Nat) : preL l k <+: fsts 0 false l := (pre_sorted (fsts_rise l 0 false) k).1
theorem pre_zero (l : List Ins) : preL l 0 = [] := by simp [preL]
theorem pre_all (l : List Ins) : preL l l.length = fsts 0 false l := by
  unfold preL
  rw [List.filter_eq_self]
  intro p hp
  have := (fsts_mem _ _ _ _ hp).2.1
  simpa using this
theorem pre_no {l : List Ins} {k : Nat} (h : (firstsL false l)[k]? = some false) : preL l (k + 1) = preL l k := by
  unfold preL
  rw [(pre_sorted (fsts_rise l 0 false) k).2]
  have : (fsts 0 false l).filter (fun p => decide (p.1 = k)) = [] := by
    refine List.filter_eq_nil_iff.2 (fun q hq hk => ?_)
    have hk : q.1 = k := by simpa using hk
    have := (firstsL_yes l 0 false k).2 ⟨q.2, by rw [Nat.zero_add, ← hk]; exact hq⟩
    rw [h] at this
    cases this
  rw [this, List.append_nil]
theorem pre_yes {l : List Ins} {k : Nat} {s : Ins} (h : (firstsL false l)[k]? = some true) (hs : l[k]? = some s) : preL l (k + 1) = preL l k ++ [(k, s)] ∧ (k, s) ∈ fsts 0 false l := by
  obtain ⟨x, hx⟩ := (firstsL_yes l 0 false k).1 h
  rw [Nat.zero_add] at hx
  have hxs := (fsts_mem _ _ _ _ hx).2.2
  simp only [Nat.sub_zero] at hxs
  rw [hs] at hxs
  cases hxs
  refine ⟨?_, hx⟩
  unfold preL
  rw [(pre_sorted (fsts_rise l 0 false) k).2]
  congr 1
  have hsort := fsts_rise l 0 false
  generalize fsts 0 false l = L at *
  induction L with
  | nil => simp at hx
  | cons p r ih =>
    rw [List.pairwise_cons] at hsort
    rcases List.mem_cons.1 hx with rfl | hx'
    · rw [List.filter_cons_of_pos (by simp)]
      rw [List.filter_eq_nil_iff.2 (fun q hq => by have := hsort.1 q hq; simp only at this; simp; omega)]
    · have := hsort.1 _ hx'
      rw [List.filter_cons_of_neg (by simp only at this; simp; omega)]
      exact ih hx' hsort.2
theorem secs_first {l : List Ins} {i : Nat} (h : i < l.length) : decide ((i : Int) ∈ secsM l) = !((firstsL false l)[i]?.getD true) := by
  have hl : i < (firstsL false l).length := by rw [firstsL_length]; exact h
  have := firstsL_no l 0 false i h
  rw [Nat.zero_add] at this
  rw [List.getElem?_eq_getElem hl] at this ⊢
  cases hb : (firstsL false l)[i] <;> simp [hb] at this ⊢
  · exact this
  · exact this
end Go.Proofs.Ytjnmfgkjeofneaa
