/-
  Ways round a program that is taken: from first slots to first slots, within the program.
-/
import Derived.Test.YtjnmfgkjeofneaaTg
namespace Go.Proofs.Ytjnmfgkjeofneaa
open Go.RowKit
set_option linter.unusedVariables false

theorem foldl_skip2 (qs : List (Nat × Ins)) (i : Nat) (h : ∀ q ∈ qs, q.1 ≠ i) : ∀ acc, qs.foldl (fun acc p => if p.1 = i then (nextI p, jumpI p) else acc) acc = acc := by
  induction qs with
  | nil => intro acc; rfl
  | cons q qs ih =>
    intro acc
    rw [List.foldl_cons, if_neg (h q (by simp))]
    exact ih (fun p hp => h p (by simp [hp])) acc
/-- The ways that are told of an instruction's place are its own. -/
theorem wayOf_own {ps : List (Nat × Ins)} (hr : ps.Pairwise (fun p q => p.1 < q.1)) {p : Nat × Ins} (hp : p ∈ ps) : wayOf ps p.1 = (nextI p, jumpI p) := by
  unfold wayOf
  generalize ((-1, -1) : Int × Int) = acc
  induction ps generalizing acc with
  | nil => simp at hp
  | cons q qs ih =>
    rw [List.pairwise_cons] at hr
    rw [List.mem_cons] at hp
    rw [List.foldl_cons]
    rcases hp with rfl | hp
    · rw [if_pos rfl]
      exact foldl_skip2 qs p.1 (fun q hq => by have := hr.1 q hq; omega) _
    · exact ih hr.2 hp _
theorem fsts_skip (k : Nat) (r : List Ins) (hr : r ≠ []) (h : ∃ x, r = x :: r.tail) : ∃ q ∈ fsts k false r, q.1 = k := by
  obtain ⟨x, hx⟩ := h
  rw [hx, fsts]
  exact ⟨(k, x), by simp, rfl⟩
theorem fsts_head (k : Nat) (r : List Ins) (hr : 0 < r.length) : ∃ q ∈ fsts k false r, q.1 = k := by
  match r, hr with
  | x :: r, _ => exact ⟨(k, x), by rw [fsts]; simp, rfl⟩
/-- What stands behind an instruction, within the program, is a first slot. -/
theorem fsts_on : ∀ (l : List Ins) (k : Nat) (b : Bool) (p : Nat × Ins), p ∈ fsts k b l → p.1 + slotsN p.2.op < k + l.length → ∃ q ∈ fsts k b l, q.1 = p.1 + slotsN p.2.op
  | [], k, b, p, h, _ => by cases b <;> simp [fsts] at h
  | s :: r, k, true, p, h, hl => by
    rw [fsts] at h ⊢
    exact fsts_on r (k + 1) false p h (by simp at hl; omega)
  | s :: r, k, false, p, h, hl => by
    rw [fsts, List.mem_cons] at h
    rw [fsts]
    rcases h with rfl | h
    · simp only at hl ⊢
      unfold slotsN at hl ⊢
      by_cases h24 : s.op = 24
      · rw [if_pos h24] at hl ⊢
        rw [decide_eq_true h24]
        match r, hl with
        | [], hl => simp at hl
        | x :: r, hl =>
          rw [fsts]
          obtain ⟨q, h1, h2⟩ := fsts_head (k + 1 + 1) r (by simp at hl; omega)
          exact ⟨q, by simp [h1], by omega⟩
      · rw [if_neg h24] at hl ⊢
        rw [decide_eq_false h24]
        obtain ⟨q, h1, h2⟩ := fsts_head (k + 1) r (by simp at hl; omega)
        exact ⟨q, by simp [h1], h2⟩
    · obtain ⟨q, h1, h2⟩ := fsts_on r (k + 1) _ p h (by simp at hl; omega)
      exact ⟨q, by simp [h1], h2⟩
theorem fsts_ne (k : Nat) (r : List Ins) (h : 0 < r.length) : fsts k false r ≠ [] := by
  obtain ⟨q, h1, _⟩ := fsts_head k r h
  intro e
  rw [e] at h1
  simp at h1
/-- The instruction that ends the program is the last one. -/
theorem fsts_last : ∀ (l : List Ins) (k : Nat) (b : Bool) (p : Nat × Ins), p ∈ fsts k b l → p.1 + slotsN p.2.op = k + l.length → (fsts k b l).getLast? = some p
  | [], k, b, p, h, _ => by cases b <;> simp [fsts] at h
  | s :: r, k, true, p, h, hl => by
    rw [fsts] at h ⊢
    exact fsts_last r (k + 1) false p h (by simp at hl; omega)
  | s :: r, k, false, p, h, hl => by
    rw [fsts, List.mem_cons] at h
    rw [fsts]
    rcases h with rfl | h
    · simp only at hl
      unfold slotsN at hl
      by_cases h24 : s.op = 24
      · rw [if_pos h24] at hl
        rw [decide_eq_true h24]
        match r, hl with
        | [], hl => simp at hl
        | [x], hl => simp [fsts]
        | x :: y :: r, hl => simp at hl
      · rw [if_neg h24] at hl
        match r, hl with
        | [], hl => simp [fsts]
        | x :: r, hl => simp at hl
    · have := fsts_last r (k + 1) _ p h (by simp at hl; omega)
      rw [List.getLast?_cons, this]
      rfl
/-- Each slot is a first one, or a second one. -/
theorem fsts_all : ∀ (l : List Ins) (k : Nat) (b : Bool) (t : Nat), k ≤ t → t < k + l.length → (∃ q ∈ fsts k b l, q.1 = t) ∨ ((t : Int) ∈ secsOf (fsts k b l)) ∨ (b = true ∧ t = k)
  | [], k, b, t, h0, h1 => by simp at h1; omega
  | s :: r, k, true, t, h0, h1 => by
    rw [fsts]
    by_cases e : t = k
    · exact .inr (.inr ⟨rfl, e⟩)
    · rcases fsts_all r (k + 1) false t (by omega) (by simp at h1; omega) with h | h | ⟨h, _⟩
      · exact .inl h
      · exact .inr (.inl h)
      · simp at h
  | s :: r, k, false, t, h0, h1 => by
    rw [fsts]
    by_cases e : t = k
    · exact .inl ⟨(k, s), by simp, e.symm⟩
    · rcases fsts_all r (k + 1) (decide (s.op = 24)) t (by omega) (by simp at h1; omega) with ⟨q, h, h'⟩ | h | ⟨h, h'⟩
      · exact .inl ⟨q, by simp [h], h'⟩
      · refine .inr (.inl ?_)
        unfold secsOf at h ⊢
        rw [List.filter_cons]
        split
        · rw [List.map_cons]; exact List.mem_cons_of_mem _ h
        · exact h
      · refine .inr (.inl ?_)
        unfold secsOf
        rw [List.filter_cons, if_pos (by simpa [isWide] using h)]
        simp; omega
theorem next_at {l : List Ins} (h : (checkM l).2 = 0) {p : Nat × Ins} (hp : p ∈ fsts 0 false l) : nextM l (p.1 : Nat) = (nextI p, jumpI p) := by
  obtain ⟨h0, h1, h2⟩ := fsts_mem _ _ _ _ hp
  unfold nextM
  rw [if_pos ⟨h, by omega, by omega⟩]
  exact wayOf_at' hp
where
  wayOf_at' {l : List Ins} {p : Nat × Ins} (hp : p ∈ fsts 0 false l) : wayOf (fsts 0 false l) ((p.1 : Nat) : Int).toNat = (nextI p, jumpI p) := by
    rw [Int.toNat_natCast]
    exact wayOf_own (fsts_rise l 0 false) hp
/-- Of an instruction of a program that is taken. -/
structure Fine (l : List Ins) (p : Nat × Ins) : Prop where
  mem : p ∈ fsts 0 false l
  next : nextI p = -1 ∨ ∃ q ∈ fsts 0 false l, (q.1 : Int) = nextI p ∧ q.1 = p.1 + slotsN p.2.op
  jump : jumpI p = -1 ∨ ∃ q ∈ fsts 0 false l, (q.1 : Int) = jumpI p
  stops : nextI p = -1 → jumpI p = -1 → p.2.op = 149
  op : p.2.op ≠ 0
theorem fine_of {l : List Ins} (h : (checkM l).2 = 0) {p : Nat × Ins} (hp : p ∈ fsts 0 false l) : Fine l p := by
  obtain ⟨h0, h1, h2⟩ := fsts_mem _ _ _ _ hp
  have he := check_fine h p hp
  unfold errM faultM at he
  obtain ⟨e1, e2, e3, e4⟩ := faultE_zero he
  have hst : p.1 + slotsN p.2.op ≤ l.length := by
    unfold staysB at e4
    simp at e4
    exact e4.1
  have hgo : goesB p.2.op = true → p.1 + slotsN p.2.op ≠ l.length := by
    intro hg hl
    have hlast := fsts_last l 0 false p hp (by omega)
    obtain ⟨c0, c1⟩ := check_ok h
    unfold checkM at h
    rw [if_neg (by omega)] at h
    unfold checkL at h
    rw [find_none (fun q hq => by
      have := check_fine (l := l) (by unfold checkM; rw [if_neg (by omega)]; exact h) q hq
      rw [this]; rfl)] at h
    have : lastOf (fsts 0 false l) = p.2 := by unfold lastOf; rw [hlast]; rfl
    simp only [this, hg] at h
    simp at h
  refine ⟨hp, ?_, ?_, ?_, ?_⟩
  · unfold nextI
    by_cases hg : goesB p.2.op = true
    · rw [if_pos hg]
      obtain ⟨q, hq, hq1⟩ := fsts_on l 0 false p hp (by have := hgo hg; omega)
      exact .inr ⟨q, hq, by rw [hq1]; omega, hq1⟩
    · rw [if_neg hg]
      exact .inl rfl
  · rcases jump_in h hp with hj | ⟨j0, j1, j2⟩
    · exact .inl hj
    · obtain ⟨t, ht⟩ := Int.eq_ofNat_of_zero_le j0
      rcases fsts_all l 0 false t (by omega) (by omega) with ⟨q, hq, hq1⟩ | hs | ⟨hf, _⟩
      · exact .inr ⟨q, hq, by rw [hq1, ht]⟩
      · rw [ht] at j2
        exact absurd hs j2
      · simp at hf
  · intro hn hj
    unfold nextI at hn
    unfold jumpI at hj
    by_cases hg : goesB p.2.op = true
    · rw [if_pos hg] at hn; omega
    · by_cases ht : targetB p.2 = true
      · rw [if_pos ht] at hj
        have := (stays_in e4 ht).1
        omega
      · unfold goesB at hg
        unfold targetB at ht
        simp at hg ht
        by_cases a : p.2.op = 149
        · exact a
        · by_cases b : p.2.op = 5
          · exact absurd b ht.1.2
          · exact absurd (hg a b) ht.1.1
  · intro h0
    rw [h0] at e1
    exact absurd e1 (by decide +kernel)
end Go.Proofs.Ytjnmfgkjeofneaa
