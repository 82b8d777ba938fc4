/-
  Two programs, one behind the other.
-/
import Derived.Test.YtjnmfgkjeofneaaMw
namespace Go.Proofs.Ytjnmfgkjeofneaa
open Go.RowKit
set_option linter.unusedVariables false

def shiftP (n : Nat) (p : Nat × Ins) : Nat × Ins := (n + p.1, p.2)
theorem fsts_shift : ∀ (q : List Ins) (n k : Nat) (b : Bool), fsts (n + k) b q = (fsts k b q).map (shiftP n)
  | [], n, k, b => by cases b <;> rfl
  | s :: r, n, k, true => by rw [fsts, fsts, show n + k + 1 = n + (k + 1) by omega, fsts_shift r n (k + 1) false]
  | s :: r, n, k, false => by rw [fsts, fsts, show n + k + 1 = n + (k + 1) by omega, fsts_shift r n (k + 1), List.map_cons]; rfl
theorem fsts_app : ∀ (p q : List Ins) (k : Nat) (b : Bool), (b = true → p ≠ []) → (∀ x ∈ fsts k b p, x.1 + slotsN x.2.op ≤ k + p.length) → fsts k b (p ++ q) = fsts k b p ++ fsts (k + p.length) false q
  | [], q, k, b, hb, _ => by
    cases b
    · rfl
    · exact absurd rfl (hb rfl)
  | s :: r, q, k, true, _, h => by
    rw [List.cons_append, fsts, fsts, fsts_app r q (k + 1) false (by simp) (fun x hx => by have := h x (by rw [fsts]; exact hx); simp at this; omega)]
    rw [List.length_cons, show k + 1 + r.length = k + (r.length + 1) by omega]
  | s :: r, q, k, false, _, h => by
    have h0 := h (k, s) (by rw [fsts]; simp)
    rw [List.cons_append, fsts, fsts, fsts_app r q (k + 1) (decide (s.op = 24)) (fun h24 hr => by
      simp only [decide_eq_true_eq] at h24
      subst hr
      unfold slotsN at h0
      simp [h24] at h0) (fun x hx => by have := h x (by rw [fsts]; exact List.mem_cons_of_mem _ hx); simp at this; omega)]
    rw [List.length_cons, show k + 1 + r.length = k + (r.length + 1) by omega, List.cons_append]
/-- A program that is taken. -/
structure Took (l : List Ins) : Prop where
  ok : (checkM l).2 = 0
  some : 0 < l.length
  most : l.length ≤ 4096
  fine : ∀ p ∈ fsts 0 false l, errM l p = 0
  within : ∀ p ∈ fsts 0 false l, p.1 + slotsN p.2.op ≤ l.length
  last : goesB (lastOf (fsts 0 false l)).op = false
theorem took_of {l : List Ins} (h : (checkM l).2 = 0) : Took l := by
  obtain ⟨c0, c1⟩ := check_ok h
  have hfine := check_fine h
  refine ⟨h, c0, c1, hfine, fun p hp => ?_, ?_⟩
  · have := hfine p hp
    unfold errM faultM at this
    have := (faultE_zero this).2.2.2
    unfold staysB at this
    simp at this
    exact this.1
  · unfold checkM at h
    rw [if_neg (by omega)] at h
    unfold checkL at h
    rw [find_none (fun q hq => by rw [hfine q hq]; rfl)] at h
    cases hg : goesB (lastOf (fsts 0 false l)).op with
    | false => rfl
    | true => simp only [hg] at h; simp at h
theorem took_mk {l : List Ins} (c0 : 0 < l.length) (c1 : l.length ≤ 4096) (hf : ∀ p ∈ fsts 0 false l, errM l p = 0) (hl : goesB (lastOf (fsts 0 false l)).op = false) : checkM l = (0, 0) := by
  unfold checkM
  rw [if_neg (by omega)]
  unfold checkL
  rw [find_none (fun q hq => by rw [hf q hq]; rfl)]
  simp only [hl]
  rfl
theorem fits_behind {c : Int} {s b b' : Ins} (hc : 0 ≤ c ∧ c < 8) (hi : isB c s.op = true) (hb : s.op = 24 → b = b') : fitsB c s b = fitsB c s b' := by
  unfold fitsB
  by_cases h0 : c = 0
  · rw [if_pos h0, if_pos h0]
    unfold isB at hi
    rw [if_pos h0] at hi
    rw [hb (by simpa using hi)]
  · rw [if_neg h0, if_neg h0]
theorem secs_lt {p : List Ins} (hp : Took p) : ∀ x ∈ secsM p, x < p.length := by
  intro x hx
  unfold secsM secsOf at hx
  rw [List.mem_map] at hx
  obtain ⟨y, hy, rfl⟩ := hx
  rw [List.mem_filter] at hy
  have h1 := hp.within y hy.1
  have h24 : y.2.op = 24 := by simpa [isWide] using hy.2
  unfold slotsN at h1
  rw [if_pos h24] at h1
  omega
theorem secs_pos (q : List Ins) : ∀ x ∈ secsM q, 0 ≤ x := by
  intro x hx
  unfold secsM secsOf at hx
  rw [List.mem_map] at hx
  obtain ⟨y, hy, rfl⟩ := hx
  omega
theorem target_shift (n k : Nat) (s : Ins) (ht : targetB s = true) : targetI ((n + k : Nat) : Int) s = targetI k s + (n : Nat) := by
  unfold targetB at ht
  unfold targetI
  by_cases h6 : s.op = 6
  · rw [if_pos h6, if_pos h6]; omega
  · rw [if_neg h6, if_neg h6]
    have : (s.op == 5 || condB s.op) = true := by
      simp [h6] at ht ⊢
      exact ht
    rw [if_pos this, if_pos this]; omega
section
variable {p q : List Ins} (hp : Took p) (hq : Took q)
include hp hq
theorem both_fsts : fsts 0 false (p ++ q) = fsts 0 false p ++ (fsts 0 false q).map (shiftP p.length) := by
  have _h := hq
  rw [fsts_app p q 0 false (by simp) (fun x hx => by have := hp.within x hx; omega), Nat.zero_add]
  congr 1
  exact fsts_shift q p.length 0 false
theorem both_secs : secsM (p ++ q) = secsM p ++ (secsM q).map (fun x : Int => x + (p.length : Nat)) := by
  unfold secsM
  rw [both_fsts hp hq]
  unfold secsOf
  rw [List.filter_append, List.map_append]
  congr 1
  rw [List.filter_map, List.map_map, List.map_map]
  have : (isWide ∘ shiftP p.length) = isWide := by funext x; rfl
  rw [this]
  apply List.map_congr_left
  intro x _
  simp [shiftP]; omega
theorem both_fine (hfp : ∀ s ∈ p, s.Fits) (hfq : ∀ s ∈ q, s.Fits) : ∀ x ∈ fsts 0 false (p ++ q), errM (p ++ q) x = 0 := by
  intro x hx
  rw [both_fsts hp hq, List.mem_append, List.mem_map] at hx
  rcases hx with hx | ⟨y, hy, rfl⟩
  · obtain ⟨x0, x1, x2⟩ := fsts_mem _ _ _ _ hx
    have hc := class_of x.2.op (hfp _ (List.mem_of_getElem? x2)).op
    have he := hp.fine x hx
    unfold errM faultM at he ⊢
    obtain ⟨e1, e2, e3, e4⟩ := faultE_zero he
    have hb : x.2.op = 24 → behindM (p ++ q) x.1 = behindM p x.1 := fun h24 => by
      have := hp.within x hx
      unfold slotsN at this
      rw [if_pos h24] at this
      unfold behindM
      rw [List.getD_eq_getElem?_getD, List.getD_eq_getElem?_getD, List.getElem?_append_left (by omega)]
    rw [e1, e2, fits_behind hc e1 hb, e3]
    have : staysB (p ++ q).length (secsM (p ++ q)) x.1 x.2 = true := by
      have e5 := e4
      unfold staysB at e4 ⊢
      rw [Bool.and_eq_true, decide_eq_true_eq] at e4 ⊢
      refine ⟨by rw [List.length_append]; omega, ?_⟩
      cases ht : targetB x.2 with
      | false => rfl
      | true =>
        obtain ⟨t0, t1, t2⟩ := stays_in e5 ht
        have hn : targetI x.1 x.2 ∉ secsM (p ++ q) := by
          rw [both_secs hp hq, List.mem_append, List.mem_map]
          rintro (h | ⟨z, hz, hz2⟩)
          · exact t2 h
          · have := secs_pos q z hz
            omega
        have hl : targetI x.1 x.2 < ((p ++ q).length : Nat) := by rw [List.length_append]; omega
        simp only [Bool.not_true, Bool.false_or, Bool.and_eq_true, decide_eq_true_eq, Bool.not_eq_true', decide_eq_false_iff_not]
        exact ⟨⟨t0, hl⟩, hn⟩
    rw [this]
    rfl
  · obtain ⟨y0, y1, y2⟩ := fsts_mem _ _ _ _ hy
    have hc := class_of y.2.op (hfq _ (List.mem_of_getElem? y2)).op
    have he := hq.fine y hy
    unfold errM faultM at he ⊢
    obtain ⟨e1, e2, e3, e4⟩ := faultE_zero he
    have hb : behindM (p ++ q) (p.length + y.1) = behindM q y.1 := by
      unfold behindM
      rw [List.getD_eq_getElem?_getD, List.getD_eq_getElem?_getD, List.getElem?_append_right (by omega), show p.length + y.1 + 1 - p.length = y.1 + 1 by omega]
    simp only [shiftP]
    rw [e1, e2, hb, e3]
    have : staysB (p ++ q).length (secsM (p ++ q)) (p.length + y.1) y.2 = true := by
      have e5 := e4
      unfold staysB at e4 ⊢
      rw [Bool.and_eq_true, decide_eq_true_eq] at e4 ⊢
      refine ⟨by rw [List.length_append]; omega, ?_⟩
      cases ht : targetB y.2 with
      | false => rfl
      | true =>
        obtain ⟨t0, t1, t2⟩ := stays_in e5 ht
        rw [target_shift p.length y.1 y.2 ht]
        have hn : targetI y.1 y.2 + (p.length : Nat) ∉ secsM (p ++ q) := by
          rw [both_secs hp hq, List.mem_append, List.mem_map]
          rintro (h | ⟨z, hz, hz2⟩)
          · have := secs_lt hp _ h
            omega
          · exact t2 (by rw [show targetI y.1 y.2 = z by omega]; exact hz)
        have hl : targetI y.1 y.2 + (p.length : Nat) < ((p ++ q).length : Nat) := by rw [List.length_append]; omega
        have h0 : 0 ≤ targetI y.1 y.2 + (p.length : Nat) := by omega
        simp only [Bool.not_true, Bool.false_or, Bool.and_eq_true, decide_eq_true_eq, Bool.not_eq_true', decide_eq_false_iff_not]
        exact ⟨⟨h0, hl⟩, hn⟩
    rw [this]
    rfl
theorem both_ok (hfp : ∀ s ∈ p, s.Fits) (hfq : ∀ s ∈ q, s.Fits) (hn : p.length + q.length ≤ 4096) : checkM (p ++ q) = (0, 0) := by
  refine took_mk (by rw [List.length_append]; have := hp.some; omega) (by rw [List.length_append]; exact hn) (both_fine hp hq hfp hfq) ?_
  have : lastOf (fsts 0 false (p ++ q)) = lastOf (fsts 0 false q) := by
    unfold lastOf
    rw [both_fsts hp hq, List.getLast?_append, List.getLast?_map]
    cases h : (fsts 0 false q).getLast? with
    | none => exact absurd (List.getLast?_eq_none_iff.1 h) (fsts_ne 0 q hq.some)
    | some z => rfl
  rw [this]
  exact hq.last
theorem both_way_left (i : Nat) (hi : i < p.length) : (wayOf (fsts 0 false (p ++ q)) i).2 = (wayOf (fsts 0 false p) i).2 := by
  rw [both_fsts hp hq]
  unfold wayOf
  rw [List.foldl_append, foldl_skip2 _ _ (fun x hx => by
    rw [List.mem_map] at hx
    obtain ⟨y, _, rfl⟩ := hx
    simp [shiftP]; omega)]
theorem both_way_right (i : Nat) : (wayOf (fsts 0 false (p ++ q)) (p.length + i)).2 = if (wayOf (fsts 0 false q) i).2 = -1 then -1 else (wayOf (fsts 0 false q) i).2 + (p.length : Nat) := by
  rw [both_fsts hp hq]
  unfold wayOf
  rw [List.foldl_append, foldl_skip2 (fsts 0 false p) _ (fun x hx => by have := (fsts_mem _ _ _ _ hx).2.1; omega), List.foldl_map]
  have hin : ∀ x ∈ fsts 0 false q, jumpI (shiftP p.length x) = if jumpI x = -1 then -1 else jumpI x + (p.length : Nat) := fun x hx => by
    rcases jump_in hq.ok hx with h | ⟨h0, h1, _⟩
    · rw [if_pos h, show shiftP p.length x = (p.length + x.1, x.2) from rfl]
      unfold jumpI at h ⊢
      by_cases ht : targetB x.2 = true
      · rw [if_pos ht] at h
        have he := hq.fine x hx
        unfold errM faultM at he
        have := (stays_in (faultE_zero he).2.2.2 ht).1
        omega
      · simp only [if_neg ht]
    · rw [if_neg (by omega), show shiftP p.length x = (p.length + x.1, x.2) from rfl]
      unfold jumpI at h0 ⊢
      by_cases ht : targetB x.2 = true
      · simp only [if_pos ht]
        exact target_shift p.length x.1 x.2 ht
      · rw [if_neg ht] at h0
        omega
  suffices H : ∀ (L : List (Nat × Ins)) (a b : Int × Int), (∀ x ∈ L, x ∈ fsts 0 false q) → (a.2 = if b.2 = -1 then -1 else b.2 + (p.length : Nat)) →
      (L.foldl (fun acc x => if (shiftP p.length x).1 = p.length + i then (nextI (shiftP p.length x), jumpI (shiftP p.length x)) else acc) a).2 =
        if (L.foldl (fun acc x => if x.1 = i then (nextI x, jumpI x) else acc) b).2 = -1 then -1 else (L.foldl (fun acc x => if x.1 = i then (nextI x, jumpI x) else acc) b).2 + (p.length : Nat) from
    H _ _ _ (fun x hx => hx) rfl
  intro L
  induction L with
  | nil => exact fun a b _ h => h
  | cons x L ih =>
    intro a b hL hab
    rw [List.foldl_cons, List.foldl_cons]
    refine ih _ _ (fun y hy => hL y (by simp [hy])) ?_
    by_cases e : x.1 = i
    · rw [if_pos (by simp [shiftP, e]), if_pos e]
      exact hin x (hL x (by simp))
    · rw [if_neg (by simp [shiftP]; omega), if_neg e]
      exact hab
theorem both_mem (x : Int) : x ∈ jumps (p ++ q) (p ++ q).length ↔ x ∈ jumps p p.length ∨ ∃ y ∈ jumps q q.length, x = y + (p.length : Nat) := by
  unfold jumps
  simp only [List.mem_filter, List.mem_map, List.mem_range, bne_iff_ne, ne_eq]
  constructor
  · rintro ⟨⟨i, hi, rfl⟩, hne⟩
    by_cases h : i < p.length
    · left
      rw [both_way_left hp hq i h] at hne ⊢
      exact ⟨⟨i, h, rfl⟩, hne⟩
    · right
      obtain ⟨j, rfl⟩ : ∃ j, i = p.length + j := ⟨i - p.length, by omega⟩
      rw [both_way_right hp hq j] at hne ⊢
      rw [List.length_append] at hi
      by_cases e : (wayOf (fsts 0 false q) j).2 = -1
      · rw [if_pos e] at hne
        exact absurd rfl hne
      · rw [if_neg e]
        exact ⟨_, ⟨⟨j, by omega, rfl⟩, e⟩, rfl⟩
  · rintro (⟨⟨i, hi, rfl⟩, hne⟩ | ⟨y, ⟨⟨j, hj, rfl⟩, hne⟩, rfl⟩)
    · rw [← both_way_left hp hq i hi] at hne ⊢
      exact ⟨⟨i, by rw [List.length_append]; omega, rfl⟩, hne⟩
    · have h0 := (way_in hq.ok j).resolve_left hne
      refine ⟨⟨p.length + j, by rw [List.length_append]; omega, ?_⟩, by omega⟩
      rw [both_way_right hp hq j, if_neg hne]
theorem both_targets (hfp : ∀ s ∈ p, s.Fits) (hfq : ∀ s ∈ q, s.Fits) (hn : p.length + q.length ≤ 4096) : targetsM (p ++ q) = targetsM p ++ (targetsM q).map (fun x : Int => x + (p.length : Nat)) := by
  have hok := both_ok hp hq hfp hfq hn
  unfold targetsM
  rw [if_pos (by rw [hok]), if_pos hp.ok, if_pos hq.ok]
  unfold risen
  rw [List.length_append, List.range_add, List.filter_append, List.map_append]
  have hm := both_mem hp hq
  rw [List.length_append] at hm
  congr 1
  · congr 1
    apply List.filter_congr
    intro i hi
    rw [List.mem_range] at hi
    rw [Bool.eq_iff_iff, decide_eq_true_eq, decide_eq_true_eq, hm]
    constructor
    · rintro (h | ⟨y, hy, e⟩)
      · exact h
      · have := (jumps_in hq.ok _ y hy).1
        omega
    · exact Or.inl
  · rw [List.filter_map, List.map_map, List.map_map]
    have : ((fun i : Nat => decide ((i : Int) ∈ jumps (p ++ q) (p.length + q.length))) ∘ fun x => p.length + x) = fun i : Nat => decide ((i : Int) ∈ jumps q q.length) := by
      funext i
      simp only [Function.comp]
      rw [Bool.eq_iff_iff, decide_eq_true_eq, decide_eq_true_eq, hm]
      constructor
      · rintro (h | ⟨y, hy, e⟩)
        · have := (jumps_in hp.ok _ _ h).2
          omega
        · rw [show (i : Int) = y by omega]
          exact hy
      · exact fun h => .inr ⟨_, h, by omega⟩
    rw [this]
    apply List.map_congr_left
    intro x _
    simp; omega
end
end Go.Proofs.Ytjnmfgkjeofneaa
