/-
  The calls of a memory, told of the row of its regions.
-/
import Derived.Test.YtbllnjkagleenaaGreatP6
namespace Go.Proofs.YtbllnjkagleenaaGreat
open Go.RowKit
set_option linter.unusedVariables false

theorem Kept.mono {F F' : Nat → Prop} {w w' : World} (h : Kept F w w') (hF : ∀ g, F' g → F g) : Kept F' w w' := ⟨h.os, h.tape, h.output, h.size, fun k hk h' => h.block k hk (hF k h')⟩
theorem Kept.of_below {F : Nat → Prop} {w w' : World} (hb : Below w.heap.size w w') : Kept F w w' := ⟨hb.os, hb.tape, hb.output, hb.size, fun k hk _ => hb.block k hk⟩
theorem fOf_nil : fOf [] = fun _ => none := by
  funext i
  simp [fOf, rowAt]
theorem rowAt_app (L : List (Option PRow)) (o : Option PRow) (i : Int) : rowAt (L ++ [o]) i = if i = (L.length : Int) + 1 then o else rowAt L i := by
  unfold rowAt
  by_cases h1 : 1 ≤ i
  · simp only [if_pos h1]
    by_cases h2 : i = (L.length : Int) + 1
    · subst h2
      have : ((L.length : Int) + 1 - 1).toNat = L.length := by omega
      rw [this, if_pos rfl]
      simp
    · rw [if_neg h2]
      by_cases h3 : (i - 1).toNat < L.length
      · rw [List.getElem?_append_left h3]
      · rw [List.getElem?_eq_none (by simp; omega), List.getElem?_eq_none (by omega)]
  · simp only [if_neg h1]
    rw [if_neg (by omega)]
theorem fOf_app (L : List (Option PRow)) (r : PRow) : fOf (L ++ [some r]) = setAt (fOf L) ((L.length : Int) + 1) (some r.val) := by
  funext i
  simp only [fOf, rowAt_app, setAt]
  split <;> rfl
theorem rowAt_set {L : List (Option PRow)} {i : Int} {r : PRow} (hr : rowAt L i = some r) (o : Option PRow) (j : Int) : rowAt (L.set (i - 1).toNat o) j = if j = i then o else rowAt L j := by
  obtain ⟨h1, h2⟩ := rowAt_get hr
  have hlt := (List.getElem?_eq_some_iff.1 h2).1
  unfold rowAt
  by_cases hj : 1 ≤ j
  · simp only [if_pos hj]
    by_cases e : j = i
    · subst e
      rw [List.getElem?_set_self hlt, if_pos rfl]
      rfl
    · rw [if_neg e, List.getElem?_set_ne (by omega)]
  · simp only [if_neg hj]
    rw [if_neg (by omega)]
theorem new_M (w : World) : Calls Tryz.prog 5 #[] w fun e w' => ∃ b mm, e = .returned (.pointer (some ⟨b, 0, none⟩)) ∧ Mem w' w.heap.size b mm [] ∧ Below w.heap.size w w' := by
  refine (new_any w).mono ?_
  rintro e w' ⟨b, mm, he, hp, h1, h2, hb⟩
  refine ⟨b, mm, he, ⟨by rw [fOf_nil]; exact hp, fun i r h => by simp at h, ?_, fun i j r s h => by simp at h⟩, hb⟩
  rintro g (rfl | rfl | ⟨r, hr, _⟩)
  · exact h1
  · exact h2
  · cases hr
theorem rowAt_next (L : List (Option PRow)) : rowAt L ((L.length : Int) + 1) = none := by
  unfold rowAt
  split
  · rw [List.getElem?_eq_none (by omega)]; rfl
  · rfl
theorem make_M {w : World} {B b mm : Nat} {L : List (Option PRow)} (h : Mem w B b mm L) (hq : L.length + 1 ≤ 1000000000) (k : Int) (A : Option Addr) (n c C : Nat) (l : List Int) (h1 : ¬ k < 1) (h2 : ¬ 5 < k) (hn : n ≤ 4096) (hr : Rd w C 1 A n (u8s l)) (hA : A = none → n = 0) (hC : C ≤ w.heap.size) (hB : B ≤ w.heap.size) :
    Calls Tryz.prog 6 #[.pointer (some ⟨b, 0, none⟩), .int .u8 k, .slice A n c] w fun e w' => ∃ r : PRow, e = .returned (.tuple #[.int .i64 ((L.length : Int) + 1), .int .i64 0]) ∧ r.k = k ∧ r.n = n ∧ r.bs = l ∧ (∀ g, r.sl.ownBlock = some g → w.heap.size ≤ g) ∧ Mem w' B b mm (L ++ [some r]) ∧ Kept (fun g => ¬ OfM b mm L g) w w' := by
  refine (make_yes b mm L.length (fOf L) k A n c C l w h.pm hq (by simp [fOf, rowAt_next]) h1 h2 hn hr hA hC).mono ?_
  rintro e w' ⟨v, he, ho, hp, hk⟩
  obtain ⟨A2, c2, rfl, _⟩ := owns_slice ho.1
  have hold : ∀ (i : Nat) (r : PRow), L[i]? = some (some r) → ∀ g, r.sl.ownBlock = some g → g < w.heap.size := fun i r hi g hg => ((h.row i r hi).1.lt g hg).2
  refine ⟨⟨k, A2, n, c2, l⟩, he, rfl, rfl, rfl, ho.2, ⟨?_, ?_, ?_, ?_⟩, hk.mono (fun g hg => ⟨fun e => hg (.inl e), fun e => hg (.inr (.inl e))⟩)⟩
  · rw [fOf_app]
    have e : (((L ++ [some (⟨k, A2, n, c2, l⟩ : PRow)]).length : Nat) : Int) = (L.length : Int) + 1 := by simp
    rw [e]
    exact hp
  · intro i r hi
    rcases Nat.lt_trichotomy i L.length with hlt | heq | hgt
    · rw [List.getElem?_append_left hlt] at hi
      obtain ⟨g1, g2⟩ := h.row i r hi
      refine ⟨owns_kept g1 hk (fun g hg => h.pm.off g1 g hg), g2⟩
    · subst heq
      simp at hi
      subst hi
      exact ⟨ho.1, hn, by simp; omega, by simp; omega⟩
    · rw [List.getElem?_eq_none (by simp; omega)] at hi
      cases hi
  · rintro g (rfl | rfl | ⟨r, hr, x, rfl, hg⟩)
    · exact h.low _ (.inl rfl)
    · exact h.low _ (.inr (.inl rfl))
    · rcases List.mem_append.1 hr with hr | hr
      · exact h.low g (.inr (.inr ⟨_, hr, x, rfl, hg⟩))
      · simp at hr
        subst hr
        exact Nat.le_trans hB (ho.2 g hg)
  · intro i j r s hi hj hij g hg hs
    have key : ∀ (i j : Nat) (r s : PRow), (L ++ [some (⟨k, A2, n, c2, l⟩ : PRow)])[i]? = some (some r) → L[j]? = some (some s) → i ≠ j → r.sl.ownBlock = some g → s.sl.ownBlock = some g → False := by
      intro i j r s hi hj hij hg hs
      rcases Nat.lt_trichotomy i L.length with hlt | heq | hgt
      · rw [List.getElem?_append_left hlt] at hi
        exact h.sep i j r s hi hj hij g hg hs
      · subst heq
        simp at hi
        subst hi
        have a1 := ho.2 g hg
        have a2 := hold j s hj g hs
        omega
      · rw [List.getElem?_eq_none (by simp; omega)] at hi
        cases hi
    rcases Nat.lt_or_ge j L.length with hlt | hge
    · rw [List.getElem?_append_left hlt] at hj
      exact key i j r s hi hj hij hg hs
    · have hjl : j = L.length := by
        have := (List.getElem?_eq_some_iff.1 hj).1
        simp at this; omega
      have hil : i < L.length := by
        have := (List.getElem?_eq_some_iff.1 hi).1
        simp at this; omega
      rw [List.getElem?_append_left hil] at hi
      exact key j i s r hj hi (fun e => hij e.symm) hs hg
theorem free_M {w : World} {B b mm : Nat} {L : List (Option PRow)} {i : Int} {r : PRow} (h : Mem w B b mm L) (hw : wfI i) (hr : rowAt L i = some r) :
    Calls Tryz.prog 18 #[.pointer (some ⟨b, 0, none⟩), .int .i64 i] w fun e w' => e = .returned (.int .i64 0) ∧ Mem w' B b mm (L.set (i - 1).toNat none) ∧ Kept (fun g => ¬ OfM b mm L g) w w' := by
  refine (free_yes b mm L.length (fOf L) i r.k r.A r.n r.c w (h.some_ hw hr) h.pm hw).mono ?_
  rintro e w' ⟨he, hp, hk⟩
  have hsub : ∀ (j : Nat) (s : PRow), (L.set (i - 1).toNat none)[j]? = some (some s) → L[j]? = some (some s) := fun j s hj => by
    by_cases e : (i - 1).toNat = j
    · rw [← e] at hj
      rw [List.getElem?_set_self (List.getElem?_eq_some_iff.1 (rowAt_get hr).2).1] at hj
      cases hj
    · rwa [List.getElem?_set_ne e] at hj
  refine ⟨he, ⟨?_, fun j s hj => ?_, ?_, fun j j' s s' hj hj' => h.sep j j' s s' (hsub j s hj) (hsub j' s' hj')⟩, hk.mono (fun g hg e => hg (.inr (.inl e)))⟩
  · have e : fOf (L.set (i - 1).toNat none) = setAt (fOf L) i none := by
      funext j
      simp only [fOf, rowAt_set hr, setAt]
      split <;> rfl
    rw [e, List.length_set]
    exact hp
  · obtain ⟨g1, g2⟩ := h.row j s (hsub j s hj)
    exact ⟨owns_kept g1 hk (fun g hg => (h.pm.off g1 g hg).2), g2⟩
  · rintro g (rfl | rfl | ⟨s, hs, x, rfl, hg⟩)
    · exact h.low _ (.inl rfl)
    · exact h.low _ (.inr (.inl rfl))
    · obtain ⟨j, hj⟩ := List.mem_iff_getElem?.1 hs
      exact h.low g (.inr (.inr ⟨_, List.mem_of_getElem? (hsub j x hj), x, rfl, hg⟩))
theorem write_M {w : World} {B b mm : Nat} {L : List (Option PRow)} {i : Int} {r : PRow} (h : Mem w B b mm L) (hw : wfI i) (hr : rowAt L i = some r) (off q : Nat) (S : Option Addr) (sc C : Nat) (d : List Int) (hd : Rd w C 1 S q (u8s d)) (hC : C ≤ w.heap.size) (hfit : off + q ≤ r.n) :
    Calls Tryz.prog 20 #[.pointer (some ⟨b, 0, none⟩), .int .i64 i, .int .i64 off, .slice S q sc] w fun e w' => e = .returned (.int .i64 0) ∧ Mem w' B b mm (L.set (i - 1).toNat (some { r with bs := splice r.bs off d })) ∧ Kept (fun g => ¬ OfM b mm L g) w w' := by
  obtain ⟨g1, g2, g3, g4⟩ := h.at_ hr
  have ho : wfI (off : Int) := wf_nat (by omega)
  have hf : fitsB r.n off q = true := by
    unfold fitsB
    simp; omega
  refine (write_yes (some ⟨b, 0, none⟩) i r.k off q r.A S r.n r.c sc C r.bs d w (h.fitM hw ho hr hf) g1 hd hC hfit (by omega)).mono ?_
  rintro e w' ⟨he, ho2, hk⟩
  have hat := (rowAt_get hr).2
  have hlt := (List.getElem?_eq_some_iff.1 hat).1
  have hin : ∀ g, r.sl.ownBlock = some g → OfM b mm L g := fun g hg => .inr (.inr ⟨_, List.mem_of_getElem? hat, r, rfl, hg⟩)
  have hb : ∀ g, r.sl.ownBlock = some g → g ≠ b ∧ g ≠ mm := fun g hg => h.pm.off g1 g hg
  have hnb : r.sl.ownBlock ≠ some b := fun e => (hb b e).1 rfl
  have hnm : r.sl.ownBlock ≠ some mm := fun e => (hb mm e).2 rfl
  have hcase : ∀ (j : Nat) (s : PRow), (L.set (i - 1).toNat (some { r with bs := splice r.bs off d }))[j]? = some (some s) → (j = (i - 1).toNat ∧ s = { r with bs := splice r.bs off d }) ∨ (j ≠ (i - 1).toNat ∧ L[j]? = some (some s)) := fun j s hj => by
    by_cases e : (i - 1).toNat = j
    · subst e
      rw [List.getElem?_set_self hlt] at hj
      simp at hj
      exact .inl ⟨rfl, hj.symm⟩
    · rw [List.getElem?_set_ne e] at hj
      exact .inr ⟨fun e' => e e'.symm, hj⟩
  refine ⟨he, ⟨?_, fun j s hj => ?_, ?_, fun j j' s s' hj hj' hne g hg hs => ?_⟩, hk.mono (fun g hg e => hg (hin g e))⟩
  · have e : fOf (L.set (i - 1).toNat (some { r with bs := splice r.bs off d })) = fOf L := by
      funext j
      simp only [fOf, rowAt_set hr]
      split
      · subst_vars; rw [hr]; rfl
      · rfl
    rw [e, List.length_set]
    exact ⟨(hk.block b (at_lt h.pm.blk) hnb).trans h.pm.blk, h.pm.map.same (hk.block mm h.pm.map.lt hnm)⟩
  · rcases hcase j s hj with ⟨rfl, rfl⟩ | ⟨hj1, hj2⟩
    · exact ⟨ho2, g2, g3, g4⟩
    · obtain ⟨a1, a2⟩ := h.row j s hj2
      exact ⟨owns_kept a1 hk (fun g hg hr' => h.sep j _ s r hj2 hat hj1 g hg hr'), a2⟩
  · rintro g (rfl | rfl | ⟨s, hs, x, rfl, hg⟩)
    · exact h.low _ (.inl rfl)
    · exact h.low _ (.inr (.inl rfl))
    · obtain ⟨j, hj⟩ := List.mem_iff_getElem?.1 hs
      rcases hcase j x hj with ⟨rfl, rfl⟩ | ⟨hj1, hj2⟩
      · exact h.low g (hin g hg)
      · exact h.low g (.inr (.inr ⟨_, List.mem_of_getElem? hj2, x, rfl, hg⟩))
  · rcases hcase j s hj with ⟨rfl, rfl⟩ | ⟨hj1, hj2⟩
    · rcases hcase j' s' hj' with ⟨rfl, rfl⟩ | ⟨hj3, hj4⟩
      · exact hne rfl
      · exact h.sep _ j' r s' hat hj4 hne g hg hs
    · rcases hcase j' s' hj' with ⟨rfl, rfl⟩ | ⟨hj3, hj4⟩
      · exact h.sep j _ s r hj2 hat hne g hg hs
      · exact h.sep j j' s s' hj2 hj4 hne g hg hs
end Go.Proofs.YtbllnjkagleenaaGreat
