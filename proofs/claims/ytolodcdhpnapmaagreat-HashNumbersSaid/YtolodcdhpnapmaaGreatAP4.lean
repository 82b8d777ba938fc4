/-
  A frame whose written slots are named. No program is named here.
-/
import Derived.Test.YtolodcdhpnapmaaGreatRT2
namespace Go.Proofs.YtolodcdhpnapmaaGreat
open Go.RowKit Go.Maps
set_option linter.unusedVariables false

theorem puts_at (f : Nat → Value) : ∀ (ts : List Nat) (b : Act), (∀ t ∈ ts, t < b.tmps.size) → (ts.foldl (fun b t => b.put (some t) (f t)) b).defers = b.defers ∧ (ts.foldl (fun b t => b.put (some t) (f t)) b).tmps.size = b.tmps.size ∧
    ∀ t, (ts.foldl (fun b t => b.put (some t) (f t)) b).tmps.getD t undef = if t ∈ ts then f t else b.tmps.getD t undef := by
  intro ts
  induction ts with
  | nil => intro b _; exact ⟨rfl, rfl, fun t => by simp⟩
  | cons s ts ih =>
    intro b hb
    have hs := hb s (by simp)
    obtain ⟨h1, h2, h3⟩ := ih (b.put (some s) (f s)) (fun t ht => by simpa [Act.put] using hb t (by simp [ht]))
    refine ⟨h1, h2.trans (by simp [Act.put]), fun t => ?_⟩
    rw [List.foldl_cons, h3 t]
    by_cases ht : t ∈ ts
    · simp [ht]
    · by_cases hts : t = s
      · subst hts
        simp [ht, Act.put, Array.getD_eq_getD_getElem?, Array.getElem?_setIfInBounds_self_of_lt hs]
      · simp [ht, hts, Act.put, Array.getD_eq_getD_getElem?, Array.getElem?_setIfInBounds_ne (fun e => hts e.symm)]
theorem act_puts {a a0 : Act} {ops : Array Oper} (ts : List Nat) (hts : ∀ t, unwritten ops t = false → t ∈ ts) (hin : ∀ t ∈ ts, t < a0.tmps.size) (hd : a.defers = a0.defers) (hs : a.tmps.size = a0.tmps.size) (h : ∀ t, unwritten ops t = true → a.tmps.getD t undef = a0.tmps.getD t undef) :
    ∃ f : Nat → Value, (∀ t, f t = a.tmps.getD t undef) ∧ a = ts.foldl (fun b t => b.put (some t) (f t)) a0 := by
  refine ⟨fun t => a.tmps.getD t undef, fun _ => rfl, ?_⟩
  obtain ⟨h1, h2, h3⟩ := puts_at (fun t => a.tmps.getD t undef) ts a0 hin
  generalize ts.foldl (fun b t => b.put (some t) (a.tmps.getD t undef)) a0 = c at h1 h2 h3
  have hc : ∀ t, a.tmps.getD t undef = c.tmps.getD t undef := fun t => by
    rw [h3 t]
    by_cases ht : t ∈ ts
    · rw [if_pos ht]
    · rw [if_neg ht]
      refine h t ?_
      cases hu : unwritten ops t with
      | true => rfl
      | false => exact absurd (hts t hu) ht
  cases a with
  | mk at_ ad =>
    cases c with
    | mk ct cd =>
      simp only at h1 h2 hd hs hc
      have e : at_ = ct := by
        apply Array.ext
        · omega
        · intro i hi hi2
          have := hc i
          simp [Array.getD_eq_getD_getElem?, hi, hi2] at this
          exact this
      rw [e, hd, h1]
end Go.Proofs.YtolodcdhpnapmaaGreat
