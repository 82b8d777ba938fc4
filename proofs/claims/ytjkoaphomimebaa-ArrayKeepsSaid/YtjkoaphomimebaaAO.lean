/-
  Bytes are set in a value, and copied into what is remembered of it.
-/
import Derived.Test.YtjkoaphomimebaaAN
namespace Go.Proofs.Ytjkoaphomimebaa
open Go.RowKit
set_option linter.unusedVariables false

section
variable {w wr w' w2 : World} {S n sz b cb G B1 B2 k o : Nat} {L M : List AR} {d : List Int} {rk : AR}
theorem putL_bs (L M : List AR) (k o : Nat) (d : List Int) (h : M.map AR.bs = L.map AR.bs) : (putL M k o d).map AR.bs = (putL L k o d).map AR.bs := by
  have hl : M.length = L.length := by simpa using congrArg List.length h
  by_cases hk : k < L.length
  · have h1 : L[k]? = some L[k] := List.getElem?_eq_getElem hk
    have h2 : M[k]? = some (M[k]'(by omega)) := List.getElem?_eq_getElem _
    rw [putL_some h1, putL_some h2, List.map_set, List.map_set, h]
    have e : (M.map AR.bs)[k]? = (L.map AR.bs)[k]? := by rw [h]
    rw [List.getElem?_map, List.getElem?_map, h1, h2] at e
    have e2 : (M[k]'(by omega)).bs = L[k].bs := by simpa using e
    simp only [e2]
  · have h1 : L[k]? = none := List.getElem?_eq_none (by omega)
    have h2 : M[k]? = none := List.getElem?_eq_none (by omega)
    unfold putL
    rw [h1, h2]
    exact h
theorem AKS.set (h : AKS w wr S n sz b cb G B1 B2 L M 0) (hA : Arr w' B1 b cb sz (putL L k o d)) (hk : Kept (fun g => ¬ OfA b cb sz L g) wr w') : AKS w w' S n sz b cb G B1 B2 (putL L k o d) M 0 := by
  have hlow := h.low
  have hSA : ¬ OfA b cb sz L S := fun hc => by have := h.arr.low _ hc; omega
  exact ⟨(hk.block S (at_lt h.box) hSA).trans h.box, hA, h.all.kept hk (fun g hg ho => h.sep g ho hg), fun g h1 h2 => h.sep g h1.put h2, by have := hk.size; omega,
    h.below.trans (hk.to_below (fun g' hg' hc => by have := h.arr.low _ hc; omega) h.below.size)⟩
theorem AKS.copied (h : AKS w wr S n sz b cb G B1 B2 L M 0) (hr : M[k]? = some rk) (ho : w2.ownsRow 0 5 1 (.slice rk.A sz rk.c) sz (u8s (splice rk.bs o d))) (hk : Kept (fun j => (Value.slice rk.A sz rk.c).ownBlock ≠ some j) wr w2) : AKS w w2 S n sz b cb G B1 B2 L (putL M k o d) 0 := by
  have hlow := h.low
  have hG := h.all.off hr
  have hlt := (List.getElem?_eq_some_iff.1 hr).1
  have hof : ∀ g, OfL G sz (putL M k o d) g → OfL G sz M g := fun g hg => by
    rw [putL_some hr] at hg
    rcases hg with hg | ⟨s, hs, hg⟩
    · exact .inl hg
    · rcases List.mem_or_eq_of_mem_set hs with hs | rfl
      · exact .inr ⟨s, hs, hg⟩
      · exact .inr ⟨rk, List.mem_of_getElem? hr, hg⟩
  have hself : ∀ g, (Value.slice rk.A sz rk.c).ownBlock = some g → OfL G sz M g := fun g hg => .inr ⟨rk, List.mem_of_getElem? hr, hg⟩
  have hold : ∀ (j : Nat) (s : AR), (M.set k { rk with bs := splice rk.bs o d })[j]? = some s → ∃ t, M[j]? = some t ∧ s.sl sz = t.sl sz ∧ (j ≠ k → s = t) ∧ (j = k → s = { rk with bs := splice rk.bs o d }) := by
    intro j s hj
    by_cases e : k = j
    · subst e
      simp [hlt] at hj
      exact ⟨rk, hr, by rw [← hj]; rfl, fun h => absurd rfl h, fun _ => hj.symm⟩
    · rw [List.getElem?_set_ne e] at hj
      exact ⟨s, hj, rfl, fun _ => rfl, fun h => absurd h.symm e⟩
  refine ⟨(hk.block S (at_lt h.box) (fun e => by have := h.all.low _ (hself _ e); omega)).trans h.box, h.arr.kept hk (fun g hg e => h.sep g hg (hself g e)), ?_, fun g h1 h2 => h.sep g h1 (hof g h2), by have := hk.size; omega,
    h.below.trans (hk.to_below (fun g' hg' hc => by have := h.all.low _ (hself _ hc); omega) h.below.size)⟩
  have hlo : ∀ g, OfL G sz (putL M k o d) g → B2 ≤ g := fun g hg => h.all.low g (hof g hg)
  rw [putL_some hr] at hlo ⊢
  refine ⟨?_, fun j s hj => ?_, hlo, fun i j s t hi hj hij g hg => ?_⟩
  · rw [hk.block G (at_lt h.all.cel) hG, h.all.cel]
    congr 3
    congr 1
    apply List.ext_getElem?
    intro j
    simp only [List.getElem?_map]
    by_cases e : k = j
    · subst e
      rw [hr, List.getElem?_set_self hlt]
      rfl
    · rw [List.getElem?_set_ne e]
  · obtain ⟨t, ht, _, h1, h2⟩ := hold j s hj
    by_cases e : j = k
    · rw [h2 e]; exact ho
    · rw [h1 e]
      exact owns_kept (h.all.row j t ht) hk (fun g hg e2 => h.all.sep j k t rk ht hr e g hg e2)
  · obtain ⟨s', h1, h2, _, _⟩ := hold i s hi
    obtain ⟨t', h3, h4, _, _⟩ := hold j t hj
    rw [h2] at hg
    rw [h4]
    exact h.all.sep i j s' t' h1 h3 hij g hg
end
end Go.Proofs.Ytjkoaphomimebaa
