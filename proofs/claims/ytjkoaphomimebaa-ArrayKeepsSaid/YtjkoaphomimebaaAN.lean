/-
  A value is updated: what ArrayKeeps remembers of it.
-/
import Derived.Test.YtjkoaphomimebaaCQ
namespace Go.Proofs.Ytjkoaphomimebaa
open Go.RowKit
set_option linter.unusedVariables false

theorem splice_all (l d : List Int) (h : l.length = d.length) : splice l 0 d = d := by
  unfold splice
  simp [h]
section
variable {w wr w' : World} {S n sz b cb G B1 B2 q g : Nat} {L M : List AR} {l : List Int}
theorem AKS.upd (h : AKS w wr S n sz b cb G B1 B2 L M 0) (hm : M.length = n) (hl : L.length = n) (hlm : M.map AR.bs = L.map AR.bs) (hq : q < n) (hA : Arr w' B1 b cb sz (putL L q 0 l)) (hk : Kept (fun g => ¬ OfA b cb sz L g) wr w')
    (ho : wr.ownsRow 0 5 1 (.slice (some ⟨g, 0, none⟩) sz sz) sz (u8s l)) (hg : B2 ≤ g ∧ ¬ OfA b cb sz L g ∧ ¬ OfL G sz M g) :
    AKS w (w'.setCell ⟨G, q, none⟩ (.slice (some ⟨g, 0, none⟩) sz sz)) S n sz b cb G B1 B2 (putL L q 0 l) (M.set q ⟨some ⟨g, 0, none⟩, sz, l⟩) 0 ∧ (M.set q ⟨some ⟨g, 0, none⟩, sz, l⟩).map AR.bs = (putL L q 0 l).map AR.bs ∧ (putL L q 0 l).length = n ∧ (M.set q ⟨some ⟨g, 0, none⟩, sz, l⟩).length = n := by
  have hlow := h.low
  have hGl := h.all.low G (.inl rfl)
  have hown : ∀ g', (AR.sl sz ⟨some ⟨g, 0, none⟩, sz, l⟩).ownBlock = some g' → g = g' := fun g' e => by simpa [AR.sl, Value.ownBlock] using e
  have ha' := h.all.kept hk (fun g hg ho => h.sep g ho hg)
  have hs := Alls.set (i := q) (r := ⟨some ⟨g, 0, none⟩, sz, l⟩) ha' (by omega) (owns_kept ho hk (fun g' e => by have := hown g' e; subst this; exact hg.2.1)) (fun g' e => by have := hown g' e; subst this; exact ⟨hg.1, hg.2.2⟩)
  have hk2 : Kept (fun g => g ≠ G) w' (w'.setCell ⟨G, q, none⟩ (.slice (some ⟨g, 0, none⟩) sz sz)) := (Kept.of_below (F := fun g => g ≠ G) (Below.refl _ w')).setCell (fun _ e => e rfl) _
  have hsA : ∀ g', OfA b cb sz (putL L q 0 l) g' → OfA b cb sz L g' := fun g' h => h.put
  have hSA : ¬ OfA b cb sz L S := fun hc => by have := h.arr.low _ hc; omega
  refine ⟨⟨(hk2.block S (Nat.lt_of_lt_of_le (at_lt h.box) hk.size) (by omega)).trans ((hk.block _ (at_lt h.box) hSA).trans h.box), hA.kept hk2 (fun g' hg' e => h.sep g' (hsA g' hg') (.inl e)), hs, fun g' h1 h2 => ?_, ?_, ?_⟩, ?_, by rw [putL_len]; exact hl, by rw [List.length_set]; exact hm⟩
  · rcases h2 with h2 | ⟨s, hs', he⟩
    · exact h.sep g' (hsA g' h1) (.inl h2)
    · rcases List.mem_or_eq_of_mem_set hs' with hs' | rfl
      · exact h.sep g' (hsA g' h1) (.inr ⟨s, hs', he⟩)
      · have := hown g' he
        subst this
        exact hg.2.1 (hsA _ h1)
  · have := hk.size; have := hk2.size; omega
  · exact h.below.trans ((hk.to_below (fun g' hg' hc => by have := h.arr.low _ hc; omega) h.below.size).trans (hk2.to_below (fun g' hg' => by omega) (Nat.le_trans h.below.size hk.size)))
  · have hr : L[q]? = some L[q] := List.getElem?_eq_getElem (by omega)
    rw [putL_some hr]
    rw [List.map_set, List.map_set, hlm]
    have e : splice L[q].bs 0 l = l := splice_all _ _ (by rw [h.arr.len hr]; have := ho.1; simp [u8s] at this; omega)
    rw [e]
end
end Go.Proofs.Ytjkoaphomimebaa
