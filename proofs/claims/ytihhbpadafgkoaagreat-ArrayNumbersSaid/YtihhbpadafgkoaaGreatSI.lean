/-
  The program's array and the document's, side by side: the document's row of bytes is all values, one behind the other.
-/
import Derived.Test.YtihhbpadafgkoaaGreatRF4
namespace Go.Proofs.YtihhbpadafgkoaaGreat
open Go.RowKit
set_option linter.unusedVariables false

def flat (L : List AR) : List Int := L.flatMap AR.bs
theorem flat_len {sz : Nat} : ∀ (L : List AR), (∀ r ∈ L, r.bs.length = sz) → (flat L).length = L.length * sz
  | [], _ => by simp [flat]
  | r :: L, h => by
    have h1 := h r (by simp)
    have h2 := flat_len L (fun x hx => h x (by simp [hx]))
    unfold flat at h2 ⊢
    rw [List.flatMap_cons, List.length_append, h1, h2, List.length_cons, Nat.add_mul]
    omega
theorem flat_parts {L : List AR} {i : Nat} {r : AR} (h : L[i]? = some r) : flat L = flat (L.take i) ++ (r.bs ++ flat (L.drop (i + 1))) := by
  obtain ⟨hi, rfl⟩ := List.getElem?_eq_some_iff.1 h
  unfold flat
  rw [← List.flatMap_cons, ← List.flatMap_append, List.getElem_cons_drop, List.take_append_drop]
theorem flat_row {sz i : Nat} {L : List AR} {r : AR} (hl : ∀ r ∈ L, r.bs.length = sz) (h : L[i]? = some r) : ((flat L).drop (i * sz)).take sz = r.bs := by
  have hi := (List.getElem?_eq_some_iff.1 h).1
  have h1 : (flat (L.take i)).length = i * sz := by
    rw [flat_len (L.take i) (fun x hx => hl x (List.mem_of_mem_take hx)), List.length_take, Nat.min_eq_left (by omega)]
  have h2 := hl r (List.mem_of_getElem? h)
  rw [flat_parts h, ← h1, List.drop_left, ← h2, List.take_left]
theorem splice_mid {α : Type} (P R Q d : List α) (off : Nat) (h : off + d.length ≤ R.length) : splice (P ++ (R ++ Q)) (P.length + off) d = P ++ (splice R off d ++ Q) := by
  unfold splice
  rw [List.take_append, List.take_of_length_le (by omega), show P.length + off - P.length = off by omega, List.take_append_of_le_length (by omega),
    show P.length + off + d.length = P.length + (off + d.length) by omega, List.drop_append, List.drop_of_length_le (by omega), show P.length + (off + d.length) - P.length = off + d.length by omega, List.drop_append_of_le_length (by omega)]
  simp
theorem flat_put {sz i off : Nat} {L : List AR} {r : AR} {d : List Int} (hl : ∀ r ∈ L, r.bs.length = sz) (h : L[i]? = some r) (hf : off + d.length ≤ sz) : splice (flat L) (i * sz + off) d = flat (putL L i off d) := by
  have hi := (List.getElem?_eq_some_iff.1 h).1
  have h1 : (flat (L.take i)).length = i * sz := by
    rw [flat_len (L.take i) (fun x hx => hl x (List.mem_of_mem_take hx)), List.length_take, Nat.min_eq_left (by omega)]
  have h2 := hl r (List.mem_of_getElem? h)
  have hs : (L.set i { r with bs := splice r.bs off d })[i]? = some { r with bs := splice r.bs off d } := List.getElem?_set_self hi
  rw [putL_some h, flat_parts h, flat_parts hs, ← h1, splice_mid _ _ _ _ _ (by omega), List.take_set_of_le (by omega), List.drop_set_of_lt (by omega)]
theorem flat_zeros (s sz n : Nat) : flat (zARs s sz n) = List.replicate (sz * n) 0 := by
  unfold flat zARs zAR
  rw [List.flatMap_map]
  induction n with
  | zero => simp
  | succ n ih =>
    rw [List.range_succ, List.flatMap_append, ih]
    simp [Nat.mul_add]
theorem Arr.lens {w : World} {B b cb sz : Nat} {L : List AR} (h : Arr w B b cb sz L) : ∀ r ∈ L, r.bs.length = sz := fun r hr => by
  obtain ⟨i, hi⟩ := List.mem_iff_getElem?.1 hr
  exact h.len hi
theorem putL_lens {sz i off : Nat} {L : List AR} {d : List Int} (hl : ∀ r ∈ L, r.bs.length = sz) (hf : off + d.length ≤ sz) : ∀ r ∈ putL L i off d, r.bs.length = sz := by
  intro r hr
  cases h : L[i]? with
  | none => unfold putL at hr; rw [h] at hr; exact hl r hr
  | some r0 =>
    rw [putL_some h] at hr
    rcases List.mem_or_eq_of_mem_set hr with hr | rfl
    · exact hl r hr
    · have := hl r0 (List.mem_of_getElem? h)
      show (splice r0.bs off d).length = sz
      unfold splice
      simp
      omega
/-- Both arrays, apart. -/
structure Both (w0 w : World) (b cb sz : Nat) (L : List AR) (x rc : Nat) (RA : Option Addr) : Prop where
  a : Arr w w0.heap.size b cb sz L
  r : RArr w w0.heap.size x sz L.length RA rc (flat L)
  sep : ∀ g, OfA b cb sz L g → ¬ OfR x (.slice RA (sz * L.length) rc) g
  below : Below w0.heap.size w0 w
/-- What belongs to neither. -/
def Else (b cb sz : Nat) (L : List AR) (x rc : Nat) (RA : Option Addr) (g : Nat) : Prop := ¬ OfA b cb sz L g ∧ ¬ OfR x (.slice RA (sz * L.length) rc) g
theorem Both.kept {w0 w w' : World} {b cb sz x rc : Nat} {L : List AR} {RA : Option Addr} {F : Nat → Prop} (h : Both w0 w b cb sz L x rc RA) (hk : Kept F w w') (hF : ∀ g, g < w.heap.size → OfA b cb sz L g ∨ OfR x (.slice RA (sz * L.length) rc) g ∨ g < w0.heap.size → F g) : Both w0 w' b cb sz L x rc RA :=
  ⟨h.a.kept hk (fun g hg => hF g (h.a.lt g hg) (.inl hg)), h.r.kept hk (fun g hg => hF g (h.r.lt g hg) (.inr (.inl hg))), h.sep, h.below.trans (hk.to_below (fun g hg => hF g (Nat.lt_of_lt_of_le hg h.below.size) (.inr (.inr hg))) h.below.size)⟩
theorem Both.later {w0 w w' : World} {b cb sz x rc : Nat} {L : List AR} {RA : Option Addr} (h : Both w0 w b cb sz L x rc RA) (hb : Below w.heap.size w w') : Both w0 w' b cb sz L x rc RA := h.kept (F := fun _ => True) (Kept.of_below hb) (fun _ _ _ => trivial)
end Go.Proofs.YtihhbpadafgkoaaGreat
