/-
  What HashKeeps remembers, and what becomes of it.
-/
import Derived.Test.YtlagpbgekihodaaHR18
namespace Go.Proofs.Ytlagpbgekihodaa
open Go.RowKit Go.Maps Go.Sort
set_option linter.unusedVariables false

def valAt (L : List HS) (k : List UInt8) : Option (List UInt8) := (findK L k).bind fun (i : Nat) => (L[i]?).map fun r => kb r.bs
/-- What stands at each key. -/
def allF (L : List HS) : Lit → Option Value
  | .string k => (valAt L k).map encStr
  | _ => none
theorem allF_str (L : List HS) (k : List UInt8) : allF L (.string k) = (valAt L k).map encStr := by unfold allF; rfl
theorem putK_find {L : List HS} {k : List UInt8} {fl : Int} (ho : Once L) (he : pickE L k fl = 0) : Once (putK L k) ∧ ∀ x, findK (putK L k) x = if x = k then some (putAt L k) else findK L x := by
  unfold pickE at he
  unfold putK putAt
  cases hf : findK L k with
  | some i =>
    refine ⟨ho, fun x => ?_⟩
    by_cases e : x = k
    · rw [if_pos e, e, hf]
    · rw [if_neg e]
  | none =>
    rw [hf] at he
    simp only at he
    by_cases h2 : fl = 2
    · rw [if_pos h2] at he; cases he
    · rw [if_neg h2] at he
      cases hj : freeK L with
      | none => rw [hj] at he; cases he
      | some j =>
        obtain ⟨r, h1, h3, _⟩ := freeK_some hj
        simp only
        rw [h1]
        exact findK_put (bs := r.bs) ho h1 h3 hf
/-- Behind an update. -/
theorem upd_find {L : List HS} {k : List UInt8} {fl : Int} {d : List Int} (ho : Once L) (he : pickE L k fl = 0) : ∀ x, findK (putB (putK L k) (putAt L k) 0 d) x = if x = k then some (putAt L k) else findK L x := by
  obtain ⟨h1, h2⟩ := putK_find ho he
  obtain ⟨r, hr⟩ := putAt_row he
  rw [putB_some hr]
  intro x
  rw [(findK_bs h1 hr).2 x]
  exact h2 x
theorem putK_bs (L : List HS) (k : List UInt8) (i : Nat) : ((putK L k)[i]?).map HS.bs = (L[i]?).map HS.bs := by
  unfold putK
  split
  · rfl
  · split
    · rename_i j _
      split
      · rename_i r hr
        by_cases e : j = i
        · subst e
          rw [List.getElem?_set_self (List.getElem?_eq_some_iff.1 hr).1, hr]
          rfl
        · rw [List.getElem?_set_ne e]
      · rfl
    · rfl
theorem upd_val {L : List HS} {k : List UInt8} {fl : Int} {d : List Int} (ho : Once L) (he : pickE L k fl = 0) (hd : ∀ r ∈ L, r.bs.length = d.length) : ∀ x, valAt (putB (putK L k) (putAt L k) 0 d) x = if x = k then some (kb d) else valAt L x := by
  intro x
  obtain ⟨r, hr⟩ := putAt_row he
  have hf := upd_find (d := d) ho he x
  unfold valAt
  rw [hf]
  have hrb : ∃ s, L[putAt L k]? = some s ∧ r.bs = s.bs := by
    have := putK_bs L k (putAt L k)
    rw [hr] at this
    cases hs : L[putAt L k]? with
    | none => rw [hs] at this; cases this
    | some s => rw [hs] at this; exact ⟨s, rfl, by simpa using this⟩
  obtain ⟨s0, hs0, hrs⟩ := hrb
  by_cases e : x = k
  · rw [if_pos e, if_pos e]
    simp only [Option.bind_some]
    rw [putB_some hr, List.getElem?_set_self (List.getElem?_eq_some_iff.1 hr).1]
    have : splice r.bs 0 d = d := by
      have hl := hd s0 (List.mem_of_getElem? hs0)
      unfold splice
      rw [hrs]
      simp [hl]
    simp [this]
  · rw [if_neg e, if_neg e]
    cases hx : findK L x with
    | none => rfl
    | some j =>
      simp only [Option.bind_some]
      obtain ⟨s, h1, h2, _⟩ := findK_some hx
      have hne : putAt L k ≠ j := fun e2 => by
        unfold pickE at he
        unfold putAt at e2
        cases hf2 : findK L k with
        | some i =>
          rw [hf2] at e2
          simp only at e2
          subst e2
          obtain ⟨t, t1, t2, _⟩ := findK_some hf2
          rw [h1] at t1
          cases t1
          rw [h2] at t2
          injection t2 with t2
          exact e t2
        | none =>
          rw [hf2] at he e2
          simp only at he e2
          by_cases h3 : fl = 2
          · rw [if_pos h3] at he; cases he
          · rw [if_neg h3] at he
            cases hj : freeK L with
            | none => rw [hj] at he; cases he
            | some m =>
              rw [hj] at e2
              simp at e2
              subst e2
              obtain ⟨t, t1, t2, _⟩ := freeK_some hj
              rw [h1] at t1
              cases t1
              rw [h2] at t2
              cases t2
      rw [putB_some hr, List.getElem?_set_ne hne]
      have := putK_bs L k j
      cases ha : (putK L k)[j]? with
      | none => rw [ha, h1] at this; cases this
      | some t =>
        rw [ha, h1] at this
        simp at this
        rw [h1]
        simp [this]
theorem drop_find {L : List HS} {k : List UInt8} {i : Nat} (ho : Once L) (hf : findK L k = some i) : ∀ x, findK (dropK L i) x = if x = k then none else findK L x := by
  obtain ⟨r, hr, hk, _⟩ := findK_some hf
  rw [dropK_some hr]
  exact (findK_drop (bs := r.bs) ho hr hk).2
theorem drop_val {L : List HS} {k : List UInt8} {i : Nat} (ho : Once L) (hf : findK L k = some i) : ∀ x, valAt (dropK L i) x = if x = k then none else valAt L x := by
  intro x
  obtain ⟨r, hr, hk, _⟩ := findK_some hf
  unfold valAt
  rw [drop_find ho hf x]
  by_cases e : x = k
  · rw [if_pos e, if_pos e]
    rfl
  · rw [if_neg e, if_neg e]
    cases hx : findK L x with
    | none => rfl
    | some j =>
      simp only [Option.bind_some]
      rw [dropK_some hr]
      by_cases e2 : i = j
      · subst e2
        rw [List.getElem?_set_self (List.getElem?_eq_some_iff.1 hr).1, hr]
        rfl
      · rw [List.getElem?_set_ne e2]
theorem drop_taken {L : List HS} {k : List UInt8} {i : Nat} (hf : findK L k = some i) : takenK (dropK L i) = takenK L - 1 := by
  obtain ⟨r, hr, hk, _⟩ := findK_some hf
  rw [dropK_some hr]
  have := takenK_set L i r { r with key := none } hr
  rw [hk] at this
  simp at this
  omega
theorem putB_taken (L : List HS) (i off : Nat) (d : List Int) : takenK (putB L i off d) = takenK L := by
  cases h : L[i]? with
  | none => unfold putB; rw [h]
  | some r =>
    rw [putB_some h]
    have := takenK_set L i r { r with bs := splice r.bs off d } h
    simp only at this
    omega
theorem upd_taken {L : List HS} {k : List UInt8} {fl : Int} {d : List Int} (he : pickE L k fl = 0) : takenK (putB (putK L k) (putAt L k) 0 d) = if (findK L k).isSome then takenK L else takenK L + 1 := by
  rw [putB_taken]
  unfold pickE at he
  unfold putK
  cases hf : findK L k with
  | some i => rfl
  | none =>
    rw [hf] at he
    simp only at he
    by_cases h2 : fl = 2
    · rw [if_pos h2] at he; cases he
    · rw [if_neg h2] at he
      cases hj : freeK L with
      | none => rw [hj] at he; cases he
      | some j =>
        obtain ⟨r, h1, h3, _⟩ := freeK_some hj
        simp only
        rw [h1]
        have := takenK_set L j r { r with key := some k } h1
        rw [h3] at this
        simpa using this
theorem valAt_some {L : List HS} {k : List UInt8} : (valAt L k).isSome = (findK L k).isSome := by
  unfold valAt
  cases hf : findK L k with
  | none => rfl
  | some i =>
    obtain ⟨r, h1, _⟩ := findK_some hf
    simp [h1]
theorem upd_0 {L : List HS} {k : List UInt8} : pickE L k 0 = if (findK L k).isSome = false ∧ takenK L = L.length then 8 else 0 := by
  unfold pickE
  cases hf : findK L k with
  | some i => rfl
  | none =>
    simp only
    rw [if_neg (by decide)]
    cases hj : freeK L with
    | none => rw [if_pos ⟨rfl, takenK_full.2 hj⟩]
    | some j => rw [if_neg (fun h => by rw [takenK_full.1 h.2] at hj; cases hj)]
end Go.Proofs.Ytlagpbgekihodaa
