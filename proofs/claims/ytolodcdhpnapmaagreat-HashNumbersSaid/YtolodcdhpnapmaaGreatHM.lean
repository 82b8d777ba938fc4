/-
  What stands in a hash, as a row of places; where a key is, where one is free. No program is named here.
-/
import Derived.Test.YtolodcdhpnapmaaGreatKM
namespace Go.Proofs.YtolodcdhpnapmaaGreat
open Go.RowKit Go.Maps
set_option linter.unusedVariables false

structure HS where
  A : Option Addr
  c : Nat
  bs : List Int
  key : Option (List UInt8)
def HS.sl (sz : Nat) (r : HS) : Value := .slice r.A sz r.c
def HS.vals (sz : Nat) (r : HS) : List Value := [.slice r.A sz r.c, .bool r.key.isSome]
def cellsH (sz : Nat) (L : List HS) : List Value := L.flatMap (HS.vals sz)
theorem cellsH_len (sz : Nat) : ∀ L : List HS, (cellsH sz L).length = L.length * 2
  | [] => rfl
  | r :: L => by
    have := cellsH_len sz L
    have e : cellsH sz (r :: L) = .slice r.A sz r.c :: .bool r.key.isSome :: cellsH sz L := rfl
    rw [e, List.length_cons, List.length_cons, List.length_cons, this]
    omega
theorem cellsH_at (sz : Nat) : ∀ (L : List HS) (i : Nat) (r : HS), L[i]? = some r → (cellsH sz L)[i * 2]? = some (.slice r.A sz r.c) ∧ (cellsH sz L)[i * 2 + 1]? = some (.bool r.key.isSome)
  | [], i, r, h => by simp at h
  | s :: L, 0, r, h => by
    simp at h
    subst h
    exact ⟨rfl, rfl⟩
  | s :: L, i + 1, r, h => by
    have := cellsH_at sz L i r (by simpa using h)
    have e : cellsH sz (s :: L) = .slice s.A sz s.c :: .bool s.key.isSome :: cellsH sz L := rfl
    rw [e, show (i + 1) * 2 = i * 2 + 2 by omega]
    simpa using this
theorem cellsH_set_key (sz : Nat) : ∀ (L : List HS) (i : Nat) (r : HS) (k : Option (List UInt8)) (bs : List Int), L[i]? = some r → cellsH sz (L.set i { r with key := k, bs := bs }) = (cellsH sz L).set (i * 2 + 1) (.bool k.isSome)
  | [], i, r, k, bs, h => by simp at h
  | s :: L, 0, r, k, bs, h => by
    simp at h
    subst h
    rfl
  | s :: L, i + 1, r, k, bs, h => by
    have := cellsH_set_key sz L i r k bs (by simpa using h)
    have e : ∀ (t : HS) (M : List HS), cellsH sz (t :: M) = .slice t.A sz t.c :: .bool t.key.isSome :: cellsH sz M := fun _ _ => rfl
    rw [List.set_cons_succ, e, e, this, show (i + 1) * 2 + 1 = (i * 2 + 1) + 2 by omega]
    rfl
theorem cellsH_same (sz : Nat) (L M : List HS) (h : L.map (HS.vals sz) = M.map (HS.vals sz)) : cellsH sz L = cellsH sz M := by
  unfold cellsH
  rw [List.flatMap_def, List.flatMap_def, h]

/-- Where a key is. -/
def findK (L : List HS) (k : List UInt8) : Option Nat := L.findIdx? fun r => r.key == some k
/-- The least free place. -/
def freeK (L : List HS) : Option Nat := L.findIdx? fun r => r.key.isNone
def takenK (L : List HS) : Nat := L.countP fun r => r.key.isSome
def placeF (L : List HS) : Lit → Option Value
  | .string k => (findK L k).map fun (n : Nat) => Value.int .i64 (n : Int)
  | _ => none
theorem findK_some {L : List HS} {k : List UInt8} {i : Nat} (h : findK L k = some i) : ∃ r, L[i]? = some r ∧ r.key = some k ∧ ∀ (j : Nat) (r' : HS), j < i → L[j]? = some r' → r'.key ≠ some k := by
  obtain ⟨hi, h1, h2⟩ := List.findIdx?_eq_some_iff_getElem.1 h
  refine ⟨L[i], List.getElem?_eq_getElem hi, by simpa using h1, fun j r' hj hr he => ?_⟩
  have := h2 j hj
  obtain ⟨hj2, rfl⟩ := List.getElem?_eq_some_iff.1 hr
  simp [he] at this
theorem findK_none {L : List HS} {k : List UInt8} (h : findK L k = none) : ∀ (i : Nat) (r : HS), L[i]? = some r → r.key ≠ some k := fun i r hr he => by
  have := List.findIdx?_eq_none_iff.1 h r (List.mem_of_getElem? hr)
  simp [he] at this
theorem findK_is {L : List HS} {k : List UInt8} {i : Nat} {r : HS} (hr : L[i]? = some r) (hk : r.key = some k) (hu : ∀ (j : Nat) (s : HS), L[j]? = some s → s.key = some k → j = i) : findK L k = some i := by
  cases h : findK L k with
  | none => exact absurd hk (findK_none h i r hr)
  | some j =>
    obtain ⟨s, h1, h2, _⟩ := findK_some h
    rw [hu j s h1 h2]
theorem findK_no {L : List HS} {k : List UInt8} (h : ∀ (i : Nat) (r : HS), L[i]? = some r → r.key ≠ some k) : findK L k = none := by
  cases hf : findK L k with
  | none => rfl
  | some i =>
    obtain ⟨r, h1, h2, _⟩ := findK_some hf
    exact absurd h2 (h i r h1)
theorem freeK_some {L : List HS} {i : Nat} (h : freeK L = some i) : ∃ r, L[i]? = some r ∧ r.key = none ∧ ∀ (j : Nat) (r' : HS), j < i → L[j]? = some r' → r'.key.isSome = true := by
  obtain ⟨hi, h1, h2⟩ := List.findIdx?_eq_some_iff_getElem.1 h
  refine ⟨L[i], List.getElem?_eq_getElem hi, by simpa using h1, fun j r' hj hr => ?_⟩
  have := h2 j hj
  obtain ⟨hj2, rfl⟩ := List.getElem?_eq_some_iff.1 hr
  cases hk : L[j].key <;> simp [hk] at this ⊢
theorem freeK_none {L : List HS} (h : freeK L = none) : ∀ (i : Nat) (r : HS), L[i]? = some r → r.key.isSome = true := fun i r hr => by
  have := List.findIdx?_eq_none_iff.1 h r (List.mem_of_getElem? hr)
  cases hk : r.key <;> simp [hk] at this ⊢
/-- No two places have one key. -/
def Once (L : List HS) : Prop := ∀ (i j : Nat) (r s : HS) (k : List UInt8), L[i]? = some r → L[j]? = some s → r.key = some k → s.key = some k → i = j
theorem set_at {L : List HS} {i j : Nat} {t r : HS} (h : (L.set i t)[j]? = some r) : (j = i ∧ r = t ∧ i < L.length) ∨ (j ≠ i ∧ L[j]? = some r) := by
  by_cases e : i = j
  · subst e
    by_cases hl : i < L.length
    · simp [hl] at h
      exact .inl ⟨rfl, h.symm, hl⟩
    · rw [List.getElem?_eq_none (by simp; omega)] at h; cases h
  · rw [List.getElem?_set_ne e] at h
    exact .inr ⟨fun h => e h.symm, h⟩
theorem findK_put {L : List HS} {i : Nat} {r : HS} {k : List UInt8} {bs : List Int} (ho : Once L) (hr : L[i]? = some r) (hn : r.key = none) (hf : findK L k = none) :
    Once (L.set i { r with key := some k, bs := bs }) ∧ ∀ x, findK (L.set i { r with key := some k, bs := bs }) x = if x = k then some i else findK L x := by
  have hi := (List.getElem?_eq_some_iff.1 hr).1
  have hfn := findK_none hf
  have hon : Once (L.set i { r with key := some k, bs := bs }) := fun a b s t x ha hb hs ht => by
    rcases set_at ha with ⟨rfl, rfl, _⟩ | ⟨h1, ha2⟩
    · rcases set_at hb with ⟨rfl, rfl, _⟩ | ⟨h2, hb⟩
      · rfl
      · simp at hs
        subst hs
        exact absurd ht (hfn _ _ hb)
    · rcases set_at hb with ⟨rfl, rfl, _⟩ | ⟨h2, hb⟩
      · simp at ht
        subst ht
        exact absurd hs (hfn _ _ ha2)
      · exact ho a b s t x ha2 hb hs ht
  refine ⟨hon, fun x => ?_⟩
  by_cases hx : x = k
  · subst hx
    rw [if_pos rfl]
    exact findK_is (r := { r with key := some x, bs := bs }) (by simp [hi]) rfl (fun j s hj hs => hon j i s _ x hj (by simp [hi]; rfl) hs rfl)
  · rw [if_neg hx]
    cases h : findK L x with
    | none =>
      refine findK_no fun j s hj he => ?_
      rcases set_at hj with ⟨rfl, rfl, _⟩ | ⟨_, hj⟩
      · simp at he
        exact hx he.symm
      · exact findK_none h j s hj he
    | some m =>
      obtain ⟨s, h1, h2, _⟩ := findK_some h
      have hmi : i ≠ m := fun e => by subst e; rw [hr] at h1; cases h1; rw [hn] at h2; cases h2
      exact findK_is (r := s) (by rw [List.getElem?_set_ne hmi]; exact h1) h2 (fun j t hj ht => by
        rcases set_at hj with ⟨rfl, rfl, _⟩ | ⟨_, hj⟩
        · simp at ht
          exact absurd ht.symm hx
        · exact ho j m t s x hj h1 ht h2)
theorem findK_drop {L : List HS} {i : Nat} {r : HS} {k : List UInt8} {bs : List Int} (ho : Once L) (hr : L[i]? = some r) (hk : r.key = some k) :
    Once (L.set i { r with key := none, bs := bs }) ∧ ∀ x, findK (L.set i { r with key := none, bs := bs }) x = if x = k then none else findK L x := by
  have hi := (List.getElem?_eq_some_iff.1 hr).1
  refine ⟨fun a b s t x ha hb hs ht => ?_, fun x => ?_⟩
  · rcases set_at ha with ⟨rfl, rfl, _⟩ | ⟨h1, ha⟩
    · cases hs
    · rcases set_at hb with ⟨rfl, rfl, _⟩ | ⟨h2, hb⟩
      · cases ht
      · exact ho a b s t x ha hb hs ht
  · by_cases hx : x = k
    · subst hx
      rw [if_pos rfl]
      refine findK_no fun j s hj he => ?_
      rcases set_at hj with ⟨rfl, rfl, _⟩ | ⟨h1, hj⟩
      · cases he
      · exact h1 (ho j i s r x hj hr he hk)
    · rw [if_neg hx]
      cases h : findK L x with
      | none =>
        refine findK_no fun j s hj he => ?_
        rcases set_at hj with ⟨rfl, rfl, _⟩ | ⟨_, hj⟩
        · cases he
        · exact findK_none h j s hj he
      | some m =>
        obtain ⟨s, h1, h2, _⟩ := findK_some h
        have hmi : i ≠ m := fun e => by subst e; rw [hr] at h1; cases h1; rw [hk] at h2; cases h2; exact hx rfl
        exact findK_is (r := s) (by rw [List.getElem?_set_ne hmi]; exact h1) h2 (fun j t hj ht => by
          rcases set_at hj with ⟨rfl, rfl, _⟩ | ⟨_, hj⟩
          · cases ht
          · exact ho j m t s x hj h1 ht h2)
theorem findK_bs {L : List HS} {i : Nat} {r : HS} {bs : List Int} (ho : Once L) (hr : L[i]? = some r) :
    Once (L.set i { r with bs := bs }) ∧ ∀ x, findK (L.set i { r with bs := bs }) x = findK L x := by
  have hold : ∀ (j : Nat) (s : HS), (L.set i { r with bs := bs })[j]? = some s → ∃ t : HS, L[j]? = some t ∧ s.key = t.key := fun j s hj => by
    rcases set_at hj with ⟨rfl, rfl, _⟩ | ⟨_, hj⟩
    · exact ⟨r, hr, rfl⟩
    · exact ⟨s, hj, rfl⟩
  have hnew : ∀ (j : Nat) (t : HS), L[j]? = some t → ∃ s : HS, (L.set i { r with bs := bs })[j]? = some s ∧ s.key = t.key := fun j t hj => by
    by_cases e : i = j
    · subst e
      rw [hr] at hj
      cases hj
      exact ⟨{ r with bs := bs }, by simp [(List.getElem?_eq_some_iff.1 hr).1], rfl⟩
    · exact ⟨t, by rw [List.getElem?_set_ne e]; exact hj, rfl⟩
  refine ⟨fun a b s t x ha hb hs ht => ?_, fun x => ?_⟩
  · obtain ⟨s', h1, h2⟩ := hold a s ha
    obtain ⟨t', h3, h4⟩ := hold b t hb
    exact ho a b s' t' x h1 h3 (h2 ▸ hs) (h4 ▸ ht)
  · cases h : findK L x with
    | none =>
      refine findK_no fun j s hj he => ?_
      obtain ⟨t, h1, h2⟩ := hold j s hj
      exact findK_none h j t h1 (h2 ▸ he)
    | some m =>
      obtain ⟨t, h1, h2, _⟩ := findK_some h
      obtain ⟨s, h3, h4⟩ := hnew m t h1
      exact findK_is h3 (h4.trans h2) (fun j s' hj hs' => by
        obtain ⟨t', h5, h6⟩ := hold j s' hj
        exact ho j m t' t x h5 h1 (h6 ▸ hs') h2)
theorem takenK_set : ∀ (L : List HS) (i : Nat) (r t : HS), L[i]? = some r → takenK (L.set i t) + (if r.key.isSome then 1 else 0) = takenK L + (if t.key.isSome then 1 else 0)
  | [], i, r, t, h => by simp at h
  | s :: L, 0, r, t, h => by
    simp at h
    subst h
    simp only [takenK, List.set_cons_zero, List.countP_cons]
    omega
  | s :: L, i + 1, r, t, h => by
    have := takenK_set L i r t (by simpa using h)
    simp only [takenK, List.set_cons_succ, List.countP_cons] at this ⊢
    omega
theorem takenK_le (L : List HS) : takenK L ≤ L.length := List.countP_le_length
theorem takenK_full {L : List HS} : takenK L = L.length ↔ freeK L = none := by
  unfold takenK freeK
  rw [List.countP_eq_length, List.findIdx?_eq_none_iff]
  constructor
  · intro h r hr
    have := h r hr
    cases hk : r.key <;> simp [hk] at this ⊢
  · intro h r hr
    have := h r hr
    cases hk : r.key <;> simp [hk] at this ⊢
end Go.Proofs.YtolodcdhpnapmaaGreat
