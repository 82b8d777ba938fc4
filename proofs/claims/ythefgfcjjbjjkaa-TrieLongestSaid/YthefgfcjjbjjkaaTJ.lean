/-
  The model: places with keys; how many keys begin so, which is at a row of bits, which is the longest.
-/
import Derived.Test.YthefgfcjjbjjkaaTI
namespace Go.Proofs.Ythefgfcjjbjjkaa
open Go.RowKit
set_option linter.unusedVariables false

/-- A place: the block of its value, its bytes, its key's block and bytes. -/
structure PL where
  g : Nat
  v : List Int
  k : Option (Nat × List Int)
def keyOf (r : PL) : Option (List Bool) := r.k.map fun x => kb x.2
def begR (q : List Bool) (r : PL) : Bool := match keyOf r with | some b => q.isPrefixOf b | none => false
def cntP (P : List PL) (q : List Bool) : Nat := P.countP (begR q)
def prP (P : List PL) (q : List Bool) : Bool := decide (0 < cntP P q)
def findP (P : List PL) (q : List Bool) : Option Nat := P.findIdx? fun r => keyOf r == some q
def freeP (P : List PL) : Option Nat := P.findIdx? fun r => r.k.isNone
/-- No two places have one key. -/
def OneP (P : List PL) : Prop := ∀ (i j : Nat) (r s : PL) (b : List Bool), P[i]? = some r → P[j]? = some s → keyOf r = some b → keyOf s = some b → i = j
theorem findP_some {P : List PL} {q : List Bool} {i : Nat} (h : findP P q = some i) : ∃ r, P[i]? = some r ∧ keyOf r = some q := by
  obtain ⟨hi, h1, _⟩ := List.findIdx?_eq_some_iff_getElem.1 h
  exact ⟨_, List.getElem?_eq_getElem hi, by simpa using h1⟩
theorem findP_is {P : List PL} {q : List Bool} {i : Nat} {r : PL} (ho : OneP P) (hr : P[i]? = some r) (hk : keyOf r = some q) : findP P q = some i := by
  cases h : findP P q with
  | none =>
    have := List.findIdx?_eq_none_iff.1 h r (List.mem_of_getElem? hr)
    simp [hk] at this
  | some j =>
    obtain ⟨s, hs, hk2⟩ := findP_some h
    rw [ho i j r s q hr hs hk hk2]
theorem findP_no {P : List PL} {q : List Bool} (h : ∀ (i : Nat) (r : PL), P[i]? = some r → keyOf r ≠ some q) : findP P q = none := by
  cases h2 : findP P q with
  | none => rfl
  | some j =>
    obtain ⟨s, hs, hk2⟩ := findP_some h2
    exact absurd hk2 (h j s hs)
theorem findP_none {P : List PL} {q : List Bool} (h : findP P q = none) {i : Nat} {r : PL} (hr : P[i]? = some r) : keyOf r ≠ some q := fun hk => by
  have := List.findIdx?_eq_none_iff.1 h r (List.mem_of_getElem? hr)
  simp [hk] at this
theorem begR_iff {q : List Bool} {r : PL} : begR q r = true ↔ ∃ b, keyOf r = some b ∧ q <+: b := by
  unfold begR
  cases keyOf r with
  | none => simp
  | some b => simp [List.isPrefixOf_iff_prefix]
theorem cntP_pos {P : List PL} {q : List Bool} : prP P q = true ↔ ∃ (i : Nat) (r : PL) (b : List Bool), P[i]? = some r ∧ keyOf r = some b ∧ q <+: b := by
  unfold prP cntP
  rw [decide_eq_true_iff, List.countP_pos_iff]
  constructor
  · rintro ⟨r, hr, hb⟩
    obtain ⟨i, hi⟩ := List.mem_iff_getElem?.1 hr
    obtain ⟨b, h1, h2⟩ := begR_iff.1 hb
    exact ⟨i, r, b, hi, h1, h2⟩
  · rintro ⟨i, r, b, hi, h1, h2⟩
    exact ⟨r, List.mem_of_getElem? hi, begR_iff.2 ⟨b, h1, h2⟩⟩
theorem prP_find {P : List PL} {q : List Bool} {i : Nat} (h : findP P q = some i) : prP P q = true := by
  obtain ⟨r, h1, h2⟩ := findP_some h
  exact cntP_pos.2 ⟨i, r, q, h1, h2, List.prefix_refl _⟩
theorem cntP_le (P : List PL) (q : List Bool) : cntP P q ≤ P.length := List.countP_le_length
/-- The longest beginning of b, of the first j ones, that is a key. -/
def lonI (P : List PL) (b : List Bool) : Nat → Option Nat
  | 0 => none
  | j + 1 => (findP P (b.take j)).or (lonI P b j)
theorem lonI_some {P : List PL} {b : List Bool} : ∀ {j i : Nat}, lonI P b j = some i → ∃ m, m < j ∧ findP P (b.take m) = some i ∧ ∀ m', m < m' → m' < j → findP P (b.take m') = none
  | 0, i, h => by cases h
  | j + 1, i, h => by
    unfold lonI at h
    cases h1 : findP P (b.take j) with
    | some i2 =>
      rw [h1] at h
      simp at h
      exact ⟨j, by omega, by rw [h1, h], fun m' h2 h3 => by omega⟩
    | none =>
      rw [h1] at h
      simp at h
      obtain ⟨m, h2, h3, h4⟩ := lonI_some h
      refine ⟨m, by omega, h3, fun m' h5 h6 => ?_⟩
      by_cases e : m' = j
      · rw [e]; exact h1
      · exact h4 m' h5 (by omega)
theorem lonI_none {P : List PL} {b : List Bool} : ∀ {j : Nat}, lonI P b j = none → ∀ m, m < j → findP P (b.take m) = none
  | 0, h, m, hm => by omega
  | j + 1, h, m, hm => by
    unfold lonI at h
    simp only [Option.or_eq_none_iff] at h
    by_cases e : m = j
    · rw [e]; exact h.1
    · exact lonI_none h.2 m (by omega)
def plA (cb : Nat) (i : Nat) : Addr := ⟨cb, i * 3, none⟩
def thP (cb : Nat) (P : List PL) (q : List Bool) : Option Addr := (findP P q).map (plA cb)
theorem lonJ_P (cb : Nat) (P : List PL) (b : List Bool) : ∀ j, lonJ (prP P) (thP cb P) b j = (lonI P b j).map (plA cb)
  | 0 => rfl
  | j + 1 => by
    unfold lonJ lonI
    rw [lonJ_P cb P b j]
    cases h : findP P (b.take j) with
    | some i => rw [if_pos (prP_find h)]; simp [thP, h]
    | none =>
      simp [thP, h]
section
variable {P : List PL} {i : Nat} {r : PL} {q : List Bool}
theorem set_at {x : PL} (hr : P[i]? = some r) : (P.set i x)[i]? = some x := List.getElem?_set_self ((List.getElem?_eq_some_iff.1 hr).1)
theorem cnt_set {x : PL} (hr : P[i]? = some r) : cntP (P.set i x) q = cntP P q - (if begR q r = true then 1 else 0) + (if begR q x = true then 1 else 0) := by
  obtain ⟨hi, he⟩ := List.getElem?_eq_some_iff.1 hr
  unfold cntP
  rw [List.countP_set hi, he]
theorem begR_none {r : PL} (h : r.k = none) : begR q r = false := by simp [begR, keyOf, h]
theorem begR_some {r : PL} {g : Nat} {l : List Int} (h : r.k = some (g, l)) : begR q r = q.isPrefixOf (kb l) := by simp [begR, keyOf, h]
/-- A key is put at a free place. -/
theorem cnt_put {g : Nat} {l : List Int} (hr : P[i]? = some r) (hk : r.k = none) : cntP (P.set i { r with k := some (g, l) }) q = cntP P q + (if q.isPrefixOf (kb l) = true then 1 else 0) := by
  rw [cnt_set hr, begR_none hk, begR_some (r := { r with k := some (g, l) }) rfl]
  simp
theorem one_put {g : Nat} {l : List Int} (ho : OneP P) (hr : P[i]? = some r) (hn : findP P (kb l) = none) : OneP (P.set i { r with k := some (g, l) }) := by
  intro a b x y c ha hb hx hy
  by_cases e1 : i = a
  · subst e1
    by_cases e2 : i = b
    · exact e2
    · rw [set_at hr] at ha
      injection ha with ha
      rw [List.getElem?_set_ne e2] at hb
      subst ha
      simp [keyOf] at hx
      subst hx
      exact absurd hy (findP_none hn hb)
  · by_cases e2 : i = b
    · subst e2
      rw [set_at hr] at hb
      injection hb with hb
      rw [List.getElem?_set_ne e1] at ha
      subst hb
      simp [keyOf] at hy
      subst hy
      exact absurd hx (findP_none hn ha)
    · rw [List.getElem?_set_ne e1] at ha
      rw [List.getElem?_set_ne e2] at hb
      exact ho a b x y c ha hb hx hy
theorem find_put {g : Nat} {l : List Int} (ho : OneP P) (hr : P[i]? = some r) (hk : r.k = none) (hn : findP P (kb l) = none) : findP (P.set i { r with k := some (g, l) }) q = if q = kb l then some i else findP P q := by
  have ho2 := one_put (g := g) (l := l) ho hr hn
  split
  · rename_i e
    subst e
    exact findP_is ho2 (set_at hr) rfl
  · rename_i e
    cases h : findP P q with
    | none =>
      refine findP_no fun j s hs hk2 => ?_
      by_cases e1 : i = j
      · subst e1
        rw [set_at hr] at hs
        injection hs with hs
        subst hs
        simp [keyOf] at hk2
        exact e hk2.symm
      · rw [List.getElem?_set_ne e1] at hs
        exact findP_none h hs hk2
    | some j =>
      obtain ⟨s, hs, hk2⟩ := findP_some h
      have hij : i ≠ j := fun e1 => by
        subst e1
        rw [hr] at hs
        injection hs with hs
        subst hs
        simp [keyOf, hk] at hk2
      exact findP_is ho2 (by rw [List.getElem?_set_ne hij]; exact hs) hk2
/-- A key is taken off its place. -/
theorem cnt_rem {g : Nat} {l : List Int} (hr : P[i]? = some r) (hk : r.k = some (g, l)) : cntP (P.set i { r with k := none }) q = cntP P q - (if q.isPrefixOf (kb l) = true then 1 else 0) := by
  rw [cnt_set hr, begR_none (r := { r with k := none }) rfl, begR_some hk]
  simp
theorem key_set {x : PL} (hx : keyOf x = none ∨ keyOf x = keyOf r) (hr : P[i]? = some r) {j : Nat} {s : PL} {b : List Bool} (hs : (P.set i x)[j]? = some s) (hk : keyOf s = some b) : ∃ s', P[j]? = some s' ∧ keyOf s' = some b := by
  by_cases e1 : i = j
  · subst e1
    rw [set_at hr] at hs
    injection hs with hs
    subst hs
    rcases hx with hx | hx
    · rw [hx] at hk; cases hk
    · exact ⟨r, hr, hx ▸ hk⟩
  · rw [List.getElem?_set_ne e1] at hs
    exact ⟨s, hs, hk⟩
theorem one_set {x : PL} (ho : OneP P) (hx : keyOf x = none ∨ keyOf x = keyOf r) (hr : P[i]? = some r) : OneP (P.set i x) := by
  intro a b y z c ha hb hy hz
  obtain ⟨y', h1, h2⟩ := key_set hx hr ha hy
  obtain ⟨z', h3, h4⟩ := key_set hx hr hb hz
  exact ho a b y' z' c h1 h3 h2 h4
theorem find_same {x : PL} (ho : OneP P) (hx : keyOf x = keyOf r) (hr : P[i]? = some r) : findP (P.set i x) q = findP P q := by
  cases h : findP P q with
  | none =>
    refine findP_no fun j s hs hk2 => ?_
    obtain ⟨s', h1, h2⟩ := key_set (.inr hx) hr hs hk2
    exact findP_none h h1 h2
  | some j =>
    obtain ⟨s, hs, hk2⟩ := findP_some h
    by_cases e1 : i = j
    · subst e1
      rw [hr] at hs
      injection hs with hs
      exact findP_is (one_set ho (.inr hx) hr) (set_at hr) (by rw [hx, hs, hk2])
    · exact findP_is (one_set ho (.inr hx) hr) (by rw [List.getElem?_set_ne e1]; exact hs) hk2
theorem find_rem {g : Nat} {l : List Int} (ho : OneP P) (hr : P[i]? = some r) (hk : r.k = some (g, l)) : findP (P.set i { r with k := none }) q = if q = kb l then none else findP P q := by
  have ho2 := one_set (x := { r with k := none }) ho (.inl rfl) hr
  split
  · rename_i e
    subst e
    refine findP_no fun j s hs hk2 => ?_
    by_cases e1 : i = j
    · subst e1
      rw [set_at hr] at hs
      injection hs with hs
      subst hs
      cases hk2
    · rw [List.getElem?_set_ne e1] at hs
      exact e1 (ho i j r s _ hr hs (by simp [keyOf, hk]) hk2)
  · rename_i e
    cases h : findP P q with
    | none =>
      refine findP_no fun j s hs hk2 => ?_
      obtain ⟨s', h1, h2⟩ := key_set (.inl rfl) hr hs hk2
      exact findP_none h h1 h2
    | some j =>
      obtain ⟨s, hs, hk2⟩ := findP_some h
      have e1 : i ≠ j := fun e1 => by
        subst e1
        rw [hr] at hs
        injection hs with hs
        subst hs
        simp [keyOf, hk] at hk2
        exact e hk2.symm
      exact findP_is ho2 (by rw [List.getElem?_set_ne e1]; exact hs) hk2
theorem cnt_same {x : PL} (hx : keyOf x = keyOf r) (hr : P[i]? = some r) : cntP (P.set i x) q = cntP P q := by
  have hb : begR q x = begR q r := by simp [begR, hx]
  rw [cnt_set hr, hb]
  have h1 : begR q r = true → 0 < cntP P q := fun h => List.countP_pos_iff.2 ⟨r, List.mem_of_getElem? hr, h⟩
  split
  · rename_i h; have := h1 h; omega
  · omega
/-- Two places of which both keys begin so: two at least. -/
theorem cnt_two {j : Nat} {s : PL} (hij : i ≠ j) (hr : P[i]? = some r) (hs : P[j]? = some s) (h1 : begR q r = true) (h2 : begR q s = true) : 2 ≤ cntP P q := by
  have := cnt_set (q := q) (x := { r with k := none }) hr
  rw [h1, begR_none (r := { r with k := none }) rfl] at this
  have h3 : 0 < cntP (P.set i { r with k := none }) q := List.countP_pos_iff.2 ⟨s, List.mem_of_getElem? (by rw [List.getElem?_set_ne hij]; exact hs), h2⟩
  simp at this
  omega
end
end Go.Proofs.Ythefgfcjjbjjkaa
