/-
  The program's memory, the document's, and what was told, side by side.
-/
import Derived.Test.YtbllnjkagleenaaGreatAB
namespace Go.Proofs.YtbllnjkagleenaaGreat
open Go.RowKit
set_option linter.unusedVariables false

/-- A row that was told. -/
structure TRow where
  A : Option Addr
  n : Nat
  c : Nat
def TRow.sl (t : TRow) : Value := .slice t.A t.n t.c
def OfT (tv : Value) (TL : List TRow) (g : Nat) : Prop := tv.ownBlock = some g ∨ ∃ t ∈ TL, t.sl.ownBlock = some g
/-- The rows that were told, and their list. -/
structure Told (w : World) (B : Nat) (tv : Value) (TL : List TRow) : Prop where
  lst : w.ownsRow 0 26 1 tv TL.length (TL.map TRow.sl)
  row : ∀ (i : Nat) (t : TRow), TL[i]? = some t → ∃ xs, w.ownsRow 0 5 1 t.sl t.n xs
  small : ∀ t ∈ TL, t.n ≤ 1000000
  low : ∀ g, OfT tv TL g → B ≤ g
  sep : ∀ (i j : Nat) (r s : TRow), TL[i]? = some r → TL[j]? = some s → i ≠ j → ∀ g, r.sl.ownBlock = some g → s.sl.ownBlock ≠ some g
theorem Told.lt {w : World} {B : Nat} {tv : Value} {TL : List TRow} (h : Told w B tv TL) : ∀ g, OfT tv TL g → g < w.heap.size := by
  rintro g (hg | ⟨r, hr, hg⟩)
  · exact (h.lst.lt g hg).2
  · obtain ⟨i, hi⟩ := List.mem_iff_getElem?.1 hr
    obtain ⟨xs, hx⟩ := h.row i r hi
    exact (hx.lt g hg).2
theorem Told.kept {w w' : World} {B : Nat} {tv : Value} {TL : List TRow} {F : Nat → Prop} (h : Told w B tv TL) (hk : Kept F w w') (hF : ∀ g, OfT tv TL g → F g) : Told w' B tv TL :=
  ⟨owns_kept h.lst hk (fun g hg => hF g (.inl hg)), fun i t hi => (h.row i t hi).imp fun xs hx => owns_kept hx hk (fun g hg => hF g (.inr ⟨t, List.mem_of_getElem? hi, hg⟩)), h.small, h.low, h.sep⟩
/-- What the two memories hold is the same. -/
structure Sim (L : List (Option PRow)) (R : List RRow) : Prop where
  len : L.length = R.length
  row : ∀ (i : Nat) (r : RRow), R[i]? = some r → if r.live = true then ∃ p : PRow, L[i]? = some (some p) ∧ p.k = r.k ∧ p.n = r.n ∧ p.bs = r.bs else L[i]? = some none
theorem rowAt_at {L : List (Option PRow)} {i : Nat} {r : PRow} (h : L[i]? = some (some r)) : rowAt L ((i : Int) + 1) = some r := by
  unfold rowAt
  rw [if_pos (by omega), show ((i : Int) + 1 - 1).toNat = i by omega, h]
  rfl
theorem Sim.some_ {L : List (Option PRow)} {R : List RRow} {i : Int} {p : PRow} (h : Sim L R) (hp : rowAt L i = some p) : ∃ r, rowR R i = some r ∧ p.k = r.k ∧ p.n = r.n ∧ p.bs = r.bs := by
  obtain ⟨h1, h2⟩ := rowAt_get hp
  have hlt := (List.getElem?_eq_some_iff.1 h2).1
  have hl := h.len
  have hr : R[(i - 1).toNat]? = some (R[(i - 1).toNat]'(by omega)) := List.getElem?_eq_getElem _
  generalize (R[(i - 1).toNat]'(by omega)) = r at hr
  have h3 := h.row _ r hr
  split at h3
  · rename_i hv
    obtain ⟨p', h4, h5⟩ := h3
    rw [h2] at h4
    simp at h4
    subst h4
    refine ⟨r, ?_, h5⟩
    unfold rowR
    rw [if_pos h1, hr]
    simp [Option.filter, hv]
  · rw [h2] at h3
    cases h3
theorem Sim.none_ {L : List (Option PRow)} {R : List RRow} {i : Int} (h : Sim L R) (hp : rowAt L i = none) : rowR R i = none := by
  cases hq : rowR R i with
  | none => rfl
  | some r =>
    obtain ⟨j, rfl, hj, hv⟩ := rowR_get hq
    have h3 := h.row j r hj
    rw [if_pos hv] at h3
    obtain ⟨p, h4, _⟩ := h3
    rw [rowAt_at h4] at hp
    cases hp
theorem Sim.made {L : List (Option PRow)} {R : List RRow} (h : Sim L R) (p : PRow) (r : RRow) (hv : r.live = true) (h1 : p.k = r.k) (h2 : p.n = r.n) (h3 : p.bs = r.bs) : Sim (L ++ [some p]) (R ++ [r]) := by
  have hl := h.len
  refine ⟨by simp [hl], fun i s hi => ?_⟩
  rcases Nat.lt_trichotomy i R.length with hlt | heq | hgt
  · rw [List.getElem?_append_left hlt] at hi
    rw [List.getElem?_append_left (by omega)]
    exact h.row i s hi
  · subst heq
    simp at hi
    subst hi
    rw [if_pos hv]
    exact ⟨p, by rw [List.getElem?_append_right (by omega)]; simp [hl], h1, h2, h3⟩
  · rw [List.getElem?_eq_none (by simp; omega)] at hi
    cases hi
theorem Sim.wrote {L : List (Option PRow)} {R : List RRow} {i : Int} {p : PRow} {r : RRow} (h : Sim L R) (hp : rowAt L i = some p) (hr : rowR R i = some r) (o : Nat) (d : List Int) : Sim (L.set (i - 1).toNat (some { p with bs := splice p.bs o d })) (R.set (i - 1).toNat { r with bs := splice r.bs o d }) := by
  obtain ⟨h1, h2⟩ := rowAt_get hp
  obtain ⟨r', hr', h3, h4, h5⟩ := h.some_ hp
  rw [hr] at hr'
  cases hr'
  obtain ⟨j, rfl, hj, hv⟩ := rowR_get hr
  have ej : ((j : Int) + 1 - 1).toNat = j := by omega
  rw [ej] at h2 ⊢
  refine ⟨by simp [h.len], fun i s hi => ?_⟩
  by_cases e : j = i
  · subst e
    rw [List.getElem?_set_self (List.getElem?_eq_some_iff.1 hj).1] at hi
    simp at hi
    subst hi
    rw [if_pos hv]
    exact ⟨_, List.getElem?_set_self (List.getElem?_eq_some_iff.1 h2).1, h3, h4, by rw [h5]⟩
  · rw [List.getElem?_set_ne e] at hi ⊢
    exact h.row i s hi
theorem Sim.freed {L : List (Option PRow)} {R : List RRow} {i : Int} {p : PRow} {r : RRow} (h : Sim L R) (hp : rowAt L i = some p) (hr : rowR R i = some r) : Sim (L.set (i - 1).toNat none) (R.set (i - 1).toNat { r with live := false }) := by
  obtain ⟨h1, h2⟩ := rowAt_get hp
  obtain ⟨j, rfl, hj, hv⟩ := rowR_get hr
  have ej : ((j : Int) + 1 - 1).toNat = j := by omega
  rw [ej] at h2 ⊢
  refine ⟨by simp [h.len], fun i s hi => ?_⟩
  by_cases e : j = i
  · subst e
    rw [List.getElem?_set_self (List.getElem?_eq_some_iff.1 hj).1] at hi
    simp at hi
    subst hi
    rw [if_neg (by simp)]
    exact List.getElem?_set_self (List.getElem?_eq_some_iff.1 h2).1
  · rw [List.getElem?_set_ne e] at hi ⊢
    exact h.row i s hi
/-- All three, apart from each other, in a world that has turned nothing that was there. -/
structure St (w0 w : World) (B b mm : Nat) (L : List (Option PRow)) (x : Nat) (v : Value) (R : List RRow) (tv : Value) (TL : List TRow) : Prop where
  mem : Mem w B b mm L
  ref : RMem w B x v R
  told : Told w B tv TL
  d1 : ∀ g, OfM b mm L g → ¬ OfR x v R g
  d2 : ∀ g, OfM b mm L g → ¬ OfT tv TL g
  d3 : ∀ g, OfR x v R g → ¬ OfT tv TL g
  base : w0.heap.size ≤ B
  size : B ≤ w.heap.size
  below : Below w0.heap.size w0 w
section
variable {w0 w w' : World} {B b mm x : Nat} {L L' : List (Option PRow)} {v v' : Value} {R R' : List RRow} {tv tv' : Value} {TL TL' : List TRow}
/-- Nothing of theirs has turned. -/
theorem St.kept {F : Nat → Prop} (h : St w0 w B b mm L x v R tv TL) (hk : Kept F w w') (hF : ∀ g, g < w.heap.size → OfM b mm L g ∨ OfR x v R g ∨ OfT tv TL g ∨ g < B → F g) : St w0 w' B b mm L x v R tv TL :=
  ⟨h.mem.kept hk (fun g hg => hF g (h.mem.lt g hg) (.inl hg)), h.ref.kept hk (fun g hg => hF g (h.ref.lt g hg) (.inr (.inl hg))), h.told.kept hk (fun g hg => hF g (h.told.lt g hg) (.inr (.inr (.inl hg)))), h.d1, h.d2, h.d3, h.base, Nat.le_trans h.size hk.size,
    h.below.trans (hk.to_below (B := w0.heap.size) (fun g hg => hF g (Nat.lt_of_lt_of_le hg (Nat.le_trans h.base h.size)) (.inr (.inr (.inr (Nat.lt_of_lt_of_le hg h.base))))) (Nat.le_trans h.base h.size))⟩
theorem St.later (h : St w0 w B b mm L x v R tv TL) (hb : Below w.heap.size w w') : St w0 w' B b mm L x v R tv TL := h.kept (F := fun _ => True) (Kept.of_below hb) (fun _ _ _ => trivial)
theorem St.low {F : Nat → Prop} (h : St w0 w B b mm L x v R tv TL) (hk : Kept F w w') (hF : ∀ g, g < B → F g) : Below w0.heap.size w0 w' :=
  h.below.trans (hk.to_below (B := w0.heap.size) (fun g hg => hF g (Nat.lt_of_lt_of_le hg h.base)) (Nat.le_trans h.base h.size))
/-- The program's memory has turned. -/
theorem St.prog (h : St w0 w B b mm L x v R tv TL) (hk : Kept (fun g => ¬ OfM b mm L g) w w') (hm : Mem w' B b mm L') (hs : ∀ g, OfM b mm L' g → OfM b mm L g ∨ w.heap.size ≤ g) : St w0 w' B b mm L' x v R tv TL :=
  ⟨hm, h.ref.kept hk (fun g hg hm => h.d1 g hm hg), h.told.kept hk (fun g hg hm => h.d2 g hm hg), fun g hg hr => (hs g hg).elim (fun h1 => h.d1 g h1 hr) (fun h1 => by have := h.ref.lt g hr; omega), fun g hg hr => (hs g hg).elim (fun h1 => h.d2 g h1 hr) (fun h1 => by have := h.told.lt g hr; omega), h.d3, h.base, Nat.le_trans h.size hk.size,
    h.low hk (fun g hg hm => by have := h.mem.low g hm; omega)⟩
/-- The document's memory has turned. -/
theorem St.doc (h : St w0 w B b mm L x v R tv TL) (hk : Kept (fun g => ¬ OfR x v R g) w w') (hm : RMem w' B x v' R') (hs : ∀ g, OfR x v' R' g → OfR x v R g ∨ w.heap.size ≤ g) : St w0 w' B b mm L x v' R' tv TL :=
  ⟨h.mem.kept hk (fun g hg hm => h.d1 g hg hm), hm, h.told.kept hk (fun g hg hm => h.d3 g hm hg), fun g hg hr => (hs g hr).elim (fun h1 => h.d1 g hg h1) (fun h1 => by have := h.mem.lt g hg; omega), h.d2, fun g hg hr => (hs g hg).elim (fun h1 => h.d3 g h1 hr) (fun h1 => by have := h.told.lt g hr; omega), h.base, Nat.le_trans h.size hk.size,
    h.low hk (fun g hg hm => by have := h.ref.low g hm; omega)⟩
/-- One row more was told. -/
theorem St.tell (h : St w0 w B b mm L x v R tv TL) {t : TRow} {xs : List Value} {wt : World} (ht : w.ownsRow 0 5 1 t.sl t.n xs) (hn : t.n ≤ 1000000) (hnew : ∀ g, t.sl.ownBlock = some g → B ≤ g ∧ ¬ OfM b mm L g ∧ ¬ OfR x v R g ∧ ¬ OfT tv TL g)
    (hg : Kept (fun g => tv.ownBlock ≠ some g) w w') (hl : w'.ownsRow 0 26 1 tv' (TL.length + 1) (TL.map TRow.sl ++ [t.sl])) (hv : ∀ g, tv'.ownBlock = some g → tv.ownBlock = some g ∨ w.heap.size ≤ g) : St w0 w' B b mm L x v R tv' (TL ++ [t]) := by
  have hoff : ∀ (s : TRow) (ys : List Value), w.ownsRow 0 5 1 s.sl s.n ys → ∀ g, s.sl.ownBlock = some g → tv.ownBlock ≠ some g := fun s ys hs g hg' e => by
    rcases owns_ne hs h.told.lst (by decide) with h1 | h1
    · rw [h1] at hg'; cases hg'
    · exact h1 (hg'.trans e.symm)
  have hcase : ∀ (i : Nat) (s : TRow), (TL ++ [t])[i]? = some s → (i < TL.length ∧ TL[i]? = some s) ∨ (i = TL.length ∧ s = t) := fun i s hi => by
    rcases Nat.lt_trichotomy i TL.length with hlt | heq | hgt
    · rw [List.getElem?_append_left hlt] at hi
      exact .inl ⟨hlt, hi⟩
    · subst heq
      simp at hi
      exact .inr ⟨rfl, hi.symm⟩
    · rw [List.getElem?_eq_none (by simp; omega)] at hi
      cases hi
  have hsub : ∀ g, OfT tv' (TL ++ [t]) g → OfT tv TL g ∨ w.heap.size ≤ g ∨ t.sl.ownBlock = some g := by
    rintro g (hg' | ⟨s, hs, hg'⟩)
    · rcases hv g hg' with h1 | h1
      · exact .inl (.inl h1)
      · exact .inr (.inl h1)
    · rcases List.mem_append.1 hs with hs | hs
      · exact .inl (.inr ⟨s, hs, hg'⟩)
      · simp at hs
        subst hs
        exact .inr (.inr hg')
  refine ⟨h.mem.kept hg (fun g hgm e => h.d2 g hgm (.inl e)), h.ref.kept hg (fun g hgm e => h.d3 g hgm (.inl e)), ⟨?_, fun i s hi => ?_, fun s hs => ?_, fun g hgt => ?_, fun i j r s hi hj hne g hgr hgs => ?_⟩, h.d1, fun g hgm hgt => ?_, fun g hgm hgt => ?_, h.base, Nat.le_trans h.size hg.size, h.low hg (fun g hgb e => by have := h.told.low g (.inl e); omega)⟩
  · rw [List.length_append, List.map_append]
    exact hl
  · rcases hcase i s hi with ⟨_, h2⟩ | ⟨_, rfl⟩
    · obtain ⟨ys, hy⟩ := h.told.row i s h2
      exact ⟨ys, owns_kept hy hg (fun g hgs => hoff s ys hy g hgs)⟩
    · exact ⟨xs, owns_kept ht hg (fun g hgs => hoff s xs ht g hgs)⟩
  · rcases List.mem_append.1 hs with hs | hs
    · exact h.told.small s hs
    · simp at hs
      subst hs
      exact hn
  · rcases hsub g hgt with h1 | h1 | h1
    · exact h.told.low g h1
    · exact Nat.le_trans h.size h1
    · exact (hnew g h1).1
  · rcases hcase i r hi with ⟨h1, h2⟩ | ⟨h1, rfl⟩
    · rcases hcase j s hj with ⟨h3, h4⟩ | ⟨h3, rfl⟩
      · exact h.told.sep i j r s h2 h4 hne g hgr hgs
      · exact (hnew g hgs).2.2.2 (.inr ⟨r, List.mem_of_getElem? h2, hgr⟩)
    · rcases hcase j s hj with ⟨h3, h4⟩ | ⟨h3, rfl⟩
      · exact (hnew g hgr).2.2.2 (.inr ⟨s, List.mem_of_getElem? h4, hgs⟩)
      · exact hne (h1.trans h3.symm)
  · rcases hsub g hgt with h1 | h1 | h1
    · exact h.d2 g hgm h1
    · have := h.mem.lt g hgm; omega
    · exact (hnew g h1).2.1 hgm
  · rcases hsub g hgt with h1 | h1 | h1
    · exact h.d3 g hgm h1
    · have := h.ref.lt g hgm; omega
    · exact (hnew g h1).2.2.1 hgm
end
end Go.Proofs.YtbllnjkagleenaaGreat
