/-
  The ring, the document's, and what was told, side by side; each call, whatever is asked.
-/
import Derived.Test.YtdbflopfcnkjbaaGreatJB
import Derived.Test.YtdbflopfcnkjbaaGreatJ8
import Derived.Test.YtdbflopfcnkjbaaGreatYSPC
import Derived.Test.YtdbflopfcnkjbaaGreatAB
namespace Go.Proofs.YtdbflopfcnkjbaaGreat
open Go.RowKit
set_option linter.unusedVariables false

/-- A row that was told. -/
structure TRow where
  A : Option Addr
  n : Nat
  c : Nat
def TRow.sl (t : TRow) : Value := .slice t.A t.n t.c
def OfT (tv : Value) (TL : List TRow) (g : Nat) : Prop := tv.ownBlock = some g ∨ ∃ t ∈ TL, t.sl.ownBlock = some g
/-- The rows that were told, and their list. -/
structure Told (w : World) (B : Nat) (tv : Value) (TL : List TRow) : Prop where
  lst : w.ownsRow 0 27 1 tv TL.length (TL.map TRow.sl)
  row : ∀ (i : Nat) (t : TRow), TL[i]? = some t → ∃ xs, w.ownsRow 0 5 1 t.sl t.n xs
  small : ∀ t ∈ TL, t.n ≤ 1000000
  low : ∀ g, OfT tv TL g → B ≤ g
  sep : ∀ (i j : Nat) (r s : TRow), TL[i]? = some r → TL[j]? = some s → i ≠ j → ∀ g, r.sl.ownBlock = some g → s.sl.ownBlock ≠ some g
theorem Told.lt {w : World} {B : Nat} {tv : Value} {TL : List TRow} (h : Told w B tv TL) : ∀ g, OfT tv TL g → g < w.heap.size := by
  rintro g (hg | ⟨r, hr, hg⟩)
  · exact (h.lst.lt g hg).2
  · obtain ⟨i, hi⟩ := List.mem_iff_getElem?.1 hr
    obtain ⟨xs, hx⟩ := h.row i r hi
    exact (hx.lt g hg).2
theorem Told.kept {w w' : World} {B : Nat} {tv : Value} {TL : List TRow} {F : Nat → Prop} (h : Told w B tv TL) (hk : Kept F w w') (hF : ∀ g, OfT tv TL g → F g) : Told w' B tv TL :=
  ⟨owns_kept h.lst hk (fun g hg => hF g (.inl hg)), fun i t hi => (h.row i t hi).imp fun xs hx => owns_kept hx hk (fun g hg => hF g (.inr ⟨t, List.mem_of_getElem? hi, hg⟩)), h.small, h.low, h.sep⟩
theorem Told.none (w : World) (B : Nat) : Told w B (.slice none 0 0) [] := ⟨owns_nil _ _ _, nofun, nofun, by rintro g (h | ⟨t, ht, _⟩); (cases h); (cases ht), nofun⟩
/-- All three, apart from each other, in a world that has turned nothing that was there. -/
structure S15 (w0 w : World) (B b bx x sz : Nat) (L : List RK) (A2 : Option Addr) (c2 : Nat) (M : List ARow) (tv : Value) (TL : List TRow) : Prop where
  rng : Rng w B b bx sz L
  ref : RRng w B x sz A2 c2 M
  told : Told w B tv TL
  d1 : ∀ g, OfG b bx L g → ¬ OfX x A2 M g
  d2 : ∀ g, OfG b bx L g → ¬ OfT tv TL g
  d3 : ∀ g, OfX x A2 M g → ¬ OfT tv TL g
  base : w0.heap.size ≤ B
  below : Below w0.heap.size w0 w
section
variable {w0 w w' : World} {B b bx x sz c2 c' : Nat} {A2 A' : Option Addr} {L L' : List RK} {M M' : List ARow} {tv tv' : Value} {TL : List TRow}
theorem S15.B_le (h : S15 w0 w B b bx x sz L A2 c2 M tv TL) : B ≤ w.heap.size := h.rng.B_le
/-- Nothing of theirs has turned. -/
theorem S15.kept {F : Nat → Prop} (h : S15 w0 w B b bx x sz L A2 c2 M tv TL) (hk : Kept F w w') (hF : ∀ g, g < w.heap.size → OfG b bx L g ∨ OfX x A2 M g ∨ OfT tv TL g ∨ g < B → F g) : S15 w0 w' B b bx x sz L A2 c2 M tv TL :=
  ⟨h.rng.kept hk (fun g hg => hF g (h.rng.lt g hg) (.inl hg)), h.ref.kept hk (fun g hg => hF g (h.ref.lt g hg) (.inr (.inl hg))), h.told.kept hk (fun g hg => hF g (h.told.lt g hg) (.inr (.inr (.inl hg)))), h.d1, h.d2, h.d3, h.base,
    h.below.trans (hk.to_below (B := w0.heap.size) (fun g hg => hF g (Nat.lt_of_lt_of_le hg (Nat.le_trans h.base h.B_le)) (.inr (.inr (.inr (Nat.lt_of_lt_of_le hg h.base))))) (Nat.le_trans h.base h.B_le))⟩
theorem S15.later (h : S15 w0 w B b bx x sz L A2 c2 M tv TL) (hb : Below w.heap.size w w') : S15 w0 w' B b bx x sz L A2 c2 M tv TL := h.kept (F := fun _ => True) (Kept.of_below hb) (fun _ _ _ => trivial)
theorem S15.low {F : Nat → Prop} (h : S15 w0 w B b bx x sz L A2 c2 M tv TL) (hk : Kept F w w') (hF : ∀ g, g < B → F g) : Below w0.heap.size w0 w' :=
  h.below.trans (hk.to_below (B := w0.heap.size) (fun g hg => hF g (Nat.lt_of_lt_of_le hg h.base)) (Nat.le_trans h.base h.B_le))
theorem off_of {k : Nat} (h : ¬ OfG b bx L k) : Off b L k := ⟨fun e => h (.inl e), fun r hr e => h (.inr (.inr ⟨r, hr, .inl e⟩))⟩
theorem offx_of {k : Nat} (h : ¬ OfX x A2 M k) : OffX x A2 k := ⟨fun e => h (.inl e), fun e => h (.inr (.inl e))⟩
/-- The program's ring has turned. -/
theorem S15.prog (h : S15 w0 w B b bx x sz L A2 c2 M tv TL) (hk : Kept (Off b L) w w') (hq : Rng w' B b bx sz L') (hs : ∀ g, OfG b bx L' g → OfG b bx L g ∨ w.heap.size ≤ g) : S15 w0 w' B b bx x sz L' A2 c2 M tv TL :=
  ⟨hq, h.ref.kept hk (fun g hg => off_of (fun e => h.d1 g e hg)), h.told.kept hk (fun g hg => off_of (fun e => h.d2 g e hg)),
    fun g hg hr => (hs g hg).elim (fun h1 => h.d1 g h1 hr) (fun h1 => by have := h.ref.lt g hr; omega), fun g hg hr => (hs g hg).elim (fun h1 => h.d2 g h1 hr) (fun h1 => by have := h.told.lt g hr; omega), h.d3, h.base,
    h.low hk (fun g hg => off_of (fun e => by have := h.rng.low g e; omega))⟩
/-- The document's ring has turned. -/
theorem S15.doc (h : S15 w0 w B b bx x sz L A2 c2 M tv TL) (hq : RRng w' B x sz A' c' M') (hk : Kept (OffX x A2) w w') (hs : ∀ g, OfX x A' M' g → OfX x A2 M g ∨ w.heap.size ≤ g) : S15 w0 w' B b bx x sz L A' c' M' tv TL :=
  ⟨h.rng.kept hk (fun g hg => offx_of (fun e => h.d1 g hg e)), hq, h.told.kept hk (fun g hg => offx_of (fun e => h.d3 g e hg)),
    fun g hg hr => (hs g hr).elim (fun h1 => h.d1 g hg h1) (fun h1 => by have := h.rng.lt g hg; omega), h.d2, fun g hr hg => (hs g hr).elim (fun h1 => h.d3 g h1 hg) (fun h1 => by have := h.told.lt g hg; omega), h.base,
    h.low hk (fun g hg => offx_of (fun e => by have := h.ref.low g e; omega))⟩
theorem S15.tell (h : S15 w0 w B b bx x sz L A2 c2 M tv TL) {t : TRow} {xs : List Value} (ht : w.ownsRow 0 5 1 t.sl t.n xs) (hn : t.n ≤ 1000000) (hnew : ∀ g, t.sl.ownBlock = some g → B ≤ g ∧ ¬ OfG b bx L g ∧ ¬ OfX x A2 M g ∧ ¬ OfT tv TL g)
    (hg : Kept (fun g => tv.ownBlock ≠ some g) w w') (hl : w'.ownsRow 0 27 1 tv' (TL.length + 1) (TL.map TRow.sl ++ [t.sl])) (hv : ∀ g, tv'.ownBlock = some g → tv.ownBlock = some g ∨ w.heap.size ≤ g) : S15 w0 w' B b bx x sz L A2 c2 M tv' (TL ++ [t]) := by
  have hoff : ∀ (s : TRow) (ys : List Value), w.ownsRow 0 5 1 s.sl s.n ys → ∀ g, s.sl.ownBlock = some g → tv.ownBlock ≠ some g := fun s ys hs g hg' e => by
    rcases owns_ne hs h.told.lst (by decide) with h1 | h1
    · rw [h1] at hg'; cases hg'
    · exact h1 (hg'.trans e.symm)
  have hcase : ∀ (i : Nat) (s : TRow), (TL ++ [t])[i]? = some s → (i < TL.length ∧ TL[i]? = some s) ∨ (i = TL.length ∧ s = t) := fun i s hi => by
    rcases Nat.lt_trichotomy i TL.length with hlt | heq | hgt
    · rw [List.getElem?_append_left hlt] at hi
      exact .inl ⟨hlt, hi⟩
    · subst heq
      simp at hi
      exact .inr ⟨rfl, hi.symm⟩
    · rw [List.getElem?_eq_none (by simp; omega)] at hi
      cases hi
  have hsub : ∀ g, OfT tv' (TL ++ [t]) g → OfT tv TL g ∨ w.heap.size ≤ g ∨ t.sl.ownBlock = some g := by
    rintro g (hg' | ⟨s, hs, hg'⟩)
    · rcases hv g hg' with h1 | h1
      · exact .inl (.inl h1)
      · exact .inr (.inl h1)
    · rcases List.mem_append.1 hs with hs | hs
      · exact .inl (.inr ⟨s, hs, hg'⟩)
      · simp at hs
        subst hs
        exact .inr (.inr hg')
  refine ⟨h.rng.kept hg (fun g hgm e => h.d2 g hgm (.inl e)), h.ref.kept hg (fun g hgm e => h.d3 g hgm (.inl e)), ⟨?_, fun i s hi => ?_, fun s hs => ?_, fun g hgt => ?_, fun i j r s hi hj hne g hgr hgs => ?_⟩, h.d1, fun g hgm hgt => ?_, fun g hgm hgt => ?_, h.base, h.low hg (fun g hgb e => by have := h.told.low g (.inl e); omega)⟩
  · rw [List.length_append, List.map_append]
    exact hl
  · rcases hcase i s hi with ⟨_, h2⟩ | ⟨_, rfl⟩
    · obtain ⟨ys, hy⟩ := h.told.row i s h2
      exact ⟨ys, owns_kept hy hg (fun g hgs => hoff s ys hy g hgs)⟩
    · exact ⟨xs, owns_kept ht hg (fun g hgs => hoff s xs ht g hgs)⟩
  · rcases List.mem_append.1 hs with hs | hs
    · exact h.told.small s hs
    · simp at hs
      subst hs
      exact hn
  · rcases hsub g hgt with h1 | h1 | h1
    · exact h.told.low g h1
    · exact Nat.le_trans h.B_le h1
    · exact (hnew g h1).1
  · rcases hcase i r hi with ⟨h1, h2⟩ | ⟨h1, rfl⟩
    · rcases hcase j s hj with ⟨h3, h4⟩ | ⟨h3, rfl⟩
      · exact h.told.sep i j r s h2 h4 hne g hgr hgs
      · exact (hnew g hgs).2.2.2 (.inr ⟨r, List.mem_of_getElem? h2, hgr⟩)
    · rcases hcase j s hj with ⟨h3, h4⟩ | ⟨h3, rfl⟩
      · exact (hnew g hgr).2.2.2 (.inr ⟨s, List.mem_of_getElem? h4, hgs⟩)
      · exact hne (h1.trans h3.symm)
  · rcases hsub g hgt with h1 | h1 | h1
    · exact h.d2 g hgm h1
    · have := h.rng.lt g hgm; omega
    · exact (hnew g h1).2.1 hgm
  · rcases hsub g hgt with h1 | h1 | h1
    · exact h.d3 g hgm h1
    · have := h.ref.lt g hgm; omega
    · exact (hnew g h1).2.2.1 hgm
end
/-- What was told lies apart. -/
theorem told_apart {w : World} {B : Nat} {tv : Value} {TL : List TRow} (h : Told w B tv TL) (hl : TL.length ≤ 400) (hB : B ≤ w.heap.size) : Calls Tryz.prog 20 #[tv] w fun e w' => e = .returned (.bool true) ∧ Below B w w' := by
  have hat : ∀ i, i < TL.length → ∃ t, TL[i]? = some t ∧ rowV (fun i => (TL.getD i ⟨none, 0, 0⟩).A) (fun i => (TL.getD i ⟨none, 0, 0⟩).n) (fun i => (TL.getD i ⟨none, 0, 0⟩).c) i = t.sl ∧ (TL.getD i ⟨none, 0, 0⟩).n = t.n := fun i hi => by
    refine ⟨TL[i], List.getElem?_eq_getElem hi, ?_, ?_⟩
    · unfold rowV TRow.sl
      simp [List.getD_eq_getElem?_getD, List.getElem?_eq_getElem hi]
    · simp [List.getD_eq_getElem?_getD, List.getElem?_eq_getElem hi]
  have hrows : rowsV (fun i => (TL.getD i ⟨none, 0, 0⟩).A) (fun i => (TL.getD i ⟨none, 0, 0⟩).n) (fun i => (TL.getD i ⟨none, 0, 0⟩).c) TL.length = TL.map TRow.sl := by
    unfold rowsV
    apply List.ext_getElem
    · simp
    · intro i h1 h2
      have hi : i < TL.length := by simpa using h2
      obtain ⟨t, e1, e2, _⟩ := hat i hi
      have e3 : TL[i] = t := by rw [List.getElem?_eq_getElem hi] at e1; injection e1
      rw [List.getElem_map, List.getElem_range, e2, List.getElem_map, e3]
  refine (apartBytes_any tv TL.length _ _ _ w (by rw [hrows]; exact h.lst) (fun i hi => ?_) (fun i k hi hk hne g hg => ?_) (fun i => ?_) hl).mono ?_
  · obtain ⟨t, h1, h2, h3⟩ := hat i hi
    rw [h2, h3]
    exact h.row i t h1
  · obtain ⟨t, h1, h2, _⟩ := hat i hi
    obtain ⟨s, h3, h4, _⟩ := hat k hk
    rw [h2] at hg
    rw [h4]
    exact h.sep i k t s h1 h3 hne g hg
  · by_cases hi : i < TL.length
    · obtain ⟨t, h1, _, h3⟩ := hat i hi
      rw [h3]
      exact h.small t (List.mem_of_getElem? h1)
    · rw [List.getD_eq_getElem?_getD, List.getElem?_eq_none (by omega)]
      exact Nat.zero_le _
  · rintro e w' ⟨rfl, hk⟩
    refine ⟨rfl, hk.to_below (fun g hg i hi e => ?_) hB⟩
    obtain ⟨t, h1, h2, h3⟩ := hat i hi
    rw [h2] at e
    have := h.low g (.inr ⟨t, List.mem_of_getElem? h1, e⟩)
    omega
section
variable {w0 w w2 w3 w' : World} {B b bx x sz c2 c' : Nat} {A2 A' : Option Addr} {L L' : List RK} {M M' : List ARow} {tv tv' : Value} {TL : List TRow} {t : TRow} {l : List Int}
/-- A row that is to be told next. -/
def NewRow (B b bx x : Nat) (L : List RK) (A2 : Option Addr) (M : List ARow) (tv : Value) (TL : List TRow) (t : TRow) : Prop := ∀ g, t.sl.ownBlock = some g → B ≤ g ∧ ¬ OfG b bx L g ∧ ¬ OfX x A2 M g ∧ ¬ OfT tv TL g
/-- The row stands in the list of what was told. -/
theorem S15.append {o : Obj} (h : S15 w0 w B b bx x sz L A2 c2 M tv TL) (ho : w.ownsRow 0 5 1 t.sl t.n (u8s l)) (hn : t.n ≤ 1000000) (hnew : NewRow B b bx x L A2 M tv TL t) (hl : Longer (w.alloc o) w' 27 1 tv tv' (TL.length + 1) (TL.map TRow.sl ++ [t.sl])) : S15 w0 w' B b bx x sz L A2 c2 M tv' (TL ++ [t]) := by
  obtain ⟨l1, l2, l3⟩ := hl
  refine h.tell ho hn hnew ((Kept.of_below (F := fun g => tv.ownBlock ≠ some g) (below1 w o)).grown l2 (fun k hk _ hF => hF hk)) l1 (fun g hg => ?_)
  rcases l3 with l3 | l3
  · exact .inl (l3.symm.trans hg)
  · rw [hg] at l3
    injection l3 with l3
    rw [World.size_alloc] at l3
    exact .inr (by omega)
theorem row_rd {g q : Nat} {ms : List Value} (h : Row w g (q + 12) 5 1 (q + 12) (u8s l ++ ms)) (hl : l.length = q) : Rd w w.heap.size 1 (some ⟨g, 0, none⟩) q (u8s l) := by
  have h1 := Rd.of_own (owns_prefix (n := q) h (by omega))
  have e : (u8s l ++ ms).take (q * 1) = u8s l := by
    rw [Nat.mul_one, List.take_append_of_le_length (by simp [u8s, hl]), List.take_of_length_le (by simp [u8s, hl])]
  rw [e] at h1
  exact h1
end
/-- What Take tells. -/
def takeE (n : Nat) : Int := if n = 0 then 6 else 0
def takeB (R : List (List Int)) : List Int := match R with
  | [] => []
  | l :: _ => l
theorem same_len {L : List RK} {M : List ARow} (h : M.map ARow.bs = L.map RK.bs) : M.length = L.length := by
  have := congrArg List.length h
  simpa using this
theorem same_drop {L : List RK} {M : List ARow} (h : M.map ARow.bs = L.map RK.bs) : (M.drop 1).map ARow.bs = (L.drop 1).map RK.bs := by rw [List.map_drop, List.map_drop, h]
theorem same_sum : ∀ {L : List RK} {M : List ARow}, (∀ r ∈ M, r.n = r.bs.length) → M.map ARow.bs = L.map RK.bs → sumA M = sumR L
  | [], [], _, _ => rfl
  | [], _ :: _, _, h => by cases h
  | _ :: _, [], _, h => by cases h
  | r :: L, s :: M, hn, h => by
    simp at h
    have h1 := hn s (by simp)
    have h2 := same_sum (L := L) (M := M) (fun r hr => hn r (List.mem_cons_of_mem _ hr)) (by simpa using h.2)
    simp [sumA, sumR, h1, h2, h.1]
theorem RRng.ns {w : World} {B x sz c : Nat} {A : Option Addr} {M : List ARow} (h : RRng w B x sz A c M) : ∀ r ∈ M, r.n = r.bs.length := fun r hr => by
  have := (h.row r hr).1
  simpa [u8s] using this.symm
section
variable {w w' : World} {B b bx x sz c : Nat} {A : Option Addr} {L : List RK} {M : List ARow}
theorem take_all (h : Rng w B b bx sz L) : Calls Tryz.prog 13 #[.pointer (some ⟨b, 0, none⟩)] w fun e w' => ∃ t : TRow, e = .returned (.tuple #[t.sl, .int .i64 (takeE L.length)]) ∧ w'.ownsRow 0 5 1 t.sl t.n (u8s (takeB (L.map RK.bs))) ∧ t.n ≤ 16384 ∧
    (∀ g, t.sl.ownBlock = some g → OfG b bx L g ∧ ¬ OfG b bx (L.drop 1) g) ∧ Rng w' B b bx sz (L.drop 1) ∧ Kept (Off b L) w w' := by
  cases L with
  | nil =>
    refine (take_none h).mono ?_
    rintro e w' ⟨rfl, rfl⟩
    exact ⟨⟨none, 0, 0⟩, rfl, owns_nil _ _ _, Nat.zero_le _, (fun g hg => by cases hg), h, Kept.refl _ _⟩
  | cons r L =>
    refine (take_some h).mono ?_
    rintro e w' ⟨rfl, h1, h2⟩
    refine ⟨⟨r.A, r.bs.length, r.c⟩, rfl, owns_kept (h.row r (by simp)) h2 (fun g hg e => by subst e; exact h.row_b (by simp) hg), h.rec_le (by simp), fun g hg => ⟨.inr (.inr ⟨r, by simp, .inr hg⟩), ?_⟩, h1, h2.mono (fun g hg => hg.1)⟩
    have hg' : r.sl.ownBlock = some g := hg
    rintro (rfl | rfl | ⟨s, hs, rfl | hs2⟩)
    · exact h.row_b (by simp) hg'
    · exact h.row_x (by simp) hg'
    · exact h.row_l (by simp) (List.mem_cons_of_mem _ hs) hg'
    · obtain ⟨j, hj⟩ := List.mem_iff_getElem?.1 hs
      exact h.apart 0 (j + 1) r s rfl (by simpa using hj) (by omega) g hg' hs2
theorem RTold.same (h : RRng w B x sz A c M) : RTold B x sz A M M w w := ⟨A, c, h, Kept.refl _ _, fun g hg => .inl hg⟩
theorem rtake_all (h : RRng w B x sz A c M) : Calls Tryz.prog 14 #[.pointer (some ⟨x, 0, none⟩)] w fun e w' => ∃ t : TRow, e = .returned (.tuple #[t.sl, .int .i64 (takeE M.length)]) ∧ w'.ownsRow 0 5 1 t.sl t.n (u8s (takeB (M.map ARow.bs))) ∧ RTold B x sz A M (M.drop 1) w w' := by
  cases M with
  | nil =>
    refine (rtake_none h).mono ?_
    rintro e w' ⟨rfl, rfl⟩
    exact ⟨⟨none, 0, 0⟩, rfl, owns_nil _ _ _, RTold.same h⟩
  | cons r M =>
    refine (rtake_some h).mono ?_
    rintro e w' ⟨rfl, h1, h2⟩
    exact ⟨⟨r.A, r.n, r.c⟩, rfl, h2, h1⟩
/-- What Put tells. -/
def putE (sz s n : Nat) : Int := if 65536 < n then 3 else if sz < 8 + n + s then 8 else 0
theorem put_all (ad : Addr) (n sc C : Nat) (l : List Int) (h : Rng w B b bx sz L) (hr : Rd w C 1 (some ad) n (u8s l)) (hC : C ≤ w.heap.size) : Calls Tryz.prog 6 #[.pointer (some ⟨b, 0, none⟩), .slice (some ad) n sc] w fun e w' =>
    e = .returned (.int .i64 (putE sz (sumR L) n)) ∧ ((putE sz (sumR L) n ≠ 0 ∧ Below w.heap.size w w') ∨ (putE sz (sumR L) n = 0 ∧ PutTold B b bx sz L l w w')) := by
  unfold putE
  by_cases h1 : 65536 < n
  · rw [if_pos h1]
    exact (put_long (some ad) n sc h h1).mono fun e w' ⟨h2, h3⟩ => ⟨h2, .inl ⟨by decide, h3 ▸ Below.refl _ _⟩⟩
  · rw [if_neg h1]
    by_cases h2 : sz < 8 + n + sumR L
    · rw [if_pos h2]
      exact (put_full (some ad) n sc h (by omega) h2).mono fun e w' ⟨h3, h4⟩ => ⟨h3, .inl ⟨by decide, h4⟩⟩
    · rw [if_neg h2]
      exact (put_room (some ad) n sc C l h hr hC (fun e => by cases e) (by omega)).mono fun e w' ⟨h3, h4⟩ => ⟨h3, .inr ⟨rfl, h4⟩⟩
theorem rput_all (S : Option Addr) (n sc C : Nat) (l : List Int) (h : RRng w B x sz A c M) (hr : Rd w C 1 S n (u8s l)) (hC : C ≤ w.heap.size) (hS : S = none → n = 0) : Calls Tryz.prog 16 #[.pointer (some ⟨x, 0, none⟩), .slice S n sc] w fun e w' =>
    e = .returned (.int .i64 (putE sz (sumA M) n)) ∧ ((putE sz (sumA M) n ≠ 0 ∧ w = w') ∨ (putE sz (sumA M) n = 0 ∧ RPutTold B x sz A M l w w')) := by
  unfold putE
  by_cases h1 : 65536 < n
  · rw [if_pos h1]
    exact (rput_long S n sc h h1).mono fun e w' ⟨h2, h3⟩ => ⟨h2, .inl ⟨by decide, h3⟩⟩
  · rw [if_neg h1]
    by_cases h2 : sz < 8 + n + sumA M
    · rw [if_pos h2]
      exact (rput_full S n sc h (by omega) h2).mono fun e w' ⟨h3, h4⟩ => ⟨h3, .inl ⟨by decide, h4⟩⟩
    · rw [if_neg h2]
      exact (rput_room S n sc C l h hr hC hS (by omega)).mono fun e w' ⟨h3, h4⟩ => ⟨h3, .inr ⟨rfl, h4⟩⟩
end
section
variable {w0 w w2 w3 w' : World} {B b bx x sz c2 c' : Nat} {A2 A' : Option Addr} {L L' : List RK} {M M' : List ARow} {tv tv' : Value} {TL : List TRow} {t : TRow} {l : List Int}
/-- Behind both Takes. -/
theorem S15.popped (h : S15 w0 w B b bx x sz L A2 c2 M tv TL) (hq : Rng w2 B b bx sz (L.drop 1)) (hk : Kept (Off b L) w w2)
    (ho : w2.ownsRow 0 5 1 t.sl t.n (u8s l)) (ht : ∀ g, t.sl.ownBlock = some g → OfG b bx L g ∧ ¬ OfG b bx (L.drop 1) g) (hr : RTold B x sz A2 M M' w2 w3) :
    ∃ A3 c3, S15 w0 w3 B b bx x sz (L.drop 1) A3 c3 M' tv TL ∧ w3.ownsRow 0 5 1 t.sl t.n (u8s l) ∧ NewRow B b bx x (L.drop 1) A3 M' tv TL t ∧ (∀ g, g < w.heap.size → ¬ OfG b bx L g → ¬ OfX x A2 M g → ¬ OfG b bx (L.drop 1) g ∧ ¬ OfX x A3 M' g) ∧ Kept (fun g => ¬ OfG b bx L g ∧ ¬ OfX x A2 M g) w w3 := by
  obtain ⟨A3, c3, r1, r2, r3⟩ := hr
  have hsub : ∀ g, OfG b bx (L.drop 1) g → OfG b bx L g := by
    rintro g (hg | hg | ⟨r, hr, hg⟩)
    · exact .inl hg
    · exact .inr (.inl hg)
    · exact .inr (.inr ⟨r, List.mem_of_mem_drop hr, hg⟩)
  have h2 := h.prog hk hq (fun g hg => .inl (hsub g hg))
  have hsz := hk.size
  refine ⟨A3, c3, h2.doc r1 r2 r3, owns_kept ho r2 (fun g hg => offx_of (h.d1 g (ht g hg).1)), fun g hg => ⟨h.rng.low g (ht g hg).1, (ht g hg).2, fun e => ?_, h.d2 g (ht g hg).1⟩, fun g hg n1 n2 => ⟨fun e => n1 (hsub g e), fun e => (r3 g e).elim n2 (fun h1 => by omega)⟩, keptTrans (hk.mono (fun g h => off_of h.1)) (r2.mono (fun g h => offx_of h.2))⟩
  · rcases r3 g e with h3 | h3
    · exact h.d1 g (ht g hg).1 h3
    · have h4 := h.rng.lt g (ht g hg).1
      omega
/-- A row beside what was told stays where one is told more. -/
theorem row_beside {w4 w6 : World} {o : Obj} {g q : Nat} {xs ys : List Value} {n : Nat} (hrow : Row w4 g q 5 1 q xs) (hl : Longer (w4.alloc o) w6 27 1 tv tv' n ys) (hT : ¬ OfT tv TL g) : Row w6 g q 5 1 q xs := by
  refine owns_kept (owns_kept_below hrow (below1 w4 o)) ((Kept.refl (fun g => tv.ownBlock ≠ some g) _).grown hl.2.1 (fun k hk _ hF => hF hk)) (fun k hk e => hT (.inl ?_))
  have e2 : g = k := Option.some.inj hk
  rw [e2]; exact e
theorem beside_told {w4 w6 : World} {o : Obj} {g n : Nat} {ys : List Value} (hl : Longer (w4.alloc o) w6 27 1 tv tv' n ys) (hT : ¬ OfT tv TL g) (hg : g < w4.heap.size) (ht : t.sl.ownBlock ≠ some g) : ¬ OfT tv' (TL ++ [t]) g := by
  rintro (h | ⟨s, hs, h⟩)
  · rcases hl.2.2 with h3 | h3
    · exact hT (.inl (h3.symm.trans h))
    · rw [h] at h3
      injection h3 with h3
      rw [World.size_alloc] at h3
      omega
  · rcases List.mem_append.1 hs with hs | hs
    · exact hT (.inr ⟨s, hs, h⟩)
    · simp at hs
      subst hs
      exact ht h
/-- The lent bytes are written over. -/
theorem S15.over {g : Nat} (h : S15 w0 w B b bx x sz L A2 c2 M tv TL) (hk : Kept (fun k => k ≠ g) w w') (hQ : ¬ OfG b bx L g) (hR : ¬ OfX x A2 M g) (hT : ¬ OfT tv TL g) (hB : B ≤ g) : S15 w0 w' B b bx x sz L A2 c2 M tv TL :=
  h.kept hk (fun k hk hc => by
    rintro rfl
    rcases hc with h | h | h | h
    · exact hQ h
    · exact hR h
    · exact hT h
    · omega)
/-- Behind both Puts: block g, which is none of theirs, holds what was lent. -/
def PutFin (w0 : World) (B b bx x sz : Nat) (tv : Value) (TL : List TRow) (g : Nat) (w : World) : Prop :=
  ∃ L A2 c2 M, S15 w0 w B b bx x sz L A2 c2 M tv TL ∧ M.map ARow.bs = L.map RK.bs ∧ ¬ OfG b bx L g ∧ ¬ OfX x A2 M g ∧ ¬ OfT tv TL g ∧ B ≤ g
theorem PutFin.below {g : Nat} (h : PutFin w0 B b bx x sz tv TL g w) (hb : Below w.heap.size w w') : PutFin w0 B b bx x sz tv TL g w' := by
  obtain ⟨L, A2, c2, M, h1, h2⟩ := h
  exact ⟨L, A2, c2, M, h1.later hb, h2⟩
theorem S15.put {g q cS : Nat} {S : Option Addr} {ms : List Value} (h : S15 w0 w B b bx x sz L A2 c2 M tv TL) (same : M.map ARow.bs = L.map RK.bs) (hgQ : ¬ OfG b bx L g) (hgR : ¬ OfX x A2 M g) (hgT : ¬ OfT tv TL g) (hgB : B ≤ g)
    (hrow : Row w g (q + 12) 5 1 (q + 12) (u8s l ++ ms)) (hS : Rd w w0.heap.size 1 S q (u8s l)) (hSn : S = none → q = 0) :
    Calls Tryz.prog 6 #[.pointer (some ⟨b, 0, none⟩), .slice (some ⟨g, 0, none⟩) q (q + 12)] w fun e w2 => e = .returned (.int .i64 (putE sz (sumR L) q)) ∧ Below w0.heap.size w0 w2 ∧
      Calls Tryz.prog 16 #[.pointer (some ⟨x, 0, none⟩), .slice S q cS] w2 fun e w3 => e = .returned (.int .i64 (putE sz (sumR L) q)) ∧ Below w0.heap.size w0 w3 ∧ Row w3 g (q + 12) 5 1 (q + 12) (u8s l ++ ms) ∧ PutFin w0 B b bx x sz tv TL g w3 := by
  have hll : l.length = q := by have := hS.1; simpa [u8s] using this
  have hgl : g < w.heap.size := (World.ownsRow.lt hrow g rfl).2
  have hsum := same_sum h.ref.ns same
  refine (put_all ⟨g, 0, none⟩ q (q + 12) w.heap.size l h.rng (row_rd hrow hll) (Nat.le_refl _)).mono ?_
  rintro e w2 ⟨rfl, hcase⟩
  have hbase := h.base
  have hBl := h.B_le
  rcases hcase with ⟨hne, hb⟩ | ⟨h0, r, hbs, hq, hk, hs⟩
  · have h2 := h.later hb
    refine ⟨rfl, h2.below, (rput_all S q cS w0.heap.size l h2.ref (hS.below (hb.mono (by omega))) (by have := hb.size; omega) hSn).mono ?_⟩
    rintro e w3 ⟨rfl, hcase⟩
    rw [hsum] at hcase ⊢
    rcases hcase with ⟨_, rfl⟩ | ⟨h0, _⟩
    · exact ⟨rfl, h2.below, owns_kept_below hrow hb, L, A2, c2, M, h2, same, hgQ, hgR, hgT, hgB⟩
    · exact absurd h0 hne
  · have h2 := h.prog hk hq hs
    have hkB : Below w0.heap.size w w2 := hk.to_below (fun k hk2 => off_of (fun e => by have := h.rng.low k e; omega)) (by omega)
    have hgQ2 : ¬ OfG b bx (L ++ [r]) g := fun e => (hs g e).elim hgQ (fun h1 => by omega)
    have hrow2 : Row w2 g (q + 12) 5 1 (q + 12) (u8s l ++ ms) := owns_kept hrow hk (fun k hk2 => by
      have e : g = k := Option.some.inj hk2
      subst e
      exact off_of hgQ)
    refine ⟨rfl, h2.below, (rput_all S q cS w0.heap.size l h2.ref (hS.below hkB) (by have := hk.size; omega) hSn).mono ?_⟩
    rintro e w3 ⟨rfl, hcase⟩
    rw [hsum] at hcase ⊢
    rcases hcase with ⟨hne, _⟩ | ⟨_, r2, hbs2, hn2, A3, c3, r1, rk, rs⟩
    · exact absurd h0 hne
    · have h3 := h2.doc r1 rk rs
      have hgl2 : g < w2.heap.size := Nat.lt_of_lt_of_le hgl hk.size
      refine ⟨rfl, h3.below, owns_kept hrow2 rk (fun k hk2 => ?_), L ++ [r], A3, c3, _, h3, by rw [List.map_append, List.map_append, same, List.map_singleton, List.map_singleton, hbs2, hbs], hgQ2, fun e => (rs g e).elim hgR (fun h1 => by omega), hgT, hgB⟩
      have e3 : g = k := Option.some.inj hk2
      subst e3
      exact offx_of hgR
end
end Go.Proofs.YtdbflopfcnkjbaaGreat
