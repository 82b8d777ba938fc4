/-
  The queue, the document's, and what was told, side by side; each call, whatever is asked.
-/
import Derived.Test.YtflpifelamkagaaGreatY4
namespace Go.Proofs.YtflpifelamkagaaGreat
open Go.RowKit
set_option linter.unusedVariables false

/-- A row that was told. -/
structure TRow where
  A : Option Addr
  n : Nat
  c : Nat
def TRow.sl (t : TRow) : Value := .slice t.A t.n t.c
def OfT (tv : Value) (TL : List TRow) (g : Nat) : Prop := tv.ownBlock = some g ∨ ∃ t ∈ TL, t.sl.ownBlock = some g
/-- The rows that were told, and their list. -/
structure Told (w : World) (B : Nat) (tv : Value) (TL : List TRow) : Prop where
  lst : w.ownsRow 0 36 1 tv TL.length (TL.map TRow.sl)
  row : ∀ (i : Nat) (t : TRow), TL[i]? = some t → ∃ xs, w.ownsRow 0 5 1 t.sl t.n xs
  small : ∀ t ∈ TL, t.n ≤ 1000000
  low : ∀ g, OfT tv TL g → B ≤ g
  sep : ∀ (i j : Nat) (r s : TRow), TL[i]? = some r → TL[j]? = some s → i ≠ j → ∀ g, r.sl.ownBlock = some g → s.sl.ownBlock ≠ some g
theorem Told.lt {w : World} {B : Nat} {tv : Value} {TL : List TRow} (h : Told w B tv TL) : ∀ g, OfT tv TL g → g < w.heap.size := by
  rintro g (hg | ⟨r, hr, hg⟩)
  · exact (h.lst.lt g hg).2
  · obtain ⟨i, hi⟩ := List.mem_iff_getElem?.1 hr
    obtain ⟨xs, hx⟩ := h.row i r hi
    exact (hx.lt g hg).2
theorem Told.kept {w w' : World} {B : Nat} {tv : Value} {TL : List TRow} {F : Nat → Prop} (h : Told w B tv TL) (hk : Kept F w w') (hF : ∀ g, OfT tv TL g → F g) : Told w' B tv TL :=
  ⟨owns_kept h.lst hk (fun g hg => hF g (.inl hg)), fun i t hi => (h.row i t hi).imp fun xs hx => owns_kept hx hk (fun g hg => hF g (.inr ⟨t, List.mem_of_getElem? hi, hg⟩)), h.small, h.low, h.sep⟩
theorem Told.none (w : World) (B : Nat) : Told w B (.slice none 0 0) [] := ⟨owns_nil _ _ _, nofun, nofun, by rintro g (h | ⟨t, ht, _⟩); (cases h); (cases ht), nofun⟩
/-- All three, apart from each other, in a world that has turned nothing that was there. -/
structure S14 (w0 w : World) (B b x : Nat) (st : Bool) (sz n : Nat) (A : Option Addr) (c : Nat) (L : List QR) (A2 : Option Addr) (c2 : Nat) (M : List QR) (tv : Value) (TL : List TRow) : Prop where
  que : Que w B b st sz n A c L
  ref : RQue w B x st sz n A2 c2 M
  told : Told w B tv TL
  d1 : ∀ g, OfQ b A L g → ¬ OfQ x A2 M g
  d2 : ∀ g, OfQ b A L g → ¬ OfT tv TL g
  d3 : ∀ g, OfQ x A2 M g → ¬ OfT tv TL g
  base : w0.heap.size ≤ B
  below : Below w0.heap.size w0 w
section
variable {w0 w w' : World} {B b x sz n c c2 c' : Nat} {st : Bool} {A A2 A' : Option Addr} {L L' M M' : List QR} {tv tv' : Value} {TL : List TRow}
theorem S14.B_le (h : S14 w0 w B b x st sz n A c L A2 c2 M tv TL) : B ≤ w.heap.size := h.que.B_le
/-- Nothing of theirs has turned. -/
theorem S14.kept {F : Nat → Prop} (h : S14 w0 w B b x st sz n A c L A2 c2 M tv TL) (hk : Kept F w w') (hF : ∀ g, g < w.heap.size → OfQ b A L g ∨ OfQ x A2 M g ∨ OfT tv TL g ∨ g < B → F g) : S14 w0 w' B b x st sz n A c L A2 c2 M tv TL :=
  ⟨h.que.kept hk (fun g hg => hF g (h.que.lt g hg) (.inl hg)), h.ref.kept hk (fun g hg => hF g (h.ref.lt g hg) (.inr (.inl hg))), h.told.kept hk (fun g hg => hF g (h.told.lt g hg) (.inr (.inr (.inl hg)))), h.d1, h.d2, h.d3, h.base,
    h.below.trans (hk.to_below (B := w0.heap.size) (fun g hg => hF g (Nat.lt_of_lt_of_le hg (Nat.le_trans h.base h.B_le)) (.inr (.inr (.inr (Nat.lt_of_lt_of_le hg h.base))))) (Nat.le_trans h.base h.B_le))⟩
theorem S14.later (h : S14 w0 w B b x st sz n A c L A2 c2 M tv TL) (hb : Below w.heap.size w w') : S14 w0 w' B b x st sz n A c L A2 c2 M tv TL := h.kept (F := fun _ => True) (Kept.of_below hb) (fun _ _ _ => trivial)
theorem S14.low {F : Nat → Prop} (h : S14 w0 w B b x st sz n A c L A2 c2 M tv TL) (hk : Kept F w w') (hF : ∀ g, g < B → F g) : Below w0.heap.size w0 w' :=
  h.below.trans (hk.to_below (B := w0.heap.size) (fun g hg => hF g (Nat.lt_of_lt_of_le hg h.base)) (Nat.le_trans h.base h.B_le))
/-- The program's queue has turned. -/
theorem S14.prog (h : S14 w0 w B b x st sz n A c L A2 c2 M tv TL) (hk : Kept (fun g => g ≠ b ∧ (Value.slice A 0 0).ownBlock ≠ some g) w w') (hq : Que w' B b st sz n A' c' L') (hs : ∀ g, OfQ b A' L' g → OfQ b A L g ∨ w.heap.size ≤ g) : S14 w0 w' B b x st sz n A' c' L' A2 c2 M tv TL :=
  ⟨hq, h.ref.kept hk (fun g hg => ⟨fun e => h.d1 g (.inl e) hg, fun e => h.d1 g (.inr (.inl e)) hg⟩), h.told.kept hk (fun g hg => ⟨fun e => h.d2 g (.inl e) hg, fun e => h.d2 g (.inr (.inl e)) hg⟩),
    fun g hg hr => (hs g hg).elim (fun h1 => h.d1 g h1 hr) (fun h1 => by have := h.ref.lt g hr; omega), fun g hg hr => (hs g hg).elim (fun h1 => h.d2 g h1 hr) (fun h1 => by have := h.told.lt g hr; omega), h.d3, h.base,
    h.low hk (fun g hg => ⟨fun e => by have := h.que.low g (.inl e); omega, fun e => by have := h.que.low g (.inr (.inl e)); omega⟩)⟩
/-- The document's queue has turned. -/
theorem S14.doc (h : S14 w0 w B b x st sz n A c L A2 c2 M tv TL) (ht : RTold B x st sz n A2 M M' w w') : ∃ A3 c3, S14 w0 w' B b x st sz n A c L A3 c3 M' tv TL := by
  obtain ⟨A3, c3, hq, hk, hs⟩ := ht
  exact ⟨A3, c3, h.que.kept hk (fun g hg e => h.d1 g hg (.inl e)), hq, h.told.kept hk (fun g hg e => h.d3 g (.inl e) hg),
    fun g hg hr => (hs g hr).elim (fun h1 => h.d1 g hg h1) (fun h1 => by have := h.que.lt g hg; omega), h.d2, fun g hr hg => (hs g hr).elim (fun h1 => h.d3 g h1 hg) (fun h1 => by have := h.told.lt g hg; omega), h.base,
    h.low hk (fun g hg e => by have := h.ref.low g (.inl e); omega)⟩
/-- One row more was told. -/
theorem S14.tell (h : S14 w0 w B b x st sz n A c L A2 c2 M tv TL) {t : TRow} {xs : List Value} (ht : w.ownsRow 0 5 1 t.sl t.n xs) (hn : t.n ≤ 1000000) (hnew : ∀ g, t.sl.ownBlock = some g → B ≤ g ∧ ¬ OfQ b A L g ∧ ¬ OfQ x A2 M g ∧ ¬ OfT tv TL g)
    (hg : Kept (fun g => tv.ownBlock ≠ some g) w w') (hl : w'.ownsRow 0 36 1 tv' (TL.length + 1) (TL.map TRow.sl ++ [t.sl])) (hv : ∀ g, tv'.ownBlock = some g → tv.ownBlock = some g ∨ w.heap.size ≤ g) : S14 w0 w' B b x st sz n A c L A2 c2 M tv' (TL ++ [t]) := by
  have hoff : ∀ (s : TRow) (ys : List Value), w.ownsRow 0 5 1 s.sl s.n ys → ∀ g, s.sl.ownBlock = some g → tv.ownBlock ≠ some g := fun s ys hs g hg' e => by
    rcases owns_ne hs h.told.lst (by decide) with h1 | h1
    · rw [h1] at hg'; cases hg'
    · exact h1 (hg'.trans e.symm)
  have hcase : ∀ (i : Nat) (s : TRow), (TL ++ [t])[i]? = some s → (i < TL.length ∧ TL[i]? = some s) ∨ (i = TL.length ∧ s = t) := fun i s hi => by
    rcases Nat.lt_trichotomy i TL.length with hlt | heq | hgt
    · rw [List.getElem?_append_left hlt] at hi
      exact .inl ⟨hlt, hi⟩
    · subst heq
      simp at hi
      exact .inr ⟨rfl, hi.symm⟩
    · rw [List.getElem?_eq_none (by simp; omega)] at hi
      cases hi
  have hsub : ∀ g, OfT tv' (TL ++ [t]) g → OfT tv TL g ∨ w.heap.size ≤ g ∨ t.sl.ownBlock = some g := by
    rintro g (hg' | ⟨s, hs, hg'⟩)
    · rcases hv g hg' with h1 | h1
      · exact .inl (.inl h1)
      · exact .inr (.inl h1)
    · rcases List.mem_append.1 hs with hs | hs
      · exact .inl (.inr ⟨s, hs, hg'⟩)
      · simp at hs
        subst hs
        exact .inr (.inr hg')
  refine ⟨h.que.kept hg (fun g hgm e => h.d2 g hgm (.inl e)), h.ref.kept hg (fun g hgm e => h.d3 g hgm (.inl e)), ⟨?_, fun i s hi => ?_, fun s hs => ?_, fun g hgt => ?_, fun i j r s hi hj hne g hgr hgs => ?_⟩, h.d1, fun g hgm hgt => ?_, fun g hgm hgt => ?_, h.base, h.low hg (fun g hgb e => by have := h.told.low g (.inl e); omega)⟩
  · rw [List.length_append, List.map_append]
    exact hl
  · rcases hcase i s hi with ⟨_, h2⟩ | ⟨_, rfl⟩
    · obtain ⟨ys, hy⟩ := h.told.row i s h2
      exact ⟨ys, owns_kept hy hg (fun g hgs => hoff s ys hy g hgs)⟩
    · exact ⟨xs, owns_kept ht hg (fun g hgs => hoff s xs ht g hgs)⟩
  · rcases List.mem_append.1 hs with hs | hs
    · exact h.told.small s hs
    · simp at hs
      subst hs
      exact hn
  · rcases hsub g hgt with h1 | h1 | h1
    · exact h.told.low g h1
    · exact Nat.le_trans h.B_le h1
    · exact (hnew g h1).1
  · rcases hcase i r hi with ⟨h1, h2⟩ | ⟨h1, rfl⟩
    · rcases hcase j s hj with ⟨h3, h4⟩ | ⟨h3, rfl⟩
      · exact h.told.sep i j r s h2 h4 hne g hgr hgs
      · exact (hnew g hgs).2.2.2 (.inr ⟨r, List.mem_of_getElem? h2, hgr⟩)
    · rcases hcase j s hj with ⟨h3, h4⟩ | ⟨h3, rfl⟩
      · exact (hnew g hgr).2.2.2 (.inr ⟨s, List.mem_of_getElem? h4, hgs⟩)
      · exact hne (h1.trans h3.symm)
  · rcases hsub g hgt with h1 | h1 | h1
    · exact h.d2 g hgm h1
    · have := h.que.lt g hgm; omega
    · exact (hnew g h1).2.1 hgm
  · rcases hsub g hgt with h1 | h1 | h1
    · exact h.d3 g hgm h1
    · have := h.ref.lt g hgm; omega
    · exact (hnew g h1).2.2.1 hgm
end
/-- What Pop and Peek tell. -/
def popE (L : List QR) : Int := if L.length = 0 then 6 else 0
def popB (st : Bool) (L : List QR) : List Int := match L[atI st L.length]? with
  | some r => r.bs
  | none => []
def popL (st : Bool) (L : List QR) : List QR := L.eraseIdx (atI st L.length)
theorem pop_same {st : Bool} {L M : List QR} (h : M.map QR.bs = L.map QR.bs) : popE M = popE L ∧ popB st M = popB st L ∧ (popL st M).map QR.bs = (popL st L).map QR.bs ∧ M.length = L.length := by
  have hl : M.length = L.length := by have := congrArg List.length h; simpa using this
  have hB : ∀ K : List QR, popB st K = ((K.map QR.bs)[atI st K.length]?).getD [] := fun K => by
    unfold popB
    rw [List.getElem?_map]
    cases K[atI st K.length]? <;> rfl
  refine ⟨by unfold popE; rw [hl], by rw [hB, hB, h, hl], by unfold popL; rw [map_erase, map_erase, h, hl], hl⟩
theorem popB_some {st : Bool} {L : List QR} {r : QR} (h : L[atI st L.length]? = some r) : popB st L = r.bs := by unfold popB; rw [h]
theorem popE_pos {L : List QR} (h : 0 < L.length) : popE L = 0 := by unfold popE; rw [if_neg (by omega)]
section
variable {w w' : World} {B b x sz n c : Nat} {st : Bool} {A : Option Addr} {L M : List QR}
theorem pop_all (h : Que w B b st sz n A c L) : Calls Tryz.prog 11 #[.pointer (some ⟨b, 0, none⟩)] w fun e w' => ∃ t : TRow, e = .returned (.tuple #[t.sl, .int .i64 (popE L)]) ∧ w'.ownsRow 0 5 1 t.sl t.n (u8s (popB st L)) ∧ t.n ≤ 1024 ∧
    (∀ g, t.sl.ownBlock = some g → OfQ b A L g ∧ ¬ OfQ b A (popL st L) g) ∧ Que w' B b st sz n A c (popL st L) ∧ Kept (fun g => g ≠ b ∧ (Value.slice A 0 0).ownBlock ≠ some g) w w' := by
  rcases Nat.eq_zero_or_pos L.length with h0 | h0
  · have hL : L = [] := List.eq_nil_of_length_eq_zero h0
    subst hL
    refine (pop_none h rfl).mono ?_
    rintro e w' ⟨rfl, hb⟩
    have e2 : popB st [] = [] := by cases st <;> rfl
    have e3 : popL st [] = [] := by cases st <;> rfl
    refine ⟨⟨none, 0, 0⟩, rfl, by rw [e2]; exact owns_nil _ _ _, Nat.zero_le _, (fun g hg => by cases hg), by rw [e3]; exact h.below hb, Kept.of_below hb⟩
  · refine (pop_some h h0).mono ?_
    rintro e w' ⟨r, hr, rfl, hq, hk⟩
    have hm := List.mem_of_getElem? hr
    have hlt := (List.getElem?_eq_some_iff.1 hr).1
    have hbig := h.big
    refine ⟨⟨some ⟨r.g, 0, none⟩, sz, r.c⟩, by rw [popE_pos h0]; rfl, ?_, by show sz ≤ 1024; omega, fun g hg => ?_, hq, hk⟩
    · rw [popB_some hr]
      refine owns_kept (h.row r hm) hk (fun g hg => ?_)
      have e : r.g = g := Option.some.inj hg
      subst e
      exact ⟨h.b_r hm, h.out_r hm⟩
    · have e : r.g = g := Option.some.inj hg
      subst e
      refine ⟨.inr (.inr ⟨r, hm, rfl⟩), ?_⟩
      rintro (h1 | h1 | ⟨s, hs, h1⟩)
      · exact h.b_r hm h1
      · exact h.out_r hm h1
      · have h2 : s.g ∈ (L.map QR.g).eraseIdx (atI st L.length) := by rw [← map_erase]; exact List.mem_map.2 ⟨s, hs, rfl⟩
        obtain ⟨j, hj⟩ := List.mem_iff_getElem?.1 h2
        rw [List.getElem?_eraseIdx] at hj
        have hir : (L.map QR.g)[atI st L.length]? = some r.g := by rw [List.getElem?_map, hr]; rfl
        rw [h1] at hj
        split at hj
        · rename_i hlt2
          have := (List.getElem?_inj (l := L.map QR.g) (by rw [List.length_map]; omega) h.sep).1 (hj.trans hir.symm)
          omega
        · rename_i hlt2
          have hjl := (List.getElem?_eq_some_iff.1 hj).1
          have := (List.getElem?_inj (l := L.map QR.g) hjl h.sep).1 (hj.trans hir.symm)
          omega
theorem peek_all (h : Que w B b st sz n A c L) : Calls Tryz.prog 14 #[.pointer (some ⟨b, 0, none⟩)] w fun e w' => ∃ t : TRow, e = .returned (.tuple #[t.sl, .int .i64 (popE L)]) ∧ w'.ownsRow 0 5 1 t.sl t.n (u8s (popB st L)) ∧ t.n ≤ 1024 ∧ (∀ g, t.sl.ownBlock = some g → w.heap.size ≤ g) ∧ Below w.heap.size w w' := by
  rcases Nat.eq_zero_or_pos L.length with h0 | h0
  · have hL : L = [] := List.eq_nil_of_length_eq_zero h0
    subst hL
    refine (peek_none h rfl).mono ?_
    rintro e w' ⟨rfl, hb⟩
    have e2 : popB st [] = [] := by cases st <;> rfl
    exact ⟨⟨none, 0, 0⟩, rfl, by rw [e2]; exact owns_nil _ _ _, Nat.zero_le _, (fun g hg => by cases hg), hb⟩
  · refine (peek_some h h0).mono ?_
    rintro e w' ⟨r, g, cg, hr, rfl, ho, hg, hb⟩
    have hbig := h.big
    exact ⟨⟨some ⟨g, 0, none⟩, sz, cg⟩, by rw [popE_pos h0]; rfl, by rw [popB_some hr]; exact ho, by show sz ≤ 1024; omega, (fun k hk => by rw [← (Option.some.inj hk : g = k)]; exact hg), hb⟩
theorem RTold.same (h : RQue w B x st sz n A c M) : RTold B x st sz n A M M w w := ⟨A, c, h, Kept.refl _ _, fun g hg => .inl hg⟩
theorem rpop_all (h : RQue w B x st sz n A c M) : Calls Tryz.prog 12 #[.pointer (some ⟨x, 0, none⟩)] w fun e w' => ∃ t : TRow, e = .returned (.tuple #[t.sl, .int .i64 (popE M)]) ∧ w'.ownsRow 0 5 1 t.sl t.n (u8s (popB st M)) ∧ RTold B x st sz n A M (popL st M) w w' := by
  rcases Nat.eq_zero_or_pos M.length with h0 | h0
  · have hL : M = [] := List.eq_nil_of_length_eq_zero h0
    subst hL
    refine (rpop_none h rfl).mono ?_
    rintro e w' ⟨rfl, rfl⟩
    have e2 : popB st [] = [] := by cases st <;> rfl
    have e3 : popL st [] = [] := by cases st <;> rfl
    exact ⟨⟨none, 0, 0⟩, rfl, by rw [e2]; exact owns_nil _ _ _, by rw [e3]; exact RTold.same h⟩
  · refine (rpop_some h h0).mono ?_
    rintro e w' ⟨r, g, cg, hr, rfl, ho, hg, ht⟩
    exact ⟨⟨some ⟨g, 0, none⟩, sz, cg⟩, by rw [popE_pos h0]; rfl, by rw [popB_some hr]; exact ho, ht⟩
theorem rpeek_all (h : RQue w B x st sz n A c M) : Calls Tryz.prog 15 #[.pointer (some ⟨x, 0, none⟩)] w fun e w' => ∃ t : TRow, e = .returned (.tuple #[t.sl, .int .i64 (popE M)]) ∧ w'.ownsRow 0 5 1 t.sl t.n (u8s (popB st M)) ∧ Below w.heap.size w w' := by
  rcases Nat.eq_zero_or_pos M.length with h0 | h0
  · have hL : M = [] := List.eq_nil_of_length_eq_zero h0
    subst hL
    refine (rpeek_none h rfl).mono ?_
    rintro e w' ⟨rfl, rfl⟩
    have e2 : popB st [] = [] := by cases st <;> rfl
    exact ⟨⟨none, 0, 0⟩, rfl, by rw [e2]; exact owns_nil _ _ _, Below.refl _ _⟩
  · refine (rpeek_some h h0).mono ?_
    rintro e w' ⟨r, g, cg, hr, rfl, ho, hg, hb⟩
    exact ⟨⟨some ⟨g, 0, none⟩, sz, cg⟩, by rw [popE_pos h0]; rfl, by rw [popB_some hr]; exact ho, hb⟩
/-- What Push tells. -/
def pushE (sz n q m : Nat) (fl : Int) : Int := if m ≠ sz ∨ (fl ≠ 0 ∧ fl ≠ 2) then 2 else if q = n ∧ fl = 0 then 8 else 0
def pushK (n q : Nat) : Nat := if q = n then 1 else 0
theorem push_all (S : Option Addr) (m sc C : Nat) (l : List Int) (fl : Int) (h : Que w B b st sz n A c L) (hr : Rd w C 1 S m (u8s l)) (hC : C ≤ w.heap.size) (hCq : ∀ ad, S = some ad → ¬ OfQ b A L ad.block) : Calls Tryz.prog 16 #[.pointer (some ⟨b, 0, none⟩), .slice S m sc, .int .u64 fl] w fun e w' =>
    e = .returned (.int .i64 (pushE sz n L.length m fl)) ∧ ((pushE sz n L.length m fl ≠ 0 ∧ Below w.heap.size w w') ∨ (pushE sz n L.length m fl = 0 ∧ ∃ A' c' r, r.bs = l ∧ Que w' B b st sz n A' c' (L.drop (pushK n L.length) ++ [r]) ∧ Kept (fun g => g ≠ b ∧ (Value.slice A 0 0).ownBlock ≠ some g) w w' ∧ ∀ g, OfQ b A' (L.drop (pushK n L.length) ++ [r]) g → OfQ b A L g ∨ w.heap.size ≤ g)) := by
  have hbig := h.big
  have hmany := h.many
  by_cases hm : m = sz
  · subst hm
    by_cases hf : fl ≠ 0 ∧ fl ≠ 2
    · have e : pushE m n L.length m fl = 2 := by unfold pushE; rw [if_pos (.inr hf)]
      rw [e]
      exact (push_flag S sc fl h hf.1 hf.2).mono fun e w' ⟨h1, h2⟩ => ⟨h1, .inl ⟨by decide, h2 ▸ Below.refl _ _⟩⟩
    · have hf2 : fl = 0 ∨ fl = 2 := by omega
      obtain ⟨ad, rfl, _, _⟩ := hr.2 (by omega)
      by_cases hn : L.length = n
      · rcases hf2 with rfl | rfl
        · have e : pushE m n L.length m 0 = 8 := by unfold pushE; rw [if_neg (by omega), if_pos ⟨hn, rfl⟩]
          rw [e]
          exact (push_full (some ad) sc h hn).mono fun e w' ⟨h1, h2⟩ => ⟨h1, .inl ⟨by decide, h2⟩⟩
        · have e : pushE m n L.length m 2 = 0 := by unfold pushE; rw [if_neg (by omega), if_neg (by omega)]
          have ek : pushK n L.length = 1 := by unfold pushK; rw [if_pos hn]
          rw [e, ek]
          exact (push_over ad sc C l h hn hr hC (fun g hg e => hCq ad rfl (by rw [e]; exact hg))).mono fun e w' ⟨h1, h2⟩ => ⟨h1, .inr ⟨rfl, h2⟩⟩
      · have e : pushE m n L.length m fl = 0 := by unfold pushE; rw [if_neg (by omega), if_neg (by omega)]
        have ek : pushK n L.length = 0 := by unfold pushK; rw [if_neg hn]
        rw [e, ek]
        exact (push_room ad sc C l fl h (by omega) hr hC hf2).mono fun e w' ⟨h1, h2⟩ => ⟨h1, .inr ⟨rfl, h2⟩⟩
  · have e : pushE sz n L.length m fl = 2 := by unfold pushE; rw [if_pos (.inl hm)]
    rw [e]
    exact (push_len S m sc fl h hm).mono fun e w' ⟨h1, h2⟩ => ⟨h1, .inl ⟨by decide, h2 ▸ Below.refl _ _⟩⟩
theorem rpush_all (S : Option Addr) (m sc C : Nat) (l : List Int) (fl : Int) (h : RQue w B x st sz n A c M) (hr : Rd w C 1 S m (u8s l)) (hC : C ≤ w.heap.size) (hCx : ∀ ad, 0 < m → S = some ad → ad.block ≠ x) : Calls Tryz.prog 17 #[.pointer (some ⟨x, 0, none⟩), .slice S m sc, .int .u64 fl] w fun e w' =>
    e = .returned (.int .i64 (pushE sz n M.length m fl)) ∧ ((pushE sz n M.length m fl ≠ 0 ∧ Below w.heap.size w w') ∨ (pushE sz n M.length m fl = 0 ∧ ∃ r, r.bs = l ∧ RTold B x st sz n A M (M.drop (pushK n M.length) ++ [r]) w w')) := by
  have hbig := h.big
  have hmany := h.many
  by_cases hm : m = sz
  · subst hm
    by_cases hf : fl ≠ 0 ∧ fl ≠ 2
    · have e : pushE m n M.length m fl = 2 := by unfold pushE; rw [if_pos (.inr hf)]
      rw [e]
      exact (rpush_flag S sc fl h hf.1 hf.2).mono fun e w' ⟨h1, h2⟩ => ⟨h1, .inl ⟨by decide, h2 ▸ Below.refl _ _⟩⟩
    · have hf2 : fl = 0 ∨ fl = 2 := by omega
      by_cases hn : M.length = n
      · rcases hf2 with rfl | rfl
        · have e : pushE m n M.length m 0 = 8 := by unfold pushE; rw [if_neg (by omega), if_pos ⟨hn, rfl⟩]
          rw [e]
          exact (rpush_full S sc h hn).mono fun e w' ⟨h1, h2⟩ => ⟨h1, .inl ⟨by decide, h2⟩⟩
        · have e : pushE m n M.length m 2 = 0 := by unfold pushE; rw [if_neg (by omega), if_neg (by omega)]
          have ek : pushK n M.length = 1 := by unfold pushK; rw [if_pos hn]
          rw [e, ek]
          exact (rpush_over S sc C l h hn hr hC (fun ad => hCx ad (by omega))).mono fun e w' ⟨h1, h2⟩ => ⟨h1, .inr ⟨rfl, h2⟩⟩
      · have e : pushE m n M.length m fl = 0 := by unfold pushE; rw [if_neg (by omega), if_neg (by omega)]
        have ek : pushK n M.length = 0 := by unfold pushK; rw [if_neg hn]
        rw [e, ek]
        exact (rpush_room S sc C l fl h (by omega) hr hC hf2).mono fun e w' ⟨h1, h2⟩ => ⟨h1, .inr ⟨rfl, h2⟩⟩
  · have e : pushE sz n M.length m fl = 2 := by unfold pushE; rw [if_pos (.inl hm)]
    rw [e]
    exact (rpush_len S m sc fl h hm).mono fun e w' ⟨h1, h2⟩ => ⟨h1, .inl ⟨by decide, h2 ▸ Below.refl _ _⟩⟩
theorem push_same {k : Nat} {r s : QR} (h : M.map QR.bs = L.map QR.bs) (hrs : r.bs = s.bs) : (M.drop k ++ [r]).map QR.bs = (L.drop k ++ [s]).map QR.bs := by
  rw [List.map_append, List.map_append, List.map_drop, List.map_drop, h, List.map_singleton, List.map_singleton, hrs]
end
end Go.Proofs.YtflpifelamkagaaGreat
