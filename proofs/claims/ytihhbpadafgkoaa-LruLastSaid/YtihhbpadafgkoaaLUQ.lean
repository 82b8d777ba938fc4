/-
  A key keeps its place while there is room: updates of whatever keys, look-ups.
-/
import Derived.Test.YtihhbpadafgkoaaLUE
import Derived.Test.YtihhbpadafgkoaaLUK
import Derived.Test.YtihhbpadafgkoaaLSB
namespace Go.Proofs.Ytihhbpadafgkoaa
open Go.RowKit Go.Maps
set_option linter.unusedVariables false
set_option linter.unusedSimpArgs false

/-- An lru of which at most so many keys are there, among them k at place p. -/
def PS (W : World) (B b mb cb e ks sz N : Nat) (k : List UInt8) (p cnt : Nat) : Prop := ∃ L P, Lru W B b mb cb e ks sz L P ∧ P.length = N ∧ L.length ≤ cnt ∧ ∃ r ∈ L, r.k = k ∧ r.p = p
section
variable {W : World} {B b mb cb e ks sz N p cnt : Nat} {k : List UInt8}
theorem PS.below {W' : World} (h : PS W B b mb cb e ks sz N k p cnt) (hb : Below W.heap.size W W') : PS W' B b mb cb e ks sz N k p cnt := by
  obtain ⟨L, P, h1, h2⟩ := h
  exact ⟨L, P, h1.below hb, h2⟩
theorem PS.more {cnt' : Nat} (h : PS W B b mb cb e ks sz N k p cnt) (hc : cnt ≤ cnt') : PS W B b mb cb e ks sz N k p cnt' := by
  obtain ⟨L, P, h1, h2, h3, h4⟩ := h
  exact ⟨L, P, h1, h2, Nat.le_trans h3 hc, h4⟩
theorem mem_find {L : List LK} {P : List HS} {r : LK} (h : Fits ks L P) (hr : r ∈ L) : ∃ j, findL L r.k = some j ∧ L[j]? = some r := by
  obtain ⟨j, hj⟩ := List.mem_iff_getElem?.1 hr
  exact ⟨j, findL_is h.keys hj rfl, hj⟩
theorem below_len {w w' : World} {L L' : List LK} {P P' : List HS} (h : Lru w B b mb cb e ks sz L P) (hg : LGo B b mb cb e ks sz L P L' P' w w') (hB : B ≤ w.heap.size) : Below B w w' := h.low_ hg hB
def UpdTold (B b mb cb e ks sz N : Nat) (k : List UInt8) (p cnt : Nat) (w : World) (en : Ending) (w' : World) : Prop := ∃ er : Int, en = .returned (.int .i64 er) ∧ PS w' B b mb cb e ks sz N k p cnt ∧ Below B w w'
theorem upd_ps (A S : Option Addr) (n c C q sc D : Nat) (l d : List Int) (w : World) (h : PS w B b mb cb e ks sz N k p cnt) (hc : cnt < N) (hB : B ≤ w.heap.size) (hr : KRow w C A n l) (hd : Rd w D 1 S q (u8s d)) (hD : D ≤ B) (hS : S = none → q = 0) (hSb : ∀ ad, S = some ad → ad.block < B) :
    Calls Try.prog 26 #[.pointer (some ⟨b, 0, none⟩), .slice A n c, .slice S q sc, .int .u64 0] w (UpdTold B b mb cb e ks sz N k p (cnt + 1) w) := by
  obtain ⟨L, P, h1, h2, h3, r, h4, h5, h6⟩ := h
  have hV : ∀ ad, S = some ad → ¬ OfU b mb cb e sz L P ad.block := fun ad e2 ho => by
    have := hSb ad e2
    have := h1.low _ ho
    omega
  by_cases he : lruE ks sz n q P (kb l) 0 = 0
  · obtain ⟨rfl, rfl⟩ : n = ks ∧ q = sz := by
      unfold lruE at he
      by_cases hn : n = ks
      · rw [if_pos hn] at he
        by_cases hq : q = sz ∧ (0 : Int) ≤ 2
        · exact ⟨hn, hq.1⟩
        · rw [if_neg hq] at he; exact absurd he (by decide)
      · rw [if_neg hn] at he; exact absurd he (by decide)
    cases hf : findL L (kb l) with
    | some i =>
      obtain ⟨s, hs, hsk⟩ := findL_some hf
      refine (upd_there B b mb cb e n q i L P s A S c C sc D 0 l d w h1 hr hd (by omega) hV hf hs (by omega) (by omega)).mono ?_
      rintro en w' ⟨rfl, hg⟩
      have hp := erase_perm hs
      refine ⟨0, rfl, ⟨_, _, hg.1, by rw [putB_len]; exact h2, by rw [hp.length_eq]; omega, r, hp.mem_iff.2 h4, h5, h6⟩, below_len h1 hg hB⟩
    | none =>
      refine (upd_new B b mb cb e n q L P A S c C sc D 0 l d w h1 hr hd (by omega) hV hf (by omega) (by omega)).mono ?_
      rintro en w' ⟨rfl, x, pp, s, _, _, hg⟩
      have e1 : roomL L P = L := by unfold roomL; rw [if_neg (by omega)]
      have e2 : roomP L P = P := by unfold roomP; rw [if_neg (by omega)]
      rw [e1, e2] at hg
      exact ⟨0, rfl, ⟨_, _, hg.1, by rw [putB_len, List.length_set]; exact h2, by simp; omega, r, List.mem_append_left _ h4, h5, h6⟩, below_len h1 hg hB⟩
  · refine (upd_no B b mb cb e ks sz L P A S n c C q sc 0 l w h1 hr he).mono ?_
    rintro en w' ⟨h7, hb⟩
    exact ⟨_, h7, ⟨L, P, h1.below hb, h2, by omega, r, h4, h5, h6⟩, hb.mono hB⟩
def LookTold (B b mb cb e ks sz N : Nat) (k : List UInt8) (p cnt : Nat) (w : World) (en : Ending) (w' : World) : Prop := en = .returned (.tuple #[.int .i64 p, .int .i64 0]) ∧ PS w' B b mb cb e ks sz N k p cnt ∧ Below B w w'
theorem look_ps (A : Option Addr) (c C : Nat) (l : List Int) (w : World) (h : PS w B b mb cb e ks sz N (kb l) p cnt) (hB : B ≤ w.heap.size) (hr : KRow w C A ks l) :
    Calls Try.prog 13 #[.pointer (some ⟨b, 0, none⟩), .slice A ks c] w (LookTold B b mb cb e ks sz N (kb l) p cnt w) := by
  obtain ⟨L, P, h1, h2, h3, r, h4, h5, h6⟩ := h
  obtain ⟨j, hf, hj⟩ := mem_find h1.fit h4
  rw [h5] at hf
  have hk := h1.fit.find_some hf hj
  refine (lookup_any B b mb cb e ks sz L P A ks c C l w h1 hr).mono ?_
  rintro en w' ⟨rfl, hg⟩
  have e1 : lookE ks ks P (kb l) = ((p : Int), 0) := by unfold lookE; rw [if_pos rfl, hk, h6]
  have e2 : renL ks ks L (kb l) = L.eraseIdx j ++ [r] := by unfold renL; rw [if_pos rfl, hf]; simp [hj]
  rw [e2] at hg
  have hp := erase_perm hj
  exact ⟨by rw [e1], ⟨_, _, hg.1, h2, by rw [hp.length_eq]; exact h3, r, hp.mem_iff.2 h4, h5, h6⟩, below_len h1 hg hB⟩
def PutTold (B b mb cb e ks sz N : Nat) (k : List UInt8) (p cnt : Nat) (er : Int) (w : World) (en : Ending) (w' : World) : Prop := en = .returned (.int .i64 er) ∧ PS w' B b mb cb e ks sz N k p cnt ∧ Below B w w'
theorem upd_ps2 (A S : Option Addr) (c C sc D : Nat) (l d : List Int) (w : World) (h : PS w B b mb cb e ks sz N (kb l) p cnt) (hB : B ≤ w.heap.size) (hr : KRow w C A ks l) (hd : Rd w D 1 S sz (u8s d)) (hD : D ≤ B) (hSb : ∀ ad, S = some ad → ad.block < B) :
    Calls Try.prog 26 #[.pointer (some ⟨b, 0, none⟩), .slice A ks c, .slice S sz sc, .int .u64 2] w (PutTold B b mb cb e ks sz N (kb l) p cnt 0 w) := by
  obtain ⟨L, P, h1, h2, h3, r, h4, h5, h6⟩ := h
  have hV : ∀ ad, S = some ad → ¬ OfU b mb cb e sz L P ad.block := fun ad e2 ho => by
    have := hSb ad e2
    have := h1.low _ ho
    omega
  obtain ⟨j, hf, hj⟩ := mem_find h1.fit h4
  rw [h5] at hf
  refine (upd_there B b mb cb e ks sz j L P r A S c C sc D 2 l d w h1 hr hd (by omega) hV hf hj (by omega) (by omega)).mono ?_
  rintro en w' ⟨rfl, hg⟩
  have hp := erase_perm hj
  exact ⟨rfl, ⟨_, _, hg.1, by rw [putB_len]; exact h2, by rw [hp.length_eq]; exact h3, r, hp.mem_iff.2 h4, h5, h6⟩, below_len h1 hg hB⟩
theorem upd_ps1 (A S : Option Addr) (c C sc : Nat) (l : List Int) (w : World) (h : PS w B b mb cb e ks sz N (kb l) p cnt) (hB : B ≤ w.heap.size) (hr : KRow w C A ks l) :
    Calls Try.prog 26 #[.pointer (some ⟨b, 0, none⟩), .slice A ks c, .slice S sz sc, .int .u64 1] w (PutTold B b mb cb e ks sz N (kb l) p cnt 7 w) := by
  obtain ⟨L, P, h1, h2, h3, r, h4, h5, h6⟩ := h
  obtain ⟨j, hf, hj⟩ := mem_find h1.fit h4
  rw [h5] at hf
  have hk := h1.fit.find_some hf hj
  have e1 : lruE ks sz ks sz P (kb l) 1 = 7 := by unfold lruE; rw [if_pos rfl, if_pos ⟨rfl, by omega⟩, hk]; rfl
  refine (upd_no B b mb cb e ks sz L P A S ks c C sz sc 1 l w h1 hr (by rw [e1]; decide)).mono ?_
  rintro en w' ⟨h7, hb⟩
  rw [e1] at h7
  exact ⟨h7, ⟨L, P, h1.below hb, h2, h3, r, h4, h5, h6⟩, hb.mono hB⟩
end
/-- The first update of a fresh lru, and the look-up behind it. -/
theorem fits_nil_none {n s sz : Nat} (k : List UInt8) : findL ([] : List LK) k = none := rfl
def FirstTold (B b mb cb e ks sz N : Nat) (k : List UInt8) (w : World) (en : Ending) (w' : World) : Prop := ∃ p, en = .returned (.int .i64 0) ∧ PS w' B b mb cb e ks sz N k p 1 ∧ Below B w w'
theorem upd_first (B b mb cb e ks sz : Nat) (P : List HS) (A S : Option Addr) (c C sc D : Nat) (l d : List Int) (w : World) (h : Lru w B b mb cb e ks sz [] P) (hB : B ≤ w.heap.size) (hr : KRow w C A ks l) (hd : Rd w D 1 S sz (u8s d)) (hD : D ≤ B) (hSb : ∀ ad, S = some ad → ad.block < B) :
    Calls Try.prog 26 #[.pointer (some ⟨b, 0, none⟩), .slice A ks c, .slice S sz sc, .int .u64 1] w (FirstTold B b mb cb e ks sz P.length (kb l) w) := by
  have hV : ∀ ad, S = some ad → ¬ OfU b mb cb e sz [] P ad.block := fun ad e2 ho => by
    have := hSb ad e2
    have := h.low _ ho
    omega
  have hm := h.many.1
  refine (upd_new B b mb cb e ks sz [] P A S c C sc D 1 l d w h hr hd (by omega) hV rfl (by omega) (by omega)).mono ?_
  rintro en w' ⟨rfl, x, pp, s, _, _, hg⟩
  have e1 : roomL [] P = [] := by unfold roomL; rw [if_neg (by simp; omega)]
  have e2 : roomP [] P = P := by unfold roomP; rw [if_neg (by simp; omega)]
  rw [e1, e2] at hg
  exact ⟨pp, rfl, ⟨_, _, hg.1, by rw [putB_len, List.length_set], by simp, ⟨x, kb l, pp⟩, by simp, rfl, rfl⟩, below_len h hg hB⟩
def KeysNone (w : World) (en : Ending) (w' : World) : Prop := ∃ (A : Option Addr) (c : Nat), en = .returned (.slice A 0 c) ∧ Below w.heap.size w w'
theorem keys_none (B b mb cb e ks sz : Nat) (P : List HS) (w : World) (h : Lru w B b mb cb e ks sz [] P) : Calls Try.prog 23 #[.pointer (some ⟨b, 0, none⟩)] w (KeysNone w) := by
  refine (keys_any B b mb cb e ks sz [] P w h).mono ?_
  rintro en w' ⟨v, rs, rfl, hk, hm, hb⟩
  have : rs = [] := by simpa using hm
  subst this
  obtain ⟨A, c, e, _⟩ := owns_slice hk.row
  exact ⟨A, c, by rw [e]; rfl, hb⟩
/-- .. of a fresh lru that the update doesn't suit. -/
theorem look_nil (B b mb cb e ks sz : Nat) (P : List HS) (A : Option Addr) (n c C : Nat) (l : List Int) (w : World) (h : Lru w B b mb cb e ks sz [] P) (hB : B ≤ w.heap.size) (hr : KRow w C A n l) :
    Calls Try.prog 13 #[.pointer (some ⟨b, 0, none⟩), .slice A n c] w fun en w' => en = .returned (.tuple #[.int .i64 0, .int .i64 (if n = ks then 6 else 2)]) ∧ Lru w' B b mb cb e ks sz [] P ∧ Below B w w' := by
  have hf : findK P (kb l) = none := (h.fit.find_none).2 rfl
  refine (lookup_any B b mb cb e ks sz [] P A n c C l w h hr).mono ?_
  rintro en w' ⟨rfl, hg⟩
  have e1 : lookE ks n P (kb l) = (0, if n = ks then 6 else 2) := by
    unfold lookE
    rw [hf]
    split <;> rfl
  have e2 : renL ks n [] (kb l) = [] := by unfold renL; split <;> rfl
  rw [e2] at hg
  exact ⟨by rw [e1], hg.1, below_len h hg hB⟩
theorem upd_bad (B b mb cb e ks sz : Nat) (L : List LK) (P : List HS) (A S : Option Addr) (n c C q sc : Nat) (l : List Int) (fl : Int) (w : World) (h : Lru w B b mb cb e ks sz L P) (hr : KRow w C A n l) (hbad : ¬ (n = ks ∧ q = sz)) :
    Calls Try.prog 26 #[.pointer (some ⟨b, 0, none⟩), .slice A n c, .slice S q sc, .int .u64 fl] w fun en w' => en = .returned (.int .i64 2) ∧ Below w.heap.size w w' := by
  have e1 : lruE ks sz n q P (kb l) fl = 2 := by
    unfold lruE
    by_cases hn : n = ks
    · rw [if_pos hn, if_neg (fun h => hbad ⟨hn, h.1⟩)]
    · rw [if_neg hn]
  have := upd_no B b mb cb e ks sz L P A S n c C q sc fl l w h hr (by rw [e1]; decide)
  rw [e1] at this
  exact this
end Go.Proofs.Ytihhbpadafgkoaa
