/-
  What is written, what is stored.
-/
import Derived.Test.YtkpoilcbdcddcaaST1
import Derived.Deep.RegionWith
namespace Go.Proofs.Ytkpoilcbdcddcaa
open Go.RowKit
set_option linter.unusedVariables false
set_option linter.unusedSimpArgs false

def setsFrom : List Value → Nat → List Value → List Value
  | cs, _, [] => cs
  | cs, i, v :: r => setsFrom (cs.set i v) (i + 1) r
theorem setsFrom_length (vs cs : List Value) (i : Nat) : (setsFrom cs i vs).length = cs.length := by
  induction vs generalizing cs i with
  | nil => rfl
  | cons v r ih => rw [setsFrom, ih, List.length_set]
theorem setsFrom_at (vs cs : List Value) (i j : Nat) (h : i + vs.length ≤ cs.length) : (setsFrom cs i vs)[j]? = if i ≤ j ∧ j < i + vs.length then vs[j - i]? else cs[j]? := by
  induction vs generalizing cs i with
  | nil => rw [if_neg (by simp only [List.length_nil]; omega)]; rfl
  | cons v r ih =>
    simp only [List.length_cons] at h
    rw [setsFrom, ih _ _ (by rw [List.length_set]; omega)]
    simp only [List.length_cons]
    by_cases h1 : i + 1 ≤ j ∧ j < i + 1 + r.length
    · rw [if_pos h1, if_pos (by omega), show j - i = (j - (i + 1)) + 1 by omega, List.getElem?_cons_succ]
    · rw [if_neg h1]
      by_cases h2 : j = i
      · subst h2
        rw [if_pos (by omega), List.getElem?_set_self (by omega), Nat.sub_self]
        rfl
      · rw [if_neg (by omega), List.getElem?_set_ne (fun e => h2 e.symm)]
/-- The cells of a group that holds a cell whole. -/
def gcs (c : C4) : List Value := c.cs ++ [.int .u8 0, .int .u8 0, .int .u8 0, .int .u8 0, .int .u8 0, .int .u8 0, .int .u8 0, .int .u8 0, .int .u8 0]
theorem hold_psl {cs : List Value} {b g : Nat} {A : AS} (h : PSL cs b A) (hg : g < 64) (c : C4) : PSL (setsFrom cs (1 + 13 * g) (gcs c)) b (A.hold g c) := by
  have hl := h.len
  have hat := fun j => setsFrom_at (gcs c) cs (1 + 13 * g) j (by rw [hl]; show 1 + 13 * g + 13 ≤ 833; omega)
  have h13 : (gcs c).length = 13 := rfl
  rw [h13] at hat
  refine ⟨by rw [setsFrom_length, hl], by rw [hat, if_neg (by omega)]; exact h.self, fun g' hg' => ?_⟩
  have hgg := h.grp g' hg'
  by_cases e : g' = g
  · subst e
    have hw : (A.hold g' c).wh g' = c := by simp [AS.hold]
    have hin : ∀ j, j < 13 → (setsFrom cs (1 + 13 * g') (gcs c))[1 + 13 * g' + j]? = (gcs c)[j]? := fun j hj => by
      rw [hat, if_pos (by omega), show 1 + 13 * g' + j - (1 + 13 * g') = j by omega]
    refine ⟨by rw [hw]; exact hin 0 (by omega), by rw [hw]; exact hin 1 (by omega), by rw [hw]; exact hin 2 (by omega), by rw [hw]; exact hin 3 (by omega), ⟨0, by omega, hin 4 (by omega), fun i hi => ?_⟩, fun i hi => ⟨0, ?_, fun x hx => ?_⟩⟩
    · have : (A.hold g' c).pl (8 * g' + i) = .none := by simp only [AS.hold]; rw [if_pos (by omega)]
      rw [this]; simp
    · have h2 := hin (5 + i) (by omega)
      rw [show 1 + 13 * g' + (5 + i) = 1 + 13 * g' + 5 + i by omega] at h2
      rw [h2]
      have hi' : i = 0 ∨ i = 1 ∨ i = 2 ∨ i = 3 ∨ i = 4 ∨ i = 5 ∨ i = 6 ∨ i = 7 := by omega
      rcases hi' with rfl | rfl | rfl | rfl | rfl | rfl | rfl | rfl <;> rfl
    · have : (A.hold g' c).pl (8 * g' + i) = .none := by simp only [AS.hold]; rw [if_pos (by omega)]
      rw [this] at hx; cases hx
  · have hw : (A.hold g c).wh g' = A.wh g' := by simp [AS.hold, e]
    have hpl : ∀ i, i < 8 → (A.hold g c).pl (8 * g' + i) = A.pl (8 * g' + i) := fun i hi => by simp only [AS.hold]; rw [if_neg (by omega)]
    have ho : ∀ j, j < 13 → (setsFrom cs (1 + 13 * g) (gcs c))[1 + 13 * g' + j]? = cs[1 + 13 * g' + j]? := fun j hj => by rw [hat, if_neg (by omega)]
    refine ⟨by rw [hw]; exact (ho 0 (by omega)).trans hgg.k, by rw [hw]; exact (ho 1 (by omega)).trans hgg.wd, by rw [hw]; exact (ho 2 (by omega)).trans hgg.rg, by rw [hw]; exact (ho 3 (by omega)).trans hgg.of, ?_, fun i hi => ?_⟩
    · obtain ⟨s', h1, h2, h3⟩ := hgg.set
      exact ⟨s', h1, (ho 4 (by omega)).trans h2, fun i hi => by rw [hpl i hi]; exact h3 i hi⟩
    · obtain ⟨z, h1, h2⟩ := hgg.byte i hi
      exact ⟨z, by rw [show 1 + 13 * g' + 5 + i = 1 + 13 * g' + (5 + i) by omega, ho (5 + i) (by omega), ← h1]; exact congrArg (cs[·]?) (by omega), fun u hu => h2 u (by rw [← hpl i hi]; exact hu)⟩
theorem put_group {w : World} {b g : Nat} {cs : List Value} (h : w.heap[b]? = some (.cells cs.toArray 58 (0, 0))) (c : C4) :
    (((((((((((((w.setCell ⟨b, 1 + 13 * g, none⟩ (.int .u8 c.k)).setCell ⟨b, 1 + 13 * g + 1, none⟩ (.int .u64 c.wd)).setCell ⟨b, 1 + 13 * g + 2, none⟩ (.int .i64 c.rg)).setCell ⟨b, 1 + 13 * g + 3, none⟩ (.int .i64 c.of)).setCell ⟨b, 1 + 13 * g + 4, none⟩ (.int .u8 0)).setCell ⟨b, 1 + 13 * g + 5, none⟩ (.int .u8 0)).setCell ⟨b, 1 + 13 * g + 6, none⟩ (.int .u8 0)).setCell ⟨b, 1 + 13 * g + 7, none⟩ (.int .u8 0)).setCell ⟨b, 1 + 13 * g + 8, none⟩ (.int .u8 0)).setCell ⟨b, 1 + 13 * g + 9, none⟩ (.int .u8 0)).setCell ⟨b, 1 + 13 * g + 10, none⟩ (.int .u8 0)).setCell ⟨b, 1 + 13 * g + 11, none⟩ (.int .u8 0)).setCell ⟨b, 1 + 13 * g + 12, none⟩ (.int .u8 0)).heap[b]? = some (.cells (setsFrom cs (1 + 13 * g) (gcs c)).toArray 58 (0, 0)) ∧ Turn b w (((((((((((((w.setCell ⟨b, 1 + 13 * g, none⟩ (.int .u8 c.k)).setCell ⟨b, 1 + 13 * g + 1, none⟩ (.int .u64 c.wd)).setCell ⟨b, 1 + 13 * g + 2, none⟩ (.int .i64 c.rg)).setCell ⟨b, 1 + 13 * g + 3, none⟩ (.int .i64 c.of)).setCell ⟨b, 1 + 13 * g + 4, none⟩ (.int .u8 0)).setCell ⟨b, 1 + 13 * g + 5, none⟩ (.int .u8 0)).setCell ⟨b, 1 + 13 * g + 6, none⟩ (.int .u8 0)).setCell ⟨b, 1 + 13 * g + 7, none⟩ (.int .u8 0)).setCell ⟨b, 1 + 13 * g + 8, none⟩ (.int .u8 0)).setCell ⟨b, 1 + 13 * g + 9, none⟩ (.int .u8 0)).setCell ⟨b, 1 + 13 * g + 10, none⟩ (.int .u8 0)).setCell ⟨b, 1 + 13 * g + 11, none⟩ (.int .u8 0)).setCell ⟨b, 1 + 13 * g + 12, none⟩ (.int .u8 0)) := by
  refine ⟨?_, ?_⟩
  · exact (put_cell (put_cell (put_cell (put_cell (put_cell (put_cell (put_cell (put_cell (put_cell (put_cell (put_cell (put_cell (put_cell h (1 + 13 * g) (.int .u8 c.k)) (1 + 13 * g + 1) (.int .u64 c.wd)) (1 + 13 * g + 2) (.int .i64 c.rg)) (1 + 13 * g + 3) (.int .i64 c.of)) (1 + 13 * g + 4) (.int .u8 0)) (1 + 13 * g + 5) (.int .u8 0)) (1 + 13 * g + 6) (.int .u8 0)) (1 + 13 * g + 7) (.int .u8 0)) (1 + 13 * g + 8) (.int .u8 0)) (1 + 13 * g + 9) (.int .u8 0)) (1 + 13 * g + 10) (.int .u8 0)) (1 + 13 * g + 11) (.int .u8 0)) (1 + 13 * g + 12) (.int .u8 0))
  · exact ((((((((((((((Turn.refl b w).trans (Turn.set _ b (1 + 13 * g) (.int .u8 c.k))).trans (Turn.set _ b (1 + 13 * g + 1) (.int .u64 c.wd))).trans (Turn.set _ b (1 + 13 * g + 2) (.int .i64 c.rg))).trans (Turn.set _ b (1 + 13 * g + 3) (.int .i64 c.of))).trans (Turn.set _ b (1 + 13 * g + 4) (.int .u8 0))).trans (Turn.set _ b (1 + 13 * g + 5) (.int .u8 0))).trans (Turn.set _ b (1 + 13 * g + 6) (.int .u8 0))).trans (Turn.set _ b (1 + 13 * g + 7) (.int .u8 0))).trans (Turn.set _ b (1 + 13 * g + 8) (.int .u8 0))).trans (Turn.set _ b (1 + 13 * g + 9) (.int .u8 0))).trans (Turn.set _ b (1 + 13 * g + 10) (.int .u8 0))).trans (Turn.set _ b (1 + 13 * g + 11) (.int .u8 0))).trans (Turn.set _ b (1 + 13 * g + 12) (.int .u8 0)))
set_option maxRecDepth 100000 in
set_option maxHeartbeats 2000000 in
theorem write_any (b : Nat) (A : AS) (off : Int) (S : Option Addr) (q sc : Nat) (l : List Int) (w : World) (h : PS w b A) (hs : Src w b S q l) (hc : q ≤ sc) (ho : off ≤ 9223372036854775807) :
    Calls Try.prog 19 #[.pointer (some ⟨b, 0, none⟩), .int .i64 off, .slice S q sc] w fun e w' => e = .returned (.int .i64 (writeM A off l).1) ∧ PS w' b (writeM A off l).2 ∧ Turn b w w' := by
  have HM := hide (made_yes b A w h)
  have HPl := hide (placed_any off q w ho)
  have hl := hs.1
  by_cases h1 : 512 < q
  · rw [show writeM A off l = (2, A) by simp [writeM, hl, h1]]
    have H := hide h
    have hd : decide (512 < (q : Int)) = true := decide_eq_true (by omega)
    clear h hs
    go_enter Try.func19, Try.ntmps19
    go_wp2_with (go_at_call 25; refine (HM.out).mono ?_; rintro e w1 ⟨rfl, rfl⟩)
    go_ret
    exact ⟨rfl, H.out, Turn.refl _ _⟩
  have hd : decide (512 < (q : Int)) = false := decide_eq_false (by omega)
  by_cases h3 : placedB off q = false
  · rw [show writeM A off l = (32, A) by simp [writeM, hl, h1, h3]]
    rw [h3] at HPl
    have H := hide h
    clear h hs
    go_enter Try.func19, Try.ntmps19
    go_wp2_with (first
      | (go_at_call 25; refine (HM.out).mono ?_; rintro e w1 ⟨rfl, rfl⟩)
      | (go_at_call 27; refine (HPl.out).mono ?_; rintro e w1 ⟨rfl, rfl⟩))
    go_ret
    exact ⟨rfl, H.out, Turn.refl _ _⟩
  have h3' : placedB off q = true := by simpa using h3
  obtain ⟨h4, h5⟩ := placed_of h3'
  obtain ⟨o, rfl⟩ : ∃ o : Nat, off = o := ⟨off.toNat, by omega⟩
  rw [show writeM A o l = (0, A.put o l) by simp [writeM, hl, h1, h3']]
  rw [h3'] at HPl
  have HSet := hide (set_any b o q sc A S l w h hs hc (by omega))
  clear h hs h3 h3'
  go_enter Try.func19, Try.ntmps19
  go_wp2_with (first
    | (go_at_call 25; refine (HM.out).mono ?_; rintro e w1 ⟨rfl, rfl⟩)
    | (go_at_call 27; refine (HPl.out).mono ?_; rintro e w1 ⟨rfl, rfl⟩)
    | (go_at_call 37; refine (HSet.out).mono ?_; rintro e w1 ⟨rfl, hp, ht⟩; have HP2 := hide hp; have HT2 := hide ht; clear hp ht))
  go_ret
  exact ⟨rfl, HP2.out, HT2.out⟩
theorem write_not (p : Option Addr) (off : Int) (S : Option Addr) (q sc : Nat) (w : World) (h : ∀ W, Below w.heap.size w W → Calls Try.prog 25 #[.pointer p] W fun e w' => e = .returned (.bool false) ∧ W = w') :
    Calls Try.prog 19 #[.pointer p, .int .i64 off, .slice S q sc] w fun e w' => e = .returned (.int .i64 1) ∧ Below w.heap.size w w' := by
  have HM := hide (h w (Below.refl _ _))
  clear h
  go_enter Try.func19, Try.ntmps19
  go_wp2_with (go_at_call 25; refine (HM.out).mono ?_; rintro e w1 ⟨rfl, rfl⟩)
  go_ret
  exact ⟨rfl, Below.refl _ _⟩
end Go.Proofs.Ytkpoilcbdcddcaa
