/-
  Deeds that touch no byte of what is stored leave it: CellBack's model; whether deeds are few.
-/
import Derived.Test.YtkpoilcbdcddcaaK2
import Derived.Test.YtkpoilcbdcddcaaOP2
namespace Go.Proofs.Ytkpoilcbdcddcaa
open Go.RowKit
set_option linter.unusedVariables false
set_option linter.unusedSimpArgs false

/-- Of the first j deeds none has many bytes. -/
def Small (ds : List ADeed) (j : Nat) : Prop := ∀ (i : Nat) (d : ADeed), i < j → ds[i]? = some d → d.b.n ≤ 600
set_option maxRecDepth 100000 in
set_option maxHeartbeats 1000000 in
theorem light_any (A : Option Addr) (m c B : Nat) (ds : List ADeed) (w : World) (h : ADeeds w B A m ds) (hm : m ≤ 140737488351232) :
    Calls Try.prog 9 #[.slice A m c] w fun e w' => ∃ g : Bool, e = .returned (.bool g) ∧ w = w' ∧ (g = true → m ≤ 60 ∧ ∀ d ∈ ds, d.b.n ≤ 600) := by
  have HH := hide h
  clear h
  go_enter Try.func9, Try.ntmps9
  go_wp2
  go_loopw [3] (fun a wr => ∃ j : Nat, j ≤ m ∧ j ≤ 61 ∧ a = .int .i64 j ∧ wr = w ∧ Small ds j) (fun a _ => 61 - (intOf a).toNat)
  case atStart => exact ⟨0, Nat.zero_le _, by omega, rfl, rfl, fun i d hi => by omega⟩
  case round =>
    obtain ⟨j, hj, hj6, rfl, rfl, hs⟩ := hrel
    have HS := hide hs
    clear hs
    by_cases hjm : j < m
    · have e1 : decide ((j : Int) < (m : Int)) = true := decide_eq_true (by omega)
      by_cases hj61 : j < 61
      · have e2 : decide ((j : Int) < 61) = true := decide_eq_true (by omega)
        obtain ⟨ad, d, rfl, hd, _, hc⟩ := HH.out.cell hjm
        have c7 := hc 7 _ rfl
        rw [add_parts ad _ 7 (by decide)] at c7
        have HD := hide hd
        clear hd hc
        by_cases h6 : 600 < d.b.n
        · have e3 : decide (600 < (d.b.n : Int)) = true := decide_eq_true (by omega)
          go_wp2
          go_ret
          exact ⟨false, rfl, rfl, fun h => by cases h⟩
        · have e3 : decide (600 < (d.b.n : Int)) = false := decide_eq_false (by omega)
          go_wp2
          go_roundw
          case rel =>
            refine ⟨j + 1, by omega, by omega, by go_num, trivial, fun i e hi he => ?_⟩
            by_cases hij : i = j
            · subst hij
              rw [HD.out] at he
              cases he
              omega
            · exact HS.out i e (by omega) he
          case measure => simp [intOf]; omega
      · have e2 : decide ((j : Int) < 61) = false := decide_eq_false (by omega)
        have e3 : decide ((m : Int) ≤ 60) = false := decide_eq_false (by omega)
        go_wp2
        go_ret
        exact ⟨false, rfl, rfl, fun h => by cases h⟩
    · have e1 : decide ((j : Int) < (m : Int)) = false := decide_eq_false (by omega)
      go_wp2
      go_ret
      refine ⟨_, rfl, rfl, fun h => ?_⟩
      have h60 : m ≤ 60 := by
        have := of_decide_eq_true h
        omega
      refine ⟨h60, fun d hd => ?_⟩
      obtain ⟨i, hi⟩ := List.mem_iff_getElem?.1 hd
      have hlt := (List.getElem?_eq_some_iff.1 hi).1
      have hlen := HH.out.len
      exact HS.out i d (by omega) hi
/-- What must stay of a cell that was stored. -/
def Stood (A : AS) (o q : Nat) (c : C4) : Prop := if c.k = 1 then ∀ i, i < q → A.pl (o + i) = (bytesM q c.wd)[i]? else A.wh (o / 8) = c
/-- How a store that is OK comes about. -/
theorem store_ok {A : AS} {off n : Int} {c : C4} (h : (storeM A off n c).1 = 0) : sizedB n = true ∧ rightB c = true ∧ placedB off n = true ∧ c.k ≠ 0 ∧ ((wholeB c = true ∧ groupedB off n = true ∧ (storeM A off n c).2 = A.hold (off.toNat / 8) c) ∨ (wholeB c = false ∧ (storeM A off n c).2 = A.put off.toNat (bytesM n.toNat c.wd))) := by
  unfold storeM at h ⊢
  cases h1 : sizedB n <;> cases h2 : rightB c <;> simp only [h1, h2, Bool.not_true, Bool.not_false, Bool.or_true, Bool.or_false, Bool.true_or, if_true, Bool.false_eq_true, if_false] at h ⊢
  · cases h
  · cases h
  · cases h
  cases h3 : placedB off n
  · simp only [h3, Bool.not_false, if_true] at h; cases h
  simp only [h3, Bool.not_true, Bool.false_eq_true, if_false] at h ⊢
  by_cases h4 : c.k = 0
  · rw [if_pos h4] at h; cases h
  rw [if_neg h4] at h ⊢
  cases h5 : wholeB c <;> cases h6 : groupedB off n <;> simp only [h5, h6, Bool.and_false, Bool.and_true, Bool.not_true, Bool.not_false, Bool.false_eq_true, if_false, if_true] at h ⊢
  · exact ⟨trivial, trivial, trivial, h4, .inr ⟨trivial, trivial⟩⟩
  · exact ⟨trivial, trivial, trivial, h4, .inr ⟨trivial, trivial⟩⟩
  · cases h
  · exact ⟨trivial, trivial, trivial, h4, .inl ⟨trivial, trivial, trivial⟩⟩
theorem store_bad {A : AS} {off n : Int} {c : C4} (h : (storeM A off n c).1 ≠ 0) : (storeM A off n c).2 = A := by
  unfold storeM at h ⊢
  split
  · rfl
  · split
    · rfl
    · split
      · rfl
      · split
        · rfl
        · split
          · rename_i h1 h2 h3 h4 h5
            exact absurd (by rw [if_neg h1, if_neg h2, if_neg h3, if_neg h4, if_pos h5]) h
          · rename_i h1 h2 h3 h4 h5
            exact absurd (by rw [if_neg h1, if_neg h2, if_neg h3, if_neg h4, if_neg h5]) h
theorem sized_pos {n : Int} (h : sizedB n = true) : n = 1 ∨ n = 2 ∨ n = 4 ∨ n = 8 := sized_of h
/-- What a stored cell is like. -/
structure Held (o q : Nat) (c : C4) : Prop where
  fit : o + q ≤ 512
  pos : 0 < q
  k : c.k ≠ 0
  whole : c.k ≠ 1 → q = 8 ∧ o % 8 = 0
theorem Stood.put {A : AS} {o q n : Nat} {c : C4} {d : List Int} (h : Stood A o q c) (hh : Held o q c) (hd : n + d.length ≤ o ∨ o + q ≤ n ∨ d.length = 0) : Stood (A.put n d) o q c := by
  unfold Stood at h ⊢
  split
  · rename_i h1
    rw [if_pos h1] at h
    intro i hi
    rw [AS.put_pl, if_neg (by omega)]
    exact h i hi
  · rename_i h1
    rw [if_neg h1] at h
    obtain ⟨h8, ho⟩ := hh.whole h1
    rw [AS.put_wh, if_neg (by omega)]
    exact h
theorem Stood.hold {A : AS} {o q n : Nat} {c e : C4} (h : Stood A o q c) (hh : Held o q c) (hn : n % 8 = 0) (hd : n + 8 ≤ o ∨ o + q ≤ n) : Stood (A.hold (n / 8) e) o q c := by
  unfold Stood at h ⊢
  split
  · rename_i h1
    rw [if_pos h1] at h
    intro i hi
    simp only [AS.hold]
    rw [if_neg (by omega)]
    exact h i hi
  · rename_i h1
    rw [if_neg h1] at h
    obtain ⟨h8, ho⟩ := hh.whole h1
    simp only [AS.hold]
    rw [if_neg (by omega)]
    exact h
theorem write_stood {A : AS} {o q : Nat} {c : C4} {off : Int} {d : List Int} (h : Stood A o q c) (hh : Held o q c) (hd : placedB off d.length = true → off + d.length ≤ o ∨ (o : Int) + q ≤ off ∨ d.length = 0) : Stood (writeM A off d).2 o q c := by
  unfold writeM
  split
  · exact h
  split
  · exact h
  · rename_i h2
    have h3 : placedB off d.length = true := by simpa using h2
    obtain ⟨h4, h5⟩ := placed_of h3
    exact Stood.put h hh (by have := hd h3; omega)
theorem store_stood {A : AS} {o q : Nat} {c e : C4} {off n : Int} (h : Stood A o q c) (hh : Held o q c) (hd : placedB off n = true → sizedB n = true → off + n ≤ o ∨ (o : Int) + q ≤ off) : Stood (storeM A off n e).2 o q c := by
  by_cases h0 : (storeM A off n e).1 = 0
  · obtain ⟨h1, h2, h3, h4, ⟨h5, h6, h7⟩ | ⟨h5, h7⟩⟩ := store_ok h0
    · rw [h7]
      obtain ⟨h8, h9⟩ := placed_of h3
      have h10 := hd h3 h1
      unfold groupedB at h6
      simp only [Bool.and_eq_true, beq_iff_eq] at h6
      exact Stood.hold h hh (by omega) (by omega)
    · rw [h7]
      obtain ⟨h8, h9⟩ := placed_of h3
      have h10 := hd h3 h1
      have h11 := sized_of h1
      refine Stood.put h hh ?_
      rw [bytesM_length]
      omega
  · rw [store_bad h0]; exact h
theorem store_begins {off n : Int} {c : C4} (h : (storeM AS.none off n c).1 = 0) : Held off.toNat n.toNat c ∧ Stood (storeM AS.none off n c).2 off.toNat n.toNat c ∧ 0 ≤ off ∧ sizedB n = true ∧ placedB off n = true ∧ (c.k = 1 ∨ wholeB c = true) := by
  obtain ⟨h1, h2, h3, h4, h5⟩ := store_ok h
  obtain ⟨h8, h9⟩ := placed_of h3
  have h11 := sized_of h1
  have hk := right_kind h2
  rcases h5 with ⟨h5, h6, h7⟩ | ⟨h5, h7⟩
  · unfold groupedB at h6
    simp only [Bool.and_eq_true, beq_iff_eq] at h6
    have hk1 : c.k ≠ 1 := fun e => by simp [wholeB, e] at h5
    refine ⟨⟨by omega, by omega, h4, fun _ => by omega⟩, ?_, h8, h1, h3, .inr h5⟩
    rw [h7]
    unfold Stood
    rw [if_neg hk1]
    simp [AS.hold]
  · have hk1 : c.k = 1 := by
      unfold wholeB at h5
      simp only [Bool.or_eq_false_iff, beq_eq_false_iff_ne] at h5
      omega
    refine ⟨⟨by omega, by omega, h4, fun e => absurd hk1 e⟩, ?_, h8, h1, h3, .inl hk1⟩
    rw [h7]
    unfold Stood
    rw [if_pos hk1]
    intro i hi
    rw [AS.put_pl, if_pos (by rw [bytesM_length]; omega)]
    exact congrArg ((bytesM n.toNat c.wd)[·]?) (by omega)
theorem load_none (off n : Int) : (loadM AS.none off n).2 ≠ 0 := by
  unfold loadM
  split
  · decide
  split
  · decide
  rename_i h1 h2
  have h1' : sizedB n = true := by simpa using h1
  have h3 := sized_of h1'
  have hk : (groupedB off n && (AS.none.wh (off.toNat / 8)).k != 0) = false := by simp [AS.none, c0]
  rw [hk]
  simp only [Bool.false_eq_true, if_false]
  have hg : AS.none.got off.toNat n.toNat = .none := AS.got_none AS.none off.toNat n.toNat 0 (by omega) rfl
  rw [hg]
  decide
end Go.Proofs.Ytkpoilcbdcddcaa
