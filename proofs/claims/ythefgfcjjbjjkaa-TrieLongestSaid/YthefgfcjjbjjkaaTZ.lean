/-
  light: are deeds few enough?
-/
import Derived.Test.YthefgfcjjbjjkaaUOPS
import Derived.Test.YthefgfcjjbjjkaaKB
namespace Go.Proofs.Ythefgfcjjbjjkaa
open Go.RowKit
set_option linter.unusedVariables false

def LightD (ds : List ADo) (i : Nat) : Prop := ∀ (j : Nat) (d : ADo), j < i → ds[j]? = some d → d.k.n ≤ 80 ∧ d.v.n ≤ 80
theorem LightD.next {ds : List ADo} {i : Nat} {d : ADo} (h : LightD ds i) (hd : ds[i]? = some d) (h1 : d.k.n ≤ 80) (h2 : d.v.n ≤ 80) : LightD ds (i + 1) := fun j e hj he => by
  by_cases hji : j = i
  · subst hji
    rw [hd] at he
    injection he with he
    subst he
    exact ⟨h1, h2⟩
  · exact h j e (by omega) he
def Light (key val ent : Int) (m : Nat) (ds : List ADo) : Prop := ent ≤ 40 ∧ val ≤ 80 ∧ key ≤ 80 ∧ m ≤ 60 ∧ ∀ d ∈ ds, d.k.n ≤ 80 ∧ d.v.n ≤ 80
def LightTold (key val ent : Int) (m : Nat) (ds : List ADo) (w : World) (e : Ending) (w' : World) : Prop := ∃ b : Bool, e = .returned (.bool b) ∧ (b = true → Light key val ent m ds) ∧ Below w.heap.size w w'
set_option maxRecDepth 100000 in
set_option maxHeartbeats 1000000 in
theorem light_any (k key val ent : Int) (A : Option Addr) (m c B : Nat) (ds : List ADo) (w : World) (h : ADos w B A m ds) (hB : B ≤ w.heap.size) (hm : m ≤ 140737488351232) :
    Calls Try.prog 8 #[.agg #[.int .u8 k, .int .i64 key, .int .i64 val, .int .i64 ent], .slice A m c] w (LightTold key val ent m ds w) := by
  have hx := World.alloc_heap_new w (.cells #[.int .u8 k, .int .i64 key, .int .i64 val, .int .i64 ent] 24)
  have hb := below1 w (.cells #[.int .u8 k, .int .i64 key, .int .i64 val, .int .i64 ent] 24)
  have b1 := (blk_cell hx 1).trans rfl
  have b2 := (blk_cell hx 2).trans rfl
  have b3 := (blk_cell hx 3).trans rfl
  have HH := hide (h.below (hb.mono hB))
  have HB := hide hb
  clear h hx hb
  by_cases h1 : (40 : Int) < ent
  · have d1 : decide (40 < ent) = true := decide_eq_true h1
    go_enter Try.func8, Try.ntmps8
    go_wp2
    go_ret
    exact ⟨false, rfl, nofun, HB.out⟩
  have d1 : decide (40 < ent) = false := decide_eq_false h1
  by_cases h2 : (80 : Int) < val
  · have d2 : decide (80 < val) = true := decide_eq_true h2
    go_enter Try.func8, Try.ntmps8
    go_wp2
    go_ret
    exact ⟨false, rfl, nofun, HB.out⟩
  have d2 : decide (80 < val) = false := decide_eq_false h2
  by_cases h3 : (80 : Int) < key
  · have d3 : decide (80 < key) = true := decide_eq_true h3
    go_enter Try.func8, Try.ntmps8
    go_wp2
    go_ret
    exact ⟨false, rfl, nofun, HB.out⟩
  have d3 : decide (80 < key) = false := decide_eq_false h3
  by_cases h4 : (60 : Int) < (m : Int)
  · have d4 : decide ((60 : Int) < (m : Int)) = true := decide_eq_true h4
    go_enter Try.func8, Try.ntmps8
    go_wp2
    go_ret
    exact ⟨false, rfl, nofun, HB.out⟩
  have d4 : decide ((60 : Int) < (m : Int)) = false := decide_eq_false h4
  have hm6 : m ≤ 60 := by omega
  have HS := hide (show ent ≤ 40 ∧ val ≤ 80 ∧ key ≤ 80 by omega)
  clear h1 h2 h3 h4
  go_enter Try.func8, Try.ntmps8
  go_wp2
  clear d1 d2 d3 d4 b1 b2 b3
  generalize w.alloc (.cells #[.int .u8 k, .int .i64 key, .int .i64 val, .int .i64 ent] 24) = w1 at *
  go_loopw [5] (fun u wr => ∃ j : Nat, j ≤ m ∧ u = .int .i64 j ∧ wr = w1 ∧ LightD ds j) (fun u _ => m - (intOf u).toNat)
  case atStart => exact ⟨0, Nat.zero_le _, rfl, rfl, fun i d hi => by omega⟩
  case round =>
    obtain ⟨j, hj, rfl, rfl, hs⟩ := hrel
    have HL := hide hs
    clear hs
    by_cases hjm : j < m
    · obtain ⟨ad, d, rfl, hd, _, hc⟩ := HH.out.cell hjm
      have c1 := hc 1 _ rfl
      rw [add_parts ad _ 1 (by decide)] at c1
      have c2 := hc 2 _ rfl
      rw [add_parts ad _ 2 (by decide)] at c2
      have HD := hide hd
      have j0 : (0 : Int) ≤ (j : Int) := by omega
      have j1 : (j : Int) < (m : Int) := by omega
      have dm : decide ((j : Int) < (m : Int)) = true := decide_eq_true j1
      clear hd hc
      by_cases hk : (80 : Int) < (d.k.n : Int)
      · have dk : decide ((80 : Int) < (d.k.n : Int)) = true := decide_eq_true hk
        go_wp2
        go_ret
        exact ⟨false, rfl, nofun, HB.out⟩
      have dk : decide ((80 : Int) < (d.k.n : Int)) = false := decide_eq_false hk
      by_cases hv : (80 : Int) < (d.v.n : Int)
      · have dv : decide ((80 : Int) < (d.v.n : Int)) = true := decide_eq_true hv
        go_wp2
        go_ret
        exact ⟨false, rfl, nofun, HB.out⟩
      have dv : decide ((80 : Int) < (d.v.n : Int)) = false := decide_eq_false hv
      have HL2 := hide (HL.out.next HD.out (by omega) (by omega))
      go_wp2
      go_roundw
      case rel => exact ⟨j + 1, by omega, by go_num, trivial, HL2.out⟩
      case measure => simp [intOf]; omega
    · obtain rfl : j = m := by omega
      have hl := HH.out.len
      have dm : decide ((j : Int) < (j : Int)) = false := decide_eq_false (by omega)
      have HF : Hid (Light key val ent j ds) := hide ⟨HS.out.1, HS.out.2.1, HS.out.2.2, hm6, fun d hd => by
        obtain ⟨i, hi⟩ := List.mem_iff_getElem?.1 hd
        have h1 := (List.getElem?_eq_some_iff.1 hi).1
        exact HL.out i d (by omega) hi⟩
      clear hl
      go_wp2
      go_ret
      exact ⟨true, rfl, fun _ => HF.out, HB.out⟩
end Go.Proofs.Ythefgfcjjbjjkaa
