/-
  Rows are made: each of so many noughts.
-/
import Derived.Test.YtolodcdhpnapmaaGreatHR4
import Derived.Test.YtolodcdhpnapmaaGreatRT
namespace Go.Proofs.YtolodcdhpnapmaaGreat
open Go.RowKit Go.Maps
set_option linter.unusedVariables false

theorem below3 (w : World) (o o' o2 : Obj) : Below w.heap.size w (((w.alloc o).alloc o').alloc o2) := (below2 w o o').alloc (by simp; omega) _
theorem three_boxes (w : World) (o o' o2 : Obj) : (((w.alloc o).alloc o').alloc o2).heap[w.heap.size]? = some o ∧ (((w.alloc o).alloc o').alloc o2).heap[w.heap.size + 1]? = some o' ∧ (((w.alloc o).alloc o').alloc o2).heap[w.heap.size + 2]? = some o2 := by
  obtain ⟨h1, h2⟩ := two_boxes w o o'
  refine ⟨(Below.heap_alloc _ _ _ (at_lt h1)).trans h1, (Below.heap_alloc _ _ _ (at_lt h2)).trans h2, ?_⟩
  have := World.alloc_heap_new ((w.alloc o).alloc o') o2
  rwa [World.size_alloc, World.size_alloc] at this
/-- Pairs of cells, one behind the other. -/
def pairs (f g : Nat → Value) (n : Nat) : List Value := (List.range n).flatMap fun i => [f i, g i]
theorem pairs_succ (f g : Nat → Value) (n : Nat) : pairs f g (n + 1) = pairs f g n ++ [f n, g n] := by
  unfold pairs
  rw [List.range_succ, List.flatMap_append]
  rfl
theorem pairs_len (f g : Nat → Value) : ∀ n, (pairs f g n).length = n * 2
  | 0 => rfl
  | n + 1 => by rw [pairs_succ, List.length_append, pairs_len f g n]; simp; omega
theorem pairs_at (f g : Nat → Value) : ∀ n i, i < n → (pairs f g n)[i * 2]? = some (f i) ∧ (pairs f g n)[i * 2 + 1]? = some (g i)
  | 0, i, h => by omega
  | n + 1, i, h => by
    have hl := pairs_len f g n
    rw [pairs_succ]
    by_cases hi : i < n
    · obtain ⟨h1, h2⟩ := pairs_at f g n i hi
      rw [List.getElem?_append_left (by omega), List.getElem?_append_left (by omega)]
      exact ⟨h1, h2⟩
    · obtain rfl : i = n := by omega
      rw [List.getElem?_append_right (by omega), List.getElem?_append_right (by omega), hl, Nat.sub_self, show i * 2 + 1 - i * 2 = 1 by omega]
      exact ⟨rfl, rfl⟩
theorem pairs_ext {f g : Nat → Value} {n : Nat} {l : List Value} (hl : l.length = n * 2) (h : ∀ i, i < n → l[i * 2]? = some (f i) ∧ l[i * 2 + 1]? = some (g i)) : l = pairs f g n := by
  apply List.ext_getElem?
  intro j
  by_cases hj : j < n * 2
  · have hd : j = j / 2 * 2 ∨ j = j / 2 * 2 + 1 := by omega
    obtain ⟨h1, h2⟩ := h (j / 2) (by omega)
    obtain ⟨h3, h4⟩ := pairs_at f g n (j / 2) (by omega)
    rcases hd with hd | hd
    · rw [hd, h1, h3]
    · rw [hd, h2, h4]
  · rw [List.getElem?_eq_none (by omega), List.getElem?_eq_none (by rw [pairs_len]; omega)]
theorem placeInfo : (Tryz.prog.info? 84).map (fun i => (i.zero, i.size, i.bytes)) = some (some (.agg #[.slice none 0 0, .bool false]), 2, 32) := by kernel_rfl
theorem cells_made (n : Nat) (hn : n ≤ 4096) (W : World) : (Instr.makeSlice 46 (.int .i64 (n : Int)) (.int .i64 (n : Int))).run Tryz.prog W = .ok (.slice (some ⟨W.heap.size, 0, none⟩) n n) (W.alloc (.cells (pairs (fun _ => .slice none 0 0) (fun _ => .bool false) n).toArray 84)) := by
  obtain ⟨i0, hi, hz0, hz1, hz2⟩ := info_parts placeInfo
  have := run_make (P := Tryz.prog) W 46 84 i0 _ Tryz.underlying46 hi hz0 .i64 .i64 (n : Int) (n : Int) (by omega) (by omega) (by rw [hz2]; omega) (by omega)
  rw [hz1] at this
  have e : madeCells #[Value.slice none 0 0, Value.bool false] (n * 2) = (pairs (fun _ => .slice none 0 0) (fun _ => .bool false) n).toArray := by
    apply Array.ext'
    refine pairs_ext (by simp [size_madeCells]) (fun i hi => ?_)
    constructor
    · rw [List.getElem?_eq_getElem (by simp [size_madeCells]; omega)]
      simp [madeCells]
    · rw [List.getElem?_eq_getElem (by simp [size_madeCells]; omega)]
      simp [madeCells, show (i * 2 + 1) % 2 = 1 by omega]
  rw [← e]
  simpa [Value.cells] using this
/-- The cells of places behind k rounds: row i lies in block s + i. -/
def madeL (s sz n k : Nat) : List Value := pairs (fun i => if i < k then .slice (some ⟨s + i, 0, none⟩) sz sz else .slice none 0 0) (fun _ => .bool false) n
theorem madeL_0 (s sz n : Nat) : madeL s sz n 0 = pairs (fun _ => .slice none 0 0) (fun _ => .bool false) n := by
  unfold madeL
  congr 1
theorem madeL_set (s sz n k : Nat) (hk : k < n) : (madeL s sz n k).set (k * 2) (.slice (some ⟨s + k, 0, none⟩) sz sz) = madeL s sz n (k + 1) := by
  refine pairs_ext (by rw [List.length_set]; exact pairs_len _ _ _) (fun i hi => ?_)
  obtain ⟨h1, h2⟩ := pairs_at (fun i => if i < k then .slice (some ⟨s + i, 0, none⟩) sz sz else .slice none 0 0) (fun _ => .bool false) n i hi
  refine ⟨?_, by rw [List.getElem?_set_ne (by omega)]; exact h2⟩
  by_cases e : k = i
  · subst e
    rw [List.getElem?_set_self (by unfold madeL; rw [pairs_len]; omega), if_pos (by omega)]
  · rw [List.getElem?_set_ne (by omega)]
    refine h1.trans ?_
    by_cases h : i < k
    · rw [if_pos h, if_pos (by omega)]
    · rw [if_neg h, if_neg (by omega)]
theorem madeL_at {s sz n k i : Nat} (hi : i < n) : (madeL s sz n k)[i * 2]? = some (if i < k then .slice (some ⟨s + i, 0, none⟩) sz sz else .slice none 0 0) := (pairs_at _ _ n i hi).1
structure MadeK (w W : World) (c s sz n k : Nat) : Prop where
  size : W.heap.size = s + k
  cel : W.heap[c]? = some (.cells (madeL s sz n k).toArray 84 (0, 0))
  box4 : W.heap[w.heap.size]? = some (.cells #[.int .i64 0, .slice none 0 0] 48 (0, 0))
  box5 : W.heap[w.heap.size + 2]? = some (.cells #[.int .i64 sz, .slice (some ⟨c, 0, none⟩) n n] 48 (0, 0))
  row : ∀ i, i < k → W.heap[s + i]? = some (.cells (u8s (List.replicate sz 0)).toArray 5 (0, 0))
  below : Below w.heap.size w W
/-- What rowsOf tells. -/
def RowsMade (n sz : Nat) (w : World) (e : Ending) (w' : World) : Prop := ∃ c s, e = .returned (.agg #[.int .i64 sz, .slice (some ⟨c, 0, none⟩) n n]) ∧
    w.heap.size ≤ c ∧ c < s ∧ s + n ≤ w'.heap.size ∧ w'.heap[c]? = some (.cells (madeL s sz n n).toArray 84 (0, 0)) ∧ (∀ i, i < n → w'.heap[s + i]? = some (.cells (u8s (List.replicate sz 0)).toArray 5 (0, 0))) ∧ Below w.heap.size w w'
set_option maxRecDepth 100000 in
set_option maxHeartbeats 1000000 in
theorem rowsOf_any (n sz : Nat) (hn : 1 ≤ n ∧ n ≤ 1024) (hs : 1 ≤ sz ∧ sz ≤ 1024) (w : World) : Calls Tryz.prog 13 #[.int .i64 n, .int .i64 sz] w (RowsMade n sz w) := by
  have hc := cells_made n (by omega) (w.alloc (.cells #[.int .i64 0, .slice none 0 0] 48))
  go_enter Tryz.func13, Tryz.ntmps13
  go_wp2_with fail
  obtain ⟨q0, q1, q2⟩ := three_boxes w (.cells #[.int .i64 0, .slice none 0 0] 48) (.cells (pairs (fun _ => .slice none 0 0) (fun _ => .bool false) n).toArray 84) (.cells #[.int .i64 sz, .slice (some ⟨w.heap.size + 1, 0, none⟩) n n] 48)
  have hb3 := below3 w (.cells #[.int .i64 0, .slice none 0 0] 48) (.cells (pairs (fun _ => .slice none 0 0) (fun _ => .bool false) n).toArray 84) (.cells #[.int .i64 sz, .slice (some ⟨w.heap.size + 1, 0, none⟩) n n] 48)
  have HM0 : Hid (MadeK w (((w.alloc (.cells #[.int .i64 0, .slice none 0 0] 48)).alloc (.cells (pairs (fun _ => .slice none 0 0) (fun _ => .bool false) n).toArray 84)).alloc (.cells #[.int .i64 sz, .slice (some ⟨w.heap.size + 1, 0, none⟩) n n] 48)) (w.heap.size + 1) (w.heap.size + 3) sz n 0) :=
    ⟨by simp, by rw [madeL_0]; exact q1, q0, q2, fun i hi => by omega, hb3⟩
  clear q0 q1 q2 hb3 hc
  go_loopw [14] (fun p wr => ∃ k : Nat, k ≤ n ∧ p = .int .i64 k ∧ MadeK w wr (w.heap.size + 1) (w.heap.size + 3) sz n k) (fun p _ => n - (intOf p).toNat)
  case atStart => exact ⟨0, Nat.zero_le _, rfl, HM0.out⟩
  case round =>
    obtain ⟨k, hk, rfl, hm⟩ := hrel
    by_cases hlt : k < n
    · have c5 : wr.cell? ⟨w.heap.size + 1 + 1, 1, none⟩ = some (.slice (some ⟨w.heap.size + 1, 0, none⟩) n n) := by rw [show w.heap.size + 1 + 1 = w.heap.size + 2 by omega, blk_cell hm.box5]; rfl
      have cc : wr.cell? ⟨w.heap.size + 1, k * 2, none⟩ = some (.slice none 0 0) := by
        rw [blk_cell hm.cel]; simp [madeL_at hlt]
      have fc : wr.frozen? ⟨w.heap.size + 1, k * 2, none⟩ = false := Joins.unfrozen_of_block hm.cel (k * 2)
      have hz := zeros_made Tryz.underlying34 sz (by omega) wr
      have hz' := zeros_made Tryz.underlying34 sz (by omega) wr.drew
      have hsz : w.heap.size + 1 + 1 < wr.heap.size := by rw [hm.size]; omega
      have HM := hide hm
      have dk : decide ((k : Int) < (n : Int)) = true := by simp; omega
      have k0 : (0 : Int) ≤ (k : Int) := by omega
      have k1 : (k : Int) < (n : Int) := by omega
      have hb1 := below1 wr (.cells (u8s (List.replicate sz 0)).toArray 5)
      have ca := (hb1.cell (p := ⟨w.heap.size + 1, k * 2, none⟩) (by show w.heap.size + 1 < wr.heap.size; omega)).trans cc
      have fa := (hb1.frozen (p := ⟨w.heap.size + 1, k * 2, none⟩) (by show w.heap.size + 1 < wr.heap.size; omega)).trans fc
      have HB1 := hide hb1
      clear hm HM0 hb1
      go_wp2
      go_region
      go_wp2
      go_roundw
      case rel =>
        have hm := HM.out
        have hb1 := HB1.out
        have hW : ∀ b, b ≠ w.heap.size + 1 → b < wr.heap.size → ((wr.alloc (.cells (u8s (List.replicate sz 0)).toArray 5)).setCell ⟨w.heap.size + 1, k * 2, none⟩ (.slice (some ⟨wr.heap.size, 0, none⟩) sz sz)).drew.heap[b]? = wr.heap[b]? := fun b h1 h2 =>
          (Below.heap_setCell _ ⟨w.heap.size + 1, k * 2, none⟩ _ b (fun e => h1 e)).trans (hb1.block b h2)
        refine ⟨k + 1, by omega, by go_num, ?_, ?_, ?_, ?_, fun i hi => ?_, ?_⟩
        · have := hm.size; simp [World.setCell]; omega
        · have h2 := Joins.block_setCell (i := k * 2) ((hb1.block (w.heap.size + 1) (by omega)).trans hm.cel) (.slice (some ⟨wr.heap.size, 0, none⟩) sz sz)
          rw [← madeL_set _ _ _ _ hlt, ← hm.size, ← List.setIfInBounds_toArray]
          exact h2
        · exact (hW _ (by omega) (by omega)).trans hm.box4
        · exact (hW _ (by omega) (by omega)).trans hm.box5
        · by_cases e : i = k
          · subst e
            rw [← hm.size]
            exact (Below.heap_setCell _ ⟨w.heap.size + 1, i * 2, none⟩ _ wr.heap.size (fun e => by have : wr.heap.size = w.heap.size + 1 := e; omega)).trans (World.alloc_heap_new wr _)
          · exact (hW _ (by omega) (by have := hm.size; omega)).trans (hm.row i (by omega))
        · exact ((hm.below.trans (hb1.mono hm.below.size)).setCell (p := ⟨w.heap.size + 1, k * 2, none⟩) (by show w.heap.size ≤ w.heap.size + 1; omega) _).drew
      case measure => simp [intOf]; omega
    · have hkn : k = n := by omega
      subst hkn
      have HM := hide hm
      have dk : decide ((k : Int) < (k : Int)) = false := by simp
      have c5 : wr.cell? ⟨w.heap.size + 1 + 1, 0, none⟩ = some (.int .i64 sz) := by rw [show w.heap.size + 1 + 1 = w.heap.size + 2 by omega, blk_cell hm.box5]; rfl
      have c6 : wr.cell? ⟨w.heap.size + 1 + 1, 1, none⟩ = some (.slice (some ⟨w.heap.size + 1, 0, none⟩) k k) := by rw [show w.heap.size + 1 + 1 = w.heap.size + 2 by omega, blk_cell hm.box5]; rfl
      have c0 : wr.cell? ⟨w.heap.size, 0, none⟩ = some (.int .i64 0) := by rw [blk_cell hm.box4]; rfl
      have c1 : wr.cell? ⟨w.heap.size, 1, none⟩ = some (.slice none 0 0) := by rw [blk_cell hm.box4]; rfl
      have f0 := Joins.unfrozen_of_block hm.box4 0
      have f1 := Joins.unfrozen_of_block hm.box4 1
      clear hm HM0
      go_wp2
      have hm := HM.out
      have hb : Below w.heap.size w ((wr.setCell ⟨w.heap.size, 0, none⟩ (.int .i64 sz)).setCell ⟨w.heap.size, 1, none⟩ (.slice (some ⟨w.heap.size + 1, 0, none⟩) k k)) := (hm.below.setCell (p := ⟨w.heap.size, 0, none⟩) (Nat.le_refl _) _).setCell (p := ⟨w.heap.size, 1, none⟩) (Nat.le_refl _) _
      have hh : ∀ b, b ≠ w.heap.size → ((wr.setCell ⟨w.heap.size, 0, none⟩ (.int .i64 sz)).setCell ⟨w.heap.size, 1, none⟩ (.slice (some ⟨w.heap.size + 1, 0, none⟩) k k)).heap[b]? = wr.heap[b]? := fun b h =>
        (Below.heap_setCell _ ⟨w.heap.size, 1, none⟩ _ b (fun e => h e)).trans (Below.heap_setCell _ ⟨w.heap.size, 0, none⟩ _ b (fun e => h e))
      have e4 := Joins.block_setCell (i := 1) (Joins.block_setCell (i := 0) hm.box4 (.int .i64 sz)) (.slice (some ⟨w.heap.size + 1, 0, none⟩) k k)
      have d0 := blk_cell e4 0
      have d1 := blk_cell e4 1
      simp at d0 d1
      have hfin : RowsMade k sz w (.returned (.agg #[.int .i64 sz, .slice (some ⟨w.heap.size + 1, 0, none⟩) k k])) ((wr.setCell ⟨w.heap.size, 0, none⟩ (.int .i64 sz)).setCell ⟨w.heap.size, 1, none⟩ (.slice (some ⟨w.heap.size + 1, 0, none⟩) k k)) :=
        ⟨_, w.heap.size + 3, rfl, by omega, by omega, by have := hm.size; simp; omega, (hh _ (by omega)).trans hm.cel, fun i hi => (hh _ (by omega)).trans (hm.row i hi), hb⟩
      clear hm hb hh e4
      generalize (wr.setCell ⟨w.heap.size, 0, none⟩ (.int .i64 sz)).setCell ⟨w.heap.size, 1, none⟩ (.slice (some ⟨w.heap.size + 1, 0, none⟩) k k) = W9 at *
      exact bodyPost_ret (v := .agg #[.int .i64 sz, .slice (some ⟨w.heap.size + 1, 0, none⟩) k k]) (by simp [results, Tryz.results13, go_sem, d0, d1]) rfl hfin
end Go.Proofs.YtolodcdhpnapmaaGreat
