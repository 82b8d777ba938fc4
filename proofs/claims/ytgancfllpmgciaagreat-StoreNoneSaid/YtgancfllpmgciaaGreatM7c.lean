/-
  Rows are made: each of so many noughts.
-/
import Derived.Test.YtgancfllpmgciaaGreatM7b
import Derived.Test.YtgancfllpmgciaaGreatRT
namespace Go.Proofs.YtgancfllpmgciaaGreat
open Go.RowKit Go.Maps
set_option linter.unusedVariables false

theorem below3 (w : World) (o o' o2 : Obj) : Below w.heap.size w (((w.alloc o).alloc o').alloc o2) := (below2 w o o').alloc (by simp; omega) _
theorem three_boxes (w : World) (o o' o2 : Obj) : (((w.alloc o).alloc o').alloc o2).heap[w.heap.size]? = some o ∧ (((w.alloc o).alloc o').alloc o2).heap[w.heap.size + 1]? = some o' ∧ (((w.alloc o).alloc o').alloc o2).heap[w.heap.size + 2]? = some o2 := by
  obtain ⟨h1, h2⟩ := two_boxes w o o'
  refine ⟨(Below.heap_alloc _ _ _ (at_lt h1)).trans h1, (Below.heap_alloc _ _ _ (at_lt h2)).trans h2, ?_⟩
  have := World.alloc_heap_new ((w.alloc o).alloc o') o2
  rwa [World.size_alloc, World.size_alloc] at this
theorem cellsInfo : (Tryz.prog.info? 189).map (fun i => (i.zero, i.size, i.bytes)) = some (some (.slice none 0 0), 1, 24) := by kernel_rfl
theorem cells_made (n : Nat) (hn : n ≤ 4096) (W : World) : (Instr.makeSlice 132 (.int .i64 (n : Int)) (.int .i64 (n : Int))).run Tryz.prog W = .ok (.slice (some ⟨W.heap.size, 0, none⟩) n n) (W.alloc (.cells (List.replicate n (Value.slice none 0 0)).toArray 189)) := by
  obtain ⟨i0, hi, hz0, hz1, hz2⟩ := info_parts cellsInfo
  have := run_make (P := Tryz.prog) W 132 189 i0 _ Tryz.underlying132 hi hz0 .i64 .i64 (n : Int) (n : Int) (by omega) (by omega) (by rw [hz2]; omega) (by omega)
  rw [hz1] at this
  have e : madeCells #[Value.slice none 0 0] n = (List.replicate n (Value.slice none 0 0)).toArray := by
    apply Array.ext'
    apply List.ext_getElem
    · simp [size_madeCells]
    · intro i h1 h2
      simp [madeCells, Nat.mod_one]
  rw [← e]
  simpa [Value.cells] using this
/-- The cells of rows behind k rounds: row i lies in block s + i. -/
def madeL (s sz n k : Nat) : List Value := (List.range n).map fun i => if i < k then .slice (some ⟨s + i, 0, none⟩) sz sz else .slice none 0 0
theorem madeL_0 (s sz n : Nat) : madeL s sz n 0 = List.replicate n (Value.slice none 0 0) := by
  apply List.ext_getElem
  · simp [madeL]
  · intro i h1 h2
    simp [madeL]
theorem madeL_set (s sz n k : Nat) : (madeL s sz n k).set k (.slice (some ⟨s + k, 0, none⟩) sz sz) = madeL s sz n (k + 1) := by
  apply List.ext_getElem
  · simp [madeL]
  · intro i h1 h2
    rw [List.getElem_set]
    by_cases e : k = i
    · subst e; simp [madeL]
    · simp only [madeL, List.getElem_map, List.getElem_range, if_neg e]
      by_cases h : i < k
      · rw [if_pos h, if_pos (by omega)]
      · rw [if_neg h, if_neg (by omega)]
theorem madeL_at {s sz n k i : Nat} (hi : i < n) : (madeL s sz n k)[i]? = some (if i < k then .slice (some ⟨s + i, 0, none⟩) sz sz else .slice none 0 0) := by
  simp [madeL, hi]
structure MadeK (w W : World) (c s sz n k : Nat) : Prop where
  size : W.heap.size = s + k
  cel : W.heap[c]? = some (.cells (madeL s sz n k).toArray 189 (0, 0))
  box4 : W.heap[w.heap.size]? = some (.cells #[.int .i64 0, .slice none 0 0] 134 (0, 0))
  box5 : W.heap[w.heap.size + 2]? = some (.cells #[.int .i64 sz, .slice (some ⟨c, 0, none⟩) n n] 134 (0, 0))
  row : ∀ i, i < k → W.heap[s + i]? = some (.cells (u8s (List.replicate sz 0)).toArray 5 (0, 0))
  below : Below w.heap.size w W
/-- What rowsOf tells. -/
def RowsMade (n sz : Nat) (w : World) (e : Ending) (w' : World) : Prop := ∃ c s, e = .returned (.agg #[.int .i64 sz, .slice (some ⟨c, 0, none⟩) n n]) ∧
    w.heap.size ≤ c ∧ c < s ∧ s + n ≤ w'.heap.size ∧ w'.heap[c]? = some (.cells (madeL s sz n n).toArray 189 (0, 0)) ∧ (∀ i, i < n → w'.heap[s + i]? = some (.cells (u8s (List.replicate sz 0)).toArray 5 (0, 0))) ∧ Below w.heap.size w w'
set_option maxRecDepth 100000 in
set_option maxHeartbeats 1000000 in
theorem rowsOf_any (n sz : Nat) (hn : 1 ≤ n ∧ n ≤ 1024) (hs : 1 ≤ sz ∧ sz ≤ 1024) (w : World) : Calls Tryz.prog 50 #[.int .i64 n, .int .i64 sz] w (RowsMade n sz w) := by
  have hc := cells_made n (by omega) (w.alloc (.cells #[.int .i64 0, .slice none 0 0] 134))
  go_enter Tryz.func50, Tryz.ntmps50
  go_wp2_with fail
  obtain ⟨q0, q1, q2⟩ := three_boxes w (.cells #[.int .i64 0, .slice none 0 0] 134) (.cells (List.replicate n (Value.slice none 0 0)).toArray 189) (.cells #[.int .i64 sz, .slice (some ⟨w.heap.size + 1, 0, none⟩) n n] 134)
  have hb3 := below3 w (.cells #[.int .i64 0, .slice none 0 0] 134) (.cells (List.replicate n (Value.slice none 0 0)).toArray 189) (.cells #[.int .i64 sz, .slice (some ⟨w.heap.size + 1, 0, none⟩) n n] 134)
  have HM0 : Hid (MadeK w (((w.alloc (.cells #[.int .i64 0, .slice none 0 0] 134)).alloc (.cells (List.replicate n (Value.slice none 0 0)).toArray 189)).alloc (.cells #[.int .i64 sz, .slice (some ⟨w.heap.size + 1, 0, none⟩) n n] 134)) (w.heap.size + 1) (w.heap.size + 3) sz n 0) :=
    ⟨by simp, by rw [madeL_0]; exact q1, q0, q2, fun i hi => by omega, hb3⟩
  rw [List.toArray_replicate] at HM0
  clear q0 q1 q2 hb3 hc
  go_loopw [14] (fun p wr => ∃ k : Nat, k ≤ n ∧ p = .int .i64 k ∧ MadeK w wr (w.heap.size + 1) (w.heap.size + 3) sz n k) (fun p _ => n - (intOf p).toNat)
  case atStart => exact ⟨0, Nat.zero_le _, rfl, HM0.out⟩
  case round =>
    obtain ⟨k, hk, rfl, hm⟩ := hrel
    by_cases hlt : k < n
    · have c5 : wr.cell? ⟨w.heap.size + 1 + 1, 1, none⟩ = some (.slice (some ⟨w.heap.size + 1, 0, none⟩) n n) := by rw [show w.heap.size + 1 + 1 = w.heap.size + 2 by omega, blk_cell hm.box5]; rfl
      have cc : wr.cell? ⟨w.heap.size + 1, k, none⟩ = some (.slice none 0 0) := by
        rw [blk_cell hm.cel]; simp [madeL_at hlt]
      have fc : wr.frozen? ⟨w.heap.size + 1, k, none⟩ = false := Joins.unfrozen_of_block hm.cel k
      have hz := zeros_made Tryz.underlying189 sz (by omega) wr
      have hz' := zeros_made Tryz.underlying189 sz (by omega) wr.drew
      have hsz : w.heap.size + 1 + 1 < wr.heap.size := by rw [hm.size]; omega
      have HM := hide hm
      have dk : decide ((k : Int) < (n : Int)) = true := by simp; omega
      have k0 : (0 : Int) ≤ (k : Int) := by omega
      have k1 : (k : Int) < (n : Int) := by omega
      have hb1 := below1 wr (.cells (u8s (List.replicate sz 0)).toArray 5)
      have ca := (hb1.cell (p := ⟨w.heap.size + 1, k, none⟩) (by show w.heap.size + 1 < wr.heap.size; omega)).trans cc
      have fa := (hb1.frozen (p := ⟨w.heap.size + 1, k, none⟩) (by show w.heap.size + 1 < wr.heap.size; omega)).trans fc
      have HB1 := hide hb1
      clear hm HM0 hb1
      go_wp2
      go_region
      go_wp2
      go_roundw
      case rel =>
        have hm := HM.out
        have hb1 := HB1.out
        have hW : ∀ b, b ≠ w.heap.size + 1 → b < wr.heap.size → ((wr.alloc (.cells (u8s (List.replicate sz 0)).toArray 5)).setCell ⟨w.heap.size + 1, k, none⟩ (.slice (some ⟨wr.heap.size, 0, none⟩) sz sz)).drew.heap[b]? = wr.heap[b]? := fun b h1 h2 =>
          (Below.heap_setCell _ ⟨w.heap.size + 1, k, none⟩ _ b (fun e => h1 e)).trans (hb1.block b h2)
        refine ⟨k + 1, by omega, by go_num, ?_, ?_, ?_, ?_, fun i hi => ?_, ?_⟩
        · have := hm.size; simp [World.setCell]; omega
        · have h2 := Joins.block_setCell (i := k) ((hb1.block (w.heap.size + 1) (by omega)).trans hm.cel) (.slice (some ⟨wr.heap.size, 0, none⟩) sz sz)
          rw [← madeL_set, ← hm.size, ← List.setIfInBounds_toArray]
          exact h2
        · exact (hW _ (by omega) (by omega)).trans hm.box4
        · exact (hW _ (by omega) (by omega)).trans hm.box5
        · by_cases e : i = k
          · subst e
            rw [← hm.size]
            exact (Below.heap_setCell _ ⟨w.heap.size + 1, i, none⟩ _ wr.heap.size (fun e => by have : wr.heap.size = w.heap.size + 1 := e; omega)).trans (World.alloc_heap_new wr _)
          · exact (hW _ (by omega) (by have := hm.size; omega)).trans (hm.row i (by omega))
        · exact ((hm.below.trans (hb1.mono hm.below.size)).setCell (p := ⟨w.heap.size + 1, k, none⟩) (by show w.heap.size ≤ w.heap.size + 1; omega) _).drew
      case measure => simp [intOf]; omega
    · have hkn : k = n := by omega
      subst hkn
      have HM := hide hm
      have dk : decide ((k : Int) < (k : Int)) = false := by simp
      have c5 : wr.cell? ⟨w.heap.size + 1 + 1, 0, none⟩ = some (.int .i64 sz) := by rw [show w.heap.size + 1 + 1 = w.heap.size + 2 by omega, blk_cell hm.box5]; rfl
      have c6 : wr.cell? ⟨w.heap.size + 1 + 1, 1, none⟩ = some (.slice (some ⟨w.heap.size + 1, 0, none⟩) k k) := by rw [show w.heap.size + 1 + 1 = w.heap.size + 2 by omega, blk_cell hm.box5]; rfl
      have c0 : wr.cell? ⟨w.heap.size, 0, none⟩ = some (.int .i64 0) := by rw [blk_cell hm.box4]; rfl
      have c1 : wr.cell? ⟨w.heap.size, 1, none⟩ = some (.slice none 0 0) := by rw [blk_cell hm.box4]; rfl
      have f0 := Joins.unfrozen_of_block hm.box4 0
      have f1 := Joins.unfrozen_of_block hm.box4 1
      clear hm HM0
      go_wp2
      have hm := HM.out
      have hb : Below w.heap.size w ((wr.setCell ⟨w.heap.size, 0, none⟩ (.int .i64 sz)).setCell ⟨w.heap.size, 1, none⟩ (.slice (some ⟨w.heap.size + 1, 0, none⟩) k k)) := (hm.below.setCell (p := ⟨w.heap.size, 0, none⟩) (Nat.le_refl _) _).setCell (p := ⟨w.heap.size, 1, none⟩) (Nat.le_refl _) _
      have hh : ∀ b, b ≠ w.heap.size → ((wr.setCell ⟨w.heap.size, 0, none⟩ (.int .i64 sz)).setCell ⟨w.heap.size, 1, none⟩ (.slice (some ⟨w.heap.size + 1, 0, none⟩) k k)).heap[b]? = wr.heap[b]? := fun b h =>
        (Below.heap_setCell _ ⟨w.heap.size, 1, none⟩ _ b (fun e => h e)).trans (Below.heap_setCell _ ⟨w.heap.size, 0, none⟩ _ b (fun e => h e))
      have e4 := Joins.block_setCell (i := 1) (Joins.block_setCell (i := 0) hm.box4 (.int .i64 sz)) (.slice (some ⟨w.heap.size + 1, 0, none⟩) k k)
      have d0 := blk_cell e4 0
      have d1 := blk_cell e4 1
      simp at d0 d1
      have hfin : RowsMade k sz w (.returned (.agg #[.int .i64 sz, .slice (some ⟨w.heap.size + 1, 0, none⟩) k k])) ((wr.setCell ⟨w.heap.size, 0, none⟩ (.int .i64 sz)).setCell ⟨w.heap.size, 1, none⟩ (.slice (some ⟨w.heap.size + 1, 0, none⟩) k k)) :=
        ⟨_, w.heap.size + 3, rfl, by omega, by omega, by have := hm.size; simp; omega, (hh _ (by omega)).trans hm.cel, fun i hi => (hh _ (by omega)).trans (hm.row i hi), hb⟩
      clear hm hb hh e4
      generalize (wr.setCell ⟨w.heap.size, 0, none⟩ (.int .i64 sz)).setCell ⟨w.heap.size, 1, none⟩ (.slice (some ⟨w.heap.size + 1, 0, none⟩) k k) = W9 at *
      exact bodyPost_ret (v := .agg #[.int .i64 sz, .slice (some ⟨w.heap.size + 1, 0, none⟩) k k]) (by simp [results, Tryz.results50, go_sem, d0, d1]) rfl hfin
end Go.Proofs.YtgancfllpmgciaaGreat
