/-
  Places are made: each of so many noughts.
-/
import Derived.Test.YthefgfcjjbjjkaaTS
import Derived.Test.YthefgfcjjbjjkaaRT
import Derived.Laws.MakeOwn
namespace Go.Proofs.Ythefgfcjjbjjkaa
open Go.RowKit Go.Maps
set_option linter.unusedVariables false
set_option linter.unusedSimpArgs false

/-- Triples of cells, one behind the other. -/
def trips (f g h : Nat → Value) (n : Nat) : List Value := (List.range n).flatMap fun i => [f i, g i, h i]
theorem trips_succ (f g h : Nat → Value) (n : Nat) : trips f g h (n + 1) = trips f g h n ++ [f n, g n, h n] := by
  unfold trips
  rw [List.range_succ, List.flatMap_append]
  rfl
theorem trips_len (f g h : Nat → Value) : ∀ n, (trips f g h n).length = n * 3
  | 0 => rfl
  | n + 1 => by rw [trips_succ, List.length_append, trips_len f g h n]; simp; omega
theorem trips_at (f g h : Nat → Value) : ∀ n i, i < n → (trips f g h n)[i * 3]? = some (f i) ∧ (trips f g h n)[i * 3 + 1]? = some (g i) ∧ (trips f g h n)[i * 3 + 2]? = some (h i)
  | 0, i, hh => by omega
  | n + 1, i, hh => by
    have hl := trips_len f g h n
    rw [trips_succ]
    by_cases hi : i < n
    · obtain ⟨h1, h2, h3⟩ := trips_at f g h n i hi
      rw [List.getElem?_append_left (by omega), List.getElem?_append_left (by omega), List.getElem?_append_left (by omega)]
      exact ⟨h1, h2, h3⟩
    · obtain rfl : i = n := by omega
      rw [List.getElem?_append_right (by omega), List.getElem?_append_right (by omega), List.getElem?_append_right (by omega), hl, Nat.sub_self, show i * 3 + 1 - i * 3 = 1 by omega, show i * 3 + 2 - i * 3 = 2 by omega]
      exact ⟨rfl, rfl, rfl⟩
theorem trips_ext {f g h : Nat → Value} {n : Nat} {l : List Value} (hl : l.length = n * 3) (hh : ∀ i, i < n → l[i * 3]? = some (f i) ∧ l[i * 3 + 1]? = some (g i) ∧ l[i * 3 + 2]? = some (h i)) : l = trips f g h n := by
  apply List.ext_getElem?
  intro j
  by_cases hj : j < n * 3
  · have hd : j = j / 3 * 3 ∨ j = j / 3 * 3 + 1 ∨ j = j / 3 * 3 + 2 := by omega
    obtain ⟨h1, h2, h3⟩ := hh (j / 3) (by omega)
    obtain ⟨h4, h5, h6⟩ := trips_at f g h n (j / 3) (by omega)
    rcases hd with hd | hd | hd
    · rw [hd, h1, h4]
    · rw [hd, h2, h5]
    · rw [hd, h3, h6]
  · rw [List.getElem?_eq_none (by omega), List.getElem?_eq_none (by rw [trips_len]; omega)]
theorem placeInfo : (Try.prog.info? 77).map (fun i => (i.zero, i.size, i.bytes)) = some (some (.agg #[.int .i64 0, .slice none 0 0, .slice none 0 0]), 3, 56) := by kernel_rfl
def zT0 (n : Nat) : List Value := trips (fun _ => .int .i64 0) (fun _ => .slice none 0 0) (fun _ => .slice none 0 0) n
theorem cells_made (n : Nat) (hn : n ≤ 4096) (W : World) : (Instr.makeSlice 56 (.int .i64 (n : Int)) (.int .i64 (n : Int))).run Try.prog W = .ok (.slice (some ⟨W.heap.size, 0, none⟩) n n) (W.alloc (.cells (zT0 n).toArray 77)) := by
  obtain ⟨i0, hi, hz0, hz1, hz2⟩ := info_parts placeInfo
  have := run_make (P := Try.prog) W 56 77 i0 _ Try.underlying56 hi hz0 .i64 .i64 (n : Int) (n : Int) (by omega) (by omega) (by rw [hz2]; omega) (by omega)
  rw [hz1] at this
  have e : madeCells #[Value.int .i64 0, Value.slice none 0 0, Value.slice none 0 0] (n * 3) = (zT0 n).toArray := by
    apply Array.ext'
    refine trips_ext (by simp [size_madeCells]) (fun i hi => ?_)
    refine ⟨?_, ?_, ?_⟩
    all_goals
      rw [List.getElem?_eq_getElem (by simp [size_madeCells]; omega)]
    · simp [madeCells]
    · simp [madeCells, show (i * 3 + 1) % 3 = 1 by omega]
    · simp [madeCells, show (i * 3 + 2) % 3 = 2 by omega]
  rw [← e]
  simpa [Value.cells] using this
/-- The cells of places behind k rounds: value i lies in block s + i. -/
def madeT (s sz n k : Nat) : List Value := trips (fun i => if i < k then .int .i64 i else .int .i64 0) (fun i => if i < k then .slice (some ⟨s + i, 0, none⟩) sz sz else .slice none 0 0) (fun _ => .slice none 0 0) n
theorem madeT_0 (s sz n : Nat) : madeT s sz n 0 = zT0 n := by
  unfold madeT zT0
  congr 1
theorem madeT_at {s sz n k i : Nat} (hi : i < n) : (madeT s sz n k)[i * 3]? = some (if i < k then .int .i64 i else .int .i64 0) ∧ (madeT s sz n k)[i * 3 + 1]? = some (if i < k then .slice (some ⟨s + i, 0, none⟩) sz sz else .slice none 0 0) ∧ (madeT s sz n k)[i * 3 + 2]? = some (.slice none 0 0) := trips_at _ _ _ n i hi
theorem madeT_set (s sz n k : Nat) (hk : k < n) : (((madeT s sz n k).set (k * 3) (.int .i64 k)).set (k * 3 + 1) (.slice (some ⟨s + k, 0, none⟩) sz sz)).set (k * 3 + 2) (.slice none 0 0) = madeT s sz n (k + 1) := by
  refine trips_ext (by simp only [List.length_set]; exact trips_len _ _ _ _) (fun i hi => ?_)
  obtain ⟨h1, h2, h3⟩ := madeT_at (s := s) (sz := sz) (k := k) hi
  have hl : (madeT s sz n k).length = n * 3 := trips_len _ _ _ _
  by_cases e : k = i
  · subst e
    refine ⟨?_, ?_, ?_⟩
    · rw [List.getElem?_set_ne (by omega), List.getElem?_set_ne (by omega), List.getElem?_set_self (by omega), if_pos (by omega)]
    · rw [List.getElem?_set_ne (by omega), List.getElem?_set_self (by simp only [List.length_set]; omega), if_pos (by omega)]
    · rw [List.getElem?_set_self (by simp only [List.length_set]; omega)]
  · refine ⟨?_, ?_, ?_⟩
    · rw [List.getElem?_set_ne (by omega), List.getElem?_set_ne (by omega), List.getElem?_set_ne (by omega), h1]
      by_cases h : i < k
      · rw [if_pos h, if_pos (by omega)]
      · rw [if_neg h, if_neg (by omega)]
    · rw [List.getElem?_set_ne (by omega), List.getElem?_set_ne (by omega), List.getElem?_set_ne (by omega), h2]
      by_cases h : i < k
      · rw [if_pos h, if_pos (by omega)]
      · rw [if_neg h, if_neg (by omega)]
    · rw [List.getElem?_set_ne (by omega), List.getElem?_set_ne (by omega), List.getElem?_set_ne (by omega), h3]
structure MadeK (w W : World) (c s sz n k : Nat) : Prop where
  size : W.heap.size = s + k
  cel : W.heap[c]? = some (.cells (madeT s sz n k).toArray 77 (0, 0))
  box4 : W.heap[w.heap.size]? = some (.cells #[.int .i64 0, .slice none 0 0] 58 (0, 0))
  box5 : W.heap[w.heap.size + 2]? = some (.cells #[.int .i64 sz, .slice (some ⟨c, 0, none⟩) n n] 58 (0, 0))
  row : ∀ i, i < k → W.heap[s + i]? = some (.cells (u8s (List.replicate sz 0)).toArray 5 (0, 0))
  below : Below w.heap.size w W
/-- What placesOf tells. -/
def RowsMade (n sz : Nat) (w : World) (e : Ending) (w' : World) : Prop := ∃ c s, e = .returned (.agg #[.int .i64 sz, .slice (some ⟨c, 0, none⟩) n n]) ∧
    w.heap.size ≤ c ∧ c < s ∧ s + n ≤ w'.heap.size ∧ w'.heap[c]? = some (.cells (madeT s sz n n).toArray 77 (0, 0)) ∧ (∀ i, i < n → w'.heap[s + i]? = some (.cells (u8s (List.replicate sz 0)).toArray 5 (0, 0))) ∧ Below w.heap.size w w'
set_option maxRecDepth 100000 in
set_option maxHeartbeats 4000000 in
theorem rowsOf_any (n sz : Nat) (hn : 1 ≤ n ∧ n ≤ 1024) (hs : 1 ≤ sz ∧ sz ≤ 1024) (w : World) : Calls Try.prog 34 #[.int .i64 n, .int .i64 sz] w (RowsMade n sz w) := by
  have hc := cells_made n (by omega) (w.alloc (.cells #[.int .i64 0, .slice none 0 0] 58))
  go_enter Try.func34, Try.ntmps34
  go_wp2_with fail
  obtain ⟨q0, q1, q2⟩ := three_boxes w (.cells #[.int .i64 0, .slice none 0 0] 58) (.cells (zT0 n).toArray 77) (.cells #[.int .i64 sz, .slice (some ⟨w.heap.size + 1, 0, none⟩) n n] 58)
  have hb3 := below3 w (.cells #[.int .i64 0, .slice none 0 0] 58) (.cells (zT0 n).toArray 77) (.cells #[.int .i64 sz, .slice (some ⟨w.heap.size + 1, 0, none⟩) n n] 58)
  have HM0 : Hid (MadeK w (((w.alloc (.cells #[.int .i64 0, .slice none 0 0] 58)).alloc (.cells (zT0 n).toArray 77)).alloc (.cells #[.int .i64 sz, .slice (some ⟨w.heap.size + 1, 0, none⟩) n n] 58)) (w.heap.size + 1) (w.heap.size + 3) sz n 0) :=
    ⟨by simp, by rw [madeT_0]; exact q1, q0, q2, fun i hi => by omega, hb3⟩
  clear q0 q1 q2 hb3 hc
  go_loopw [14] (fun p wr => ∃ k : Nat, k ≤ n ∧ p = .int .i64 k ∧ MadeK w wr (w.heap.size + 1) (w.heap.size + 3) sz n k) (fun p _ => n - (intOf p).toNat)
  case atStart => exact ⟨0, Nat.zero_le _, rfl, HM0.out⟩
  case round =>
    obtain ⟨k, hk, rfl, hm⟩ := hrel
    by_cases hlt : k < n
    · have c5 : wr.cell? ⟨w.heap.size + 1 + 1, 1, none⟩ = some (.slice (some ⟨w.heap.size + 1, 0, none⟩) n n) := by rw [show w.heap.size + 1 + 1 = w.heap.size + 2 by omega, blk_cell hm.box5]; rfl
      obtain ⟨cc0, cc1, cc2⟩ : wr.cell? ⟨w.heap.size + 1, k * 3, none⟩ = some (.int .i64 0) ∧ wr.cell? ⟨w.heap.size + 1, k * 3 + 1, none⟩ = some (.slice none 0 0) ∧ wr.cell? ⟨w.heap.size + 1, k * 3 + 2, none⟩ = some (.slice none 0 0) := by
        obtain ⟨h1, h2, h3⟩ := madeT_at (s := w.heap.size + 3) (sz := sz) (k := k) hlt
        rw [if_neg (Nat.lt_irrefl _)] at h1 h2
        rw [blk_cell hm.cel, blk_cell hm.cel, blk_cell hm.cel]
        exact ⟨by simpa using h1, by simpa using h2, by simpa using h3⟩
      have hz := zeros_made Try.underlying35 sz (by omega) wr
      have hz' := zeros_made Try.underlying35 sz (by omega) wr.drew
      have hsz : w.heap.size + 1 + 1 < wr.heap.size := by rw [hm.size]; omega
      have HM := hide hm
      have dk : decide ((k : Int) < (n : Int)) = true := by simp; omega
      have k0 : (0 : Int) ≤ (k : Int) := by omega
      have k1 : (k : Int) < (n : Int) := by omega
      have hb1 := below1 wr (.cells (u8s (List.replicate sz 0)).toArray 5)
      have HB1 := hide hb1
      have hx0 := (hb1.block (w.heap.size + 1) (by omega)).trans hm.cel
      have hx1 := set_blk hx0 (k * 3) (.int .i64 k)
      have hx2 := set_blk hx1 (k * 3 + 1) (.slice (some ⟨wr.heap.size, 0, none⟩) sz sz)
      have hx3 := set_blk hx2 (k * 3 + 2) (.slice none 0 0)
      have HX3 := hide hx3
      have ca0 : (wr.alloc (.cells (u8s (List.replicate sz 0)).toArray 5)).cell? ⟨w.heap.size + 1, k * 3, none⟩ = some (.int .i64 0) := (hb1.cell (p := ⟨w.heap.size + 1, k * 3, none⟩) (by show w.heap.size + 1 < wr.heap.size; omega)).trans cc0
      have ca1 : ((wr.alloc (.cells (u8s (List.replicate sz 0)).toArray 5)).setCell ⟨w.heap.size + 1, k * 3, none⟩ (.int .i64 k)).cell? ⟨w.heap.size + 1, k * 3 + 1, none⟩ = some (.slice none 0 0) := by
        rw [blk_cell hx1]
        obtain ⟨h1, h2, h3⟩ := madeT_at (s := w.heap.size + 3) (sz := sz) (k := k) hlt
        rw [if_neg (Nat.lt_irrefl _)] at h2
        simpa using h2
      have ca2 : (((wr.alloc (.cells (u8s (List.replicate sz 0)).toArray 5)).setCell ⟨w.heap.size + 1, k * 3, none⟩ (.int .i64 k)).setCell ⟨w.heap.size + 1, k * 3 + 1, none⟩ (.slice (some ⟨wr.heap.size, 0, none⟩) sz sz)).cell? ⟨w.heap.size + 1, k * 3 + 2, none⟩ = some (.slice none 0 0) := by
        rw [blk_cell hx2]
        obtain ⟨h1, h2, h3⟩ := madeT_at (s := w.heap.size + 3) (sz := sz) (k := k) hlt
        simpa using h3
      have fa0 := Joins.unfrozen_of_block hx0 (k * 3)
      have fa1 := Joins.unfrozen_of_block hx1 (k * 3 + 1)
      have fa2 := Joins.unfrozen_of_block hx2 (k * 3 + 2)
      clear hx0 hx1 hx2 hx3
      clear hm HM0 hb1
      go_wp2
      go_region
      go_wp2
      go_roundw
      case rel =>
        have hm := HM.out
        have hb1 := HB1.out
        have hW : ∀ b, b ≠ w.heap.size + 1 → b < wr.heap.size → ((((wr.alloc (.cells (u8s (List.replicate sz 0)).toArray 5)).setCell ⟨w.heap.size + 1, k * 3, none⟩ (.int .i64 k)).setCell ⟨w.heap.size + 1, k * 3 + 1, none⟩ (.slice (some ⟨wr.heap.size, 0, none⟩) sz sz)).setCell ⟨w.heap.size + 1, k * 3 + 2, none⟩ (.slice none 0 0)).drew.heap[b]? = wr.heap[b]? := fun b h1 h2 =>
          (set_other h1).trans ((set_other h1).trans ((set_other h1).trans (hb1.block b h2)))
        refine ⟨k + 1, by omega, by go_num, ?_, ?_, ?_, ?_, fun i hi => ?_, ?_⟩
        · have := hm.size; simp [World.setCell]; omega
        · rw [← madeT_set _ _ _ _ hlt, ← hm.size]
          have h2 := HX3.out
          simp only [List.setIfInBounds_toArray] at h2
          exact h2
        · exact (hW _ (by omega) (by omega)).trans hm.box4
        · exact (hW _ (by omega) (by omega)).trans hm.box5
        · by_cases e : i = k
          · subst e
            rw [← hm.size]
            have h1 : wr.heap.size ≠ w.heap.size + 1 := by omega
            exact (set_other h1).trans ((set_other h1).trans ((set_other h1).trans (World.alloc_heap_new wr _)))
          · exact (hW _ (by omega) (by have := hm.size; omega)).trans (hm.row i (by omega))
        · have hw1 : w.heap.size ≤ w.heap.size + 1 := Nat.le_succ _
          exact ((((hm.below.trans (hb1.mono hm.below.size)).setCell (p := ⟨w.heap.size + 1, k * 3, none⟩) hw1 _).setCell (p := ⟨w.heap.size + 1, k * 3 + 1, none⟩) hw1 _).setCell (p := ⟨w.heap.size + 1, k * 3 + 2, none⟩) hw1 _).drew
      case measure => simp [intOf]; omega
    · have hkn : k = n := by omega
      subst hkn
      have HM := hide hm
      have dk : decide ((k : Int) < (k : Int)) = false := by simp
      have c5 : wr.cell? ⟨w.heap.size + 1 + 1, 0, none⟩ = some (.int .i64 sz) := by rw [show w.heap.size + 1 + 1 = w.heap.size + 2 by omega, blk_cell hm.box5]; rfl
      have c6 : wr.cell? ⟨w.heap.size + 1 + 1, 1, none⟩ = some (.slice (some ⟨w.heap.size + 1, 0, none⟩) k k) := by rw [show w.heap.size + 1 + 1 = w.heap.size + 2 by omega, blk_cell hm.box5]; rfl
      have c0 : wr.cell? ⟨w.heap.size, 0, none⟩ = some (.int .i64 0) := by rw [blk_cell hm.box4]; rfl
      have c1 : wr.cell? ⟨w.heap.size, 1, none⟩ = some (.slice none 0 0) := by rw [blk_cell hm.box4]; rfl
      have f0 := Joins.unfrozen_of_block hm.box4 0
      have f1 := Joins.unfrozen_of_block hm.box4 1
      clear hm HM0
      go_wp2
      have hm := HM.out
      have hb : Below w.heap.size w ((wr.setCell ⟨w.heap.size, 0, none⟩ (.int .i64 sz)).setCell ⟨w.heap.size, 1, none⟩ (.slice (some ⟨w.heap.size + 1, 0, none⟩) k k)) := (hm.below.setCell (p := ⟨w.heap.size, 0, none⟩) (Nat.le_refl _) _).setCell (p := ⟨w.heap.size, 1, none⟩) (Nat.le_refl _) _
      have hh : ∀ b, b ≠ w.heap.size → ((wr.setCell ⟨w.heap.size, 0, none⟩ (.int .i64 sz)).setCell ⟨w.heap.size, 1, none⟩ (.slice (some ⟨w.heap.size + 1, 0, none⟩) k k)).heap[b]? = wr.heap[b]? := fun b h =>
        (Below.heap_setCell _ ⟨w.heap.size, 1, none⟩ _ b (fun e => h e)).trans (Below.heap_setCell _ ⟨w.heap.size, 0, none⟩ _ b (fun e => h e))
      have e4 := Joins.block_setCell (i := 1) (Joins.block_setCell (i := 0) hm.box4 (.int .i64 sz)) (.slice (some ⟨w.heap.size + 1, 0, none⟩) k k)
      have d0 := blk_cell e4 0
      have d1 := blk_cell e4 1
      simp at d0 d1
      have hfin : RowsMade k sz w (.returned (.agg #[.int .i64 sz, .slice (some ⟨w.heap.size + 1, 0, none⟩) k k])) ((wr.setCell ⟨w.heap.size, 0, none⟩ (.int .i64 sz)).setCell ⟨w.heap.size, 1, none⟩ (.slice (some ⟨w.heap.size + 1, 0, none⟩) k k)) :=
        ⟨_, w.heap.size + 3, rfl, by omega, by omega, by have := hm.size; simp; omega, (hh _ (by omega)).trans hm.cel, fun i hi => (hh _ (by omega)).trans (hm.row i hi), hb⟩
      clear hm hb hh e4
      generalize (wr.setCell ⟨w.heap.size, 0, none⟩ (.int .i64 sz)).setCell ⟨w.heap.size, 1, none⟩ (.slice (some ⟨w.heap.size + 1, 0, none⟩) k k) = W9 at *
      exact bodyPost_ret (v := .agg #[.int .i64 sz, .slice (some ⟨w.heap.size + 1, 0, none⟩) k k]) (by simp [results, Try.results34, go_sem, d0, d1]) rfl hfin
end Go.Proofs.Ythefgfcjjbjjkaa
