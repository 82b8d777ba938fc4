/-
  The document's Ways.
-/
import Derived.Test.YtjnmfgkjeofneaaQ8
namespace Go.Proofs.Ytjnmfgkjeofneaa
open Go.RowKit Go.Maps
set_option linter.unusedVariables false

theorem made_zero_pairs (n : Nat) (hn : n ≤ 4096) : ∃ C : Array Value, (∀ w : World, (Instr.makeSlice 31 (.int .i64 (n : Int)) (.int .i64 (n : Int))).run Try.prog w = .ok (.slice (some ⟨w.heap.size, 0, none⟩) n n) (w.alloc (.cells C 33))) ∧
    ∀ w : World, Pairs (w.alloc (.cells C 33)) w.heap.size n (fun _ => (0, 0)) := by
  obtain ⟨i0, hi, hz0, hz1, hz2⟩ := info_parts pairInfo
  refine ⟨madeCells (Value.agg #[.int .i64 0, .int .i64 0]).cells (n * 2), fun w => ?_, fun w => ?_⟩
  · have := run_make (P := Try.prog) w 31 33 i0 _ Try.underlying31 hi hz0 .i64 .i64 (n : Int) (n : Int) (by omega) (Int.le_refl _) (by rw [hz2]; omega) (by omega)
    rw [hz1] at this
    simpa using this
  · have hall : ∀ j, j < n * 2 → (madeCells (Value.agg #[.int .i64 0, .int .i64 0]).cells (n * 2)).toList[j]? = some (.int .i64 0) := by
      intro j hj
      unfold madeCells
      rw [Array.getElem?_toList, Array.getElem?_map, Array.getElem?_range]
      rw [if_pos hj]
      have : j % 2 = 0 ∨ j % 2 = 1 := by omega
      rcases this with h | h <;> simp [Value.cells, h]
    refine ⟨(madeCells (Value.agg #[.int .i64 0, .int .i64 0]).cells (n * 2)).toList, by rw [Array.length_toList, size_madeCells], World.alloc_heap_new w _, fun i hi => ⟨hall _ (by omega), hall _ (by omega)⟩⟩

theorem ways_no_doc (A : Option Addr) (m c B : Nat) (l : List Ins) (w : World) (hp : Rd w B 5 A m (pcells l)) (hB : B ≤ w.heap.size) (hf : ∀ s ∈ l, s.Fits) (r : m ≤ 140737488351232) (hno : (checkM l).2 ≠ 0) :
    Calls Try.prog 15 #[.slice A m c] w fun e w' => e = .returned (.slice none 0 0) ∧ Below w.heap.size w w' := by
  have hC := hide (check_doc_all A m c B l w hp hB hf r)
  generalize (checkM l).1 = x at hC
  generalize (checkM l).2 = y at hC hno
  have hy : (y == 0) = false := by simpa using hno
  have hy2 : (y != 0) = true := by simpa using hno
  clear hno hp hf
  go_enter Try.func15, Try.ntmps15
  go_wp2_with fail
  refine hC.out.mono ?_
  rintro e w1 ⟨rfl, hb1⟩
  go_wp2
  go_ret
  exact ⟨rfl, hb1⟩

set_option maxRecDepth 100000 in
set_option maxHeartbeats 4000000 in
theorem ways_doc (A : Option Addr) (n c B : Nat) (l : List Ins) (w : World) (hp : Rd w B 5 A n (pcells l)) (hB : B ≤ w.heap.size) (hf : ∀ s ∈ l, s.Fits) (r : n ≤ 140737488351232) (hok : (checkM l).2 = 0) :
    Calls Try.prog 15 #[.slice A n c] w fun e w' => ∃ g, e = .returned (.slice (some ⟨g, 0, none⟩) n n) ∧ w.heap.size ≤ g ∧ Pairs w' g n (wayOf (fsts 0 false l)) ∧ Below w.heap.size w w' := by
  have hll : l.length = n := hp.prg.1
  have HC := hide (check_doc_all A n c B l w hp hB hf r)
  rw [hok] at HC
  generalize (checkM l).1 = cx at HC
  obtain ⟨h0, h1⟩ := check_ok hok
  rw [hll] at h0 h1
  obtain ⟨C, hmk, hbo⟩ := made_zero_pairs n h1
  have HFR := hide (fun (W : World) (hW : Below w.heap.size w W) => firsts_ref A n c B l W (hp.below (hW.mono hB)) (Nat.le_trans hB hW.size) h1)
  have HN := hide (fun (k : Nat) (s : Ins) (hs : l[k]? = some s) (hfk : firstAt l k = true) (W : World) (hW : Below w.heap.size w W) => next1_doc A n c B k l s W (hp.below (hW.mono hB)) (Nat.le_trans hB hW.size) h1 hs (hf s (List.mem_of_getElem? hs)) (first_isB hok hs hfk))
  have HP0 := hide hbo
  have HLL := hide hll
  clear hok hp hf hll hbo
  go_enter Try.func15, Try.ntmps15
  go_wp2_with fail
  refine HC.out.mono ?_
  rintro e w1 ⟨rfl, hb1⟩
  have HB1 := hide hb1
  clear hb1
  go_wp2_with fail
  refine (HFR.out _ HB1.out).mono ?_
  rintro e w2 ⟨rfl, hbo, hb2⟩
  have HBO := hide hbo
  have HB2 := hide (HB1.out.trans (hb2.mono HB1.out.size))
  have hg1 := hbo.lt
  have hg0 := HB1.out.size
  clear hbo hb2
  go_wp2_with fail
  go_loopw [7] (fun p wr => ∃ k : Nat, k ≤ n ∧ p = .int .i64 k ∧ Pairs wr w2.heap.size n (fun i => if i < k then wayOf (fsts 0 false l) i else (0, 0)) ∧ Bools wr w1.heap.size n (fun i => firstAt l i) ∧ Below w.heap.size w wr) (fun p _ => n - (intOf p).toNat)
  case atStart => exact ⟨0, by omega, rfl, (HP0.out w2).ext (fun i _ => by simp), HBO.out.below (below1 _ _), HB2.out.alloc HB2.out.size _⟩
  case round =>
    obtain ⟨k, hk, rfl, hpa, hbo, hb⟩ := hrel
    have HPA := hide hpa
    have HO := hide hbo
    have HB := hide hb
    clear hpa hbo hb HBO HB1
    by_cases hlt : k < n
    · obtain ⟨s, hs⟩ : ∃ s, l[k]? = some s := ⟨_, List.getElem?_eq_getElem (by rw [HLL.out]; exact hlt)⟩
      have HS := hide hs
      clear hs
      obtain ⟨q0, q1⟩ := HPA.out.cell hlt
      rw [if_neg (by omega)] at q0 q1
      have z0 := HPA.out.free (k * 2)
      have z1 := HPA.out.free (k * 2 + 1)
      have hd : decide ((k : Int) < (n : Int)) = true := by simp; omega
      have hd2 : decide (k < n) = true := by simp; omega
      have hc0 := HO.out.cell hlt
      have hc : ∀ u v, ((wr.setCell ⟨w2.heap.size, k * 2, none⟩ u).setCell ⟨w2.heap.size, k * 2 + 1, none⟩ v).cell? ⟨w1.heap.size, k, none⟩ = some (.bool (firstAt l k)) := fun u v => by
        rw [← hc0]
        exact World.cell?_of_block ((Below.heap_setCell _ ⟨w2.heap.size, k * 2 + 1, none⟩ v w1.heap.size (by simp; omega)).trans (Below.heap_setCell _ ⟨w2.heap.size, k * 2, none⟩ u w1.heap.size (by simp; omega)))
      have HSP : ∀ u v, Hid (Pairs ((wr.setCell ⟨w2.heap.size, k * 2, none⟩ (.int .i64 u)).setCell ⟨w2.heap.size, k * 2 + 1, none⟩ (.int .i64 v)) w2.heap.size n (fun i => if i = k then (u, v) else if i < k then wayOf (fsts 0 false l) i else (0, 0))) := fun u v =>
        ((HPA.out.set0 k hlt u).set1 k hlt v).ext (fun i hi => by by_cases e : i = k <;> simp [e])
      have HSO : ∀ u v, Hid (Bools ((wr.setCell ⟨w2.heap.size, k * 2, none⟩ (.int .i64 u)).setCell ⟨w2.heap.size, k * 2 + 1, none⟩ (.int .i64 v)) w1.heap.size n (fun i => firstAt l i)) := fun u v =>
        HO.out.same ((Below.heap_setCell _ ⟨w2.heap.size, k * 2 + 1, none⟩ _ w1.heap.size (by simp; omega)).trans (Below.heap_setCell _ ⟨w2.heap.size, k * 2, none⟩ _ w1.heap.size (by simp; omega)))
      have HSB : ∀ u v, Hid (Below w.heap.size w ((wr.setCell ⟨w2.heap.size, k * 2, none⟩ (.int .i64 u)).setCell ⟨w2.heap.size, k * 2 + 1, none⟩ (.int .i64 v))) := fun u v =>
        (HB.out.setCell (p := ⟨w2.heap.size, k * 2, none⟩) HB2.out.size _).setCell (p := ⟨w2.heap.size, k * 2 + 1, none⟩) HB2.out.size _
      have HSP1 := HSP (-1) (-1)
      have HSO1 := HSO (-1) (-1)
      have HSB1 := HSB (-1) (-1)
      clear hc0 HSP HSO HSB
      cases hfk : firstAt l k
      · rw [hfk] at hc
        have HW := hide (way_not (l := l) (k := k) (by rw [HLL.out]; exact hlt) hfk)
        clear hfk
        go_wp2
        go_roundw
        case rel =>
          refine ⟨k + 1, by omega, by go_num, HSP1.out.ext (fun i hi => ?_), HSO1.out, HSB1.out⟩
          by_cases e : i = k
          · subst e
            rw [if_pos rfl, if_pos (by omega), HW.out]
          · rw [if_neg e]
            by_cases h : i < k
            · rw [if_pos h, if_pos (by omega)]
            · rw [if_neg h, if_neg (by omega)]
        case measure => simp [intOf]; omega
      · rw [hfk] at hc
        have HW := hide (way_first HS.out hfk)
        have HNK := hide (HN.out k s HS.out hfk)
        generalize nextI (k, s) = nx at *
        generalize jumpI (k, s) = jx at *
        clear hfk
        go_wp2_with fail
        refine (HNK.out _ HSB1.out).mono ?_
        rintro e w3 ⟨rfl, hb3⟩
        have HP3 := hide (HSP1.out.same (hb3.block _ HSP1.out.lt))
        have HO3 := hide (HSO1.out.below hb3)
        have HB3 := hide (HSB1.out.trans (hb3.mono HSB1.out.size))
        obtain ⟨p0, p1⟩ := HP3.out.cell hlt
        simp only [if_true] at p0 p1
        have y0 := HP3.out.free (k * 2)
        have y1 := HP3.out.free (k * 2 + 1)
        clear hb3 HSP1 HSO1 HSB1
        go_wp2
        go_roundw
        case rel =>
          refine ⟨k + 1, by omega, by go_num, ((HP3.out.set0 k hlt nx).set1 k hlt jx).ext (fun i hi => ?_), HO3.out.same ((Below.heap_setCell _ ⟨w2.heap.size, k * 2 + 1, none⟩ _ w1.heap.size (by simp; omega)).trans (Below.heap_setCell _ ⟨w2.heap.size, k * 2, none⟩ _ w1.heap.size (by simp; omega))),
            (HB3.out.setCell (p := ⟨w2.heap.size, k * 2, none⟩) HB2.out.size _).setCell (p := ⟨w2.heap.size, k * 2 + 1, none⟩) HB2.out.size _⟩
          by_cases e : i = k
          · subst e
            rw [if_pos (show i < i + 1 by omega), HW.out]
            simp
          · simp only [if_neg e]
            by_cases h : i < k
            · rw [if_pos h, if_pos (by omega)]
            · rw [if_neg h, if_neg (by omega)]
        case measure => simp [intOf]; omega
    · have hd : decide ((k : Int) < (n : Int)) = false := by simp; omega
      have hd2 : decide (k < n) = false := by simp; omega
      go_wp2
      go_ret
      exact ⟨w2.heap.size, rfl, HB2.out.size, HPA.out.ext (fun i hi => by rw [if_pos (by omega)]), HB.out⟩
end Go.Proofs.Ytjnmfgkjeofneaa
