/-
  A row of bools of one's own; the document's Firsts.
-/
import Derived.Test.YtjnmfgkjeofneaaQ4w
import Derived.Laws.OwnMore
namespace Go.Proofs.Ytjnmfgkjeofneaa
open Go.RowKit Go.Maps
set_option linter.unusedVariables false

/-- Block g holds n bools. -/
def Bools (W : World) (g n : Nat) (f : Nat → Bool) : Prop := ∃ L : List Value, L.length = n ∧ W.heap[g]? = some (.cells L.toArray 4 (0, 0)) ∧ ∀ i, i < n → L[i]? = some (.bool (f i))
section
variable {W W' : World} {g n : Nat} {f f' : Nat → Bool}
theorem Bools.lt (h : Bools W g n f) : g < W.heap.size := by obtain ⟨L, h1, h2, h3⟩ := h; exact at_lt h2
theorem Bools.same (h : Bools W g n f) (hb : W'.heap[g]? = W.heap[g]?) : Bools W' g n f := by
  obtain ⟨L, h1, h2, h3⟩ := h
  exact ⟨L, h1, hb.trans h2, h3⟩
theorem Bools.below (h : Bools W g n f) (hb : Below W.heap.size W W') : Bools W' g n f := h.same (hb.block g h.lt)
theorem Bools.cell (h : Bools W g n f) {i : Nat} (hi : i < n) : W.cell? ⟨g, i, none⟩ = some (.bool (f i)) := by
  obtain ⟨L, h1, h2, h3⟩ := h
  rw [blk_cell h2]
  simpa using h3 i hi
theorem Bools.free (h : Bools W g n f) (j : Nat) : W.frozen? ⟨g, j, none⟩ = false := by
  obtain ⟨L, h1, h2, h3⟩ := h
  exact Joins.unfrozen_of_block h2 j
theorem Bools.ext (h : Bools W g n f) (he : ∀ i, i < n → f i = f' i) : Bools W g n f' := by
  obtain ⟨L, h1, h2, h3⟩ := h
  exact ⟨L, h1, h2, fun i hi => by rw [← he i hi]; exact h3 i hi⟩
theorem Bools.set (h : Bools W g n f) (k : Nat) (hk : k < n) (v : Bool) : Bools (W.setCell ⟨g, k, none⟩ (.bool v)) g n (fun i => if i = k then v else f i) := by
  obtain ⟨L, h1, h2, h3⟩ := h
  refine ⟨L.set k (.bool v), by simpa using h1, by have := Joins.block_setCell (i := k) h2 (.bool v); simpa using this, fun i hi => ?_⟩
  by_cases e : i = k
  · subst e
    rw [List.getElem?_set_self (by omega)]
    simp
  · rw [List.getElem?_set_ne (by omega)]
    simpa [e] using h3 i hi
end
theorem boolInfo : (Try.prog.info? 4).map (fun i => (i.zero, i.size, i.bytes)) = some (some (.bool false), 1, 1) := by kernel_rfl
theorem made_bools (n : Nat) (hn : n ≤ 4096) : ∃ C : Array Value, (∀ w : World, (Instr.makeSlice 44 (.int .i64 (n : Int)) (.int .i64 (n : Int))).run Try.prog w = .ok (.slice (some ⟨w.heap.size, 0, none⟩) n n) (w.alloc (.cells C 4))) ∧
    ∀ w : World, Bools (w.alloc (.cells C 4)) w.heap.size n (fun _ => false) := by
  obtain ⟨i0, hi, hz0, hz1, hz2⟩ := info_parts boolInfo
  refine ⟨madeCells #[.bool false] n, fun w => ?_, fun w => ⟨List.replicate n (.bool false), by simp, ?_, fun i hi => by simp [List.getElem?_replicate, hi]⟩⟩
  · have := run_make (P := Try.prog) w 44 4 i0 _ Try.underlying44 hi hz0 .i64 .i64 (n : Int) (n : Int) (by omega) (Int.le_refl _) (by rw [hz2]; omega) (by omega)
    rw [hz1, show (Value.bool false).cells = #[.bool false] from rfl] at this
    simpa using this
  · rw [← toList_madeCells_one]
    simpa using World.alloc_heap_new w (.cells (madeCells #[.bool false] n) 4)

theorem firstsL_step : ∀ (l : List Ins) (b : Bool) (k : Nat) (s : Ins), (firstsL b l)[k]? = some true → l[k]? = some s → (firstsL b l).drop (k + 1) = firstsL (decide (s.op = 24)) (l.drop (k + 1))
  | [], b, k, s, _, h => by simp at h
  | x :: r, true, 0, s, h, _ => by simp [firstsL] at h
  | x :: r, true, k + 1, s, h, hs => by
    simp only [firstsL, List.getElem?_cons_succ, List.drop_succ_cons] at h hs ⊢
    exact firstsL_step r false k s h hs
  | x :: r, false, 0, s, h, hs => by
    simp at hs
    subst hs
    simp [firstsL]
  | x :: r, false, k + 1, s, h, hs => by
    simp only [firstsL, List.getElem?_cons_succ, List.drop_succ_cons] at h hs ⊢
    exact firstsL_step r _ k s h hs
theorem firstAt_is {l : List Ins} {k : Nat} (h : k < l.length) : (firstsL false l)[k]? = some (firstAt l k) := by
  unfold firstAt
  rw [Int.toNat_natCast, List.getElem?_eq_getElem (by rw [firstsL_length]; exact h)]
  rfl
theorem first_zero {l : List Ins} (h : 0 < l.length) : firstAt l (0 : Nat) = true := by
  match l, h with
  | x :: r, _ => simp [firstAt, firstsL]
theorem first_next {l : List Ins} {k : Nat} {s : Ins} (hk : k < l.length) (hf : firstAt l k = true) (hs : l[k]? = some s) :
    (s.op ≠ 24 → k + 1 < l.length → firstAt l (k + 1 : Nat) = true) ∧ (s.op = 24 → (k + 1 < l.length → firstAt l (k + 1 : Nat) = false) ∧ (k + 2 < l.length → firstAt l (k + 2 : Nat) = true)) := by
  have hstep := firstsL_step l false k s (by rw [firstAt_is hk, hf]) hs
  have hd : ∀ j, (firstsL false l)[k + 1 + j]? = (firstsL (decide (s.op = 24)) (l.drop (k + 1)))[j]? := fun j => by rw [← hstep, List.getElem?_drop]
  refine ⟨fun h24 h1 => ?_, fun h24 => ⟨fun h1 => ?_, fun h2 => ?_⟩⟩
  · have e := firstAt_is h1
    have := hd 0
    rw [Nat.add_zero, e, decide_eq_false h24, List.drop_eq_getElem_cons h1] at this
    simpa [firstsL] using this
  · have e := firstAt_is h1
    have := hd 0
    rw [Nat.add_zero, e, decide_eq_true h24, List.drop_eq_getElem_cons h1] at this
    simpa [firstsL] using this
  · have e := firstAt_is h2
    have := hd 1
    rw [show k + 1 + 1 = k + 2 by omega, e, decide_eq_true h24, List.drop_eq_getElem_cons (show k + 1 < l.length by omega), List.drop_eq_getElem_cons (show k + 1 + 1 < l.length by omega)] at this
    simpa [firstsL] using this

set_option maxRecDepth 100000 in
set_option maxHeartbeats 2000000 in
theorem firsts_ref (A : Option Addr) (n c B : Nat) (l : List Ins) (w : World) (h : Rd w B 5 A n (pcells l)) (hB : B ≤ w.heap.size) (hn : n ≤ 4096) :
    Calls Try.prog 27 #[.slice A n c] w fun e w' => e = .returned (.slice (some ⟨w.heap.size, 0, none⟩) n n) ∧ Bools w' w.heap.size n (fun i => firstAt l i) ∧ Below w.heap.size w w' := by
  have hll : l.length = n := h.prg.1
  obtain ⟨C, hmk, hbo⟩ := made_bools n hn
  have HB0 := hide (hbo w)
  have HH := hide h
  have HLL := hide hll
  clear hbo h hll
  go_enter Try.func27, Try.ntmps27
  go_wp2
  go_loopw [4] (fun p wr => ∃ k : Nat, k ≤ n + 1 ∧ p = .int .i64 k ∧ Bools wr w.heap.size n (fun i => decide (i < k) && firstAt l i) ∧ (k < n → firstAt l k = true) ∧ Below w.heap.size w wr) (fun p _ => n + 1 - (intOf p).toNat)
  case atStart => exact ⟨0, by omega, rfl, HB0.out.ext (fun i _ => by simp), fun h0 => first_zero (by rw [HLL.out]; exact h0), below1 _ _⟩
  case round =>
    obtain ⟨k, hk, rfl, hbo, hfk, hb⟩ := hrel
    have HB := hide hb
    have HO := hide hbo
    have HF := hide hfk
    clear hb hbo hfk
    by_cases hlt : k < n
    · obtain ⟨ad, ⟨op, dst, src, off, imm⟩, rfl, hl, c0, c1, c2, c3, c4⟩ := (HH.out.below (HB.out.mono hB)).slot hlt
      simp only at c0 c1 c2 c3 c4
      have hg := HO.out.cell hlt
      have hz := HO.out.free k
      have hne : ad.block < w.heap.size := by
        obtain ⟨ad', e, hbl, _⟩ := HH.out.2 (by omega)
        cases e
        exact Nat.lt_of_lt_of_le hbl hB
      have hset : ∀ (p : Addr) (u v : Value), wr.cell? p = some v → p.block = ad.block → (wr.setCell ⟨w.heap.size, k, none⟩ u).cell? p = some v := fun p u v hv hp => by
        rw [← hv]
        exact World.cell?_of_block (Below.heap_setCell wr ⟨w.heap.size, k, none⟩ u p.block (by rw [hp]; simp; omega))
      replace c0 := fun u => hset _ u _ c0 (block_add ad _)
      replace c1 := fun u => hset _ u _ c1 (block_add ad _)
      replace c2 := fun u => hset _ u _ c2 (block_add ad _)
      replace c3 := fun u => hset _ u _ c3 (block_add ad _)
      replace c4 := fun u => hset _ u _ c4 (block_add ad _)
      have HN := first_next (l := l) (k := k) (by rw [HLL.out]; exact hlt) (HF.out hlt) hl
      have HNX := hide HN
      have HW := hide (fun w => wide_any op dst src off imm w)
      have HS : Hid (Bools (wr.setCell ⟨w.heap.size, k, none⟩ (.bool true)) w.heap.size n (fun i => decide (i < k + 1) && firstAt l i)) := by
        refine (HO.out.set k hlt true).ext (fun i hi => ?_)
        by_cases e : i = k
        · subst e
          rw [if_pos rfl, HF.out hlt]
          simp
        · rw [if_neg e, show decide (i < k + 1) = decide (i < k) by rw [decide_eq_decide]; omega]
      have HSB : Hid (Below w.heap.size w (wr.setCell ⟨w.heap.size, k, none⟩ (.bool true))) := HB.out.setCell (by simp) _
      clear hset hl HN hne HO HF HB
      have hd : decide ((k : Int) < (n : Int)) = true := by simp; omega
      have hd2 : decide (k < n) = true := by simp; omega
      by_cases h24 : op = 24
      · have hq : (op == 24) = true := by simpa using h24
        rw [hq] at HW
        obtain ⟨x1, x2⟩ := HNX.out.2 h24
        have HX1 := hide x1
        have HX2 := hide x2
        clear x1 x2 h24 hq
        go_wp2_with (go_at_call 52; (with_reducible refine (HW.out _).mono ?_); rintro e w1 ⟨rfl, hb1⟩)
        go_roundw
        case rel =>
          refine ⟨k + 2, by omega, by go_num, (HS.out.below hb1).ext (fun i hi => ?_), fun h => HX2.out (by rw [HLL.out]; exact h), HSB.out.trans (hb1.mono HSB.out.size)⟩
          by_cases e : i = k + 1
          · subst e
            have := HX1.out (by rw [HLL.out]; exact hi)
            rw [this]
            simp
          · rw [show decide (i < k + 1) = decide (i < k + 2) by rw [decide_eq_decide]; omega]
        case measure => simp [intOf]; omega
      · have hq : (op == 24) = false := by simpa using h24
        rw [hq] at HW
        have HX1 := hide (HNX.out.1 h24)
        clear h24 hq
        go_wp2_with (go_at_call 52; (with_reducible refine (HW.out _).mono ?_); rintro e w1 ⟨rfl, hb1⟩)
        go_roundw
        case rel => exact ⟨k + 1, by omega, by go_num, HS.out.below hb1, fun h => HX1.out (by rw [HLL.out]; exact h), HSB.out.trans (hb1.mono HSB.out.size)⟩
        case measure => simp [intOf]; omega
    · have hd : decide ((k : Int) < (n : Int)) = false := by simp; omega
      have hd2 : decide (k < n) = false := by simp; omega
      go_wp2
      go_ret
      exact ⟨rfl, HO.out.ext (fun i hi => by simp; omega), HB.out⟩
end Go.Proofs.Ytjnmfgkjeofneaa
