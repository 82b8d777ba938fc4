/-
  A program of as many slots as are asked for: made, filled; what is told of it.
-/
import Derived.Test.YtjnmfgkjeofneaaAw
namespace Go.Proofs.Ytjnmfgkjeofneaa
open Go.RowKit
set_option linter.unusedVariables false

/-- A block of n slots; of those of which K holds it is known which they are. -/
def Slots5 (W : World) (g n : Nat) (K : Nat → Prop) (f : Nat → Ins) : Prop := ∃ L : List Value, L.length = n * 5 ∧ W.heap[g]? = some (.cells L.toArray 42 (0, 0)) ∧ ∀ i, i < n → K i → ∀ j u, (f i).cells[j]? = some u → L[i * 5 + j]? = some u
theorem Slots5.free {W : World} {g n : Nat} {K : Nat → Prop} {f : Nat → Ins} (h : Slots5 W g n K f) (j : Nat) : W.frozen? ⟨g, j, none⟩ = false := by
  obtain ⟨L, h1, h2, h3⟩ := h
  exact Joins.unfrozen_of_block h2 j
theorem Slots5.cellAt {W : World} {g n : Nat} {K : Nat → Prop} {f : Nat → Ins} (h : Slots5 W g n K f) {k : Nat} (hk : k < n * 5) : ∃ v, W.cell? ⟨g, k, none⟩ = some v := by
  obtain ⟨L, h1, h2, h3⟩ := h
  exact ⟨L[k]'(by omega), by rw [blk_cell h2]; simp⟩
theorem Slots5.set {W : World} {g n : Nat} {K : Nat → Prop} {f : Nat → Ins} (h : Slots5 W g n K f) (k : Nat) (hk : k < n) (op dst src off imm : Int) :
    Slots5 (((((W.setCell ⟨g, k * 5, none⟩ (.int .u8 op)).setCell ⟨g, k * 5 + 1, none⟩ (.int .u8 dst)).setCell ⟨g, k * 5 + 2, none⟩ (.int .u8 src)).setCell ⟨g, k * 5 + 3, none⟩ (.int .i16 off)).setCell ⟨g, k * 5 + 4, none⟩ (.int .i32 imm)) g n
      (fun i => K i ∨ i = k) (fun i => if i = k then ⟨op, dst, src, off, imm⟩ else f i) ∧
    W.grownBy (((((W.setCell ⟨g, k * 5, none⟩ (.int .u8 op)).setCell ⟨g, k * 5 + 1, none⟩ (.int .u8 dst)).setCell ⟨g, k * 5 + 2, none⟩ (.int .u8 src)).setCell ⟨g, k * 5 + 3, none⟩ (.int .i16 off)).setCell ⟨g, k * 5 + 4, none⟩ (.int .i32 imm)) (some g) := by
  obtain ⟨L, h1, h2, h3⟩ := h
  constructor
  · have e1 := Joins.block_setCell (i := k * 5) h2 (.int .u8 op)
    have e2 := Joins.block_setCell (i := k * 5 + 1) e1 (.int .u8 dst)
    have e3 := Joins.block_setCell (i := k * 5 + 2) e2 (.int .u8 src)
    have e4 := Joins.block_setCell (i := k * 5 + 3) e3 (.int .i16 off)
    have e5 := Joins.block_setCell (i := k * 5 + 4) e4 (.int .i32 imm)
    refine ⟨((((L.set (k * 5) (.int .u8 op)).set (k * 5 + 1) (.int .u8 dst)).set (k * 5 + 2) (.int .u8 src)).set (k * 5 + 3) (.int .i16 off)).set (k * 5 + 4) (.int .i32 imm), by simpa using h1, by simpa using e5, fun i hi hK j u hu => ?_⟩
    have hj : j < 5 := by have := (List.getElem?_eq_some_iff.1 hu).1; simpa [Ins.cells] using this
    by_cases e : i = k
    · subst e
      simp only [if_true] at hu
      match j, hj with
      | 0, _ => rw [List.getElem?_set_ne (by omega), List.getElem?_set_ne (by omega), List.getElem?_set_ne (by omega), List.getElem?_set_ne (by omega), Nat.add_zero, List.getElem?_set_self (by omega)]; exact hu
      | 1, _ => rw [List.getElem?_set_ne (by omega), List.getElem?_set_ne (by omega), List.getElem?_set_ne (by omega), List.getElem?_set_self (by simp; omega)]; exact hu
      | 2, _ => rw [List.getElem?_set_ne (by omega), List.getElem?_set_ne (by omega), List.getElem?_set_self (by simp; omega)]; exact hu
      | 3, _ => rw [List.getElem?_set_ne (by omega), List.getElem?_set_self (by simp; omega)]; exact hu
      | 4, _ => rw [List.getElem?_set_self (by simp; omega)]; exact hu
    · simp only [if_neg e] at hu
      rw [List.getElem?_set_ne (by omega), List.getElem?_set_ne (by omega), List.getElem?_set_ne (by omega), List.getElem?_set_ne (by omega), List.getElem?_set_ne (by omega)]
      exact h3 i hi (hK.resolve_right e) j u hu
  · exact grown_row (grown_row (grown_row (grown_row (grown_set _ _ _ _) (grown_set _ _ _ _)) (grown_set _ _ _ _)) (grown_set _ _ _ _)) (grown_set _ _ _ _)
theorem Slots5.rd {W : World} {g n : Nat} {K : Nat → Prop} {f : Nat → Ins} (h : Slots5 W g n K f) (hK : ∀ i, i < n → K i) (l : List Ins) (hl : l.length = n) (hf : ∀ i, i < n → l[i]? = some (f i)) : Rd W (g + 1) 5 (some ⟨g, 0, none⟩) n (pcells l) := by
  obtain ⟨L, h1, h2, h3⟩ := h
  refine ⟨by unfold pcells; rw [flat_length Ins.cells 5 (fun _ => rfl), hl], fun _ => ⟨_, rfl, Nat.lt_succ_self _, fun j u hu => ?_⟩⟩
  have e : (⟨g, 0, none⟩ : Addr).add j = ⟨g, j, none⟩ := by unfold Addr.add; split <;> simp_all
  rw [e, blk_cell h2]
  unfold pcells at hu
  have hj : j < n * 5 := by
    have := (List.getElem?_eq_some_iff.1 hu).1
    rwa [flat_length Ins.cells 5 (fun _ => rfl), hl] at this
  have hd : j = j / 5 * 5 + j % 5 := by omega
  rw [hd, flat_at Ins.cells 5 (fun _ => rfl) l (j / 5) (j % 5) (by omega), hf (j / 5) (by omega)] at hu
  rw [hd]
  simpa using h3 (j / 5) (by omega) (hK _ (by omega)) (j % 5) u hu
theorem slotInfo : (Try.prog.info? 42).map (fun i => (i.zero, i.size, i.bytes)) = some (some (.agg #[.int .u8 0, .int .u8 0, .int .u8 0, .int .i16 0, .int .i32 0]), 5, 12) := by kernel_rfl
theorem made_slots (n : Nat) (hn : n ≤ 5000) : ∃ C : Array Value, C.size = n * 5 ∧ ∀ w : World, (Instr.makeSlice 22 (.int .i64 (n : Int)) (.int .i64 (n : Int))).run Try.prog w = .ok (.slice (some ⟨w.heap.size, 0, none⟩) n n) (w.alloc (.cells C 42)) := by
  obtain ⟨i0, hi, hz0, hz1, hz2⟩ := info_parts slotInfo
  refine ⟨madeCells (Value.agg #[.int .u8 0, .int .u8 0, .int .u8 0, .int .i16 0, .int .i32 0]).cells (n * i0.size), by rw [size_madeCells, hz1], fun w => ?_⟩
  have := run_make (P := Try.prog) w 22 42 i0 _ Try.underlying22 hi hz0 .i64 .i64 (n : Int) (n : Int) (by omega) (Int.le_refl _) (by rw [hz2]; omega) (by omega)
  simpa using this

/-- The places and slots of a program without loads of 64 bits. -/
theorem fsts_flat : ∀ (l : List Ins) (k : Nat), (∀ s ∈ l, s.op ≠ 24) → fsts k false l = l.mapIdx (fun i s => (k + i, s))
  | [], k, _ => rfl
  | s :: r, k, h => by
    rw [fsts, decide_eq_false (h s (by simp)), fsts_flat r (k + 1) (fun s hs => h s (by simp [hs])), List.mapIdx_cons]
    congr 1
    apply List.ext_getElem?
    intro i
    simp only [List.getElem?_mapIdx]
    cases r[i]? with
    | none => rfl
    | some x => simp; omega
theorem foldl_skip (qs : List (Nat × Ins)) (i : Nat) (h : ∀ q ∈ qs, q.1 ≠ i) : ∀ acc, qs.foldl (fun acc p => if p.1 = i then (nextI p, jumpI p) else acc) acc = acc := by
  induction qs with
  | nil => intro acc; rfl
  | cons q qs ih =>
    intro acc
    rw [List.foldl_cons, if_neg (h q (by simp))]
    exact ih (fun p hp => h p (by simp [hp])) acc
/-- The ways that are told of an instruction's place are its own. -/
theorem wayOf_at {ps : List (Nat × Ins)} (hr : ps.Pairwise (fun p q => p.1 < q.1)) {p : Nat × Ins} (hp : p ∈ ps) : wayOf ps p.1 = (nextI p, jumpI p) := by
  unfold wayOf
  generalize ((-1, -1) : Int × Int) = acc
  induction ps generalizing acc with
  | nil => simp at hp
  | cons q qs ih =>
    rw [List.pairwise_cons] at hr
    rw [List.mem_cons] at hp
    rw [List.foldl_cons]
    rcases hp with rfl | hp
    · rw [if_pos rfl]
      exact foldl_skip qs p.1 (fun q hq => by have := hr.1 q hq; omega) _
    · exact ih hr.2 hp _
/-- n - 1 moves and an exit. -/
def longP (n : Nat) : List Ins := List.replicate (n - 1) ⟨183, 0, 0, 0, 0⟩ ++ [⟨149, 0, 0, 0, 0⟩]
theorem longP_at (n : Nat) (hn : 0 < n) (i : Nat) (hi : i < n) : (longP n)[i]? = some (if i = n - 1 then ⟨149, 0, 0, 0, 0⟩ else ⟨183, 0, 0, 0, 0⟩) := by
  unfold longP
  by_cases e : i = n - 1
  · rw [if_pos e, List.getElem?_append_right (by simp; omega)]
    simp [e]
  · rw [if_neg e, List.getElem?_append_left (by simp; omega), List.getElem?_replicate, if_pos (by omega)]
theorem longP_mem {n : Nat} {s : Ins} (h : s ∈ longP n) : s = ⟨183, 0, 0, 0, 0⟩ ∨ s = ⟨149, 0, 0, 0, 0⟩ := by
  unfold longP at h
  rw [List.mem_append, List.mem_replicate, List.mem_singleton] at h
  rcases h with ⟨_, h⟩ | h
  · exact .inl h
  · exact .inr h
theorem longP_length (n : Nat) (hn : 0 < n) : (longP n).length = n := by simp [longP]; omega
theorem long_fine (n : Nat) (secs : List Int) (l : List Ins) (k : Nat) (hk : k < n) (s : Ins) (hs : s = ⟨183, 0, 0, 0, 0⟩ ∨ s = ⟨149, 0, 0, 0, 0⟩) : faultM n secs l k s = 0 := by
  have e1 : isB (bits .and .u8 183 7) 183 = true ∧ regsB ⟨183, 0, 0, 0, 0⟩ = true ∧ bits .and .u8 183 7 = 7 ∧ aluFits true ⟨183, 0, 0, 0, 0⟩ = true ∧ targetB ⟨183, 0, 0, 0, 0⟩ = false ∧ slotsN 183 = 1 := by decide +kernel
  have e2 : isB (bits .and .u8 149 7) 149 = true ∧ regsB ⟨149, 0, 0, 0, 0⟩ = true ∧ bits .and .u8 149 7 = 5 ∧ jmpFits true ⟨149, 0, 0, 0, 0⟩ = true ∧ targetB ⟨149, 0, 0, 0, 0⟩ = false ∧ slotsN 149 = 1 := by decide +kernel
  unfold faultM staysB
  rcases hs with rfl | rfl
  · obtain ⟨a1, a2, a3, a4, a5, a6⟩ := e1
    have hb : decide (k + 1 ≤ n) = true := by simp; omega
    simp only [a1, a2, a5, a6, hb]
    rw [a3]
    simp [fitsB, a4, faultE]
  · obtain ⟨a1, a2, a3, a4, a5, a6⟩ := e2
    have hb : decide (k + 1 ≤ n) = true := by simp; omega
    simp only [a1, a2, a5, a6, hb]
    rw [a3]
    simp [fitsB, a4, faultE]
theorem long_check (n : Nat) (hn : 0 < n) (hm : n ≤ 4096) : checkM (longP n) = (0, 0) := by
  have hl := longP_length n hn
  have hfs := fsts_flat (longP n) 0 (fun s hs => by rcases longP_mem hs with rfl | rfl <;> simp)
  unfold checkM
  rw [if_neg (by omega)]
  unfold checkL
  rw [find_none (fun p hp => ?_)]
  · have : lastOf (fsts 0 false (longP n)) = ⟨149, 0, 0, 0, 0⟩ := by
      rw [hfs]
      unfold lastOf longP
      simp [List.getLast?_eq_getElem?]
    simp only [this]
    rfl
  · obtain ⟨h0, h1, h2⟩ := fsts_mem _ _ _ _ hp
    unfold errM
    rw [long_fine _ _ _ _ (by omega) _ (longP_mem (List.mem_of_getElem? h2))]
    rfl
theorem long_next (n : Nat) (hn : 4095 ≤ n) (hm : n ≤ 4096) : nextM (longP n) 5 = (6, -1) := by
  have hl := longP_length n (by omega)
  have hfs := fsts_flat (longP n) 0 (fun s hs => by rcases longP_mem hs with rfl | rfl <;> simp)
  have hmem : (5, (⟨183, 0, 0, 0, 0⟩ : Ins)) ∈ fsts 0 false (longP n) := by
    rw [hfs, List.mem_iff_getElem?]
    exact ⟨5, by rw [List.getElem?_mapIdx, longP_at n (by omega) 5 (by omega), if_neg (by omega)]; rfl⟩
  unfold nextM
  rw [if_pos ⟨by rw [long_check n (by omega) hm], by omega, by rw [hl]; omega⟩]
  have := wayOf_at (fsts_rise (longP n) 0 false) hmem
  show wayOf _ 5 = _
  rw [this]
  decide +kernel
end Go.Proofs.Ytjnmfgkjeofneaa
