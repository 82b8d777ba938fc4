/-
  A row of one pair, repeated.
-/
import Derived.Test.YtjnmfgkjeofneaaRp1
import Derived.Laws.CopyRow
import Derived.Laws.CopyOwn
import Derived.RegionTactic
namespace Go.Proofs.Ytjnmfgkjeofneaa
open Go.RowKit
set_option linter.unusedVariables false
section
variable {P : Program}
theorem run_copy_rows (w : World) (dT sT ty elem : TypeId) (g o dLen dCap : Nat) (a : Addr) (sLen sCap : Nat) (cur : Array Value) (t : TypeId) (cs : List Value) (sz m : Nat)
    (hu : P.underlying dT = some (.slice elem)) (hs : (P.info? elem).map (·.size) = some sz)
    (hg : w.heap[g]? = some (.cells cur t (0, 0))) (hm : m = Nat.min sLen dLen) (hn : cs.length = m * sz)
    (hsrc : ∀ j v, cs[j]? = some v → w.cell? (a.add j) = some v) (hfit : o + cs.length ≤ cur.size) (h1 : ∀ v ∈ cs, v.oneCell' = true) :
    (Builtin.copy_ #[dT, sT] ty #[.slice (some ⟨g, o, none⟩) dLen dCap, .slice (some a) sLen sCap]).run P w =
      .ok (goInt m) (w.setRow g (splice cur.toList o cs).toArray) := by
  have hl := run_loadCells_list (P := P) w a cs hsrc
  have hst := run_storeCells_at P g o t cs 0 cur w hg (by simpa using hfit) h1
  cases hq : P.info? elem with
  | none => simp [hq] at hs
  | some i =>
    have hi : i.size = sz := by simpa [hq] using hs
    simp [Builtin.copy_, run_underlying hu, Builtin.lenOf, Builtin.firstCells, sizeOf, typeInfo, hq, hi, ← hm, ← hn, hl, hst, splice]
end
/-- The first k of n pairs are (-1, -1). -/
def Filled (W : World) (g n k : Nat) : Prop := ∃ L : List Value, L.length = n * 2 ∧ W.heap[g]? = some (.cells L.toArray 33 (0, 0)) ∧ ∀ j, j < k * 2 → L[j]? = some (.int .i64 (-1))
theorem pairInfo : (Try.prog.info? 33).map (fun i => (i.zero, i.size, i.bytes)) = some (some (.agg #[.int .i64 0, .int .i64 0]), 2, 16) := by kernel_rfl
theorem setRow_grown (w : World) (g : Nat) (cs : Array Value) : w.grownBy (w.setRow g cs) (some g) := ⟨rfl, rfl, rfl, by simp [World.setRow], fun k hk hn => setRow_other w g k cs (fun e => hn (by rw [e]))⟩
theorem copy_pairs (W : World) (g n k : Nat) (a : Addr) (sLen sCap dLen dCap m : Nat) (h : Filled W g n k) (hk : k ≤ n) (hm : m = Nat.min sLen dLen) (hkm : k + m ≤ n)
    (hsrc : ∀ j, j < m * 2 → W.cell? (a.add j) = some (.int .i64 (-1))) : ∃ W', (∀ ty, (Builtin.copy_ #[31, 31] ty #[.slice (some ⟨g, k * 2, none⟩) dLen dCap, .slice (some a) sLen sCap]).run Try.prog W = .ok (goInt m) W') ∧ Filled W' g n (k + m) ∧ W.grownBy W' (some g) := by
  obtain ⟨L, h1, h2, h3⟩ := h
  obtain ⟨i0, hi, hz0, hz1, hz2⟩ := info_parts pairInfo
  refine ⟨W.setRow g (splice L (k * 2) (List.replicate (m * 2) (.int .i64 (-1)))).toArray, fun ty => ?_, ⟨_, ?_, setRow_heap W g _ _ 33 _ h2, ?_⟩, setRow_grown _ _ _⟩
  · have := run_copy_rows (P := Try.prog) W 31 31 ty 33 g (k * 2) dLen dCap a sLen sCap L.toArray 33 (List.replicate (m * 2) (.int .i64 (-1))) 2 m Try.underlying31 (by rw [hi]; simp [hz1]) h2 hm (by simp)
      (fun j v hv => by
        have hj : j < m * 2 := by have := (List.getElem?_eq_some_iff.1 hv).1; simpa using this
        rw [List.getElem?_replicate, if_pos hj] at hv
        rw [hsrc j hj, ← hv]) (by simp; omega) (by intro v hv; rw [List.mem_replicate] at hv; rw [hv.2]; rfl)
    exact this
  · rw [length_splice _ _ _ (by simp; omega), h1]
  · intro j hj
    unfold splice
    rcases Nat.lt_or_ge j (k * 2) with hlt | hge
    · rw [List.getElem?_append_left (by simp; omega), List.getElem?_take_of_lt hlt]
      exact h3 j hlt
    · rw [List.getElem?_append_right (by simp; omega), List.length_take, Nat.min_eq_left (by omega), List.getElem?_append_left (by simp; omega), List.getElem?_replicate, if_pos (by omega)]
theorem made_pairs (n : Nat) (hn : n ≤ 4096) (w : World) : ∃ C : Array Value, C.size = n * 2 ∧ ∀ w : World, (Instr.makeSlice 31 (.int .i64 (n : Int)) (.int .i64 (n : Int))).run Try.prog w = .ok (.slice (some ⟨w.heap.size, 0, none⟩) n n) (w.alloc (.cells C 33)) := by
  obtain ⟨i0, hi, hz0, hz1, hz2⟩ := info_parts pairInfo
  refine ⟨madeCells (Value.agg #[.int .i64 0, .int .i64 0]).cells (n * i0.size), by rw [size_madeCells, hz1], fun w => ?_⟩
  have := run_make (P := Try.prog) w 31 33 i0 _ Try.underlying31 hi hz0 .i64 .i64 (n : Int) (n : Int) (by omega) (Int.le_refl _) (by rw [hz2]; omega) (by omega)
  simpa using this
set_option maxRecDepth 100000 in
set_option maxHeartbeats 2000000 in
theorem repeat_any (xb n : Nat) (w : World) (h0 : w.cell? ⟨xb, 0, none⟩ = some (.int .i64 (-1))) (h1 : w.cell? ⟨xb, 1, none⟩ = some (.int .i64 (-1))) (hx : xb < w.heap.size) (hn : n ≤ 4096) (hn0 : 0 < n) :
    Calls Try.prog 32 #[.slice (some ⟨xb, 0, none⟩) 1 1, .int .i64 n] w fun e w' => e = .returned (.slice (some ⟨w.heap.size, 0, none⟩) n n) ∧ Filled w' w.heap.size n n ∧ Below w.heap.size w w' := by
  obtain ⟨C, hC, hmk⟩ := made_pairs n hn w
  have hf0 : Filled (w.alloc (.cells C 33)) w.heap.size n 0 := ⟨C.toList, by simp [hC], World.alloc_heap_new w _, fun j hj => by omega⟩
  obtain ⟨W1, hcp, hf1, hg1⟩ := copy_pairs (w.alloc (.cells C 33)) w.heap.size n 0 ⟨xb, 0, none⟩ 1 1 n n 1 hf0 (by omega) (by rw [show Nat.min 1 n = min 1 n from rfl]; omega) (by omega) (fun j hj => by
    have hb : ∀ o, (w.alloc (.cells C 33)).cell? ⟨xb, o, none⟩ = w.cell? ⟨xb, o, none⟩ := fun o => (below1 w _).cell (p := ⟨xb, o, none⟩) hx
    have : j = 0 ∨ j = 1 := by omega
    rcases this with rfl | rfl
    · exact (hb 0).trans h0
    · exact (hb 1).trans h1)
  have HF := hide hf1
  have HB := hide ((below1 w (.cells C 33)).grown hg1 (by simp) (fun k e => by cases e; exact Nat.le_refl _))
  clear hf0 hf1 hg1
  simp only [Nat.zero_mul] at hcp
  go_enter Try.func32, Try.ntmps32
  go_wp2_with fail
  refine (mul_any n _ hn).mono ?_
  rintro e w' ⟨rfl, rfl⟩
  go_wp2
  go_loopw [8] (fun p wr => ∃ k : Nat, 1 ≤ k ∧ k ≤ n ∧ p = .int .i64 k ∧ Filled wr w.heap.size n k ∧ Below w.heap.size w wr) (fun p _ => n - (intOf p).toNat)
  case atStart => exact ⟨1, by omega, by omega, rfl, HF.out, HB.out⟩
  case round =>
    obtain ⟨k, hk1, hk, rfl, hfk, hbk⟩ := hrel
    by_cases hlt : k < n
    · obtain ⟨m, hm⟩ : ∃ m, m = Nat.min k (n - k) := ⟨_, rfl⟩
      have hm2 : m = min k (n - k) := hm
      obtain ⟨W2, hcp2, hf2, hg2⟩ := copy_pairs wr.drew w.heap.size n k ⟨w.heap.size, 0, none⟩ k n (n - k) (n - k) m (by obtain ⟨L, a, b, c⟩ := hfk; exact ⟨L, a, b, c⟩) (by omega) hm (by omega) (fun j hj => by
        obtain ⟨L, a, b, c⟩ := hfk
        have e : (⟨w.heap.size, 0, none⟩ : Addr).add j = ⟨w.heap.size, j, none⟩ := by unfold Addr.add; split <;> simp_all
        rw [e, World.cell?_drew, blk_cell b j]
        simpa using c j (by omega))
      have HF2 := hide hf2
      have HB2 := hide ((hbk.drew).grown hg2 (by show w.heap.size ≤ wr.heap.size; exact hbk.size) (fun k e => by cases e; exact Nat.le_refl _))
      have HM := hide hm
      clear hfk hbk hf2 hg2 hm hcp
      go_wp2
      go_region
      go_wp2
      go_roundw
      case rel => exact ⟨k + m, by omega, by omega, by rw [hm2]; go_num, HF2.out, HB2.out⟩
      case measure => simp [intOf]; omega
    · have hkn : k = n := by omega
      subst hkn
      have HFK := hide hfk
      have HBK := hide hbk
      clear hfk hbk hcp
      go_wp2
      go_ret
      exact ⟨rfl, HFK.out, HBK.out⟩
end Go.Proofs.Ytjnmfgkjeofneaa
