/-
  A word's bytes, and the word of bytes.
-/
import Derived.Test.YtkpoilcbdcddcaaF1
import Derived.Laws.BitsAllLaws
namespace Go.Proofs.Ytkpoilcbdcddcaa
open Go.RowKit
set_option linter.unusedVariables false

theorem Rd.byte {w : World} {B n k : Nat} {A : Option Addr} {l : List Int} (h : Rd w B 1 A n (u8s l)) (hk : k < n) : ∃ ad b, A = some ad ∧ l[k]? = some b ∧ w.cell? (ad.add k) = some (.int .u8 b) := by
  obtain ⟨ad, e, _, hc⟩ := h.2 (by omega)
  have hl : k < l.length := by have := h.1; simp [u8s] at this; omega
  exact ⟨ad, l[k], e, List.getElem?_eq_getElem hl, hc k _ (by simp [u8s, List.getElem?_eq_getElem hl])⟩
theorem or_add (x z k : Nat) (hx : x < 2 ^ k) (h : x + z * 2 ^ k < 18446744073709551616) : bits .or .u64 (x : Int) ((z * 2 ^ k : Nat) : Int) = ((x + z * 2 ^ k : Nat) : Int) := by
  rw [u64_or_nat x (z * 2 ^ k) (by omega) (by omega)]
  congr 1
  have := Nat.two_pow_add_eq_or_of_lt hx z
  rw [Nat.or_comm, Nat.mul_comm z, ← this, Nat.add_comm]
theorem pow256 (k : Nat) : (256 : Int) ^ k = 2 ^ (8 * k) := by
  rw [Int.pow_mul]; rfl
theorem word_step (l : List Int) (k : Nat) (b : Int) (hb : l[k]? = some b) (hk : k < 8) (hl : ∀ x ∈ l, 0 ≤ x ∧ x < 256) :
    bits .or .u64 (wordM (l.take k)) (IntKind.u64.wrap (IntKind.u64.wrap b * 2 ^ (8 * k))) = wordM (l.take (k + 1)) := by
  obtain ⟨hkl, rfl⟩ := List.getElem?_eq_some_iff.1 hb
  have h1 := hl _ (List.getElem_mem hkl)
  have h2 := wordM_range (l.take k) (fun x hx => hl x (List.mem_of_mem_take hx))
  have hlen : (l.take k).length = k := by rw [List.length_take]; omega
  rw [hlen, pow256] at h2
  have e : wordM (l.take (k + 1)) = wordM (l.take k) + l[k] * 2 ^ (8 * k) := by
    rw [List.take_succ_eq_append_getElem hkl, wordM_append, hlen, pow256]
    simp only [wordM, Int.mul_zero, Int.add_zero]
    rw [Int.mul_comm (2 ^ (8 * k))]
  rw [e]
  generalize wordM (l.take k) = a at *
  generalize l[k] = b at *
  obtain ⟨x, rfl⟩ : ∃ x : Nat, a = x := ⟨a.toNat, by omega⟩
  obtain ⟨z, rfl⟩ : ∃ z : Nat, b = z := ⟨b.toNat, by omega⟩
  have hp : (2 : Nat) ^ (8 * k) ≤ 2 ^ 56 := Nat.pow_le_pow_right (by omega) (by omega)
  have hxp : x < 2 ^ (8 * k) := by
    have := h2.2
    have e2 : ((2 : Int) ^ (8 * k)) = ((2 ^ (8 * k) : Nat) : Int) := by simp
    rw [e2] at this
    omega
  have hz : z * 2 ^ (8 * k) ≤ 255 * 2 ^ (8 * k) := Nat.mul_le_mul_right _ (by omega)
  have hw1 : IntKind.u64.wrap (z : Int) = z := by simp [IntKind.wrap, IntKind.bits, IntKind.signed]; omega
  have e3 : ((z : Int) * 2 ^ (8 * k)) = ((z * 2 ^ (8 * k) : Nat) : Int) := by simp
  have hw2 : IntKind.u64.wrap ((z * 2 ^ (8 * k) : Nat) : Int) = ((z * 2 ^ (8 * k) : Nat) : Int) := by
    generalize z * 2 ^ (8 * k) = y at *
    simp [IntKind.wrap, IntKind.bits, IntKind.signed]; omega
  rw [hw1, e3, hw2, or_add x z _ hxp (by omega)]
  simp
set_option maxRecDepth 100000 in
theorem wordOf_any (A : Option Addr) (n c B : Nat) (l : List Int) (w : World) (h : Rd w B 1 A n (u8s l)) (hn : n ≤ 8) (hl : ∀ x ∈ l, 0 ≤ x ∧ x < 256) :
    Calls Try.prog 32 #[.slice A n c] w fun e w' => e = .returned (.int .u64 (wordM l)) ∧ w = w' := by
  have hll : l.length = n := by have := h.1; simpa [u8s] using this
  go_enter Try.func32, Try.ntmps32
  go_wp2
  go_loopw [3, 8] (fun a b wr => ∃ k : Nat, k ≤ n ∧ a = .int .u64 (wordM (l.take k)) ∧ b = .int .i64 k ∧ wr = w) (fun _ b _ => n - (intOf b).toNat)
  case atStart => exact ⟨0, Nat.zero_le _, rfl, rfl, rfl⟩
  case round =>
    obtain ⟨k, hk, rfl, rfl, rfl⟩ := hrel
    by_cases hkn : k < n
    · obtain ⟨ad, b, rfl, hb, c1⟩ := h.byte hkn
      go_wp2
      go_roundw
      case rel => 
        exact ⟨k + 1, by omega, congrArg (Value.int IntKind.u64) (word_step l k b hb (by omega) hl), by go_num, trivial⟩
      case measure => simp [intOf]; omega
    · have hkm : k = n := by omega
      subst hkm
      go_wp2
      go_ret
      refine ⟨?_, rfl⟩
      rw [List.take_of_length_le (by omega)]
      rfl
theorem fill_step (L : List Int) (n k : Nat) (b : Int) (hL : L.length = n) (hb : L[k]? = some b) :
    (u8s (L.take k ++ List.replicate (n - k) 0)).toArray.setIfInBounds k (.int .u8 b) = (u8s (L.take (k + 1) ++ List.replicate (n - (k + 1)) 0)).toArray := by
  obtain ⟨hk, rfl⟩ := List.getElem?_eq_some_iff.1 hb
  rw [List.setIfInBounds_toArray]
  congr 1
  unfold u8s
  rw [show n - k = (n - (k + 1)) + 1 by omega, List.replicate_succ, List.take_succ_eq_append_getElem hk]
  simp only [List.map_append, List.map_cons, List.map_nil]
  rw [List.set_append_right _ _ (by simp; omega)]
  simp [show k - min k L.length = 0 by omega]
theorem made_0 : madeCells (Value.int IntKind.u8 0).cells 0 = (u8s (List.replicate 0 0)).toArray := by kernel_rfl
theorem made_1 : madeCells (Value.int IntKind.u8 0).cells 1 = (u8s (List.replicate 1 0)).toArray := by kernel_rfl
theorem made_2 : madeCells (Value.int IntKind.u8 0).cells 2 = (u8s (List.replicate 2 0)).toArray := by kernel_rfl
theorem made_3 : madeCells (Value.int IntKind.u8 0).cells 3 = (u8s (List.replicate 3 0)).toArray := by kernel_rfl
theorem made_4 : madeCells (Value.int IntKind.u8 0).cells 4 = (u8s (List.replicate 4 0)).toArray := by kernel_rfl
theorem made_5 : madeCells (Value.int IntKind.u8 0).cells 5 = (u8s (List.replicate 5 0)).toArray := by kernel_rfl
theorem made_6 : madeCells (Value.int IntKind.u8 0).cells 6 = (u8s (List.replicate 6 0)).toArray := by kernel_rfl
theorem made_7 : madeCells (Value.int IntKind.u8 0).cells 7 = (u8s (List.replicate 7 0)).toArray := by kernel_rfl
theorem made_8 : madeCells (Value.int IntKind.u8 0).cells 8 = (u8s (List.replicate 8 0)).toArray := by kernel_rfl
theorem made_zero (n : Nat) (hn : n ≤ 8) : madeCells (Value.int IntKind.u8 0).cells n = (u8s (List.replicate n 0)).toArray := by
  have h : n = 0 ∨ n = 1 ∨ n = 2 ∨ n = 3 ∨ n = 4 ∨ n = 5 ∨ n = 6 ∨ n = 7 ∨ n = 8 := by omega
  rcases h with rfl | rfl | rfl | rfl | rfl | rfl | rfl | rfl | rfl
  · exact made_0
  · exact made_1
  · exact made_2
  · exact made_3
  · exact made_4
  · exact made_5
  · exact made_6
  · exact made_7
  · exact made_8
set_option maxRecDepth 100000 in
theorem bytesOf_any (wd : Int) (n : Nat) (w : World) (hn : n ≤ 8) (h0 : 0 ≤ wd) (h1 : wd < 18446744073709551616) :
    Calls Try.prog 40 #[.int .u64 wd, .int .i64 n] w fun e w' => e = .returned (.slice (some ⟨w.heap.size, 0, none⟩) n n) ∧ Below w.heap.size w w' ∧ w'.heap[w.heap.size]? = some (.cells (u8s (bytesM n wd)).toArray 5 (0, 0)) := by
  obtain ⟨i0, hi, hz0, hz1, hz2⟩ := info_parts u8info
  have hmk : (Instr.makeSlice 37 (.int .i64 n) (.int .i64 n)).run Try.prog w = .ok (.slice (some ⟨w.heap.size, 0, none⟩) n n) (w.alloc (.cells (u8s (List.replicate n 0)).toArray 5)) := by
    have := run_make (P := Try.prog) w 37 5 i0 _ Try.underlying37 hi hz0 .i64 .i64 n n (by omega) (by omega) (by rw [hz2]; omega) (by omega)
    rw [hz1] at this
    have e : madeCells (Value.int IntKind.u8 0).cells (Int.toNat (n : Int) * 1) = (u8s (List.replicate n 0)).toArray := by
      rw [Int.toNat_natCast, Nat.mul_one]
      exact made_zero n hn
    rw [e] at this
    simpa using this
  go_enter Try.func40, Try.ntmps40
  go_wp2
  go_loopw [6, 11] (fun _ b wr => ∃ k : Nat, k ≤ n ∧ b = .int .i64 k ∧ Below w.heap.size w wr ∧ wr.heap[w.heap.size]? = some (.cells (u8s ((bytesM n wd).take k ++ List.replicate (n - k) 0)).toArray 5 (0, 0))) (fun _ b _ => n - (intOf b).toNat)
  case atStart => exact ⟨0, Nat.zero_le _, rfl, below1 w _, by simpa using World.alloc_heap_new w _⟩
  case round =>
    obtain ⟨k, hk, rfl, hb, hx⟩ := hrel
    have HB := hide hb
    have HX := hide hx
    have hsz := at_lt hx
    have hlen : ((bytesM n wd).take k ++ List.replicate (n - k) 0).length = n := by rw [List.length_append, List.length_take, bytesM_length, List.length_replicate]; omega
    by_cases hkn : k < n
    · have c1 := blk_cell hx k
      have f1 := blk_free hx k
      rw [List.getElem?_toArray] at c1
      have hat : (u8s ((bytesM n wd).take k ++ List.replicate (n - k) 0))[k]? = some (.int .u8 0) := by
        unfold u8s
        rw [List.getElem?_map, List.getElem?_append_right (by rw [List.length_take, bytesM_length]; omega), List.length_take, bytesM_length, show k - min k n = 0 by omega, show n - k = (n - k - 1) + 1 by omega]
        rfl
      rw [hat] at c1
      clear hb hx
      go_wp2
      go_roundw
      case rel =>
        refine ⟨k + 1, by omega, by go_num, HB.out.setCell (p := ⟨w.heap.size, k, none⟩) (Nat.le_refl _) _, ?_⟩
        have hb := Joins.block_setCell (i := k) HX.out (.int .u8 (wd / 2 ^ (8 * k) % 256))
        rw [fill_step (bytesM n wd) n k _ (bytesM_length _ _) (by rw [bytesM_at _ _ _ hkn, pow256])] at hb
        exact hb
      case measure => simp [intOf]; omega
    · have hkm : k = n := by omega
      subst hkm
      clear hb hx
      go_wp2
      go_ret
      refine ⟨rfl, HB.out, ?_⟩
      have := HX.out
      rw [List.take_of_length_le (by rw [bytesM_length]; omega), Nat.sub_self] at this
      simpa using this
end Go.Proofs.Ytkpoilcbdcddcaa
