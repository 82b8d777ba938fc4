/-
  The bytes of a number and of its other differ in the last bit alone.
-/
import Derived.Test.YtolmjnoaiiodlaaZA
namespace Go.Proofs.Ytolmjnoaiiodlaa
open Go.RowKit Go.Maps Forest
set_option linter.unusedVariables false

theorem beB_snoc (k : Nat) : ∀ v, beB (k + 1) v = beB k (v / 256) ++ [((v % 256 : Nat) : Int)] := by
  induction k with
  | zero => intro v; simp [beB]
  | succ k ih =>
    intro v
    rw [beB, ih v]
    rw [beB]
    have : v / 2 ^ (8 * (k + 1)) = v / 256 / 2 ^ (8 * k) := by
      rw [Nat.div_div_eq_div_mul, show 8 * (k + 1) = 8 + 8 * k by omega, Nat.pow_add]
    rw [this]
    rfl
theorem bytesM_pos {v : Nat} (h : 55 < v) : 0 < bytesM v := by
  have h1 : Lib.bitLen 56 ≤ Lib.bitLen v := aux_mono 64 (by omega)
  have h2 : Lib.bitLen 56 = 6 := by decide +kernel
  unfold bytesM
  omega
theorem headB_two (m : Nat) : ∃ (L : List Int) (k : Nat), k < 128 ∧ headB 0 (2 * m) = L ++ [((2 * k : Nat) : Int)] ∧ headB 0 (2 * m + 1) = L ++ [((2 * k + 1 : Nat) : Int)] := by
  by_cases h : 2 * m ≤ 55
  · refine ⟨[], m, by omega, ?_, ?_⟩
    · unfold headB; rw [if_pos h]; simp
    · unfold headB; rw [if_pos (by omega)]; simp
  · have hb := headM_odd m
    unfold headM at hb
    rw [if_neg h, if_neg (by omega)] at hb
    have hb : bytesM (2 * m + 1) = bytesM (2 * m) := by omega
    obtain ⟨q, hq⟩ : ∃ q, bytesM (2 * m) = q + 1 := ⟨bytesM (2 * m) - 1, by have := bytesM_pos (v := 2 * m) (by omega); omega⟩
    refine ⟨((0 * 64 + (55 + (q + 1)) : Nat) : Int) :: beB q (2 * m / 256), (2 * m % 256) / 2, by omega, ?_, ?_⟩
    · unfold headB
      rw [if_neg h, hq, beB_snoc, show 2 * (2 * m % 256 / 2) = 2 * m % 256 by omega]
      rfl
    · unfold headB
      rw [if_neg (by omega), hb, hq, beB_snoc, show 2 * (2 * m % 256 / 2) + 1 = (2 * m + 1) % 256 by omega, show (2 * m + 1) / 256 = 2 * m / 256 by omega]
      rfl
theorem xor_two : ∀ k, k < 128 → bits BinOp.xor IntKind.u8 ((2 * k : Nat) : Int) ((2 * k + 1 : Nat) : Int) = 1 ∧ bits BinOp.xor IntKind.u8 ((2 * k + 1 : Nat) : Int) ((2 * k : Nat) : Int) = 1 := by decide +kernel
theorem pair_bytes (a : Int) : ∃ (L : List Int) (x y : Int), headB 0 (foldM a) = L ++ [x] ∧ headB 0 (foldM (-1 - a)) = L ++ [y] ∧ bits BinOp.xor IntKind.u8 x y = 1 := by
  by_cases h : 0 ≤ a
  · obtain ⟨L, k, hk, h1, h2⟩ := headB_two a.toNat
    refine ⟨L, _, _, ?_, ?_, (xor_two k hk).1⟩
    · rw [← h1]; unfold foldM; rw [if_pos h]
    · rw [← h2]; unfold foldM; rw [if_neg (by omega), show -1 - (-1 - a) = a by omega]
  · obtain ⟨L, k, hk, h1, h2⟩ := headB_two (-1 - a).toNat
    refine ⟨L, _, _, ?_, ?_, (xor_two k hk).2⟩
    · rw [← h2]; unfold foldM; rw [if_neg h]
    · rw [← h1]; unfold foldM; rw [if_pos (by omega)]
def numRow (a : Int) : Forest := .cons 1 a [] .nil .nil
theorem num_size (a : Int) : sizeF (numRow a) = headM (foldM a) := by simp [numRow, sizeF, headV]
theorem num_put (a : Int) : putF (numRow a) = headB 0 (foldM a) := by simp [numRow, putF, headV, headCn]
theorem num_mono {a b : Int} (h : 0 ≤ a) (hab : a ≤ b) : headM (foldM a) ≤ headM (foldM b) := headM_mono (by unfold foldM; rw [if_pos h, if_pos (by omega)]; omega)
def numT (a : Int) : TV := ⟨1, a, [], .nil, none, 0, none, 0⟩
theorem num_is (a : Int) (w : World) : (numT a).Is w w.heap.size := ⟨⟨rfl, fun h => absurd h (Nat.lt_irrefl 0)⟩, fun _ => rfl, .inl rfl, Nat.le_refl _, Nat.zero_le _, Nat.zero_le _⟩
theorem num_wf {a : Int} (h : numOk a) : Forest.Wf (numT a).row := by simp [numT, TV.row, Forest.Wf, Forest.len, h]
theorem num_small (a : Int) : headM (foldM a) ≤ 9 := by
  have := bytesM_le (foldM a)
  unfold headM
  split <;> omega
theorem num_may (a : Int) : putE (numT a) = 0 := by
  have h1 : okF soundM (numT a).row = true := by simp [numT, TV.row, okF, soundM, Forest.len]
  have h2 : (numT a).row.Dm = 0 := by simp [numT, TV.row, Dm, listy, Forest.len]
  unfold putE
  rw [if_pos h1, h2]
  rfl
theorem numSize_any {a : Int} (h : numOk a) (w : World) : Calls Try.prog 11 #[.agg #[.int .u8 1, .int .i64 a, .slice none 0 0, .slice none 0 0]] w fun e w' => e = .returned (.int .i64 (headM (foldM a) : Nat)) ∧ Below w.heap.size w w' := by
  have := Size_any (numT a) w.heap.size w (num_is a w) (Nat.le_refl _) (num_wf h) (by show sizeF (numRow a) ≤ _; rw [num_size]; have := num_small a; omega) (num_may a)
  rw [show sizeF (numT a).row = headM (foldM a) from num_size a] at this
  exact this
theorem numPut_any {a : Int} (h : numOk a) (w : World) : Calls Try.prog 9 #[.agg #[.int .u8 1, .int .i64 a, .slice none 0 0, .slice none 0 0]] w fun e w' => ∃ A c, e = .returned (.tuple #[.slice A (headM (foldM a)) c, .int .i64 0]) ∧ Rd w' w'.heap.size 1 A (headM (foldM a)) (u8s (headB 0 (foldM a))) ∧ Below w.heap.size w w' ∧ headM (foldM a) ≤ c := by
  have := Put_any (numT a) w.heap.size w (num_is a w) (Nat.le_refl _) (num_wf h) (by show sizeF (numRow a) ≤ _; rw [num_size]; have := num_small a; omega) (num_may a)
  rw [show sizeF (numT a).row = headM (foldM a) from num_size a, show putF (numT a).row = headB 0 (foldM a) from num_put a] at this
  exact this
theorem bytesSize : (Try.prog.info? 5).map (·.size) = some 1 := by kernel_rfl
theorem cut_bytes (S : Option Addr) (q sc h : Nat) (hh : h ≤ sc) (W : World) : (Instr.slice 23 (.slice S q sc) none (some (.int .i64 (h : Int))) none).run Try.prog W = .ok (.slice S h sc) W := by
  obtain ⟨i, hi, hsi⟩ := Option.map_eq_some_iff.1 bytesSize
  have hht : Try.prog.underlying 23 = some (.slice (Try.prog.elem 23)) := by simp [Program.elem, Try.underlying23]
  rw [run_slice_h (P := Try.prog) W 23 S q sc hht .i64 h (by omega) (by omega)]
  have : Try.prog.elem 23 = 5 := by simp [Program.elem, Try.underlying23]
  rw [this]
  simp only [sizeOf, typeInfo]
  have ha : S.map (·.add 0) = S := by cases S <;> rfl
  simp [hi, hsi, Result.andThen, sliced, ha]
theorem twins {a : Int} (ha : numOk a) : ∃ (L : List Int) (x y : Int), L.length ≤ 8 ∧ bits BinOp.xor IntKind.u8 x y = 1 ∧
    (∀ w, Calls Try.prog 9 #[.agg #[.int .u8 1, .int .i64 a, .slice none 0 0, .slice none 0 0]] w fun e w' => ∃ A c, e = .returned (.tuple #[.slice A (L.length + 1) c, .int .i64 0]) ∧ Rd w' w'.heap.size 1 A (L.length + 1) (u8s (L ++ [x])) ∧ Below w.heap.size w w' ∧ L.length + 1 ≤ c) ∧
    (∀ w, Calls Try.prog 9 #[.agg #[.int .u8 1, .int .i64 (-1 - a), .slice none 0 0, .slice none 0 0]] w fun e w' => ∃ A c, e = .returned (.tuple #[.slice A (L.length + 1) c, .int .i64 0]) ∧ Rd w' w'.heap.size 1 A (L.length + 1) (u8s (L ++ [y])) ∧ Below w.heap.size w w' ∧ L.length + 1 ≤ c) := by
  obtain ⟨L, x, y, h1, h2, h3⟩ := pair_bytes a
  have e1 : headM (foldM a) = L.length + 1 := by rw [← headB_length 0, h1]; simp
  have e2 : headM (foldM (-1 - a)) = L.length + 1 := by rw [← headB_length 0, h2]; simp
  refine ⟨L, x, y, by have := num_small a; omega, h3, fun w => ?_, fun w => ?_⟩
  · rw [← e1, ← h1]; exact numPut_any ha w
  · rw [← e2, ← h2]; exact numPut_any (by unfold numOk at *; omega) w
theorem Rd.most {w : World} {B n : Nat} {A : Option Addr} {L : List Int} {x : Int} (h : Rd w B 1 A (n + 1) (u8s (L ++ [x]))) (hn : L.length = n) : Rd w B 1 A n (u8s L) := by
  obtain ⟨ad, e, hb, hc⟩ := h.2 (Nat.succ_pos n)
  refine ⟨by simp [u8s, hn], fun _ => ⟨ad, e, hb, fun j u hu => hc j u ?_⟩⟩
  have hj : j < (u8s L).length := (List.getElem?_eq_some_iff.1 hu).1
  rw [show u8s (L ++ [x]) = u8s L ++ u8s [x] by simp [u8s], List.getElem?_append_left hj]
  exact hu
theorem Rd.last {w : World} {B n : Nat} {A : Option Addr} {L : List Int} {x : Int} (h : Rd w B 1 A (n + 1) (u8s (L ++ [x]))) (hn : L.length = n) : ∃ ad, A = some ad ∧ ad.block < B ∧ w.cell? (ad.add n) = some (.int .u8 x) := by
  obtain ⟨ad, e, hb, hc⟩ := h.2 (Nat.succ_pos n)
  refine ⟨ad, e, hb, hc n _ ?_⟩
  subst hn
  simp [u8s]
end Go.Proofs.Ytolmjnoaiiodlaa
