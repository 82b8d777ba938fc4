/-
  Slots and their bytes, there and back.
-/
import Derived.Test.YtjndmpockfmenaaGreatA1
namespace Go.Proofs.YtjndmpockfmenaaGreat
open Go.RowKit
set_option linter.unusedVariables false

theorem wrap16 (n : Int) : IntKind.i16.wrap n = if 32768 ≤ n % 65536 then n % 65536 - 65536 else n % 65536 := by simp [IntKind.wrap, IntKind.bits, IntKind.signed]
theorem wrapi32 (n : Int) : IntKind.i32.wrap n = if 2147483648 ≤ n % 4294967296 then n % 4294967296 - 4294967296 else n % 4294967296 := by simp [IntKind.wrap, IntKind.bits, IntKind.signed]
theorem slotOf_fits (b0 b1 b2 b3 b4 b5 b6 b7 : Int) (h0 : IsByte b0) (h1 : IsByte b1) : (slotOf b0 b1 b2 b3 b4 b5 b6 b7).Fits ∧ Right (slotOf b0 b1 b2 b3 b4 b5 b6 b7) := by
  obtain ⟨h0, h0'⟩ := h0
  obtain ⟨h1, h1'⟩ := h1
  unfold slotOf Right
  refine ⟨⟨⟨h0, h0'⟩, ⟨by simp only; omega, by simp only; omega⟩, ⟨by simp only; omega, by simp only; omega⟩, ?_, ?_⟩, by simp only; omega, by simp only; omega⟩
  · simp only [wrap16]; constructor <;> split <;> omega
  · simp only [wrapi32]; constructor <;> split <;> omega
theorem bytes_slot (b0 b1 b2 b3 b4 b5 b6 b7 : Int) (h0 : IsByte b0) (h1 : IsByte b1) (h2 : IsByte b2) (h3 : IsByte b3) (h4 : IsByte b4) (h5 : IsByte b5) (h6 : IsByte b6) (h7 : IsByte b7) :
    (slotOf b0 b1 b2 b3 b4 b5 b6 b7).bytes = [b0, b1, b2, b3, b4, b5, b6, b7] := by
  unfold IsByte at *
  have e1 : IntKind.i16.wrap (b2 + 256 * b3) % 65536 = b2 + 256 * b3 := by rw [wrap16]; split <;> omega
  have e2 : IntKind.i32.wrap (b4 + 256 * b5 + 65536 * b6 + 16777216 * b7) % 4294967296 = b4 + 256 * b5 + 65536 * b6 + 16777216 * b7 := by rw [wrapi32]; split <;> omega
  unfold Ins.bytes slotOf
  simp only [e1, e2, List.cons.injEq, true_and, and_true]
  refine ⟨?_, ?_, ?_, ?_, ?_, ?_, ?_⟩ <;> omega
theorem slot_bytes (s : Ins) (hf : s.Fits) (hr : Right s) : slotOf s.op (s.dst + 16 * s.src) (s.off % 65536 % 256) (s.off % 65536 / 256) (s.imm % 4294967296 % 256) (s.imm % 4294967296 / 256 % 256) (s.imm % 4294967296 / 65536 % 256) (s.imm % 4294967296 / 16777216) = s := by
  obtain ⟨op, dst, src, off, imm⟩ := s
  obtain ⟨hop, hd, hs, ho, hi⟩ := hf
  obtain ⟨hr1, hr2⟩ := hr
  simp only at *
  have e1 : IntKind.i16.wrap (off % 65536 % 256 + 256 * (off % 65536 / 256)) = off := by rw [wrap16]; split <;> omega
  have e2 : IntKind.i32.wrap (imm % 4294967296 % 256 + 256 * (imm % 4294967296 / 256 % 256) + 65536 * (imm % 4294967296 / 65536 % 256) + 16777216 * (imm % 4294967296 / 16777216)) = imm := by
    have : imm % 4294967296 % 256 + 256 * (imm % 4294967296 / 256 % 256) + 65536 * (imm % 4294967296 / 65536 % 256) + 16777216 * (imm % 4294967296 / 16777216) = imm % 4294967296 := by omega
    rw [this, wrapi32]
    split <;> omega
  unfold slotOf
  rw [e1, e2]
  congr 1 <;> omega

theorem getD_flat (l : List Ins) (k j : Nat) (hj : j < 8) (s : Ins) (hs : l[k]? = some s) : (l.flatMap Ins.bytes).getD (8 * k + j) 0 = s.bytes.getD j 0 := by
  rw [List.getD_eq_getElem?_getD, List.getD_eq_getElem?_getD, Nat.mul_comm, flat_at Ins.bytes 8 (fun _ => rfl) l k j hj, hs]
  rfl
theorem slots_bytes (l : List Ins) (hf : ∀ s ∈ l, s.Fits) (hr : ∀ s ∈ l, Right s) : slots (l.flatMap Ins.bytes) l.length = l := by
  apply List.ext_getElem?
  intro k
  unfold slots
  rw [List.getElem?_map]
  rcases hk : l[k]? with _ | s
  · have : l.length ≤ k := by simpa using hk
    rw [List.getElem?_eq_none (by simpa using this)]
    rfl
  · have hlt : k < l.length := (List.getElem?_eq_some_iff.1 hk).1
    rw [List.getElem?_range hlt]
    have hm := List.mem_of_getElem? hk
    simp only [Option.map_some, slotAt, Option.some.injEq]
    rw [show 8 * k = 8 * k + 0 by omega, getD_flat l k 0 (by omega) s hk, show 8 * k + 0 + 1 = 8 * k + 1 by omega, getD_flat l k 1 (by omega) s hk, getD_flat l k 2 (by omega) s hk, getD_flat l k 3 (by omega) s hk, getD_flat l k 4 (by omega) s hk, getD_flat l k 5 (by omega) s hk, getD_flat l k 6 (by omega) s hk, getD_flat l k 7 (by omega) s hk]
    exact slot_bytes s (hf s hm) (hr s hm)
theorem take_eight (bs : List Int) (k : Nat) (h : 8 * k + 8 ≤ bs.length) : [bs.getD (8 * k) 0, bs.getD (8 * k + 1) 0, bs.getD (8 * k + 2) 0, bs.getD (8 * k + 3) 0, bs.getD (8 * k + 4) 0, bs.getD (8 * k + 5) 0, bs.getD (8 * k + 6) 0, bs.getD (8 * k + 7) 0] = (bs.drop (8 * k)).take 8 := by
  apply List.ext_getElem?
  intro j
  rcases Nat.lt_or_ge j 8 with hj | hj
  · rw [List.getElem?_take_of_lt hj, List.getElem?_drop]
    have g : ∀ i, i < bs.length → some (bs.getD i 0) = bs[i]? := fun i hi => by rw [List.getD_eq_getElem?_getD, List.getElem?_eq_getElem hi]; rfl
    match j, hj with
    | 0, _ => exact g (8 * k) (by omega)
    | 1, _ => exact g (8 * k + 1) (by omega)
    | 2, _ => exact g (8 * k + 2) (by omega)
    | 3, _ => exact g (8 * k + 3) (by omega)
    | 4, _ => exact g (8 * k + 4) (by omega)
    | 5, _ => exact g (8 * k + 5) (by omega)
    | 6, _ => exact g (8 * k + 6) (by omega)
    | 7, _ => exact g (8 * k + 7) (by omega)
  · rw [List.getElem?_eq_none (by simp; omega), List.getElem?_eq_none (by simp; omega)]
theorem bytes_slots (bs : List Int) (m : Nat) (hm : bs.length = 8 * m) (hb : ∀ b ∈ bs, IsByte b) : (slots bs m).flatMap Ins.bytes = bs := by
  have : ∀ k, k ≤ m → (slots bs k).flatMap Ins.bytes = bs.take (8 * k) := by
    intro k
    induction k with
    | zero => simp [slots]
    | succ k ih =>
      intro hk
      have e : slots bs (k + 1) = slots bs k ++ [slotAt bs k] := by unfold slots; rw [List.range_succ, List.map_append]; rfl
      rw [e, List.flatMap_append, ih (by omega), List.flatMap_singleton, slotAt, bytes_slot _ _ _ _ _ _ _ _ (isByte_at hb _) (isByte_at hb _) (isByte_at hb _) (isByte_at hb _) (isByte_at hb _) (isByte_at hb _) (isByte_at hb _) (isByte_at hb _), take_eight bs k (by omega), show 8 * (k + 1) = 8 * k + 8 by omega, List.take_add]
  rw [this m (Nat.le_refl _), ← hm, List.take_length]
theorem slots_right (bs : List Int) (m : Nat) (hb : ∀ b ∈ bs, IsByte b) : (∀ s ∈ slots bs m, s.Fits) ∧ allRight (slots bs m) = true := by
  constructor
  · intro s hs
    unfold slots at hs
    rw [List.mem_map] at hs
    obtain ⟨k, _, rfl⟩ := hs
    exact (slotOf_fits _ _ _ _ _ _ _ _ (isByte_at hb _) (isByte_at hb _)).1
  · rw [allRight_iff]
    intro s hs
    unfold slots at hs
    rw [List.mem_map] at hs
    obtain ⟨k, _, rfl⟩ := hs
    exact (slotOf_fits _ _ _ _ _ _ _ _ (isByte_at hb _) (isByte_at hb _)).2
theorem bytes_are (l : List Ins) (hf : ∀ s ∈ l, s.Fits) (hr : ∀ s ∈ l, Right s) : ∀ b ∈ l.flatMap Ins.bytes, IsByte b := by
  intro b hb
  rw [List.mem_flatMap] at hb
  obtain ⟨s, hs, hb⟩ := hb
  obtain ⟨op, dst, src, off, imm⟩ := s
  obtain ⟨hop, hd, hsrc, ho, hi⟩ := hf _ hs
  obtain ⟨hr1, hr2⟩ := hr _ hs
  unfold Ins.bytes at hb
  simp only [List.mem_cons, List.not_mem_nil, or_false] at hb
  unfold IsByte
  simp only at *
  rcases hb with rfl | rfl | rfl | rfl | rfl | rfl | rfl | rfl <;> omega
end Go.Proofs.YtjndmpockfmenaaGreat
