/-
  Rows of slots that are the same are found to be so.
-/
import Derived.Test.YtjndmpockfmenaaGreatK2
namespace Go.Proofs.YtjndmpockfmenaaGreat
open Go.RowKit
set_option linter.unusedVariables false

def pcells (l : List Ins) : List Value := l.flatMap Ins.cells
theorem Rd.slot {w : World} {B n k : Nat} {A : Option Addr} {l : List Ins} (h : Rd w B 5 A n (pcells l)) (hk : k < n) : ∃ ad s, A = some ad ∧ l[k]? = some s ∧
    w.cell? (ad.add (k * 5)) = some (.int .u8 s.op) ∧ w.cell? { block := (ad.add (k * 5)).block, off := (ad.add (k * 5)).off + 1 } = some (.int .u8 s.dst) ∧
    w.cell? { block := (ad.add (k * 5)).block, off := (ad.add (k * 5)).off + 2 } = some (.int .u8 s.src) ∧ w.cell? { block := (ad.add (k * 5)).block, off := (ad.add (k * 5)).off + 3 } = some (.int .i16 s.off) ∧
    w.cell? { block := (ad.add (k * 5)).block, off := (ad.add (k * 5)).off + 4 } = some (.int .i32 s.imm) := by
  obtain ⟨ad, e, _, hc⟩ := h.2 (by omega)
  have hll : l.length = n := by have := h.1; unfold pcells at this; rw [flat_length Ins.cells 5 (fun _ => rfl)] at this; omega
  have hl : l[k]? = some (l[k]'(by omega)) := List.getElem?_eq_getElem _
  have hx : ∀ j, j < 5 → ∀ u, (l[k]'(by omega)).cells[j]? = some u → w.cell? (ad.add (k * 5 + j)) = some u := fun j hj u hu => by
    refine hc _ u ?_
    unfold pcells
    rw [flat_at Ins.cells 5 (fun _ => rfl) l k j hj, hl]
    exact hu
  refine ⟨ad, _, e, hl, hx 0 (by omega) _ rfl, ?_, ?_, ?_, ?_⟩
  · rw [← add_parts _ _ _ (by omega)]; exact hx 1 (by omega) _ rfl
  · rw [← add_parts _ _ _ (by omega)]; exact hx 2 (by omega) _ rfl
  · rw [← add_parts _ _ _ (by omega)]; exact hx 3 (by omega) _ rfl
  · rw [← add_parts _ _ _ (by omega)]; exact hx 4 (by omega) _ rfl
theorem Rd.prg {w : World} {B n : Nat} {A : Option Addr} {l : List Ins} (h : Rd w B 5 A n (pcells l)) : Prg w B A n l := by
  refine ⟨by have := h.1; unfold pcells at this; rw [flat_length Ins.cells 5 (fun _ => rfl)] at this; omega, fun hn => ?_⟩
  obtain ⟨ad, e, hb, hc⟩ := h.2 hn
  refine ⟨ad, e, hb, fun i s hs j u hu => hc _ u ?_⟩
  unfold pcells
  have hj : j < 5 := (List.getElem?_eq_some_iff.1 hu).1
  rw [flat_at Ins.cells 5 (fun _ => rfl) l i j hj, hs]
  exact hu
theorem Rd.byt {w : World} {B n : Nat} {A : Option Addr} {l : List Int} (h : Rd w B 1 A n (u8s l)) : Byt w B A n l := by
  refine ⟨by have := h.1; simp [u8s] at this; omega, fun hn => ?_⟩
  obtain ⟨ad, e, hb, hc⟩ := h.2 hn
  exact ⟨ad, e, hb, fun i b hi => hc _ _ (by simp [u8s, hi])⟩
set_option maxRecDepth 100000 in
set_option maxHeartbeats 1000000 in
theorem sameProgram_yes (A A' : Option Addr) (n c c' B : Nat) (l : List Ins) (w : World) (h : Rd w B 5 A n (pcells l)) (h' : Rd w B 5 A' n (pcells l)) (hB : B ≤ w.heap.size) (hn : n ≤ 1000000) :
    Calls Tryz.prog 8 #[.slice A n c, .slice A' n c'] w fun e w' => e = .returned (.bool true) ∧ Below w.heap.size w w' := by
  go_enter Tryz.func8, Tryz.ntmps8
  go_wp2
  go_loopw [5] (fun p wr => ∃ k : Nat, k ≤ n ∧ p = .int .i64 k ∧ Below w.heap.size w wr) (fun p _ => n - (intOf p).toNat)
  case atStart => exact ⟨0, Nat.zero_le _, rfl, Below.refl _ _⟩
  case round =>
    obtain ⟨k, hk, rfl, hb⟩ := hrel
    by_cases hlt : k < n
    · obtain ⟨ad, ⟨op, dst, src, off, imm⟩, rfl, hl, c0, c1, c2, c3, c4⟩ := (h.below (hb.mono hB)).slot hlt
      obtain ⟨ad', s', rfl, hl', d0, d1, d2, d3, d4⟩ := (h'.below (hb.mono hB)).slot hlt
      rw [hl] at hl'
      cases hl'
      have HB := hide hb
      have HL := hide hl
      clear hb h h' hl
      simp only at c0 c1 c2 c3 c4 d0 d1 d2 d3 d4
      go_wp2
      go_region
      go_wp2
      go_roundw
      case rel => exact ⟨k + 1, by omega, by go_num, HB.out.drew⟩
      case measure => simp [intOf]; omega
    · have HB := hide hb
      clear hb h h'
      go_wp2
      go_ret
      exact ⟨rfl, HB.out⟩
end Go.Proofs.YtjndmpockfmenaaGreat
