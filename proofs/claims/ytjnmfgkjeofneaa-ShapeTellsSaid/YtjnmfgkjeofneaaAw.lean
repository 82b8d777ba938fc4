/-
  The chapter's examples hold; small words of the laws.
-/
import Derived.Test.YtjnmfgkjeofneaaIt6
namespace Go.Proofs.Ytjnmfgkjeofneaa
open Go.RowKit
set_option linter.unusedVariables false

theorem lits_check (a : Nat) (l : List Ins) (w : World) (hl : l.length = a) (ha : a ≤ 4096) (hf : ∀ s ∈ l, s.Fits) (x y : Int) (hc : checkM l = (x, y)) {b : Nat} (hb : w.heap.size = b) :
    Calls Try.prog 10 #[.slice (some ⟨b, 0, none⟩) a a] (w.alloc (.cells (pcells l).toArray 42)) fun e w' => e = .returned (.tuple #[.int .i64 x, .int .i64 y]) ∧ Below (w.alloc (.cells (pcells l).toArray 42)).heap.size (w.alloc (.cells (pcells l).toArray 42)) w' := by
  subst hb
  have := check_all (some ⟨w.heap.size, 0, none⟩) a a (w.heap.size + 1) l (w.alloc (.cells (pcells l).toArray 42)) (cells_rd w (pcells l) 42 5 a (by unfold pcells; rw [flat_length Ins.cells 5 (fun _ => rfl), hl])) (by simp) hf (by omega)
  rw [hc] at this
  exact this
theorem fits_lit (op imm : Int) (h : 0 ≤ op ∧ op < 256) (h2 : -2147483648 ≤ imm ∧ imm < 2147483648) : (⟨op, 0, 0, 0, imm⟩ : Ins).Fits := ⟨h, ⟨by simp, by simp⟩, ⟨by simp, by simp⟩, ⟨by simp, by simp⟩, h2⟩
set_option maxRecDepth 100000 in
set_option maxHeartbeats 2000000 in
theorem awake_any (w : World) : Calls Try.prog 7 #[] w fun e w' => e = .returned (.bool true) ∧ Below w.heap.size w w' := by
  have v1 : checkM [⟨183, 0, 0, 0, 1⟩, ⟨149, 0, 0, 0, 0⟩] = (0, 0) := by decide +kernel
  have v2 : checkM [⟨149, 0, 0, 0, 1⟩] = (0, 22) := by decide +kernel
  have v3 : checkM [⟨5, 0, 0, 0, 0⟩] = (0, 23) := by decide +kernel
  have v4 : checkM [⟨183, 0, 0, 0, 1⟩] = (0, 24) := by decide +kernel
  have f1 := fits_lit 183 1 (by omega) (by omega)
  have f2 := fits_lit 149 0 (by omega) (by omega)
  have f3 := fits_lit 149 1 (by omega) (by omega)
  have f4 := fits_lit 5 0 (by omega) (by omega)
  have g1 := hide (fun (w : World) (b : Nat) (hb : w.heap.size = b) => lits_check 2 _ w rfl (by omega) (by intro s hs; simp only [List.mem_cons, List.not_mem_nil, or_false] at hs; rcases hs with rfl | rfl <;> assumption) _ _ v1 hb)
  have g2 := hide (fun (w : World) (b : Nat) (hb : w.heap.size = b) => lits_check 1 _ w rfl (by omega) (by intro s hs; simp only [List.mem_cons, List.not_mem_nil, or_false] at hs; subst hs; exact f3) _ _ v2 hb)
  have g3 := hide (fun (w : World) (b : Nat) (hb : w.heap.size = b) => lits_check 1 _ w rfl (by omega) (by intro s hs; simp only [List.mem_cons, List.not_mem_nil, or_false] at hs; subst hs; exact f4) _ _ v3 hb)
  have g4 := hide (fun (w : World) (b : Nat) (hb : w.heap.size = b) => lits_check 1 _ w rfl (by omega) (by intro s hs; simp only [List.mem_cons, List.not_mem_nil, or_false] at hs; subst hs; exact f1) _ _ v4 hb)
  clear v1 v2 v3 v4 f1 f2 f3 f4
  simp only [pcells, List.flatMap_cons, List.flatMap_nil, Ins.cells, List.cons_append, List.nil_append] at g1 g2 g3 g4
  go_enter Try.func7, Try.ntmps7
  go_wp2_with fail
  refine (g1.out _ _ (by simp)).mono ?_
  rintro e w1 ⟨rfl, hb1⟩
  have B1 := hide (((below2 w (.cells #[.int .u8 149, .int .u8 0, .int .u8 0, .int .i16 0, .int .i32 0] 42) (.cells #[.int .u8 183, .int .u8 0, .int .u8 0, .int .i16 0, .int .i32 1] 42)).alloc (by simp; omega) (.cells #[.int .u8 183, .int .u8 0, .int .u8 0, .int .i16 0, .int .i32 1, .int .u8 149, .int .u8 0, .int .u8 0, .int .i16 0, .int .i32 0] 42)).trans (hb1.mono (by simp; omega)))
  have k1 := hide ((hb1.block (w.heap.size + 1) (by simp)).trans ((Below.heap_alloc _ _ _ (by simp)).trans (two_boxes w (.cells #[.int .u8 149, .int .u8 0, .int .u8 0, .int .i16 0, .int .i32 0] 42) (.cells #[.int .u8 183, .int .u8 0, .int .u8 0, .int .i16 0, .int .i32 1] 42)).2))
  clear hb1 g1
  go_wp2_with fail
  refine (g2.out _ _ rfl).mono ?_
  rintro e w2 ⟨rfl, hb2⟩
  have B2 := hide ((B1.out.alloc B1.out.size (.cells #[.int .u8 149, .int .u8 0, .int .u8 0, .int .i16 0, .int .i32 1] 42)).trans (hb2.mono (by have := B1.out.size; simp; omega)))
  have k2 := hide ((hb2.block (w.heap.size + 1) (by have := at_lt k1.out; simp; omega)).trans ((Below.heap_alloc _ _ _ (at_lt k1.out)).trans k1.out))
  clear hb2 g2 k1
  go_wp2_with fail
  refine (g3.out _ _ rfl).mono ?_
  rintro e w3 ⟨rfl, hb3⟩
  have B3 := hide ((B2.out.alloc B2.out.size (.cells #[.int .u8 5, .int .u8 0, .int .u8 0, .int .i16 0, .int .i32 0] 42)).trans (hb3.mono (by have := B2.out.size; simp; omega)))
  have k3 := (hb3.block (w.heap.size + 1) (by have := at_lt k2.out; simp; omega)).trans ((Below.heap_alloc _ _ _ (at_lt k2.out)).trans k2.out)
  have c0 := blk_cell k3 0
  have c1 := blk_cell k3 1
  have c2 := blk_cell k3 2
  have c3 := blk_cell k3 3
  have c4 := blk_cell k3 4
  simp at c0 c1 c2 c3 c4
  clear hb3 g3 k2 k3
  go_wp2_with fail
  refine (g4.out _ _ rfl).mono ?_
  rintro e w4 ⟨rfl, hb4⟩
  have B4 := hide ((B3.out.alloc B3.out.size (.cells #[.int .u8 183, .int .u8 0, .int .u8 0, .int .i16 0, .int .i32 1] 42)).trans (hb4.mono (by have := B3.out.size; simp; omega)))
  clear hb4 g4
  go_wp2
  go_ret
  exact ⟨rfl, B4.out⟩
end Go.Proofs.Ytjnmfgkjeofneaa
