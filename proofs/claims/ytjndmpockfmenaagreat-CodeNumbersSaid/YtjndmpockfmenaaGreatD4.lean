/-
  A program is put into the bag.
-/
import Derived.Test.YtjndmpockfmenaaGreatD2
import Derived.Test.YtjndmpockfmenaaGreatF4
namespace Go.Proofs.YtjndmpockfmenaaGreat
open Go.RowKit
set_option linter.unusedVariables false

/-- The bag, its list of bytes' lists apart from it. -/
def Bag8 (w : World) (b : Nat) (v : Value) (k : Nat) (xs : List Value) : Prop := w.heap[b]? = some (.cells (bagCells8 v) 84 (0, 0)) ∧ w.ownsRow 0 28 1 v k xs
theorem Bag8.ne {w : World} {b k : Nat} {v : Value} {xs : List Value} (h : Bag8 w b v k xs) : v.ownBlock ≠ some b := fun e => by
  rcases h.2.2 with ⟨h0, _⟩ | ⟨g, cap, cur, h0, _, hg, _⟩
  · rw [h0] at e; cases e
  · rw [h0] at e
    simp only [Value.ownBlock, Option.some.injEq] at e
    subst e
    rw [h.1] at hg
    injection hg with hg
    injection hg with _ h1
    cases h1
theorem new_one8 (w : World) (u : Value) : ∀ j u', ([u] : List Value)[j]? = some u' → (w.alloc (.cells #[u] 28)).cell? ((⟨w.heap.size, 0, none⟩ : Addr).add j) = some u' := by
  obtain ⟨ad, e, _, h⟩ := (cells_rd w [u] 28 1 1 rfl).2 (by decide)
  cases e
  exact h
set_option maxRecDepth 100000 in
set_option maxHeartbeats 2000000 in
theorem putProgram_any (b : Nat) (v : Value) (k : Nat) (A : Option Addr) (n c : Nat) (xs : List Value) (w : World) (h : Bag8 w b v k xs) (hk : k ≤ 400) :
    Calls Tryz.prog 40 #[.pointer (some ⟨b, 0, none⟩), .slice A n c] w fun e w' => e = .returned (.tuple #[]) ∧ ∃ v', Bag8 w' b v' (k + 1) (xs ++ [.slice A n c]) ∧ Kept (fun g => g ≠ b ∧ v.ownBlock ≠ some g) w w' ∧
      (∀ g, v'.ownBlock = some g → v.ownBlock = some g ∨ w.heap.size ≤ g) := by
  obtain ⟨Av, cv, rfl, _⟩ := owns_slice h.2
  obtain ⟨i5, hi5, hz0, hz1, hz2⟩ := info_parts progInfo
  have hbl : b < w.heap.size := (Array.getElem?_eq_some_iff.1 h.1).1
  have c5 : w.cell? ⟨b, 8, none⟩ = some (.slice Av k cv) := (blk_cell h.1 8).trans rfl
  have HH := hide h
  clear h
  go_enter Tryz.func40, Tryz.ntmps40
  go_wp2_with (at_builtin; refine stop_here ?_)
  show Hid _
  refine start_here ?_
  refine wpList_append_two _ rfl (.tmp 8) (.tmp 10) 58 rfl 28 i5 _ 1 24 Tryz.underlying58 hi5 hz0 hz1 hz2 rfl (by decide) _ k xs rfl (HH.out.2.alloc _) ⟨w.heap.size, 0, none⟩ 1 1 [.slice A n c] rfl rfl (new_one8 w (.slice A n c)) (by intro u hu; simp only [List.mem_singleton] at hu; subst hu; rfl) (by decide) (by simp only [maxLen]; omega) (by omega) ?_
  intro v' w' hgw
  obtain ⟨A', c', rfl, _⟩ := owns_slice hgw.1
  obtain ⟨hk1, hv1⟩ := grown2_kept hgw
  have hne := HH.out.ne
  have hO0 : (w.alloc (.cells #[.slice A n c] 28)).heap[b]? = some (.cells (bagCells8 (.slice Av k cv)) 84 (0, 0)) := (Below.heap_alloc w _ b hbl).trans HH.out.1
  have hO1 : w'.heap[b]? = some (.cells (bagCells8 (.slice Av k cv)) 84 (0, 0)) := (hk1.block b (by simp; omega) hne).trans hO0
  have hb1 : Bag8 w' b (.slice Av k cv) k [] ∨ True := .inr trivial
  have c5' : w'.cell? ⟨b, 8, none⟩ = some (.slice Av k cv) := (blk_cell hO1 8).trans rfl
  have hfz : w'.frozen? ⟨b, 8, none⟩ = false := heap_free hO1
  have HO1 := hide hO1
  have HK := hide hk1
  have HV := hide hv1
  have HG := hide hgw
  clear hO1 hk1 hv1 hgw c5 hb1 hO0
  go_wp2_with fail

  go_end0
  have hx := HG.out.1
  have hne' : (Value.slice A' (k + 1) c').ownBlock ≠ some b := fun e => by
    rcases HV.out with h | h
    · exact hne (h.symm.trans e)
    · rw [h] at e
      simp only [World.alloc, Array.size_push, Option.some.injEq] at e
      omega
  refine ⟨rfl, _, ⟨heap_set HO1.out _, hx.kept (grown_set w' b 8 _) (.inr hne')⟩, ?_, fun g hg => ?_⟩
  · have h0 : Kept (fun g => g ≠ b ∧ (Value.slice Av k cv).ownBlock ≠ some g) w w' := kept_trans ((Kept.refl _ w).later ((Below.refl _ w).alloc (Nat.le_refl _) _)) ⟨HK.out.os, HK.out.tape, HK.out.output, HK.out.size, fun k hk hF => HK.out.block k hk hF.2⟩
    exact h0.setCell (p := ⟨b, 8, none⟩) (fun _ h => h.1 rfl) _
  · rcases HV.out with h | h
    · exact .inl (h.symm.trans hg)
    · rw [h] at hg
      simp only [World.alloc, Array.size_push, Option.some.injEq] at hg
      right; omega
end Go.Proofs.YtjndmpockfmenaaGreat
