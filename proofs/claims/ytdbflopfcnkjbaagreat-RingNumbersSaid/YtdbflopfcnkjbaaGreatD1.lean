/-
  A list of bytes is put into the bag.
-/
import Derived.Test.YtdbflopfcnkjbaaGreatF2
namespace Go.Proofs.YtdbflopfcnkjbaaGreat
open Go.RowKit
set_option linter.unusedVariables false

/-- The bag, its list of bytes' lists apart from it. -/
def Bag (w : World) (b : Nat) (v : Value) (k : Nat) (xs : List Value) : Prop := w.heap[b]? = some (.cells (bagCells v) 89 (0, 0)) ∧ w.ownsRow 0 27 1 v k xs
theorem Bag.ne {w : World} {b k : Nat} {v : Value} {xs : List Value} (h : Bag w b v k xs) : v.ownBlock ≠ some b := fun e => by
  rcases h.2.2 with ⟨h0, _⟩ | ⟨g, cap, cur, h0, _, hg, _⟩
  · rw [h0] at e; cases e
  · rw [h0] at e
    simp only [Value.ownBlock, Option.some.injEq] at e
    subst e
    rw [h.1] at hg
    injection hg with hg
    injection hg with _ h1
    cases h1
theorem heap_set {w : World} {b i : Nat} {cs : Array Value} {t : TypeId} (h : w.heap[b]? = some (.cells cs t (0, 0))) (u : Value) : (w.setCell ⟨b, i, none⟩ u).heap[b]? = some (.cells (cs.setIfInBounds i u) t (0, 0)) := by
  simp [World.setCell, Array.getElem?_modify, h]
theorem heap_free {w : World} {b i : Nat} {cs : Array Value} {t : TypeId} (h : w.heap[b]? = some (.cells cs t (0, 0))) : w.frozen? ⟨b, i, none⟩ = false := by
  simp [World.frozen?, h]
theorem grown2_kept {w w' : World} {e : TypeId} {sz n m : Nat} {v v' : Value} {xs : List Value} (h : Grown2 w w' e sz v v' n m xs) : Kept (fun g => v.ownBlock ≠ some g) w w' ∧ (v'.ownBlock = v.ownBlock ∨ v'.ownBlock = some w.heap.size) := by
  rcases h.2 with ⟨g, cap, rfl, rfl, hg⟩ | ⟨h1, hb⟩
  · exact ⟨⟨hg.os, hg.tape, hg.output, hg.size, fun k hk hF => hg.block k hk (fun e => hF e.symm)⟩, .inl rfl⟩
  · exact ⟨⟨hb.os, hb.tape, hb.output, hb.size, fun k hk _ => hb.block k hk⟩, .inr h1⟩
theorem new_one (w : World) (u : Value) : ∀ j u', ([u] : List Value)[j]? = some u' → (w.alloc (.cells #[u] 27)).cell? ((⟨w.heap.size, 0, none⟩ : Addr).add j) = some u' := by
  obtain ⟨ad, e, _, h⟩ := (cells_rd w [u] 27 1 1 rfl).2 (by decide)
  cases e
  exact h
set_option maxRecDepth 100000 in
set_option maxHeartbeats 2000000 in
theorem putBytes_any (b : Nat) (v : Value) (k : Nat) (A : Option Addr) (n c : Nat) (xs : List Value) (w : World) (h : Bag w b v k xs) (hk : k ≤ 400) :
    Calls Tryz.prog 30 #[.pointer (some ⟨b, 0, none⟩), .slice A n c] w fun e w' => e = .returned (.tuple #[]) ∧ ∃ v', Bag w' b v' (k + 1) (xs ++ [.slice A n c]) ∧ Kept (fun g => g ≠ b ∧ v.ownBlock ≠ some g) w w' ∧
      (∀ g, v'.ownBlock = some g → v.ownBlock = some g ∨ w.heap.size ≤ g) := by
  obtain ⟨Av, cv, rfl, _⟩ := owns_slice h.2
  obtain ⟨i5, hi5, hz0, hz1, hz2⟩ := info_parts rowInfo
  have hbl : b < w.heap.size := (Array.getElem?_eq_some_iff.1 h.1).1
  have c5 : w.cell? ⟨b, 5, none⟩ = some (.slice Av k cv) := (blk_cell h.1 5).trans rfl
  have HH := hide h
  clear h
  go_enter Tryz.func30, Tryz.ntmps30
  go_wp2_with (at_builtin; refine stop_here ?_)
  show Hid _
  refine start_here ?_
  refine wpList_append_two _ rfl (.tmp 8) (.tmp 10) 43 rfl 27 i5 _ 1 24 Tryz.underlying43 hi5 hz0 hz1 hz2 rfl (by decide) _ k xs rfl (HH.out.2.alloc _) ⟨w.heap.size, 0, none⟩ 1 1 [.slice A n c] rfl rfl (new_one w (.slice A n c)) (by intro u hu; simp only [List.mem_singleton] at hu; subst hu; rfl) (by decide) (by simp only [maxLen]; omega) (by omega) ?_
  intro v' w' hgw
  obtain ⟨A', c', rfl, _⟩ := owns_slice hgw.1
  obtain ⟨hk1, hv1⟩ := grown2_kept hgw
  have hne := HH.out.ne
  have hO0 : (w.alloc (.cells #[.slice A n c] 27)).heap[b]? = some (.cells (bagCells (.slice Av k cv)) 89 (0, 0)) := (Below.heap_alloc w _ b hbl).trans HH.out.1
  have hO1 : w'.heap[b]? = some (.cells (bagCells (.slice Av k cv)) 89 (0, 0)) := (hk1.block b (by simp; omega) hne).trans hO0
  have hb1 : Bag w' b (.slice Av k cv) k [] ∨ True := .inr trivial
  have c5' : w'.cell? ⟨b, 5, none⟩ = some (.slice Av k cv) := (blk_cell hO1 5).trans rfl
  have hfz : w'.frozen? ⟨b, 5, none⟩ = false := heap_free hO1
  have HO1 := hide hO1
  have HK := hide hk1
  have HV := hide hv1
  have HG := hide hgw
  clear hO1 hk1 hv1 hgw c5 hb1 hO0
  go_wp2_with fail

  go_end0
  have hx := HG.out.1
  have hne' : (Value.slice A' (k + 1) c').ownBlock ≠ some b := fun e => by
    rcases HV.out with h | h
    · exact hne (h.symm.trans e)
    · rw [h] at e
      simp only [World.alloc, Array.size_push, Option.some.injEq] at e
      omega
  refine ⟨rfl, _, ⟨heap_set HO1.out _, hx.kept (grown_set w' b 5 _) (.inr hne')⟩, ?_, fun g hg => ?_⟩
  · have h0 : Kept (fun g => g ≠ b ∧ (Value.slice Av k cv).ownBlock ≠ some g) w w' := kept_trans ((Kept.refl _ w).later ((Below.refl _ w).alloc (Nat.le_refl _) _)) ⟨HK.out.os, HK.out.tape, HK.out.output, HK.out.size, fun k hk hF => HK.out.block k hk hF.2⟩
    exact h0.setCell (p := ⟨b, 5, none⟩) (fun _ h => h.1 rfl) _
  · rcases HV.out with h | h
    · exact .inl (h.symm.trans hg)
    · rw [h] at hg
      simp only [World.alloc, Array.size_push, Option.some.injEq] at hg
      right; omega
end Go.Proofs.YtdbflopfcnkjbaaGreat
