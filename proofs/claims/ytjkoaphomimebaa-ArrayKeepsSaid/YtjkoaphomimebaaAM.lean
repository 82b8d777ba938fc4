/-
  What stands between ArrayKeeps' rounds: the make's box, the array, the rows that are remembered.
-/
import Derived.Test.YtjkoaphomimebaaUB
namespace Go.Proofs.Ytjkoaphomimebaa
open Go.RowKit
set_option linter.unusedVariables false

theorem rowsInfo : (Try.prog.info? 22).map (fun i => (i.zero, i.size, i.bytes)) = some (some (.slice none 0 0), 1, 24) := by kernel_rfl
theorem nils_made (n : Nat) (hn : n ≤ 4096) (W : World) : (Instr.makeSlice 43 (.int .i64 (n : Int)) (.int .i64 (n : Int))).run Try.prog W = .ok (.slice (some ⟨W.heap.size, 0, none⟩) n n) (W.alloc (.cells (List.replicate n (Value.slice none 0 0)).toArray 22)) := by
  obtain ⟨i0, hi, hz0, hz1, hz2⟩ := info_parts rowsInfo
  have := run_make (P := Try.prog) W 43 22 i0 _ Try.underlying43 hi hz0 .i64 .i64 (n : Int) (n : Int) (by omega) (by omega) (by rw [hz2]; omega) (by omega)
  rw [hz1] at this
  have e : madeCells #[Value.slice none 0 0] n = (List.replicate n (Value.slice none 0 0)).toArray := by
    apply Array.ext'
    apply List.ext_getElem
    · simp [size_madeCells]
    · intro i h1 h2
      simp [madeCells, Nat.mod_one]
  rw [← e]
  simpa [Value.cells] using this
structure AKS (w wr : World) (S n sz b cb G B1 B2 : Nat) (L M : List AR) (k : Nat) : Prop where
  box : wr.heap[S]? = some (.cells #[.int .u8 1, .int .i64 4, .int .i64 sz, .int .i64 n] 48 (0, 0))
  arr : Arr wr B1 b cb sz L
  all : Alls wr B2 G sz M k
  sep : ∀ g, OfA b cb sz L g → ¬ OfL G sz M g
  low : S < B1 ∧ S < B2 ∧ w.heap.size ≤ B1 ∧ w.heap.size ≤ B2 ∧ B2 ≤ wr.heap.size
  below : Below w.heap.size w wr
section
variable {w wr w' : World} {S n sz b cb G B1 B2 k : Nat} {L M : List AR}
theorem AKS.later (h : AKS w wr S n sz b cb G B1 B2 L M k) (hb : Below wr.heap.size wr w') : AKS w w' S n sz b cb G B1 B2 L M k :=
  ⟨(hb.block _ (at_lt h.box)).trans h.box, h.arr.below hb, h.all.below hb, h.sep, by have h1 := h.low; have h2 := hb.size; omega, h.below.trans (hb.mono h.below.size)⟩
theorem owns_zero {w : World} {g sz : Nat} (h : w.heap[g]? = some (.cells (u8s (List.replicate sz 0)).toArray 5 (0, 0))) (hs : sz ≤ 1024) : w.ownsRow 0 5 1 (.slice (zAR sz g).A sz (zAR sz g).c) sz (u8s (zAR sz g).bs) := owns_new h hs
/-- A row is made, and put at the next place. -/
theorem AKS.make (h : AKS w wr S n sz b cb G B1 B2 L M (k + 1)) : AKS w ((wr.alloc (.cells (u8s (List.replicate sz 0)).toArray 5)).setCell ⟨G, M.length, none⟩ (.slice (some ⟨wr.heap.size, 0, none⟩) sz sz)) S n sz b cb G B1 B2 L (M ++ [zAR sz wr.heap.size]) k := by
  have hb := below1 wr (.cells (u8s (List.replicate sz 0)).toArray 5)
  have hx := World.alloc_heap_new wr (.cells (u8s (List.replicate sz 0)).toArray 5)
  have h1 := h.later hb
  have hG := h.all.lt G (.inl rfl)
  have hn := Alls.next (r := zAR sz wr.heap.size) h1.all (owns_zero hx (by have := h.arr.big; omega)) (fun g hg => by
    have hg' : wr.heap.size = g := by simpa [zAR, AR.sl, Value.ownBlock] using hg
    subst hg'
    exact ⟨h.low.2.2.2.2, fun hc => by have := h.all.lt _ hc; omega⟩)
  have hk : Kept (fun g => g ≠ G) (wr.alloc (.cells (u8s (List.replicate sz 0)).toArray 5)) ((wr.alloc (.cells (u8s (List.replicate sz 0)).toArray 5)).setCell ⟨G, M.length, none⟩ (.slice (some ⟨wr.heap.size, 0, none⟩) sz sz)) := (Kept.of_below (F := fun g => g ≠ G) (Below.refl _ _)).setCell (fun _ e => e rfl) _
  have hlow := h1.low
  have hGl := h.all.low G (.inl rfl)
  refine ⟨(hk.block _ (at_lt h1.box) (by omega)).trans h1.box, h1.arr.kept hk (fun g hg e => h.sep g hg (.inl e)), hn, fun g hg hc => ?_, ?_, h1.below.trans (hk.to_below (fun g hg => by omega) h1.below.size)⟩
  · rcases hc with hc | ⟨s, hs, hg2⟩
    · exact h.sep g hg (.inl hc)
    · rcases List.mem_append.1 hs with hs | hs
      · exact h.sep g hg (.inr ⟨s, hs, hg2⟩)
      · simp at hs
        subst hs
        have hg' : wr.heap.size = g := by simpa [zAR, AR.sl, Value.ownBlock] using hg2
        have := h.arr.lt g hg
        omega
  · have := hk.size; omega
end
end Go.Proofs.Ytjkoaphomimebaa
