/-
  Where each instruction goes on: the ways of a program.
-/
import Derived.Test.YtjnmfgkjeofneaaIt3
import Derived.Test.YtjnmfgkjeofneaaRp2
namespace Go.Proofs.Ytjnmfgkjeofneaa
open Go.RowKit Go.Maps
set_option linter.unusedVariables false
attribute [local go_sem] Oper.semAt_some

def nextI (p : Nat × Ins) : Int := if goesB p.2.op = true then (p.1 : Int) + (slotsN p.2.op : Nat) else -1
def jumpI (p : Nat × Ins) : Int := if targetB p.2 = true then targetI p.1 p.2 else -1
/-- The ways that are told of the slot at place i, these instructions having been gone through. -/
def wayOf (ps : List (Nat × Ins)) (i : Nat) : Int × Int := ps.foldl (fun acc p => if p.1 = i then (nextI p, jumpI p) else acc) (-1, -1)
theorem wayOf_snoc (ps : List (Nat × Ins)) (p : Nat × Ins) (i : Nat) : wayOf (ps ++ [p]) i = if p.1 = i then (nextI p, jumpI p) else wayOf ps i := by simp [wayOf, List.foldl_append]
/-- A block of n pairs. -/
def Pairs (W : World) (g n : Nat) (f : Nat → Int × Int) : Prop := ∃ L : List Value, L.length = n * 2 ∧ W.heap[g]? = some (.cells L.toArray 33 (0, 0)) ∧ ∀ i, i < n → L[i * 2]? = some (.int .i64 (f i).1) ∧ L[i * 2 + 1]? = some (.int .i64 (f i).2)
theorem Filled.pairs {W : World} {g n : Nat} (h : Filled W g n n) : Pairs W g n (fun _ => (-1, -1)) := by
  obtain ⟨L, h1, h2, h3⟩ := h
  exact ⟨L, h1, h2, fun i hi => ⟨h3 _ (by omega), h3 _ (by omega)⟩⟩
theorem Pairs.lt {W : World} {g n : Nat} {f : Nat → Int × Int} (h : Pairs W g n f) : g < W.heap.size := by obtain ⟨L, h1, h2, h3⟩ := h; exact at_lt h2
theorem Pairs.same {W W' : World} {g n : Nat} {f : Nat → Int × Int} (h : Pairs W g n f) (hb : W'.heap[g]? = W.heap[g]?) : Pairs W' g n f := by
  obtain ⟨L, h1, h2, h3⟩ := h
  exact ⟨L, h1, hb.trans h2, h3⟩
theorem Pairs.stays {B : Nat} {W W' : World} {g n : Nat} {f : Nat → Int × Int} (h : Pairs W g n f) (hst : Stays B W W') : Pairs W' g n f := by
  obtain ⟨L, h1, h2, h3⟩ := h
  exact ⟨L, h1, hst.same _ _ h2 (.inr rfl), h3⟩
theorem Pairs.cell {W : World} {g n : Nat} {f : Nat → Int × Int} (h : Pairs W g n f) {i : Nat} (hi : i < n) : W.cell? ⟨g, i * 2, none⟩ = some (.int .i64 (f i).1) ∧ W.cell? ⟨g, i * 2 + 1, none⟩ = some (.int .i64 (f i).2) := by
  obtain ⟨L, h1, h2, h3⟩ := h
  obtain ⟨a, b⟩ := h3 i hi
  exact ⟨by rw [blk_cell h2]; simpa using a, by rw [blk_cell h2]; simpa using b⟩
theorem Pairs.free {W : World} {g n : Nat} {f : Nat → Int × Int} (h : Pairs W g n f) (j : Nat) : W.frozen? ⟨g, j, none⟩ = false := by
  obtain ⟨L, h1, h2, h3⟩ := h
  exact Joins.unfrozen_of_block h2 j
theorem Pairs.set0 {W : World} {g n : Nat} {f : Nat → Int × Int} (h : Pairs W g n f) (k : Nat) (hk : k < n) (v : Int) : Pairs (W.setCell ⟨g, k * 2, none⟩ (.int .i64 v)) g n (fun i => if i = k then (v, (f i).2) else f i) := by
  obtain ⟨L, h1, h2, h3⟩ := h
  refine ⟨L.set (k * 2) (.int .i64 v), by simpa using h1, by have := Joins.block_setCell (i := k * 2) h2 (.int .i64 v); simpa using this, fun i hi => ?_⟩
  obtain ⟨a, b⟩ := h3 i hi
  by_cases e : i = k
  · subst e
    rw [List.getElem?_set_self (by omega), List.getElem?_set_ne (by omega)]
    simpa using b
  · rw [List.getElem?_set_ne (by omega), List.getElem?_set_ne (by omega)]
    simpa [e] using ⟨a, b⟩
theorem Pairs.set1 {W : World} {g n : Nat} {f : Nat → Int × Int} (h : Pairs W g n f) (k : Nat) (hk : k < n) (v : Int) : Pairs (W.setCell ⟨g, k * 2 + 1, none⟩ (.int .i64 v)) g n (fun i => if i = k then ((f i).1, v) else f i) := by
  obtain ⟨L, h1, h2, h3⟩ := h
  refine ⟨L.set (k * 2 + 1) (.int .i64 v), by simpa using h1, by have := Joins.block_setCell (i := k * 2 + 1) h2 (.int .i64 v); simpa using this, fun i hi => ?_⟩
  obtain ⟨a, b⟩ := h3 i hi
  by_cases e : i = k
  · subst e
    rw [List.getElem?_set_self (by omega), List.getElem?_set_ne (by omega)]
    simpa using a
  · rw [List.getElem?_set_ne (by omega), List.getElem?_set_ne (by omega)]
    simpa [e] using ⟨a, b⟩
theorem Pairs.ext {W : World} {g n : Nat} {f f' : Nat → Int × Int} (h : Pairs W g n f) (he : ∀ i, i < n → f i = f' i) : Pairs W g n f' := by
  obtain ⟨L, h1, h2, h3⟩ := h
  exact ⟨L, h1, h2, fun i hi => by rw [← he i hi]; exact h3 i hi⟩
/-- Of instructions that lie ahead of place k nothing is told of it. -/
theorem wayOf_fresh (ps : List (Nat × Ins)) (k : Nat) (h : ∀ p ∈ ps, p.1 < k) : wayOf ps k = (-1, -1) := by
  unfold wayOf
  have : ∀ acc, ps.foldl (fun acc p => if p.1 = k then (nextI p, jumpI p) else acc) acc = acc := by
    induction ps with
    | nil => simp
    | cons p ps ih =>
      intro acc
      rw [List.foldl_cons, if_neg (by have := h p (by simp); omega)]
      exact ih (fun q hq => h q (by simp [hq])) acc
  exact this _
theorem fsts_rise : ∀ (l : List Ins) (k : Nat) (b : Bool), (fsts k b l).Pairwise (fun p q => p.1 < q.1)
  | [], k, b => by cases b <;> simp [fsts]
  | s :: r, k, true => by rw [fsts]; exact fsts_rise r _ _
  | s :: r, k, false => by
    rw [fsts, List.pairwise_cons]
    exact ⟨fun q hq => by have := (fsts_mem r _ _ q hq).1; simp; omega, fsts_rise r _ _⟩
theorem prefix_less {l : List Ins} {pre : List (Nat × Ins)} {x : Nat × Ins} (h : pre ++ [x] <+: fsts 0 false l) : ∀ p ∈ pre, p.1 < x.1 := by
  have := (fsts_rise l 0 false).sublist h.sublist
  rw [List.pairwise_append] at this
  exact fun p hp => this.2.2 p hp x (by simp)
end Go.Proofs.Ytjnmfgkjeofneaa
