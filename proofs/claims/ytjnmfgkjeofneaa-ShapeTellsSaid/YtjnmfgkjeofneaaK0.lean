/-
  Slots as five numbers; rows of cells; small words.
-/
import Derived.Test.YtjnmfgkjeofneaaRows
import Derived.Test.YtjnmfgkjeofneaaRS
import Derived.Test.YtjnmfgkjeofneaaK1
import Derived.Test.YtjnmfgkjeofneaaQL
import Derived.Shelf.Abstract
import Derived.Shelf.RegionOpen
import Derived.OwnWalkIn
import Derived.TacticsInMore
import Derived.LoopNIn
import Derived.LoopIn
import Derived.RangeFuncCalls
import Derived.WalkLawsBesides
import Derived.WalkSpells
import Derived.Laws.StructEq
import Derived.BigGuardPart
import Derived.Outline
import Derived.Deep.LoopGhost
namespace Go.Proofs.Ytjnmfgkjeofneaa
open Go.RowKit
set_option linter.unusedVariables false

theorem hide {p : Prop} (h : p) : Hid p := h
theorem stop_here {p : Prop} (h : Hid p) : p := h
theorem start_here {p : Prop} (h : p) : Hid p := h
theorem longer_below {B : Nat} {w W W' : World} {e : TypeId} {sz n : Nat} {v v' : Value} {xs : List Value} (h : Below B w W) (hB : B ≤ W.heap.size) (hv : ∀ g, v.ownBlock = some g → B ≤ g) (hl : Longer W W' e sz v v' n xs) : Below B w W' :=
  h.grown hl.2.1 hB hv
theorem longer_from {B : Nat} {W W' : World} {e : TypeId} {sz n : Nat} {v v' : Value} {xs : List Value} (hl : Longer W W' e sz v v' n xs) (hB : B ≤ W.heap.size) (hv : ∀ g, v.ownBlock = some g → B ≤ g) : ∀ g, v'.ownBlock = some g → B ≤ g := by
  intro g hg
  rcases hl.2.2 with h | h
  · exact hv g (h ▸ hg)
  · rw [h] at hg
    injection hg with hg
    omega
theorem owns_slice {w : World} {e : TypeId} {sz n : Nat} {v : Value} {xs : List Value} (h : w.ownsRow 0 e sz v n xs) : ∃ A c, v = .slice A n c ∧ Rd w w.heap.size sz A n xs := by
  rcases h.2 with ⟨rfl, rfl⟩ | ⟨g, cap, cur, rfl, hb, hg, rest⟩
  · have : xs = [] := List.eq_nil_of_length_eq_zero (by have := h.1; omega)
    subst this
    exact ⟨none, 0, rfl, Rd.nil⟩
  · exact ⟨_, cap, rfl, (Rd.of_owns h).mono (at_lt hg)⟩
/-- Block g holds, from its beginning on, n elements of type e, with room for cap. -/
def Row (w : World) (g cap : Nat) (e : TypeId) (sz n : Nat) (xs : List Value) : Prop := w.ownsRow 0 e sz (.slice (some ⟨g, 0, none⟩) n cap) n xs

theorem grown_row {w w1 w2 : World} {g : Nat} (h1 : w.grownBy w1 (some g)) (h2 : w1.grownBy w2 (some g)) : w.grownBy w2 (some g) :=
  ⟨h2.os.trans h1.os, h2.tape.trans h1.tape, h2.output.trans h1.output, Nat.le_trans h1.size h2.size, fun k hk hn => (h2.block k (Nat.lt_of_lt_of_le hk h1.size) hn).trans (h1.block k hk hn)⟩
theorem grown_alloc {w w1 : World} {g : Nat} {o : Obj} (h2 : (w.alloc o).grownBy w1 (some g)) : w.grownBy w1 (some g) :=
  grown_row (World.grownBy_alloc w o (some g)) h2

structure Ins where
  op : Int
  dst : Int
  src : Int
  off : Int
  imm : Int
/-- Each part is a number of its own kind. -/
structure Ins.Fits (s : Ins) : Prop where
  op : 0 ≤ s.op ∧ s.op < 256
  dst : 0 ≤ s.dst ∧ s.dst < 256
  src : 0 ≤ s.src ∧ s.src < 256
  off : -32768 ≤ s.off ∧ s.off < 32768
  imm : -2147483648 ≤ s.imm ∧ s.imm < 2147483648
def Ins.cells (s : Ins) : List Value := [.int .u8 s.op, .int .u8 s.dst, .int .u8 s.src, .int .i16 s.off, .int .i32 s.imm]

theorem row_lt {w : World} {g cap : Nat} {e : TypeId} {sz n : Nat} {xs : List Value} (h : Row w g cap e sz n xs) : g < w.heap.size := (World.ownsRow.lt h g rfl).2
theorem blk_cell {W : World} {b : Nat} {cs : Array Value} {t : TypeId} (h : W.heap[b]? = some (.cells cs t (0, 0))) (i : Nat) : W.cell? ⟨b, i, none⟩ = cs[i]? := cell_of_row W b i cs t (0, 0) h
theorem blk_kept {W W' : World} {b g : Nat} {o : Obj} (h : W.heap[b]? = some o) (hg : W.grownBy W' (some g)) (hne : b ≠ g) : W'.heap[b]? = some o :=
  (hg.block b (Array.getElem?_eq_some_iff.1 h).1 (fun e => hne (by injection e))).trans h
theorem row_alloc {w : World} {g cap : Nat} {e : TypeId} {sz n : Nat} {xs : List Value} (h : Row w g cap e sz n xs) (o : Obj) : Row (w.alloc o) g cap e sz n xs := World.ownsRow.alloc h o

/-- A slice that reads as these slots; it lies below block B. -/
def Prg (w : World) (B : Nat) (A : Option Addr) (n : Nat) (l : List Ins) : Prop :=
  l.length = n ∧ (0 < n → ∃ ad, A = some ad ∧ ad.block < B ∧ ∀ i s, l[i]? = some s → ∀ j u, s.cells[j]? = some u → w.cell? (ad.add (i * 5 + j)) = some u)
theorem Prg.mono {w : World} {B B' : Nat} {A : Option Addr} {n : Nat} {l : List Ins} (h : Prg w B A n l) (hB : B ≤ B') : Prg w B' A n l :=
  ⟨h.1, fun hn => by
    obtain ⟨ad, e, hb, hc⟩ := h.2 hn
    exact ⟨ad, e, Nat.lt_of_lt_of_le hb hB, hc⟩⟩
theorem Prg.below {w w' : World} {B : Nat} {A : Option Addr} {n : Nat} {l : List Ins} (h : Prg w B A n l) (hb : Below B w w') : Prg w' B A n l :=
  ⟨h.1, fun hn => by
    obtain ⟨ad, e, hB, hc⟩ := h.2 hn
    refine ⟨ad, e, hB, fun i s hs j u hu => ?_⟩
    rw [← hc i s hs j u hu]
    exact hb.cell (by rw [block_add]; exact hB)⟩

theorem add_parts (a : Addr) (i j : Nat) (hj : 0 < j) : a.add (i + j) = { block := (a.add i).block, off := (a.add i).off + j } := by
  unfold Addr.add
  by_cases hi : i = 0
  · subst hi
    rw [if_neg (by omega), if_pos rfl]
    simp
  · rw [if_neg (by omega), if_neg hi]
    simp [Nat.add_assoc]
theorem boxed_at {W : World} {k : Nat} {t : TypeId} {v : Value} (h : W.heap.size = k) : Boxed (W.alloc (.cells #[v] t)) k t v := by subst h; exact Boxed.new W t v
theorem boxed_below {W W' : World} {B : Nat} {t : TypeId} {v : Value} (h : Boxed W B t v) (hb : Below W.heap.size W W') : Boxed W' B t v := (hb.block B h.lt).trans h
def pcells (l : List Ins) : List Value := l.flatMap Ins.cells
theorem Rd.slot {w : World} {B n k : Nat} {A : Option Addr} {l : List Ins} (h : Rd w B 5 A n (pcells l)) (hk : k < n) : ∃ ad s, A = some ad ∧ l[k]? = some s ∧
    w.cell? (ad.add (k * 5)) = some (.int .u8 s.op) ∧ w.cell? { block := (ad.add (k * 5)).block, off := (ad.add (k * 5)).off + 1 } = some (.int .u8 s.dst) ∧
    w.cell? { block := (ad.add (k * 5)).block, off := (ad.add (k * 5)).off + 2 } = some (.int .u8 s.src) ∧ w.cell? { block := (ad.add (k * 5)).block, off := (ad.add (k * 5)).off + 3 } = some (.int .i16 s.off) ∧
    w.cell? { block := (ad.add (k * 5)).block, off := (ad.add (k * 5)).off + 4 } = some (.int .i32 s.imm) := by
  obtain ⟨ad, e, _, hc⟩ := h.2 (by omega)
  have hll : l.length = n := by have := h.1; unfold pcells at this; rw [flat_length Ins.cells 5 (fun _ => rfl)] at this; omega
  have hl : l[k]? = some (l[k]'(by omega)) := List.getElem?_eq_getElem _
  have hx : ∀ j, j < 5 → ∀ u, (l[k]'(by omega)).cells[j]? = some u → w.cell? (ad.add (k * 5 + j)) = some u := fun j hj u hu => by
    refine hc _ u ?_
    unfold pcells
    rw [flat_at Ins.cells 5 (fun _ => rfl) l k j hj, hl]
    exact hu
  refine ⟨ad, _, e, hl, hx 0 (by omega) _ rfl, ?_, ?_, ?_, ?_⟩
  · rw [← add_parts _ _ _ (by omega)]; exact hx 1 (by omega) _ rfl
  · rw [← add_parts _ _ _ (by omega)]; exact hx 2 (by omega) _ rfl
  · rw [← add_parts _ _ _ (by omega)]; exact hx 3 (by omega) _ rfl
  · rw [← add_parts _ _ _ (by omega)]; exact hx 4 (by omega) _ rfl
theorem Rd.prg {w : World} {B n : Nat} {A : Option Addr} {l : List Ins} (h : Rd w B 5 A n (pcells l)) : Prg w B A n l := by
  refine ⟨by have := h.1; unfold pcells at this; rw [flat_length Ins.cells 5 (fun _ => rfl)] at this; omega, fun hn => ?_⟩
  obtain ⟨ad, e, hb, hc⟩ := h.2 hn
  refine ⟨ad, e, hb, fun i s hs j u hu => hc _ u ?_⟩
  unfold pcells
  have hj : j < 5 := (List.getElem?_eq_some_iff.1 hu).1
  rw [flat_at Ins.cells 5 (fun _ => rfl) l i j hj, hs]
  exact hu
theorem cells_new (w : World) (l : List Value) (t : TypeId) : ∀ j u, l[j]? = some u → (w.alloc (.cells l.toArray t)).cell? ((⟨w.heap.size, 0, none⟩ : Addr).add j) = some u := by
  intro j u hj
  have h := World.alloc_heap_new w (.cells l.toArray t)
  have e : (⟨w.heap.size, 0, none⟩ : Addr).add j = ⟨w.heap.size, j, none⟩ := by unfold Addr.add; split <;> simp_all
  rw [e, blk_cell h]
  simpa using hj
theorem cells_rd (w : World) (l : List Value) (t : TypeId) (sz n : Nat) (hl : l.length = n * sz) : Rd (w.alloc (.cells l.toArray t)) (w.heap.size + 1) sz (some ⟨w.heap.size, 0, none⟩) n l :=
  ⟨hl, fun _ => ⟨_, rfl, Nat.lt_succ_self _, cells_new w l t⟩⟩

theorem row_below {w w' : World} {g cap : Nat} {e : TypeId} {sz n : Nat} {xs : List Value} (h : Row w g cap e sz n xs) (hb : Below w.heap.size w w') : Row w' g cap e sz n xs := (Stays.of_below (B := 0) hb).owns h
end Go.Proofs.Ytjnmfgkjeofneaa
