/-
  Rows of cells; small words.
-/
import Derived.Test.YtolodcdhpnapmaaGreatRows
import Derived.Test.YtolodcdhpnapmaaGreatRS
import Derived.Test.YtolodcdhpnapmaaGreatK1
import Derived.Test.YtolodcdhpnapmaaGreatQL
import Derived.Test.YtolodcdhpnapmaaGreatGen
import Derived.Shelf.Abstract
import Derived.Shelf.RegionOpen
import Derived.OwnWalkIn
import Derived.TacticsInMore
import Derived.LoopNIn
import Derived.LoopIn
import Derived.RangeFuncCalls
import Derived.WalkLawsBesides
import Derived.WalkSpells
import Derived.Laws.StructEq
import Derived.BigGuardPart
import Derived.Outline
import Derived.Deep.LoopGhost
import Derived.Lib.SmallJoins
namespace Go.Proofs.YtolodcdhpnapmaaGreat
open Go.RowKit
set_option linter.unusedVariables false

theorem hide {p : Prop} (h : p) : Hid p := h
theorem stop_here {p : Prop} (h : Hid p) : p := h
theorem start_here {p : Prop} (h : p) : Hid p := h
theorem longer_below {B : Nat} {w W W' : World} {e : TypeId} {sz n : Nat} {v v' : Value} {xs : List Value} (h : Below B w W) (hB : B ≤ W.heap.size) (hv : ∀ g, v.ownBlock = some g → B ≤ g) (hl : Longer W W' e sz v v' n xs) : Below B w W' :=
  h.grown hl.2.1 hB hv
theorem longer_from {B : Nat} {W W' : World} {e : TypeId} {sz n : Nat} {v v' : Value} {xs : List Value} (hl : Longer W W' e sz v v' n xs) (hB : B ≤ W.heap.size) (hv : ∀ g, v.ownBlock = some g → B ≤ g) : ∀ g, v'.ownBlock = some g → B ≤ g := by
  intro g hg
  rcases hl.2.2 with h | h
  · exact hv g (h ▸ hg)
  · rw [h] at hg
    injection hg with hg
    omega
theorem owns_slice {w : World} {e : TypeId} {sz n : Nat} {v : Value} {xs : List Value} (h : w.ownsRow 0 e sz v n xs) : ∃ A c, v = .slice A n c ∧ Rd w w.heap.size sz A n xs := by
  rcases h.2 with ⟨rfl, rfl⟩ | ⟨g, cap, cur, rfl, hb, hg, rest⟩
  · have : xs = [] := List.eq_nil_of_length_eq_zero (by have := h.1; omega)
    subst this
    exact ⟨none, 0, rfl, Rd.nil⟩
  · exact ⟨_, cap, rfl, (Rd.of_owns h).mono (at_lt hg)⟩
/-- Block g holds, from its beginning on, n elements of type e, with room for cap. -/
def Row (w : World) (g cap : Nat) (e : TypeId) (sz n : Nat) (xs : List Value) : Prop := w.ownsRow 0 e sz (.slice (some ⟨g, 0, none⟩) n cap) n xs

theorem grown_row {w w1 w2 : World} {g : Nat} (h1 : w.grownBy w1 (some g)) (h2 : w1.grownBy w2 (some g)) : w.grownBy w2 (some g) :=
  ⟨h2.os.trans h1.os, h2.tape.trans h1.tape, h2.output.trans h1.output, Nat.le_trans h1.size h2.size, fun k hk hn => (h2.block k (Nat.lt_of_lt_of_le hk h1.size) hn).trans (h1.block k hk hn)⟩
theorem grown_alloc {w w1 : World} {g : Nat} {o : Obj} (h2 : (w.alloc o).grownBy w1 (some g)) : w.grownBy w1 (some g) :=
  grown_row (World.grownBy_alloc w o (some g)) h2

theorem row_lt {w : World} {g cap : Nat} {e : TypeId} {sz n : Nat} {xs : List Value} (h : Row w g cap e sz n xs) : g < w.heap.size := (World.ownsRow.lt h g rfl).2
theorem blk_cell {W : World} {b : Nat} {cs : Array Value} {t : TypeId} (h : W.heap[b]? = some (.cells cs t (0, 0))) (i : Nat) : W.cell? ⟨b, i, none⟩ = cs[i]? := cell_of_row W b i cs t (0, 0) h
theorem blk_kept {W W' : World} {b g : Nat} {o : Obj} (h : W.heap[b]? = some o) (hg : W.grownBy W' (some g)) (hne : b ≠ g) : W'.heap[b]? = some o :=
  (hg.block b (Array.getElem?_eq_some_iff.1 h).1 (fun e => hne (by injection e))).trans h
theorem row_alloc {w : World} {g cap : Nat} {e : TypeId} {sz n : Nat} {xs : List Value} (h : Row w g cap e sz n xs) (o : Obj) : Row (w.alloc o) g cap e sz n xs := World.ownsRow.alloc h o

theorem add_parts (a : Addr) (i j : Nat) (hj : 0 < j) : a.add (i + j) = { block := (a.add i).block, off := (a.add i).off + j } := by
  unfold Addr.add
  by_cases hi : i = 0
  · subst hi
    rw [if_neg (by omega), if_pos rfl]
    simp
  · rw [if_neg (by omega), if_neg hi]
    simp [Nat.add_assoc]
theorem boxed_at {W : World} {k : Nat} {t : TypeId} {v : Value} (h : W.heap.size = k) : Boxed (W.alloc (.cells #[v] t)) k t v := by subst h; exact Boxed.new W t v
theorem boxed_below {W W' : World} {B : Nat} {t : TypeId} {v : Value} (h : Boxed W B t v) (hb : Below W.heap.size W W') : Boxed W' B t v := (hb.block B h.lt).trans h
theorem cells_new (w : World) (l : List Value) (t : TypeId) : ∀ j u, l[j]? = some u → (w.alloc (.cells l.toArray t)).cell? ((⟨w.heap.size, 0, none⟩ : Addr).add j) = some u := by
  intro j u hj
  have h := World.alloc_heap_new w (.cells l.toArray t)
  have e : (⟨w.heap.size, 0, none⟩ : Addr).add j = ⟨w.heap.size, j, none⟩ := by unfold Addr.add; split <;> simp_all
  rw [e, blk_cell h]
  simpa using hj
theorem cells_rd (w : World) (l : List Value) (t : TypeId) (sz n : Nat) (hl : l.length = n * sz) : Rd (w.alloc (.cells l.toArray t)) (w.heap.size + 1) sz (some ⟨w.heap.size, 0, none⟩) n l :=
  ⟨hl, fun _ => ⟨_, rfl, Nat.lt_succ_self _, cells_new w l t⟩⟩

theorem row_below {w w' : World} {g cap : Nat} {e : TypeId} {sz n : Nat} {xs : List Value} (h : Row w g cap e sz n xs) (hb : Below w.heap.size w w') : Row w' g cap e sz n xs := (Stays.of_below (B := 0) hb).owns h
theorem bcell {W w1 : World} (hb : Below W.heap.size W w1) : (∀ b o, b < W.heap.size → w1.cell? ⟨b, o, none⟩ = W.cell? ⟨b, o, none⟩) ∧ (∀ b o, b < W.heap.size → w1.frozen? ⟨b, o, none⟩ = W.frozen? ⟨b, o, none⟩) :=
  ⟨fun b o h => hb.cell (p := ⟨b, o, none⟩) h, fun b o h => hb.frozen (p := ⟨b, o, none⟩) h⟩
theorem below1 (w : World) (o : Obj) : Below w.heap.size w (w.alloc o) := (Below.refl _ _).alloc (Nat.le_refl _) _
theorem below2 (w : World) (o o' : Obj) : Below w.heap.size w ((w.alloc o).alloc o') := ((Below.refl _ _).alloc (Nat.le_refl _) _).alloc (by simp) _
theorem below1c {w w' : World} {o : Obj} (h : Below (w.alloc o).heap.size (w.alloc o) w') : Below w.heap.size w w' := (below1 w o).trans (h.mono (by simp))
theorem below2c {w w' : World} {o o' : Obj} (h : Below ((w.alloc o).alloc o').heap.size ((w.alloc o).alloc o') w') : Below w.heap.size w w' := (below2 w o o').trans (h.mono (by simp; omega))

/-- What each round keeps: what lies below n0, and block Bx. -/
def KeepB (n0 Bx : Nat) (W W' : World) : Prop := Below n0 W W' ∧ W'.heap[Bx]? = W.heap[Bx]?
theorem KeepB.refl (n0 Bx : Nat) (W : World) : KeepB n0 Bx W W := ⟨Below.refl _ _, rfl⟩
theorem KeepB.trans {n0 Bx : Nat} {X Y Z : World} (h : KeepB n0 Bx X Y) (k : KeepB n0 Bx Y Z) : KeepB n0 Bx X Z := ⟨h.1.trans k.1, k.2.trans h.2⟩
theorem KeepB.of_below {n0 Bx : Nat} {X Y : World} (hn : n0 ≤ X.heap.size) (hb : Bx < X.heap.size) (h : Below X.heap.size X Y) : KeepB n0 Bx X Y := ⟨h.mono hn, h.block Bx hb⟩
theorem KeepB.grown {n0 Bx g : Nat} {X Y : World} (hn : n0 ≤ X.heap.size) (hb : Bx < X.heap.size) (h : X.grownBy Y (some g)) (h1 : n0 ≤ g) (h2 : g ≠ Bx) : KeepB n0 Bx X Y :=
  ⟨(Below.refl _ X).grown h hn (fun k e => by cases e; exact h1), h.block Bx hb (fun e => h2 (by cases e; rfl))⟩
theorem KeepB.put {n0 Bx l : Nat} (X : World) (o' : Obj) (h : n0 ≤ l) (h2 : Bx ≠ l) : KeepB n0 Bx X (X.putObj l o') := ⟨below_put X o' h, World.putObj_heap_other h2⟩

theorem Later.calls0 {P : Program} {f : FuncId} {args : Array Value} {w0 : World} {v : Value} (h : ∀ w, Calls P f args w fun e w' => e = .returned v ∧ Below w.heap.size w w') :
    Calls P f args w0 fun e w' => e = .returned v ∧ ∃ y : Later w0, w' = y.w := (h w0).mono fun e w' ⟨he, hb⟩ => ⟨he, ⟨w', hb⟩, rfl⟩
theorem two_boxes (w : World) (o o' : Obj) : ((w.alloc o).alloc o').heap[w.heap.size]? = some o ∧ ((w.alloc o).alloc o').heap[w.heap.size + 1]? = some o' := by
  refine ⟨(Below.heap_alloc (w.alloc o) o' w.heap.size (by simp)).trans (World.alloc_heap_new w o), ?_⟩
  have := World.alloc_heap_new (w.alloc o) o'
  rwa [World.size_alloc] at this
theorem later2 {W0 : World} {b : Nat} {u0 u1 : Value} {t : TypeId} (h : W0.heap[b]? = some (.cells #[u0, u1] t (0, 0))) : (∀ y : Later W0, y.w.cell? ⟨b, 0, none⟩ = some u0) ∧ (∀ y : Later W0, y.w.cell? ⟨b, 1, none⟩ = some u1) :=
  ⟨Later.cell (by rw [blk_cell h]; rfl), Later.cell (by rw [blk_cell h]; rfl)⟩
theorem later4 {W0 : World} {b : Nat} {u0 u1 u2 u3 : Value} {t : TypeId} (h : W0.heap[b]? = some (.cells #[u0, u1, u2, u3] t (0, 0))) : (∀ y : Later W0, y.w.cell? ⟨b, 0, none⟩ = some u0) ∧ (∀ y : Later W0, y.w.cell? ⟨b, 1, none⟩ = some u1) ∧
    (∀ y : Later W0, y.w.cell? ⟨b, 2, none⟩ = some u2) ∧ (∀ y : Later W0, y.w.cell? ⟨b, 3, none⟩ = some u3) :=
  ⟨Later.cell (by rw [blk_cell h]; rfl), Later.cell (by rw [blk_cell h]; rfl), Later.cell (by rw [blk_cell h]; rfl), Later.cell (by rw [blk_cell h]; rfl)⟩
theorem grown_set (w : World) (b i : Nat) (u : Value) : w.grownBy (w.setCell ⟨b, i, none⟩ u) (some b) :=
  ⟨rfl, rfl, rfl, by simp [World.setCell], fun k hk hn => Below.heap_setCell w ⟨b, i, none⟩ u k (fun e => hn (by rw [e]))⟩
theorem store_2 {w : World} {b : Nat} {v0 v1 : Value} {t : TypeId} (h : w.heap[b]? = some (.cells #[v0, v1] t (0, 0))) (u0 u1 : Value) :
    ((w.setCell ⟨b, 0, none⟩ u0).setCell ⟨b, 1, none⟩ u1).heap[b]? = some (.cells #[u0, u1] t (0, 0)) ∧ w.grownBy ((w.setCell ⟨b, 0, none⟩ u0).setCell ⟨b, 1, none⟩ u1) (some b) := by
  constructor
  · have h0 := Joins.block_setCell (i := 0) h u0
    have h1 := Joins.block_setCell (i := 1) h0 u1
    exact h1
  · exact (grown_row (grown_set _ _ _ _) (grown_set _ _ _ _))
theorem store_4 {w : World} {b : Nat} {v0 v1 v2 v3 : Value} {t : TypeId} (h : w.heap[b]? = some (.cells #[v0, v1, v2, v3] t (0, 0))) (u0 u1 u2 u3 : Value) :
    ((((w.setCell ⟨b, 0, none⟩ u0).setCell ⟨b, 1, none⟩ u1).setCell ⟨b, 2, none⟩ u2).setCell ⟨b, 3, none⟩ u3).heap[b]? = some (.cells #[u0, u1, u2, u3] t (0, 0)) ∧ w.grownBy ((((w.setCell ⟨b, 0, none⟩ u0).setCell ⟨b, 1, none⟩ u1).setCell ⟨b, 2, none⟩ u2).setCell ⟨b, 3, none⟩ u3) (some b) := by
  constructor
  · have h0 := Joins.block_setCell (i := 0) h u0
    have h1 := Joins.block_setCell (i := 1) h0 u1
    have h2 := Joins.block_setCell (i := 2) h1 u2
    have h3 := Joins.block_setCell (i := 3) h2 u3
    exact h3
  · exact (grown_row (grown_row (grown_row (grown_set _ _ _ _) (grown_set _ _ _ _)) (grown_set _ _ _ _)) (grown_set _ _ _ _))
theorem store_6 {w : World} {b : Nat} {v0 v1 v2 v3 v4 v5 : Value} {t : TypeId} (h : w.heap[b]? = some (.cells #[v0, v1, v2, v3, v4, v5] t (0, 0))) (u0 u1 u2 u3 u4 u5 : Value) :
    ((((((w.setCell ⟨b, 0, none⟩ u0).setCell ⟨b, 1, none⟩ u1).setCell ⟨b, 2, none⟩ u2).setCell ⟨b, 3, none⟩ u3).setCell ⟨b, 4, none⟩ u4).setCell ⟨b, 5, none⟩ u5).heap[b]? = some (.cells #[u0, u1, u2, u3, u4, u5] t (0, 0)) ∧ w.grownBy ((((((w.setCell ⟨b, 0, none⟩ u0).setCell ⟨b, 1, none⟩ u1).setCell ⟨b, 2, none⟩ u2).setCell ⟨b, 3, none⟩ u3).setCell ⟨b, 4, none⟩ u4).setCell ⟨b, 5, none⟩ u5) (some b) := by
  constructor
  · have h0 := Joins.block_setCell (i := 0) h u0
    have h1 := Joins.block_setCell (i := 1) h0 u1
    have h2 := Joins.block_setCell (i := 2) h1 u2
    have h3 := Joins.block_setCell (i := 3) h2 u3
    have h4 := Joins.block_setCell (i := 4) h3 u4
    have h5 := Joins.block_setCell (i := 5) h4 u5
    exact h5
  · exact (grown_row (grown_row (grown_row (grown_row (grown_row (grown_set _ _ _ _) (grown_set _ _ _ _)) (grown_set _ _ _ _)) (grown_set _ _ _ _)) (grown_set _ _ _ _)) (grown_set _ _ _ _))
end Go.Proofs.YtolodcdhpnapmaaGreat
