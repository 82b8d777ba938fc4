/-
  A store that New made, in memory.
-/
import Derived.Test.YtgancfllpmgciaaGreatAA
namespace Go.Proofs.YtgancfllpmgciaaGreat
open Go.RowKit
set_option linter.unusedVariables false

/-- A map, its handle, its make. -/
structure SE where
  h : Nat
  k : Int
  key : Int
  val : Int
  ent : Int
  t : TypeId
  v : Value
def SE.cells (r : SE) : List Value := [.int .i64 r.h, .int .u8 r.k, .int .i64 r.key, .int .i64 r.val, .int .i64 r.ent, .iface r.t r.v]
def SE.entry (r : SE) : Value := .agg #[.int .u8 r.k, .int .i64 r.key, .int .i64 r.val, .int .i64 r.ent, .iface r.t r.v]
def SE.spec (r : SE) : Value := .agg #[.int .u8 r.k, .int .i64 r.key, .int .i64 r.val, .int .i64 r.ent]
def SE.agg (r : SE) : Value := .agg #[.int .i64 r.h, .int .u8 r.k, .int .i64 r.key, .int .i64 r.val, .int .i64 r.ent, .iface r.t r.v]
def rowCells (L : List SE) : List Value := L.flatMap SE.cells
theorem rowCells_length (L : List SE) : (rowCells L).length = L.length * 6 := flat_length SE.cells 6 (fun _ => rfl) L
theorem rowCells_at (L : List SE) (i j : Nat) (hj : j < 6) : (rowCells L)[i * 6 + j]? = (L[i]?).bind fun r => r.cells[j]? := flat_at SE.cells 6 (fun _ => rfl) L i j hj
/-- The block of a slice. -/
def blkOf (A : Option Addr) (g : Nat) : Prop := (Value.slice A 0 0).ownBlock = some g
structure Sto (w : World) (B b last : Nat) (A : Option Addr) (c : Nat) (L : List SE) : Prop where
  blk : w.heap[b]? = some (.cells #[.pointer (some ⟨b, 0, none⟩), .int .i64 last, .slice A L.length c] 37 (0, 0))
  out : w.ownsRow 0 120 6 (.slice A L.length c) L.length (rowCells L)
  low : B ≤ b ∧ ∀ g, blkOf A g → B ≤ g
  up : L.Pairwise (fun r s => r.h < s.h)
  ran : ∀ r ∈ L, 1 ≤ r.h ∧ r.h ≤ last
  many : L.length ≤ 32 ∧ last ≤ 1000000
section
variable {w w' : World} {B b last c : Nat} {A : Option Addr} {L : List SE}
theorem own_of_slice {A : Option Addr} {n c n' c' : Nat} : (Value.slice A n c).ownBlock = (Value.slice A n' c').ownBlock := by cases A <;> rfl
theorem Sto.B_le (h : Sto w B b last A c L) : B ≤ w.heap.size := Nat.le_of_lt (Nat.lt_of_le_of_lt h.low.1 (at_lt h.blk))
theorem Sto.lt (h : Sto w B b last A c L) {g : Nat} (hg : blkOf A g) : g < w.heap.size := (h.out.lt g (own_of_slice.trans hg)).2
theorem Sto.kept {F : Nat → Prop} (h : Sto w B b last A c L) (hk : Kept F w w') (hb : F b) (hF : ∀ g, blkOf A g → F g) : Sto w' B b last A c L :=
  ⟨(hk.block b (at_lt h.blk) hb).trans h.blk, owns_kept h.out hk (fun g hg => hF g (own_of_slice.trans hg)), h.low, h.up, h.ran, h.many⟩
theorem Sto.below (h : Sto w B b last A c L) (hb : Below w.heap.size w w') : Sto w' B b last A c L :=
  h.kept (F := fun _ => True) (Kept.of_below hb) trivial (fun _ _ => trivial)
theorem Sto.from (h : Sto w B b last A c L) {B' : Nat} (hB : B' ≤ B) : Sto w B' b last A c L :=
  ⟨h.blk, h.out, ⟨Nat.le_trans hB h.low.1, fun g hg => Nat.le_trans hB (h.low.2 g hg)⟩, h.up, h.ran, h.many⟩
theorem Sto.c0 (h : Sto w B b last A c L) : w.cell? ⟨b, 0, none⟩ = some (.pointer (some ⟨b, 0, none⟩)) := by rw [blk_cell h.blk]; rfl
theorem Sto.c1 (h : Sto w B b last A c L) : w.cell? ⟨b, 1, none⟩ = some (.int .i64 last) := by rw [blk_cell h.blk]; rfl
theorem Sto.c2 (h : Sto w B b last A c L) : w.cell? ⟨b, 2, none⟩ = some (.slice A L.length c) := by rw [blk_cell h.blk]; rfl
/-- The rows stand in a block that is not the store's. -/
theorem Sto.out_b (h : Sto w B b last A c L) : ¬ blkOf A b := fun e => by
  rcases h.out.2 with ⟨h0, _⟩ | ⟨g, cap, cur, hv, _, hg, _⟩
  · injection h0 with h0
    subst h0
    cases e
  · injection hv with hv
    subst hv
    simp only [blkOf, Value.ownBlock, Option.some.injEq] at e
    subst e
    rw [h.blk] at hg
    injection hg with hg
    injection hg with _ ht
    exact absurd ht (by decide)
theorem Sto.rd (h : Sto w B b last A c L) : Rd w w.heap.size 6 A L.length (rowCells L) := Rd.of_own h.out
theorem Sto.cell (h : Sto w B b last A c L) {i : Nat} {r : SE} (hr : L[i]? = some r) : ∃ g, A = some ⟨g, 0, none⟩ ∧ g < w.heap.size ∧ ∀ j u, r.cells[j]? = some u → w.cell? ⟨g, i * 6 + j, none⟩ = some u := by
  have hi := (List.getElem?_eq_some_iff.1 hr).1
  rcases h.out.2 with ⟨_, h0⟩ | ⟨g, cap, cur, hv, _, hg, _⟩
  · omega
  · injection hv with hv
    subst hv
    refine ⟨g, rfl, at_lt hg, fun j u hu => ?_⟩
    have hj : j < 6 := by have := (List.getElem?_eq_some_iff.1 hu).1; simpa [SE.cells] using this
    have := h.out.cells (g := g) rfl (i * 6 + j) u (by rw [rowCells_at L i j hj, hr]; exact hu)
    rw [own_add, Nat.zero_add] at this
    exact this
/-- One of a handle is the only one. -/
theorem Sto.uniq (h : Sto w B b last A c L) {i j : Nat} {r s : SE} (hr : L[i]? = some r) (hs : L[j]? = some s) (e : r.h = s.h) : i = j := by
  have hi := (List.getElem?_eq_some_iff.1 hr)
  have hj := (List.getElem?_eq_some_iff.1 hs)
  have hp := List.pairwise_iff_getElem.1 h.up
  rcases Nat.lt_trichotomy i j with hlt | heq | hgt
  · have := hp i j hi.1 hj.1 hlt
    rw [hi.2, hj.2] at this
    omega
  · exact heq
  · have := hp j i hj.1 hi.1 hgt
    rw [hi.2, hj.2] at this
    omega
end
end Go.Proofs.YtgancfllpmgciaaGreat
