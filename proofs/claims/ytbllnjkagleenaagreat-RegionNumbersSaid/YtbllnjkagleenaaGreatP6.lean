/-
  A memory as the row of its regions: what each call tells of it, and leaves.
-/
import Derived.Test.YtbllnjkagleenaaGreatP5
namespace Go.Proofs.YtbllnjkagleenaaGreat
open Go.RowKit
set_option linter.unusedVariables false

structure PRow where
  k : Int
  A : Option Addr
  n : Nat
  c : Nat
  bs : List Int
def PRow.sl (r : PRow) : Value := .slice r.A r.n r.c
def PRow.val (r : PRow) : Value := .agg #[.int .u8 r.k, .slice r.A r.n r.c]
def rowAt (L : List (Option PRow)) (i : Int) : Option PRow := if 1 ≤ i then (L[(i - 1).toNat]?).join else none
def fOf (L : List (Option PRow)) : Int → Option Value := fun i => (rowAt L i).map PRow.val
/-- The blocks of a memory. -/
def OfM (b mm : Nat) (L : List (Option PRow)) (g : Nat) : Prop := g = b ∨ g = mm ∨ ∃ r ∈ L, ∃ x, r = some x ∧ x.sl.ownBlock = some g
structure Mem (w : World) (B b mm : Nat) (L : List (Option PRow)) : Prop where
  pm : PM w b mm L.length (fOf L)
  row : ∀ (i : Nat) (r : PRow), L[i]? = some (some r) → w.ownsRow 0 5 1 r.sl r.n (u8s r.bs) ∧ r.n ≤ 4096 ∧ 1 ≤ r.k ∧ r.k ≤ 5
  low : ∀ g, OfM b mm L g → B ≤ g
  sep : ∀ (i j : Nat) (r s : PRow), L[i]? = some (some r) → L[j]? = some (some s) → i ≠ j → ∀ g, r.sl.ownBlock = some g → s.sl.ownBlock ≠ some g
theorem Mem.lt {w : World} {B b mm : Nat} {L : List (Option PRow)} (h : Mem w B b mm L) : ∀ g, OfM b mm L g → g < w.heap.size := by
  rintro g (rfl | rfl | ⟨r, hr, x, rfl, hg⟩)
  · exact at_lt h.pm.blk
  · exact h.pm.map.lt
  · obtain ⟨i, hi⟩ := List.mem_iff_getElem?.1 hr
    exact ((h.row i x hi).1.lt g hg).2
theorem Mem.kept {w w' : World} {B b mm : Nat} {L : List (Option PRow)} {F : Nat → Prop} (h : Mem w B b mm L) (hk : Kept F w w') (hF : ∀ g, OfM b mm L g → F g) : Mem w' B b mm L := by
  refine ⟨⟨(hk.block b (at_lt h.pm.blk) (hF b (.inl rfl))).trans h.pm.blk, h.pm.map.same (hk.block mm h.pm.map.lt (hF mm (.inr (.inl rfl))))⟩, fun i r hi => ?_, h.low, h.sep⟩
  obtain ⟨h1, h2⟩ := h.row i r hi
  exact ⟨owns_kept h1 hk (fun g hg => hF g (.inr (.inr ⟨_, List.mem_of_getElem? hi, r, rfl, hg⟩))), h2⟩
theorem Mem.below {w w' : World} {B b mm : Nat} {L : List (Option PRow)} (h : Mem w B b mm L) (hb : Below w.heap.size w w') : Mem w' B b mm L :=
  h.kept (F := fun _ => True) ⟨hb.os, hb.tape, hb.output, hb.size, fun k hk _ => hb.block k hk⟩ (fun _ _ => trivial)
theorem rowAt_get {L : List (Option PRow)} {i : Int} {r : PRow} (h : rowAt L i = some r) : 1 ≤ i ∧ L[(i - 1).toNat]? = some (some r) := by
  unfold rowAt at h
  split at h
  · refine ⟨by assumption, ?_⟩
    cases hq : L[(i - 1).toNat]? with
    | none => rw [hq] at h; cases h
    | some o => rw [hq] at h; simp at h; rw [h]
  · cases h
theorem Mem.at_ {w : World} {B b mm : Nat} {L : List (Option PRow)} {i : Int} {r : PRow} (h : Mem w B b mm L) (hr : rowAt L i = some r) : w.ownsRow 0 5 1 (.slice r.A r.n r.c) r.n (u8s r.bs) ∧ r.n ≤ 4096 ∧ 1 ≤ r.k ∧ r.k ≤ 5 := h.row _ r (rowAt_get hr).2
/-- Where there is no region. -/
theorem Mem.none_ {w : World} {B b mm : Nat} {L : List (Option PRow)} {i : Int} (h : Mem w B b mm L) (hw : wfI i) (hr : rowAt L i = none) (A : Option Addr) (m c : Nat) : Tells w (some ⟨b, 0, none⟩) i (.slice A m c) 0 none 0 0 6 :=
  live_of b mm _ i 0 6 (fOf L) none 0 0 _ w h.pm (fun W hb => find_none b mm _ i (fOf L) A m c W (h.pm.below hb) hw (by simp [fOf, hr]))
theorem Mem.some_ {w : World} {B b mm : Nat} {L : List (Option PRow)} {i : Int} {r : PRow} (h : Mem w B b mm L) (hw : wfI i) (hr : rowAt L i = some r) : Tells w (some ⟨b, 0, none⟩) i (.slice none 0 0) r.k r.A r.n r.c 0 :=
  live_of b mm _ i r.k 0 (fOf L) r.A r.n r.c _ w h.pm (fun W hb => find_nil b mm _ i r.k (fOf L) r.A r.n r.c W (h.pm.below hb) hw (by simp [fOf, hr, PRow.val]))
theorem Mem.noneM {w : World} {B b mm : Nat} {L : List (Option PRow)} {i off size : Int} (h : Mem w B b mm L) (hw : wfI i) (hr : rowAt L i = none) : TellsM w (some ⟨b, 0, none⟩) i off size 0 none 0 0 6 :=
  fun W x hb _ _ _ => (h.below hb).none_ hw hr _ _ _
theorem ask_find {b mm : Nat} {last i k off size : Int} {f : Int → Option Value} {A : Option Addr} {m c : Nat} {W : World} {x : Nat} (h : PM W b mm last f) (hw : wfI i) (hf : f i = some (.agg #[.int .u8 k, .slice A m c])) (hm : m ≤ 1000000) (ho : wfI off)
    (h0 : W.heap[x]? = some (.cells #[.int .i64 off] 2 (0, 0))) (h1 : W.heap[x + 1]? = some (.cells #[.int .i64 size] 3 (0, 0))) (h2 : W.heap[x + 2]? = some (.cells #[.func (.func 42) #[] #[.pointer (some ⟨x, 0, none⟩), .pointer (some ⟨x + 1, 0, none⟩)]] 69 (0, 0))) :
    Calls Tryz.prog 40 #[.pointer (some ⟨b, 1, none⟩), .int .i64 i, .slice (some ⟨x + 2, 0, none⟩) 1 1] W fun e w' => (e = if fitsB m off size then .returned (.tuple #[.agg #[.int .u8 k, .slice A m c], .int .i64 0]) else .returned (.tuple #[zr, .int .i64 32])) ∧ Below W.heap.size W w' := by
  have hof : -9223372036854775808 ≤ off ∧ off ≤ 9223372036854775807 := by
    unfold wfI Lit.wf at ho
    simpa [IntKind.min, IntKind.max, IntKind.bits, IntKind.signed] using ho
  refine find_one b mm x (x + 1) (x + 2) last i k off size f A m c W h hw hf ?_ (at_lt h2) ?_ ?_ (at_lt h0) (at_lt h1) hm hof.2 hof.1
  · rw [blk_cell h2]; rfl
  · rw [blk_cell h0]; rfl
  · rw [blk_cell h1]; rfl
theorem Mem.fitM {w : World} {B b mm : Nat} {L : List (Option PRow)} {i off size : Int} {r : PRow} (h : Mem w B b mm L) (hw : wfI i) (ho : wfI off) (hr : rowAt L i = some r) (hfit : fitsB r.n off size = true) : TellsM w (some ⟨b, 0, none⟩) i off size r.k r.A r.n r.c 0 := by
  intro W x hb h0 h1 h2
  refine live_of b mm _ i r.k 0 (fOf L) r.A r.n r.c _ W (h.pm.below hb) (fun W2 hb2 => ?_)
  have hfi : fOf L i = some (.agg #[.int .u8 r.k, .slice r.A r.n r.c]) := by simp [fOf, hr, PRow.val]
  have := ask_find (size := size) ((h.pm.below hb).below hb2) hw hfi (by have := (h.at_ hr).2.1; omega) ho ((hb2.block _ (at_lt h0)).trans h0) ((hb2.block _ (at_lt h1)).trans h1) ((hb2.block _ (at_lt h2)).trans h2)
  rw [hfit] at this
  exact this
theorem Mem.badM {w : World} {B b mm : Nat} {L : List (Option PRow)} {i off size : Int} {r : PRow} (h : Mem w B b mm L) (hw : wfI i) (ho : wfI off) (hr : rowAt L i = some r) (hfit : fitsB r.n off size = false) : TellsM w (some ⟨b, 0, none⟩) i off size 0 none 0 0 32 := by
  intro W x hb h0 h1 h2
  refine live_of b mm _ i 0 32 (fOf L) none 0 0 _ W (h.pm.below hb) (fun W2 hb2 => ?_)
  have hfi : fOf L i = some (.agg #[.int .u8 r.k, .slice r.A r.n r.c]) := by simp [fOf, hr, PRow.val]
  have := ask_find (size := size) ((h.pm.below hb).below hb2) hw hfi (by have := (h.at_ hr).2.1; omega) ho ((hb2.block _ (at_lt h0)).trans h0) ((hb2.block _ (at_lt h1)).trans h1) ((hb2.block _ (at_lt h2)).trans h2)
  rw [hfit] at this
  exact this
end Go.Proofs.YtbllnjkagleenaaGreat
