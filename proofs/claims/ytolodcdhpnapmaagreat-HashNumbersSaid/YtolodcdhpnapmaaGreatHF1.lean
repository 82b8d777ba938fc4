/-
  The document's hash, in memory: its places in a row; where a key is; its Lookup.
-/
import Derived.Test.YtolodcdhpnapmaaGreatHR10
import Derived.Deep.QuietTactic
import Derived.BigQuiet
namespace Go.Proofs.YtolodcdhpnapmaaGreat
open Go.RowKit Go.Maps Go.Sort
set_option linter.unusedVariables false

def HS.vals3 (sz : Nat) (r : HS) : List Value := [.bool r.key.isSome, encStr (r.key.getD []), .slice r.A sz r.c]
def cellsR (sz : Nat) (M : List HS) : List Value := M.flatMap (HS.vals3 sz)
/-- The blocks of a document's hash. -/
def OfR (x y sz : Nat) (M : List HS) (g : Nat) : Prop := g = x ∨ g = y ∨ ∃ r ∈ M, (r.sl sz).ownBlock = some g
structure RHsh (w : World) (B x y lc ks sz : Nat) (M : List HS) : Prop where
  blk : w.heap[x]? = some (.cells #[.int .u8 2, .int .i64 ks, .int .i64 sz, .int .i64 M.length, .slice (some ⟨y, 0, none⟩) M.length lc] 55 (0, 0))
  row : w.ownsRow 0 57 3 (.slice (some ⟨y, 0, none⟩) M.length lc) M.length (cellsR sz M)
  each : ∀ (i : Nat) (r : HS), M[i]? = some r → w.ownsRow 0 5 1 (.slice r.A sz r.c) sz (u8s r.bs)
  low : ∀ g, OfR x y sz M g → B ≤ g
  sep : ∀ (i j : Nat) (r s : HS), M[i]? = some r → M[j]? = some s → i ≠ j → ∀ g, (r.sl sz).ownBlock = some g → (s.sl sz).ownBlock ≠ some g
  keyl : ∀ (i : Nat) (r : HS) (k : List UInt8), M[i]? = some r → r.key = some k → k.length = ks
  big : 1 ≤ sz ∧ sz ≤ 1024
  many : 1 ≤ M.length ∧ M.length ≤ 1024
  kbig : 1 ≤ ks ∧ ks ≤ 64
section
variable {w w' : World} {B x y lc ks sz : Nat} {M : List HS}
theorem RHsh.lt (h : RHsh w B x y lc ks sz M) : ∀ g, OfR x y sz M g → g < w.heap.size := by
  rintro g (rfl | rfl | ⟨r, hr, hg⟩)
  · exact at_lt h.blk
  · exact (h.row.lt _ rfl).2
  · obtain ⟨i, hi⟩ := List.mem_iff_getElem?.1 hr
    exact ((h.each i r hi).lt g hg).2
theorem RHsh.kept {F : Nat → Prop} (h : RHsh w B x y lc ks sz M) (hk : Kept F w w') (hF : ∀ g, OfR x y sz M g → F g) : RHsh w' B x y lc ks sz M :=
  ⟨(hk.block x (at_lt h.blk) (hF x (.inl rfl))).trans h.blk, owns_kept h.row hk (fun g hg => hF g (.inr (.inl (by simpa [Value.ownBlock] using hg.symm)))), fun i r hr => owns_kept (h.each i r hr) hk (fun g hg => hF g (.inr (.inr ⟨r, List.mem_of_getElem? hr, hg⟩))), h.low, h.sep, h.keyl, h.big, h.many, h.kbig⟩
theorem RHsh.below (h : RHsh w B x y lc ks sz M) (hb : Below w.heap.size w w') : RHsh w' B x y lc ks sz M := h.kept (F := fun _ => True) (Kept.of_below hb) (fun _ _ => trivial)
theorem RHsh.c1 (h : RHsh w B x y lc ks sz M) : w.cell? ⟨x, 1, none⟩ = some (.int .i64 ks) := by rw [blk_cell h.blk]; rfl
theorem RHsh.c2 (h : RHsh w B x y lc ks sz M) : w.cell? ⟨x, 2, none⟩ = some (.int .i64 sz) := by rw [blk_cell h.blk]; rfl
theorem RHsh.c3 (h : RHsh w B x y lc ks sz M) : w.cell? ⟨x, 3, none⟩ = some (.int .i64 M.length) := by rw [blk_cell h.blk]; rfl
theorem RHsh.c4 (h : RHsh w B x y lc ks sz M) : w.cell? ⟨x, 4, none⟩ = some (.slice (some ⟨y, 0, none⟩) M.length lc) := by rw [blk_cell h.blk]; rfl
theorem RHsh.at3 (h : RHsh w B x y lc ks sz M) {i : Nat} {r : HS} (hr : M[i]? = some r) {t : Nat} (ht : t < 3) : w.cell? ⟨y, i * 3 + t, none⟩ = (HS.vals3 sz r)[t]? := by
  have hrd := Rd.of_own h.row
  have hlt := (List.getElem?_eq_some_iff.1 hr).1
  obtain ⟨ad, e, _, hc⟩ := hrd.2 (by omega)
  injection e with e
  subst e
  have h3 : (HS.vals3 sz r).length = 3 := rfl
  have hv : (HS.vals3 sz r)[t]? = some ((HS.vals3 sz r)[t]'(by omega)) := List.getElem?_eq_getElem _
  have := hc (i * 3 + t) ((HS.vals3 sz r)[t]'(by omega)) (by
    unfold cellsR
    rw [flat_at (HS.vals3 sz) 3 (fun _ => rfl) M i t ht, hr]
    exact hv)
  rw [add_own] at this
  rw [this, hv]
theorem RHsh.is (h : RHsh w B x y lc ks sz M) {i : Nat} {r : HS} (hr : M[i]? = some r) : w.cell? ⟨y, i * 3, none⟩ = some (.bool r.key.isSome) := h.at3 hr (t := 0) (by omega)
theorem RHsh.key (h : RHsh w B x y lc ks sz M) {i : Nat} {r : HS} (hr : M[i]? = some r) : w.cell? ⟨y, i * 3 + 1, none⟩ = some (encStr (r.key.getD [])) := h.at3 hr (t := 1) (by omega)
theorem RHsh.val (h : RHsh w B x y lc ks sz M) {i : Nat} {r : HS} (hr : M[i]? = some r) : w.cell? ⟨y, i * 3 + 2, none⟩ = some (.slice r.A sz r.c) := h.at3 hr (t := 2) (by omega)
end
theorem cellsR_same {sz i : Nat} {M : List HS} {r t : HS} (hr : M[i]? = some r) (ht : t.vals3 sz = r.vals3 sz) : cellsR sz (M.set i t) = cellsR sz M := by
  unfold cellsR
  rw [List.flatMap_def, List.flatMap_def, List.map_set, ht]
  congr 1
  apply List.ext_getElem?
  intro j
  rw [List.getElem?_set]
  split
  · rename_i e
    subst e
    split
    · rw [List.getElem?_map, hr]; rfl
    · rename_i h
      rw [List.getElem?_eq_none (by omega)]
  · rfl
theorem RHsh.off {w : World} {B x y lc ks sz i : Nat} {M : List HS} {r : HS} (h : RHsh w B x y lc ks sz M) (hr : M[i]? = some r) : (r.sl sz).ownBlock ≠ some x ∧ (r.sl sz).ownBlock ≠ some y := by
  refine ⟨fun e => ?_, fun e => ?_⟩
  · obtain ⟨cur, hc⟩ := owns_cells (h.each i r hr) e
    rw [h.blk] at hc; cases hc
  · obtain ⟨cur, hc⟩ := owns_cells (h.each i r hr) e
    obtain ⟨cur2, hc2⟩ := owns_cells (g := y) h.row rfl
    rw [hc] at hc2
    injection hc2 with hc2
    injection hc2 with _ hc2
    exact absurd hc2 (by decide)
/-- A value of it turns where it stands. -/
theorem RHsh.put {w w' : World} {B x y lc ks sz i : Nat} {M : List HS} {r : HS} {bs : List Int} (h : RHsh w B x y lc ks sz M) (hr : M[i]? = some r) (ho : w'.ownsRow 0 5 1 (.slice r.A sz r.c) sz (u8s bs)) (hk : Kept (fun g => (r.sl sz).ownBlock ≠ some g) w w') :
    RHsh w' B x y lc ks sz (M.set i { r with bs := bs }) ∧ Kept (fun g => ¬ OfR x y sz M g) w w' := by
  have hof := h.off hr
  have hat : ∀ (j : Nat) (s : HS), (M.set i { r with bs := bs })[j]? = some s → (j = i ∧ s = { r with bs := bs }) ∨ (j ≠ i ∧ M[j]? = some s) := fun j s hs => by
    rcases set_at hs with ⟨a, b, _⟩ | hh
    · exact .inl ⟨a, b⟩
    · exact .inr hh
  refine ⟨⟨by rw [List.length_set]; exact (hk.block x (at_lt h.blk) hof.1).trans h.blk, ?_, fun j s hs => ?_, fun g hg => h.low g ?_, ?_, fun j s k hs hk' => ?_, h.big, by rw [List.length_set]; exact h.many, h.kbig⟩, hk.mono (fun g hg e => hg (.inr (.inr ⟨r, List.mem_of_getElem? hr, e⟩)))⟩
  · rw [List.length_set, cellsR_same (t := { r with bs := bs }) hr rfl]
    exact owns_kept h.row hk (fun g hg e => hof.2 (by rw [e]; exact hg.symm ▸ rfl))
  · rcases hat j s hs with ⟨rfl, rfl⟩ | ⟨hne, hs'⟩
    · exact ho
    · exact owns_kept (h.each j s hs') hk (fun g hg e => h.sep j i s r hs' hr hne g hg e)
  · rcases hg with e | e | ⟨s, hs, hg⟩
    · exact .inl e
    · exact .inr (.inl e)
    · rcases List.mem_or_eq_of_mem_set hs with hs | rfl
      · exact .inr (.inr ⟨s, hs, hg⟩)
      · exact .inr (.inr ⟨r, List.mem_of_getElem? hr, hg⟩)
  · intro a b s t ha hb hne g hg hg'
    rcases hat a s ha with ⟨rfl, rfl⟩ | ⟨na, ha'⟩
    · rcases hat b t hb with ⟨rfl, rfl⟩ | ⟨nb, hb'⟩
      · exact hne rfl
      · exact h.sep _ b r t hr hb' hne g hg hg'
    · rcases hat b t hb with ⟨rfl, rfl⟩ | ⟨nb, hb'⟩
      · exact h.sep a _ s r ha' hr hne g hg hg'
      · exact h.sep a b s t ha' hb' hne g hg hg'
  · rcases hat j s hs with ⟨rfl, rfl⟩ | ⟨_, hs'⟩
    · exact h.keyl _ r k hr hk'
    · exact h.keyl j s k hs' hk'
theorem stop_append {P : Program} {ops : Array Oper} {Q : Exit → Act → World → Prop} {rest : List Oper} {a : Act} {w : World} {dst : Option Tmp} {args : Array Operand} {tys : Array TypeId} {ty : TypeId} {pos : String} {aft : Array Edge} {gd : Option (Nat × Bool)}
    (h : Hid (wpList P ops Q ({ dst := dst, op := .call { callee := .builtin .append, args := args, argTypes := tys }, type := ty, pos := pos, after := aft, guard := gd } :: rest) a w)) : wpList P ops Q ({ dst := dst, op := .call { callee := .builtin .append, args := args, argTypes := tys }, type := ty, pos := pos, after := aft, guard := gd } :: rest) a w := h
theorem owns_empty (w : World) : (w.alloc (.cells #[] 5)).ownsRow 0 5 1 (.slice (some ⟨w.heap.size, 0, none⟩) 0 0) 0 (u8s []) :=
  ⟨rfl, .inr ⟨w.heap.size, 0, #[], rfl, Nat.zero_le _, World.alloc_heap_new w _, Nat.le_refl _, by unfold maxLen; omega, rfl, rfl⟩⟩
def findV (M : List HS) (k : List UInt8) : Int := match findK M k with | some i => (i : Int) | none => -1
end Go.Proofs.YtolodcdhpnapmaaGreat
