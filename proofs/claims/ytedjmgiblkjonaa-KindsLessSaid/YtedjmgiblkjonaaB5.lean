/-
  The host's own helpers: what they are; a helper that is the same as another one.
-/
import Derived.Test.YtedjmgiblkjonaaB4
namespace Go.Proofs.Ytedjmgiblkjonaa
open Go.RowKit Go.Maps
set_option linter.unusedVariables false

/-- An answer; a helper. -/
structure RetM where
  kind : Int
  lo : Int
  hi : Int
  size : Int
structure HelpM where
  id : Int
  major : Int
  minor : Int
  core : Int
  args : List ArgM
  ret : RetM
def RetM.v (r : RetM) : Value := .agg #[.int .u8 r.kind, .int .i64 r.lo, .int .i64 r.hi, .int .i64 r.size]
def HelpM.v (h : HelpM) (A : Option Addr) (c : Nat) : Value := .agg #[.int .i64 h.id, .int .i64 h.major, .int .i64 h.minor, .int .u8 h.core, .slice A h.args.length c, .int .u8 h.ret.kind, .int .i64 h.ret.lo, .int .i64 h.ret.hi, .int .i64 h.ret.size]
def mapA (l : List Int) : ArgM := ⟨3, 0, 0, l⟩
def plA (k : Int) : ArgM := ⟨k, 0, 0, []⟩
def scA (lo hi : Int) : ArgM := ⟨1, lo, hi, []⟩
/-- The arguments and the answer of the host's own helper of a kind. -/
def ownM (k : Int) : List ArgM × RetM :=
  if k = 1 then ([mapA [1, 2, 3, 4], plA 4], ⟨2, 0, 0, 0⟩) else
  if k = 2 then ([mapA [1, 2, 3, 4, 8], plA 4, plA 5, scA 0 2], ⟨1, -100, 0, 0⟩) else
  if k = 3 then ([mapA [2, 3, 4, 8], plA 4], ⟨1, -100, 0, 0⟩) else
  if k = 4 then ([mapA [5, 6], plA 5, scA 0 2], ⟨1, -100, 0, 0⟩) else
  if k = 5 ∨ k = 6 then ([mapA [5, 6], plA 6], ⟨1, -100, 0, 0⟩) else
  if k = 7 then ([mapA [7], plA 7, ⟨9, 0, 1024, []⟩], ⟨1, -100, 0, 0⟩) else
  if k = 8 then ([plA 2, mapA [8], scA 0 4294967295], ⟨1, -1, -1, 0⟩) else
  if k = 9 ∨ k = 10 then ([], ⟨1, -9223372036854775808, 9223372036854775807, 0⟩) else ([], ⟨0, 0, 0, 0⟩)
def ownB (k : Int) : Bool := decide (1 ≤ k) && decide (k ≤ 10)

/-- The cells of an argument whose maps lie in block gm. -/
def argCells (gm : Nat) (a : ArgM) : List Value := [.int .u8 a.kind, .int .i64 a.lo, .int .i64 a.hi, if a.maps.isEmpty then .slice none 0 0 else .slice (some ⟨gm, 0, none⟩) a.maps.length a.maps.length]
/-- Block g holds these arguments, block gm their maps; both lie from n0 on. -/
structure OwnBlk (W : World) (n0 g gm : Nat) (l : List ArgM) : Prop where
  le : n0 ≤ g
  lem : n0 ≤ gm
  blk : W.heap[g]? = some (.cells (l.flatMap (argCells gm)).toArray 46 (0, 0))
  maps : ∀ a ∈ l, a.maps.isEmpty = false → W.heap[gm]? = some (.cells (mks a.maps).toArray 22 (0, 0))
  small : ∀ a ∈ l, a.maps.length ≤ 1000000
theorem OwnBlk.keep {W W' : World} {n0 g gm : Nat} {l : List ArgM} (h : OwnBlk W n0 g gm l) (hk : ∀ k, n0 ≤ k → k < W.heap.size → W'.heap[k]? = W.heap[k]?) : OwnBlk W' n0 g gm l :=
  ⟨h.le, h.lem, (hk g h.le (at_lt h.blk)).trans h.blk, fun a ha hm => (hk gm h.lem (at_lt (h.maps a ha hm))).trans (h.maps a ha hm), h.small⟩
theorem cell_add (W : World) (g j : Nat) : W.cell? ((⟨g, 0, none⟩ : Addr).add j) = W.cell? ⟨g, j, none⟩ := by
  congr 1
  unfold Addr.add
  split
  · subst j; rfl
  · simp
theorem blk_rd {W : World} {g : Nat} {l : List Value} {t : TypeId} (h : W.heap[g]? = some (.cells l.toArray t (0, 0))) : Rd W W.heap.size 1 (some ⟨g, 0, none⟩) l.length l :=
  ⟨by simp, fun _ => ⟨_, rfl, at_lt h, fun j u hu => by rw [cell_add, blk_cell h]; simpa using hu⟩⟩
theorem OwnBlk.args {W : World} {n0 g gm : Nat} {l : List ArgM} (h : OwnBlk W n0 g gm l) : Args W W.heap.size (some ⟨g, 0, none⟩) l.length l := by
  refine ⟨rfl, fun _ => ⟨_, rfl, at_lt h.blk, fun i a ha => ?_⟩⟩
  have hc : ∀ j, j < 4 → ∀ u, (argCells gm a)[j]? = some u → W.cell? ⟨g, i * 4 + j, none⟩ = some u := fun j hj u hu => by
    rw [blk_cell h.blk]
    have := flat_at (argCells gm) 4 (fun _ => rfl) l i j hj
    rw [ha] at this
    simpa using this.trans hu
  have e0 : ((⟨g, 0, none⟩ : Addr).add (i * 4)).block = g := by rw [block_add]
  have e1 : ((⟨g, 0, none⟩ : Addr).add (i * 4)).off = i * 4 := by unfold Addr.add; split <;> simp_all
  have hmem := List.mem_of_getElem? ha
  refine ⟨if a.maps.isEmpty then none else some ⟨gm, 0, none⟩, if a.maps.isEmpty then 0 else a.maps.length, ?_, ?_, ?_, ?_, ?_, h.small a hmem, ?_, ?_⟩
  · rw [cell_add]; exact hc 0 (by omega) _ rfl
  · rw [e0, e1]; exact hc 1 (by omega) _ rfl
  · rw [e0, e1]; exact hc 2 (by omega) _ rfl
  · rw [e0, e1]
    refine hc 3 (by omega) _ ?_
    cases he : a.maps.isEmpty
    · simp [argCells, he]
    · have : a.maps = [] := by simpa using he
      simp [argCells, this]
  · cases he : a.maps.isEmpty
    · have := blk_rd (h.maps a hmem he)
      simpa [mks] using this
    · have : a.maps = [] := by simpa using he
      rw [this]
      exact Rd.nil
  · cases he : a.maps.isEmpty
    · simp
    · have : a.maps = [] := by simpa using he
      simp [this]
  · have := h.small a hmem
    unfold maxLen
    split <;> omega
theorem name_world {P : Program} {c : Code} {Q : Exit → Act → World → Prop} {a : Act} {w : World} (h : ∀ W, W = w → c.wp P Q a W) : c.wp P Q a w := h w rfl
theorem name_call {P : Program} {f : FuncId} {args : Array Value} {w : World} {R : Ending → World → Prop} (h : ∀ W, W = w → Calls P f args W R) : Calls P f args w R := h w rfl
theorem blocks3 (w : World) (o1 o2 o3 : Obj) : (((w.alloc o1).alloc o2).alloc o3).heap[w.heap.size]? = some o1 ∧ (((w.alloc o1).alloc o2).alloc o3).heap[w.heap.size + 1]? = some o2 ∧ (((w.alloc o1).alloc o2).alloc o3).heap[w.heap.size + 2]? = some o3 := by
  obtain ⟨h1, h2⟩ := two_boxes w o1 o2
  refine ⟨(Below.heap_alloc _ o3 _ (by simp; omega)).trans h1, (Below.heap_alloc _ o3 _ (by simp)).trans h2, ?_⟩
  have := World.alloc_heap_new ((w.alloc o1).alloc o2) o3
  simpa using this
theorem below3 (w : World) (o1 o2 o3 : Obj) : Below w.heap.size w (((w.alloc o1).alloc o2).alloc o3) := (below2 w o1 o2).alloc (by simp; omega) _
theorem eqRet (w : World) (a0 a1 a2 a3 b0 b1 b2 b3 : Int) : (binOp .eql 30 (.agg #[.int .u8 a0, .int .i64 a1, .int .i64 a2, .int .i64 a3]) (.agg #[.int .u8 b0, .int .i64 b1, .int .i64 b2, .int .i64 b3])).run Try.prog w =
    .ok (.bool (a0 == b0 && a1 == b1 && a2 == b2 && a3 == b3)) w := by
  have hS : Try.prog.underlying 30 = some (.struct (Try.prog.fieldsOf 30)) := by kernel_rfl
  have hp : Try.prog.stoodInHeld 30 = false := by kernel_rfl
  have hu : Try.prog.underlying 30 = _ := Try.underlying30
  rw [run_eql_struct, show (10000 : Nat) = 9999 + 1 from rfl, run_equalIn_agg w 9999 30 _ _ hS hp]
  simp only [Program.fieldsOf, hu]
  go_simp
  by_cases h0 : a0 = b0 <;> by_cases h1 : a1 = b1 <;> by_cases h2 : a2 = b2 <;> by_cases h3 : a3 = b3 <;> simp [h0, h1, h2, h3]
end Go.Proofs.Ytedjmgiblkjonaa
