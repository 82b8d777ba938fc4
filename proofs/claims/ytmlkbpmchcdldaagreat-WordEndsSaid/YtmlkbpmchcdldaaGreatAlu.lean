/-
  What 'Alu' tells of any operation, any words.
-/
import Derived.Test.YtmlkbpmchcdldaaGreatComp
namespace Go.Proofs.YtmlkbpmchcdldaaGreat
open Go.RowKit Go.Maps
set_option linter.unusedVariables false

/-- What 'Alu' tells. -/
def alu (op off : Int) (wide : Bool) (x y : BitVec 64) : BitVec 64 × Bool :=
  if wide then
    match fns64.find? (fun q => q.1 == (op, off)) with
    | some q => (q.2 x y, true)
    | none => (0, false)
  else
    match fns32.find? (fun q => q.1 == (op, off)) with
    | some q => ((q.2 (x.setWidth 32) (y.setWidth 32)).setWidth 64, true)
    | none => (0, false)

theorem wide32 (z : BitVec 32) : IntKind.u64.wrap (z.toNat : Int) = ((z.setWidth 64).toNat : Int) := by
  have := lt32 z
  rw [wrapu64, BitVec.toNat_setWidth]; omega

theorem compute64_any (op off : Int) (h1 : (Lit.int .u8 op).wf = true) (h2 : (Lit.int .i16 off).wf = true) (x y : BitVec 64) (w : World) :
    Calls Tryz.prog 15 #[.agg #[.int .u8 op, .int .i16 off], .int .u64 x.toNat, .int .u64 y.toNat] w fun e w' => e = .returned (.tuple #[.int .u64 (alu op off true x y).1.toNat, .bool (alu op off true x y).2]) ∧ Below w.heap.size w w' := by
  unfold alu
  rw [if_pos rfl]
  cases hf : fns64.find? (fun q => q.1 == (op, off)) with
  | some q =>
    obtain ⟨k, f⟩ := q
    have hk : k = (op, off) := by simpa using List.find?_some hf
    have hm : ((op, off), f) ∈ fns64 := hk ▸ List.mem_of_find?_eq_some hf
    exact compute64_of op off _ _ _ true w (fun W bm p es clock ⟨g1, g2, g3, g4, g5⟩ => tell64_key op off f hm x y W es clock bm p g3 g4 g1 g2 g5)
  | none =>
    have hn : ∀ q ∈ fns64, q.1 ≠ (op, off) := fun q hq => by simpa using List.find?_eq_none.1 hf q hq
    exact compute64_of op off _ _ _ false w (fun W bm p es clock ⟨g1, g2, g3, g4, g5⟩ => tell64_none op off h1 h2 hn x y W es clock bm p g3 g1 g5)

theorem compute32_any (op off : Int) (h1 : (Lit.int .u8 op).wf = true) (h2 : (Lit.int .i16 off).wf = true) (x y : BitVec 64) (w : World) :
    Calls Tryz.prog 16 #[.agg #[.int .u8 op, .int .i16 off], .int .u32 (x.setWidth 32).toNat, .int .u32 (y.setWidth 32).toNat] w fun e w' => e = .returned (.tuple #[.int .u64 (alu op off false x y).1.toNat, .bool (alu op off false x y).2]) ∧ Below w.heap.size w w' := by
  unfold alu
  rw [if_neg (by decide)]
  cases hf : fns32.find? (fun q => q.1 == (op, off)) with
  | some q =>
    obtain ⟨k, f⟩ := q
    have hk : k = (op, off) := by simpa using List.find?_some hf
    have hm : ((op, off), f) ∈ fns32 := hk ▸ List.mem_of_find?_eq_some hf
    have := compute32_of op off _ _ _ true w (fun W bm p es clock ⟨g1, g2, g3, g4, g5⟩ => tell32_key op off f hm (x.setWidth 32) (y.setWidth 32) W es clock bm p g3 g4 g1 g2 g5)
    rw [wide32] at this
    exact this
  | none =>
    have hn : ∀ q ∈ fns32, q.1 ≠ (op, off) := fun q hq => by simpa using List.find?_eq_none.1 hf q hq
    exact compute32_of op off _ _ 0 false w (fun W bm p es clock ⟨g1, g2, g3, g4, g5⟩ => tell32_none op off h1 h2 hn (x.setWidth 32) (y.setWidth 32) W es clock bm p g3 g1 g5)

set_option maxHeartbeats 400000 in
theorem alu_wide (op off : Int) (h1 : (Lit.int .u8 op).wf = true) (h2 : (Lit.int .i16 off).wf = true) (x y : BitVec 64) (w : World) :
    Calls Tryz.prog 7 #[.int .u8 op, .int .i16 off, .bool true, .int .u64 x.toNat, .int .u64 y.toNat] w fun e w' => e = .returned (.tuple #[.int .u64 (alu op off true x y).1.toNat, .bool (alu op off true x y).2]) ∧ Below w.heap.size w w' := by
  have HC := put_by (compute64_any op off h1 h2 x y)
  generalize alu op off true x y = r at HC ⊢
  go_enter Tryz.func7, Tryz.ntmps7
  go_wp2_with (go_at_call 15; refine (HC.out _).mono ?_; rintro e w' ⟨rfl, hb⟩; have HB := put_by hb; clear hb)
  go_ret2
  exact ⟨rfl, HB.out⟩
set_option maxHeartbeats 400000 in
theorem alu_low (op off : Int) (h1 : (Lit.int .u8 op).wf = true) (h2 : (Lit.int .i16 off).wf = true) (x y : BitVec 64) (w : World) :
    Calls Tryz.prog 7 #[.int .u8 op, .int .i16 off, .bool false, .int .u64 x.toNat, .int .u64 y.toNat] w fun e w' => e = .returned (.tuple #[.int .u64 (alu op off false x y).1.toNat, .bool (alu op off false x y).2]) ∧ Below w.heap.size w w' := by
  have HC := compute32_any op off h1 h2 x y
  rw [← low32, ← low32] at HC
  have HC := put_by HC
  generalize alu op off false x y = r at HC ⊢
  go_enter Tryz.func7, Tryz.ntmps7
  go_wp2_with (go_at_call 16; refine (HC.out _).mono ?_; rintro e w' ⟨rfl, hb⟩; have HB := put_by hb; clear hb)
  go_ret2
  exact ⟨rfl, HB.out⟩
theorem alu_any (op off : Int) (h1 : (Lit.int .u8 op).wf = true) (h2 : (Lit.int .i16 off).wf = true) (wide : Bool) (x y : BitVec 64) (w : World) :
    Calls Tryz.prog 7 #[.int .u8 op, .int .i16 off, .bool wide, .int .u64 x.toNat, .int .u64 y.toNat] w fun e w' => e = .returned (.tuple #[.int .u64 (alu op off wide x y).1.toNat, .bool (alu op off wide x y).2]) ∧ Below w.heap.size w w' := by
  cases wide
  · exact alu_low op off h1 h2 x y w
  · exact alu_wide op off h1 h2 x y w
end Go.Proofs.YtmlkbpmchcdldaaGreat
