/-
  What the document says of a slot, as plain functions: its classes, its parts, its targets.
-/
import Derived.Test.YtjnmfgkjeofneaaK0
namespace Go.Proofs.Ytjnmfgkjeofneaa
open Go.RowKit
set_option linter.unusedVariables false

def memB (op : Int) : Bool := bits .and .u8 op 224 == 96
def sgnB (op : Int) : Bool := bits .and .u8 op 224 == 128 && bits .and .u8 op 24 != 24
def rsB (op : Int) : Bool := bits .and .u8 op 8 != 0
def oneB (s : Ins) : Bool := if rsB s.op then s.imm == 0 else s.src == 0
def swapB (s : Ins) : Bool := s.src == 0 && s.off == 0 && (s.imm == 16 || s.imm == 32 || s.imm == 64)
def movB (s : Ins) (wide : Bool) : Bool := s.off == 0 || (s.off == 8 || s.off == 16) && rsB s.op || s.off == 32 && rsB s.op && wide
def condB (op : Int) : Bool := (bits .and .u8 op 7 == 5 || bits .and .u8 op 7 == 6) && decide (16 ≤ bits .and .u8 op 240) && decide (bits .and .u8 op 240 ≤ 208) && bits .and .u8 op 240 != 128 && bits .and .u8 op 240 != 144
def wrB (op : Int) : Bool := bits .and .u8 op 7 == 0 || bits .and .u8 op 7 == 1 || bits .and .u8 op 7 == 4 || bits .and .u8 op 7 == 7
def regsB (s : Ins) : Bool := decide (s.dst ≤ 10) && decide (s.src ≤ 10) && !(s.dst == 10 && wrB s.op)
def goesB (op : Int) : Bool := op != 149 && op != 5 && op != 6
def slotsN (op : Int) : Nat := if op = 24 then 2 else 1
def load64B (s b : Ins) : Bool := s.off == 0 && (b.op == 0 && b.dst == 0 && b.src == 0 && b.off == 0) && (s.src == 0 || s.src == 1 && decide (0 ≤ s.imm) && b.imm == 0)
def aluIs (wide : Bool) (op : Int) : Bool := if bits .and .u8 op 240 = 208 then !(wide && rsB op) else if bits .and .u8 op 240 = 128 then !rsB op else if bits .and .u8 op 240 = 48 ∨ bits .and .u8 op 240 = 144 then true else if bits .and .u8 op 240 = 176 then true else decide (bits .and .u8 op 240 < 208)
def aluFits (wide : Bool) (s : Ins) : Bool := if bits .and .u8 s.op 240 = 208 then swapB s else if bits .and .u8 s.op 240 = 128 then s.src == 0 && s.off == 0 && s.imm == 0 else if bits .and .u8 s.op 240 = 48 ∨ bits .and .u8 s.op 240 = 144 then oneB s && (s.off == 0 || s.off == 1) else if bits .and .u8 s.op 240 = 176 then oneB s && movB s wide else oneB s && s.off == 0
def jmpIs (wide : Bool) (op : Int) : Bool := if bits .andNot .u8 op 7 = 0 then true else if bits .andNot .u8 op 7 = 128 then wide else if bits .andNot .u8 op 7 = 144 then wide else condB op
def jmpFits (wide : Bool) (s : Ins) : Bool := if bits .andNot .u8 s.op 7 = 0 then (if wide then s.dst == 0 && s.src == 0 && s.imm == 0 else s.dst == 0 && s.src == 0 && s.off == 0) else if bits .andNot .u8 s.op 7 = 128 then decide (1 ≤ s.imm) && (s.dst == 0 && s.src == 0 && s.off == 0) else if bits .andNot .u8 s.op 7 = 144 then s.dst == 0 && s.src == 0 && s.off == 0 && s.imm == 0 else oneB s
/-- Is there such an Op, of the class c? -/
def isB (c : Int) (op : Int) : Bool := if c = 0 then op == 24 else if c = 1 then memB op || sgnB op else if c = 2 then memB op else if c = 3 then memB op else if c = 4 then aluIs false op else if c = 7 then aluIs true op else if c = 5 then jmpIs true op else jmpIs false op
/-- Are the parts as they must be? -/
def fitsB (c : Int) (s b : Ins) : Bool := if c = 0 then load64B s b else if c = 1 then s.imm == 0 else if c = 2 then s.src == 0 else if c = 3 then s.imm == 0 else if c = 4 then aluFits false s else if c = 7 then aluFits true s else if c = 5 then jmpFits true s else jmpFits false s
def targetI (at' : Int) (s : Ins) : Int := if s.op = 6 then at' + 1 + s.imm else if s.op == 5 || condB s.op then at' + 1 + s.off else 0
def targetB (s : Ins) : Bool := s.op == 6 || s.op == 5 || condB s.op

section
variable (w : World)
theorem eqIns (a0 a1 a2 a3 a4 b0 b1 b2 b3 b4 : Int) : (binOp .eql 42 (.agg #[.int .u8 a0, .int .u8 a1, .int .u8 a2, .int .i16 a3, .int .i32 a4]) (.agg #[.int .u8 b0, .int .u8 b1, .int .u8 b2, .int .i16 b3, .int .i32 b4])).run Try.prog w =
    .ok (.bool (a0 == b0 && a1 == b1 && a2 == b2 && a3 == b3 && a4 == b4)) w := by
  have hS : Try.prog.underlying 42 = some (.struct (Try.prog.fieldsOf 42)) := by kernel_rfl
  have hp : Try.prog.stoodInHeld 42 = false := by kernel_rfl
  have hu : Try.prog.underlying 42 = _ := Try.underlying42
  rw [run_eql_struct, show (10000 : Nat) = 9999 + 1 from rfl, run_equalIn_agg w 9999 42 _ _ hS hp]
  simp only [Program.fieldsOf, hu]
  go_simp
  by_cases h0 : a0 = b0 <;> by_cases h1 : a1 = b1 <;> by_cases h2 : a2 = b2 <;> by_cases h3 : a3 = b3 <;> by_cases h4 : a4 = b4 <;> simp [h0, h1, h2, h3, h4]
theorem neqIns (a0 a1 a2 a3 a4 b0 b1 b2 b3 b4 : Int) : (binOp .neq 42 (.agg #[.int .u8 a0, .int .u8 a1, .int .u8 a2, .int .i16 a3, .int .i32 a4]) (.agg #[.int .u8 b0, .int .u8 b1, .int .u8 b2, .int .i16 b3, .int .i32 b4])).run Try.prog w =
    .ok (.bool (!(a0 == b0 && a1 == b1 && a2 == b2 && a3 == b3 && a4 == b4))) w := by
  have h := eqIns w a0 a1 a2 a3 a4 b0 b1 b2 b3 b4
  rw [run_eql_struct] at h
  rw [run_neq_struct]
  generalize (Op.equalIn 10000 42 _ _).run Try.prog w = r at h ⊢
  cases r with
  | ok b w' =>
    simp only [Result.andThen_ok, Result.ok.injEq, Value.bool.injEq] at h ⊢
    exact ⟨by rw [h.1], h.2⟩
  | _ => simp [Result.andThen] at h
end
/-- The five cells of a boxed slot, in whatever later world. -/
theorem later5 {W : World} {b : Nat} {op dst src off imm : Int} {t : TypeId} (h : W.heap[b]? = some (.cells #[.int .u8 op, .int .u8 dst, .int .u8 src, .int .i16 off, .int .i32 imm] t (0, 0))) :
    (∀ x : Later W, x.w.cell? ⟨b, 0, none⟩ = some (.int .u8 op)) ∧ (∀ x : Later W, x.w.cell? ⟨b, 1, none⟩ = some (.int .u8 dst)) ∧ (∀ x : Later W, x.w.cell? ⟨b, 2, none⟩ = some (.int .u8 src)) ∧
    (∀ x : Later W, x.w.cell? ⟨b, 3, none⟩ = some (.int .i16 off)) ∧ (∀ x : Later W, x.w.cell? ⟨b, 4, none⟩ = some (.int .i32 imm)) :=
  ⟨Later.cell (by rw [blk_cell h 0]; rfl), Later.cell (by rw [blk_cell h 1]; rfl), Later.cell (by rw [blk_cell h 2]; rfl), Later.cell (by rw [blk_cell h 3]; rfl), Later.cell (by rw [blk_cell h 4]; rfl)⟩
end Go.Proofs.Ytjnmfgkjeofneaa
