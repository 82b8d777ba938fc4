/-
  The document's small answers of a slot, and that they are the program's; which slots are first ones, and those below a place.
-/
import Derived.Test.YtjnmfgkjeofneaaFn2
namespace Go.Proofs.Ytjnmfgkjeofneaa
open Go.RowKit Go.Maps
set_option linter.unusedVariables false

def clsI (op : Int) : Int := bits .and .u8 op 7
def hiI (op : Int) : Int := bits .and .u8 op 240
def condR (o : Int) : Bool := decide (16 ≤ o) && decide (o ≤ 112) || decide (160 ≤ o) && decide (o ≤ 208)
def memR (op : Int) (signed : Bool) : Bool := memB op || signed && sgnB op
/-- Is there such an Op? -/
def opcodeR (op : Int) : Bool :=
  if clsI op = 0 then op == 24 else if clsI op = 1 then memR op true else if clsI op = 2 ∨ clsI op = 3 then memR op false
  else if clsI op = 4 ∨ clsI op = 7 then (if hiI op = 128 then !rsB op else if hiI op = 208 then !rsB op || clsI op == 4 else decide (hiI op < 208))
  else if clsI op = 5 then condR (hiI op) || (hiI op == 0 || hiI op == 128 || hiI op == 144) && !rsB op
  else condR (hiI op) || hiI op == 0 && !rsB op
theorem opcode_table : ∀ n : Fin 256, opcodeR (n.val : Int) = isB (clsI n.val) n.val := by decide +kernel
theorem fin256 {P : Int → Prop} (h : ∀ n : Fin 256, P (n.val : Int)) (op : Int) (ho : 0 ≤ op ∧ op < 256) : P op := by
  have := h ⟨op.toNat, by omega⟩
  rwa [show ((op.toNat : Nat) : Int) = op by omega] at this
theorem opcode_is (op : Int) (ho : 0 ≤ op ∧ op < 256) : opcodeR op = isB (clsI op) op := fin256 (P := fun op => opcodeR op = isB (clsI op) op) opcode_table op ho

def aluR (s : Ins) : Bool :=
  if hiI s.op = 208 then s.src == 0 && s.off == 0 && (s.imm == 16 || s.imm == 32 || s.imm == 64)
  else if (rsB s.op && s.imm != 0 || !rsB s.op && s.src != 0 || hiI s.op == 128 && s.imm != 0) = true then false
  else if hiI s.op = 48 ∨ hiI s.op = 144 then s.off == 0 || s.off == 1
  else if hiI s.op = 176 then s.off == 0 || rsB s.op && (s.off == 8 || s.off == 16 || s.off == 32 && clsI s.op == 7)
  else s.off == 0
def jumpR (s : Ins) : Bool :=
  if condR (hiI s.op) = true then rsB s.op && s.imm == 0 || !rsB s.op && s.src == 0
  else if (s.dst != 0 || s.src != 0) = true then false
  else if hiI s.op = 0 ∧ clsI s.op = 5 then s.imm == 0
  else if hiI s.op = 0 then s.off == 0
  else if hiI s.op = 128 then s.off == 0 && decide (1 ≤ s.imm)
  else s.off == 0 && s.imm == 0
def partsR (s : Ins) : Bool :=
  if clsI s.op = 0 then s.off == 0 && (s.src == 0 || s.src == 1 && decide (0 ≤ s.imm))
  else if clsI s.op = 1 ∨ clsI s.op = 3 then s.imm == 0
  else if clsI s.op = 2 then s.src == 0
  else if clsI s.op = 4 ∨ clsI s.op = 7 then aluR s
  else jumpR s
def secondR (s b : Ins) : Bool := b.op == 0 && b.dst == 0 && b.src == 0 && b.off == 0 && !(s.src == 1 && b.imm != 0)

theorem alu_fits (wide : Bool) (s : Ins) (hw : wide = (clsI s.op == 7)) (hi : aluIs wide s.op = true) : aluR s = aluFits wide s := by
  unfold aluR aluFits oneB movB swapB
  unfold aluIs at hi
  change (if hiI s.op = 208 then _ else if hiI s.op = 128 then _ else if hiI s.op = 48 ∨ hiI s.op = 144 then _ else if hiI s.op = 176 then _ else _) = true at hi
  change _ = (if hiI s.op = 208 then _ else if hiI s.op = 128 then _ else if hiI s.op = 48 ∨ hiI s.op = 144 then _ else if hiI s.op = 176 then _ else _)
  generalize hiI s.op = o at *
  generalize rsB s.op = r at *
  subst hw
  generalize (clsI s.op == 7) = c at *
  by_cases h208 : o = 208
  · subst h208; rfl
  by_cases h128 : o = 128
  · subst h128
    cases r <;> simp at hi ⊢
    by_cases h1 : s.src = 0 <;> by_cases h2 : s.imm = 0 <;> by_cases h3 : s.off = 0 <;> simp [h1, h2, h3]
  rw [if_neg h208, if_neg h208, if_neg h128]
  have e128 : (o == 128) = false := by simpa using h128
  rw [e128]
  by_cases h48 : o = 48 ∨ o = 144
  · rw [if_pos h48, if_pos h48]
    cases r <;> by_cases h1 : s.src = 0 <;> by_cases h2 : s.imm = 0 <;> simp [h1, h2]
  rw [if_neg h48, if_neg h48]
  by_cases h176 : o = 176
  · rw [if_pos h176, if_pos h176]
    cases r <;> by_cases h1 : s.src = 0 <;> by_cases h2 : s.imm = 0 <;> simp [h1, h2]
    all_goals (cases c <;> (rw [Bool.eq_iff_iff]; simp; try omega))
  rw [if_neg h176, if_neg h176]
  cases r <;> by_cases h1 : s.src = 0 <;> by_cases h2 : s.imm = 0 <;> simp [h1, h2]

theorem jump_table : ∀ n : Fin 256, (clsI n.val = 5 ∧ jmpIs true n.val = true ∨ clsI n.val = 6 ∧ jmpIs false n.val = true) →
    (condR (hiI n.val) = true → bits .andNot .u8 (n.val : Int) 7 ≠ 0 ∧ bits .andNot .u8 (n.val : Int) 7 ≠ 128 ∧ bits .andNot .u8 (n.val : Int) 7 ≠ 144) ∧
    (condR (hiI n.val) = false → bits .andNot .u8 (n.val : Int) 7 = hiI n.val ∧ (hiI n.val = 0 ∨ clsI n.val = 5 ∧ (hiI n.val = 128 ∨ hiI n.val = 144))) := by decide +kernel
theorem jump_fits (wide : Bool) (s : Ins) (ho : 0 ≤ s.op ∧ s.op < 256) (hw : clsI s.op = if wide then 5 else 6) (hi : jmpIs wide s.op = true) : jumpR s = jmpFits wide s := by
  obtain ⟨t1, t2⟩ := fin256 (P := fun op => (clsI op = 5 ∧ jmpIs true op = true ∨ clsI op = 6 ∧ jmpIs false op = true) →
    (condR (hiI op) = true → bits .andNot .u8 op 7 ≠ 0 ∧ bits .andNot .u8 op 7 ≠ 128 ∧ bits .andNot .u8 op 7 ≠ 144) ∧
    (condR (hiI op) = false → bits .andNot .u8 op 7 = hiI op ∧ (hiI op = 0 ∨ clsI op = 5 ∧ (hiI op = 128 ∨ hiI op = 144)))) jump_table s.op ho (by cases wide <;> simp_all)
  unfold jumpR jmpFits oneB
  cases hc : condR (hiI s.op)
  · obtain ⟨e, hcase⟩ := t2 hc
    rw [e]
    rcases hcase with h0 | ⟨h5, h128 | h144⟩
    · cases wide <;> simp [h0, hw] <;> (by_cases h1 : s.dst = 0 <;> by_cases h2 : s.src = 0 <;> by_cases h3 : s.imm = 0 <;> by_cases h4 : s.off = 0 <;> simp [h1, h2, h3, h4])
    · have : wide = true := by cases wide <;> simp_all
      subst this
      rw [h128]
      by_cases h1 : s.dst = 0 <;> by_cases h2 : s.src = 0 <;> by_cases h3 : s.off = 0 <;> by_cases h4 : 1 ≤ s.imm <;> simp [h1, h2, h3, h4]
    · have : wide = true := by cases wide <;> simp_all
      subst this
      rw [h144]
      by_cases h1 : s.dst = 0 <;> by_cases h2 : s.src = 0 <;> by_cases h3 : s.off = 0 <;> simp [h1, h2, h3]
  · obtain ⟨e1, e2, e3⟩ := t1 hc
    rw [if_neg e1, if_neg e2, if_neg e3, if_pos rfl]
    cases rsB s.op <;> simp
theorem eight_table : ∀ n : Fin 256, clsI n.val = 0 ∨ clsI n.val = 1 ∨ clsI n.val = 2 ∨ clsI n.val = 3 ∨ clsI n.val = 4 ∨ clsI n.val = 5 ∨ clsI n.val = 6 ∨ clsI n.val = 7 := by decide +kernel
theorem cls_eight (op : Int) (h : 0 ≤ op ∧ op < 256) : clsI op = 0 ∨ clsI op = 1 ∨ clsI op = 2 ∨ clsI op = 3 ∨ clsI op = 4 ∨ clsI op = 5 ∨ clsI op = 6 ∨ clsI op = 7 := by
  exact fin256 (P := fun op => clsI op = 0 ∨ clsI op = 1 ∨ clsI op = 2 ∨ clsI op = 3 ∨ clsI op = 4 ∨ clsI op = 5 ∨ clsI op = 6 ∨ clsI op = 7) eight_table op h
theorem zero_table : ∀ n : Fin 256, isB (clsI n.val) n.val = true → (clsI n.val = 0 ↔ (n.val : Int) = 24) := by decide +kernel
/-- The parts of a slot, and of the one behind it. -/
theorem parts_fit (s b : Ins) (ho : 0 ≤ s.op ∧ s.op < 256) (hi : isB (clsI s.op) s.op = true) : (partsR s && (s.op != 24 || secondR s b)) = fitsB (clsI s.op) s b := by
  have hz := fin256 (P := fun op => isB (clsI op) op = true → (clsI op = 0 ↔ op = 24)) zero_table s.op ho hi
  have h24 : clsI s.op ≠ 0 → (s.op != 24) = true := fun h => by
    have : s.op ≠ 24 := fun e => h (hz.2 e)
    simpa using this
  rcases cls_eight s.op ho with h | h | h | h | h | h | h | h
  · have := hz.1 h
    unfold partsR fitsB secondR load64B
    rw [h, if_pos rfl, if_pos rfl, this]
    rw [Bool.eq_iff_iff]
    simp only [Bool.and_eq_true, Bool.or_eq_true, Bool.not_eq_true', Bool.and_eq_false_iff, beq_iff_eq, bne_iff_ne, bne_eq_false_iff_eq, beq_eq_false_iff_ne, decide_eq_true_eq, ne_eq, not_true_eq_false, false_or]
    omega
  all_goals
    rw [h24 (by rw [h]; decide), Bool.true_or, Bool.and_true]
    rw [h] at hi
    unfold isB at hi
    unfold partsR fitsB
    rw [h]
    simp at hi ⊢
  · exact alu_fits false s (by rw [h]; rfl) hi
  · exact jump_fits true s ho (by rw [h]; rfl) hi
  · exact jump_fits false s ho (by rw [h]; rfl) hi
  · exact alu_fits true s (by rw [h]; rfl) hi

def jumpsR (op : Int) : Bool := (clsI op == 5 || clsI op == 6) && hiI op != 128 && hiI op != 144
theorem jumps_table : ∀ n : Fin 256, isB (clsI n.val) n.val = true → jumpsR n.val = ((n.val : Int) == 6 || (n.val : Int) == 5 || condB n.val) ∧ ((hiI n.val = 0 ∧ clsI n.val = 6) ↔ (n.val : Int) = 6) ∧
    (((clsI n.val = 5 ∧ (hiI n.val = 144 ∨ hiI n.val = 0)) ∨ (clsI n.val = 6 ∧ hiI n.val = 0)) ↔ goesB n.val = false) := by decide +kernel
theorem jumps_is (op : Int) (ho : 0 ≤ op ∧ op < 256) (hi : isB (clsI op) op = true) : jumpsR op = (op == 6 || op == 5 || condB op) ∧ ((hiI op = 0 ∧ clsI op = 6) ↔ op = 6) ∧
    (((clsI op = 5 ∧ (hiI op = 144 ∨ hiI op = 0)) ∨ (clsI op = 6 ∧ hiI op = 0)) ↔ goesB op = false) :=
  fin256 (P := fun op => isB (clsI op) op = true → jumpsR op = (op == 6 || op == 5 || condB op) ∧ ((hiI op = 0 ∧ clsI op = 6) ↔ op = 6) ∧
    (((clsI op = 5 ∧ (hiI op = 144 ∨ hiI op = 0)) ∨ (clsI op = 6 ∧ hiI op = 0)) ↔ goesB op = false)) jumps_table op ho hi

end Go.Proofs.Ytjnmfgkjeofneaa
