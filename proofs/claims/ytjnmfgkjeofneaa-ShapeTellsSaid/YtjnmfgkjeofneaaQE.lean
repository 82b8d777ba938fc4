/-
  Pairs of ints compared; the part of a lent row that is the program.
-/
import Derived.Test.YtjnmfgkjeofneaaQM
import Derived.Test.YtjnmfgkjeofneaaQ10
import Derived.DeepKeys
namespace Go.Proofs.Ytjnmfgkjeofneaa
open Go.RowKit Go.Maps
set_option linter.unusedVariables false

theorem neqPair (w : World) (a b a' b' : Int) : (binOp .neq 33 (.agg #[.int .i64 a, .int .i64 b]) (.agg #[.int .i64 a', .int .i64 b'])).run Try.prog w = .ok (.bool (!(a == a' && b == b'))) w := by
  obtain ⟨i0, hi, hz0, hz1, hz2⟩ := info_parts intInfo
  have hu : Try.prog.underlying 33 = _ := Try.underlying33
  have h3 : Try.prog.underlying 3 = _ := Try.underlying3
  rw [run_neq_struct, show (10000 : Nat) = 9999 + 1 from rfl, run_equalIn_array w 9999 _ _ hu hi]
  have e : List.range 2 = [0, 1] := by decide
  rw [e]
  simp only [Op.eqItems]
  go_simp
  have hcs : Try.prog.cellsOf 3 = 1 := by kernel_rfl
  rw [hcs]
  have hb : (Op.equalIn 9999 3 (.int .i64 b) (.int .i64 b')).run Try.prog w = .ok (b == b') w := run_equalIn_int (P := Try.prog) w 9998 3 .i64 .i64 b b' h3
  by_cases h1 : a = a'
  · simp [h1, hb]
    cases hbb : (b == b') <;> simpa using hbb
  · simp [h1]
theorem Rd.front {w : World} {B sz n m : Nat} {A : Option Addr} {xs ys : List Value} (h : Rd w B sz A (n + m) (xs ++ ys)) (hx : xs.length = n * sz) : Rd w B sz A n xs :=
  ⟨hx, fun hn => by
    obtain ⟨ad, e, hb, hc⟩ := h.2 (by omega)
    refine ⟨ad, e, hb, fun j u hu => hc j u ?_⟩
    rw [List.getElem?_append_left (List.getElem?_eq_some_iff.1 hu).1]
    exact hu⟩
/-- Whatever Targets tells is a slice that reads as the targets. -/
theorem targets_read (A : Option Addr) (m c B : Nat) (l : List Ins) (w : World) (hp : Rd w B 5 A m (pcells l)) (hB : B ≤ w.heap.size) (hf : ∀ s ∈ l, s.Fits) (r : m ≤ 140737488351232) :
    Calls Try.prog 17 #[.slice A m c] w fun e w' => ∃ T d, e = .returned (.slice T (targetsM l).length d) ∧ Rd w' w'.heap.size 1 T (targetsM l).length ((targetsM l).map (Value.int .i64)) ∧ Below w.heap.size w w' :=
  (targets_any A m c B l w hp hB hf r).mono fun e w' ⟨v, he, ho, hb⟩ => by
    obtain ⟨T, d, hv, hr⟩ := owns_slice (ownsRow_base_a ho (Nat.zero_le _))
    exact ⟨T, d, by rw [he, hv], hr, hb⟩
theorem targets_doc_read (A : Option Addr) (m c B : Nat) (l : List Ins) (w : World) (hp : Rd w B 5 A m (pcells l)) (hB : B ≤ w.heap.size) (hf : ∀ s ∈ l, s.Fits) (r : m ≤ 140737488351232) :
    Calls Try.prog 18 #[.slice A m c] w fun e w' => ∃ T d, e = .returned (.slice T (targetsM l).length d) ∧ Rd w' w'.heap.size 1 T (targetsM l).length ((targetsM l).map (Value.int .i64)) ∧ Below w.heap.size w w' := by
  have hll : l.length = m := hp.prg.1
  by_cases hok : (checkM l).2 = 0
  · have ht : targetsM l = risen m (jumps l m) := by unfold targetsM; rw [if_pos hok, hll]
    rw [ht]
    refine (targets_doc A m c B l w hp hB hf r hok).mono fun e w' ⟨v, he, ho, hb⟩ => ?_
    obtain ⟨T, d, hv, hr⟩ := owns_slice ho
    exact ⟨T, d, by rw [he, hv], hr, hb⟩
  · have ht : targetsM l = [] := by unfold targetsM; rw [if_neg hok]
    rw [ht]
    exact (targets_no_doc A m c B l w hp hB hf r hok).mono fun e w' ⟨he, hb⟩ => ⟨none, 0, he, Rd.nil, hb⟩
end Go.Proofs.Ytjnmfgkjeofneaa
