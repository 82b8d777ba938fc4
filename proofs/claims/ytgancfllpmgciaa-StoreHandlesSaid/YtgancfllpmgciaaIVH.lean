/-
  Rows of ints and of truths that came in are opened.
-/
import Derived.Test.YtgancfllpmgciaaOPH
import Derived.Test.YtgancfllpmgciaaM10
namespace Go.Proofs.Ytgancfllpmgciaa
open Go.ChangeShapes Go.WideShapes Go.ChangeAt Go.RowKit Go.Deep
set_option linter.unusedVariables false
theorem i64s_flat (l : List Int) : l.flatMap (fun m => [Value.int .i64 m]) = i64s l := by
  unfold i64s
  induction l with
  | nil => rfl
  | cons m l ih => simp [ih]
section
variable {H : Type} {enc : TypeId × Value → H} {W : World}
theorem view_int {fuel : Nat} {cs : List Value} {x : DataW H × List MemPlace} (_ : Szd 3 x.1) (h : DataW.trod enc Try.prog W 0 (fun _ => true) true fuel 3 cs = some x) : ∃ m : Int, I64 m ∧ cs = [.int .i64 m] := by
  obtain ⟨m, hm, _, hw⟩ := DataW.trod_int Try.underlying3 h
  exact ⟨m, i64_of_wf hw, hm⟩
theorem cells3 : Try.prog.cellsOf 3 = 1 := by kernel_rfl
theorem bytes3 : Try.prog.bytesOf 3 = 8 := by kernel_rfl
theorem view_ints {fuel : Nat} {cs : List Value} {x : DataW H × List MemPlace} (hx : Szd 35 x.1) (h : DataW.trod enc Try.prog W 0 (fun _ => true) true fuel 35 cs = some x) :
    ∃ (A : Option Addr) (m c : Nat) (l : List Int), cs = [.slice A m c] ∧ AIs W W.heap.size A m l ∧ m ≤ c ∧ c ≤ 140737488351232 := by
  obtain ⟨A, c, l, hcs, hr, hl, h1, h2, h3⟩ := view_rows (P := fun m => I64 m) Try.underlying35 cells3 (by decide) (fun m : Int => [Value.int .i64 m]) (fun _ => rfl) view_int hx h
  rw [bytes3] at h3
  have h4 : c ≤ 140737488351232 := by simp only [reachBytes] at h3; omega
  rw [i64s_flat] at hr
  exact ⟨A, l.length, c, l, hcs, ⟨hr, hl⟩, h1, h4⟩
theorem view_bool {fuel : Nat} {cs : List Value} {x : DataW H × List MemPlace} (_ : Szd 4 x.1) (h : DataW.trod enc Try.prog W 0 (fun _ => true) true fuel 4 cs = some x) : ∃ m : Bool, True ∧ cs = [.bool m] := by
  obtain ⟨m, hm, _⟩ := DataW.trod_bool Try.underlying4 h
  exact ⟨m, trivial, hm⟩
theorem cells4 : Try.prog.cellsOf 4 = 1 := by kernel_rfl
theorem bytes4 : Try.prog.bytesOf 4 = 1 := by kernel_rfl
theorem bools_flat (l : List Bool) : l.flatMap (fun m => [Value.bool m]) = l.map Value.bool := by
  induction l with
  | nil => rfl
  | cons m l ih => simp [ih]
theorem view_bools {fuel : Nat} {cs : List Value} {x : DataW H × List MemPlace} (hx : Szd 38 x.1) (h : DataW.trod enc Try.prog W 0 (fun _ => true) true fuel 38 cs = some x) :
    ∃ (A : Option Addr) (m c : Nat) (l : List Bool), cs = [.slice A m c] ∧ Rd W W.heap.size 1 A m (l.map Value.bool) ∧ m ≤ c := by
  obtain ⟨A, c, l, hcs, hr, hl, h1, h2, h3⟩ := view_rows (P := fun _ => True) Try.underlying38 cells4 (by decide) (fun m : Bool => [Value.bool m]) (fun _ => rfl) view_bool hx h
  rw [bools_flat] at hr
  exact ⟨A, l.length, c, l, hcs, hr, h1⟩
end
end Go.Proofs.Ytgancfllpmgciaa
