/-
  A row of ints that came in is opened.
-/
import Derived.Test.YtjkoaphomimebaaOPD
namespace Go.Proofs.Ytjkoaphomimebaa
open Go.ChangeShapes Go.WideShapes Go.ChangeAt Go.RowKit Go.Deep
set_option linter.unusedVariables false
def i64s (l : List Int) : List Value := l.map (fun m => Value.int .i64 m)
structure AIs (w : World) (B : Nat) (A : Option Addr) (m : Nat) (l : List Int) : Prop where
  rd : Rd w B 1 A m (i64s l)
  all : ∀ x ∈ l, I64 x
theorem AIs.below {w w' : World} {B m : Nat} {A : Option Addr} {l : List Int} (h : AIs w B A m l) (hb : Below B w w') : AIs w' B A m l := ⟨h.rd.below hb, h.all⟩
theorem AIs.cell {w : World} {B m j : Nat} {A : Option Addr} {l : List Int} (h : AIs w B A m l) (hj : j < m) : ∃ ad p, A = some ad ∧ l[j]? = some p ∧ I64 p ∧ w.cell? (ad.add j) = some (.int .i64 p) := by
  obtain ⟨ad, e, hb, hc⟩ := h.rd.2 (by omega)
  have hl : l.length = m := by have := h.rd.1; simpa [i64s] using this
  have hp : l[j]? = some l[j] := List.getElem?_eq_getElem (by omega)
  exact ⟨ad, l[j], e, hp, h.all _ (List.mem_of_getElem? hp), hc j _ (by simp [i64s, hp])⟩
theorem i64s_flat (l : List Int) : l.flatMap (fun m => [Value.int .i64 m]) = i64s l := by
  unfold i64s
  induction l with
  | nil => rfl
  | cons m l ih => simp [ih]
section
variable {H : Type} {enc : TypeId × Value → H} {W : World}
theorem view_int {fuel : Nat} {cs : List Value} {x : DataW H × List MemPlace} (_ : Szd 3 x.1) (h : DataW.trod enc Try.prog W 0 (fun _ => true) true fuel 3 cs = some x) : ∃ m : Int, I64 m ∧ cs = [.int .i64 m] := by
  obtain ⟨m, hm, _, hw⟩ := DataW.trod_int Try.underlying3 h
  exact ⟨m, i64_of_wf hw, hm⟩
theorem cells3 : Try.prog.cellsOf 3 = 1 := by kernel_rfl
theorem bytes3 : Try.prog.bytesOf 3 = 8 := by kernel_rfl
theorem view_ints {fuel : Nat} {cs : List Value} {x : DataW H × List MemPlace} (hx : Szd 44 x.1) (h : DataW.trod enc Try.prog W 0 (fun _ => true) true fuel 44 cs = some x) :
    ∃ (A : Option Addr) (m c : Nat) (l : List Int), cs = [.slice A m c] ∧ AIs W W.heap.size A m l ∧ m ≤ c ∧ c ≤ 140737488351232 := by
  obtain ⟨A, c, l, hcs, hr, hl, h1, h2, h3⟩ := view_rows (P := fun m => I64 m) Try.underlying44 cells3 (by decide) (fun m : Int => [Value.int .i64 m]) (fun _ => rfl) view_int hx h
  rw [bytes3] at h3
  have h4 : c ≤ 140737488351232 := by simp only [reachBytes] at h3; omega
  rw [i64s_flat] at hr
  exact ⟨A, l.length, c, l, hcs, ⟨hr, hl⟩, h1, h4⟩
end
end Go.Proofs.Ytjkoaphomimebaa
