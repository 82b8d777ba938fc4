/-
  The arguments of a helper, all of them as they must be.
-/
import Derived.Test.YtedjmgiblkjonaaE5
namespace Go.Proofs.Ytedjmgiblkjonaa
open Go.RowKit Go.Maps
set_option linter.unusedVariables false
attribute [local go_sem] Oper.semAt_some

/-- What a row of arguments holds of each: where its maps lie. -/
def ArgsOk (W : World) (B : Nat) (l : List ArgX) : Prop := ∀ x ∈ l, Rd W B 1 x.A x.a.maps.length (mks x.a.maps) ∧ x.a.maps.length ≤ 1000000 ∧ x.a.maps.length ≤ x.c ∧ x.c ≤ maxLen ∧ ∀ m ∈ x.a.maps, 0 ≤ m ∧ m < 256
theorem ArgsOk.below {W W' : World} {B : Nat} {l : List ArgX} (h : ArgsOk W B l) (hb : Below B W W') : ArgsOk W' B l := fun x hx => ⟨(h x hx).1.below hb, (h x hx).2⟩
theorem ArgsOk.mono {W : World} {B B' : Nat} {l : List ArgX} (h : ArgsOk W B l) (hB : B ≤ B') : ArgsOk W B' l := fun x hx => ⟨(h x hx).1.mono hB, (h x hx).2⟩
/-- The maps that are told of a row. -/
def mapsL (l : List ArgX) : List Int := match l.find? (fun x => x.a.kind == 3) with
  | some x => x.a.maps
  | none => []
theorem mapsV_rd {W : World} {B : Nat} {l : List ArgX} (h : ArgsOk W B l) : ∃ A n c, mapsV l = .slice A n c ∧ Rd W B 1 A n (mks (mapsL l)) ∧ n ≤ 1000000 ∧ ∀ m ∈ mapsL l, 0 ≤ m ∧ m < 256 := by
  unfold mapsV mapsL
  cases hf : l.find? (fun x => x.a.kind == 3) with
  | none => exact ⟨none, 0, 0, rfl, Rd.nil, by omega, by simp⟩
  | some x =>
    obtain ⟨h1, h2, h3, h4, h5⟩ := h x (List.mem_of_find?_eq_some hf)
    exact ⟨_, _, _, rfl, h1, h2, h5⟩
/-- The error at an argument's place. -/
def errX (l : List ArgX) (p : Nat × ArgX) : Int :=
  if (numbersM p.2.a.kind p.2.a.lo p.2.a.hi && mapsM p.2.a.kind p.2.a.maps && pairedM (l.take p.1) p.2.a.kind (l.drop (p.1 + 1))) = true then (if suitsM (mapsL (l.take p.1)) p.2.a.kind = true then 0 else 35) else 31
theorem add_add (a : Addr) (i j : Nat) : (a.add i).add j = a.add (i + j) := by
  unfold Addr.add
  by_cases hi : i = 0 <;> by_cases hj : j = 0 <;> simp [hi, hj, Nat.add_assoc]
theorem xcells_at (l : List ArgX) (i j : Nat) (hj : j < 4) : (xcells l)[i * 4 + j]? = (l[i]?).bind fun x => x.cells[j]? := flat_at ArgX.cells 4 (fun _ => rfl) l i j hj
theorem split4 (j : Nat) : ∃ i r, j = i * 4 + r ∧ r < 4 := ⟨j / 4, j % 4, by omega, by omega⟩
theorem Rd.take4 {w : World} {B n : Nat} {A : Option Addr} {l : List ArgX} (h : Rd w B 4 A n (xcells l)) (k : Nat) (hk : k ≤ n) : Rd w B 4 A k (xcells (l.take k)) := by
  have hl := h.xcells_len
  refine ⟨by unfold xcells; rw [flat_length ArgX.cells 4 (fun _ => rfl), List.length_take]; omega, fun hk0 => ?_⟩
  obtain ⟨ad, e, hb, hc⟩ := h.2 (by omega)
  refine ⟨ad, e, hb, fun j u hu => hc j u ?_⟩
  obtain ⟨i, r, rfl, hr⟩ := split4 j
  rw [xcells_at _ _ _ hr] at hu ⊢
  rw [List.getElem?_take] at hu
  split at hu
  · exact hu
  · simp at hu
theorem Rd.drop4 {w : World} {B n : Nat} {ad : Addr} {l : List ArgX} (h : Rd w B 4 (some ad) n (xcells l)) (k : Nat) (hk : k ≤ n) : Rd w B 4 (some (ad.add (k * 4))) (n - k) (xcells (l.drop k)) := by
  have hl := h.xcells_len
  refine ⟨by unfold xcells; rw [flat_length ArgX.cells 4 (fun _ => rfl), List.length_drop]; omega, fun hk0 => ?_⟩
  obtain ⟨ad', e, hb, hc⟩ := h.2 (by omega)
  cases e
  refine ⟨_, rfl, by rw [block_add]; exact hb, fun j u hu => ?_⟩
  rw [add_add]
  refine hc _ u ?_
  obtain ⟨i, r, rfl, hr⟩ := split4 j
  rw [show k * 4 + (i * 4 + r) = (k + i) * 4 + r by omega, xcells_at _ _ _ hr]
  rw [xcells_at _ _ _ hr, List.getElem?_drop] at hu
  exact hu
end Go.Proofs.Ytedjmgiblkjonaa
