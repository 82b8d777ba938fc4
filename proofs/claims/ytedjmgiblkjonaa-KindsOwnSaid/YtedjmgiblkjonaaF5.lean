/-
  The host's own helpers are right; with an argument more, or another answer, they are not: the model.
-/
import Derived.Test.YtedjmgiblkjonaaF4
namespace Go.Proofs.Ytedjmgiblkjonaa
open Go.RowKit Go.Maps
set_option linter.unusedVariables false

def x0 (a : ArgM) : ArgX := ⟨a, none, 0⟩
def ez (l : List ArgX) : List ArgX := l.map fun x => x0 x.a
theorem ez_get (l : List ArgX) (i : Nat) : (ez l)[i]? = (l[i]?).map fun x => x0 x.a := by simp [ez]
theorem mapsL_ez (l : List ArgX) : mapsL (ez l) = mapsL l := by
  unfold mapsL ez
  rw [List.find?_map]
  cases h : l.find? (fun x => x.a.kind == 3) with
  | none =>
    have : List.find? ((fun x : ArgX => x.a.kind == 3) ∘ fun x => x0 x.a) l = none := h
    rw [this]; rfl
  | some x =>
    have : List.find? ((fun x : ArgX => x.a.kind == 3) ∘ fun x => x0 x.a) l = some x := h
    rw [this]; rfl
theorem pairedM_ez (la lb : List ArgX) (k : Int) : pairedM (ez la) k (ez lb) = pairedM la k lb := by
  unfold pairedM
  have hl : (ez la).length = la.length := by simp [ez]
  rw [hl, ez_get, ez_get]
  split
  · cases lb[0]? <;> rfl
  · split
    · cases la[la.length - 1]? <;> rfl
    · rfl
theorem errX_ez (l : List ArgX) (k : Nat) (x : ArgX) : errX (ez l) (k, x0 x.a) = errX l (k, x) := by
  unfold errX
  have h1 : (ez l).take k = ez (l.take k) := by simp [ez]
  have h2 : (ez l).drop (k + 1) = ez (l.drop (k + 1)) := by simp [ez]
  simp only [h1, h2, pairedM_ez, mapsL_ez]
  rfl
theorem placed_ez : ∀ (l : List ArgX) (k : Nat), placed k (ez l) = (placed k l).map fun p => (p.1, x0 p.2.a)
  | [], k => rfl
  | x :: l, k => by
    show (k, x0 x.a) :: placed (k + 1) (ez l) = _
    rw [placed_ez l (k + 1)]
    rfl
theorem errL_ez (l : List ArgX) : errL (ez l) = errL l := by
  unfold errL
  rw [placed_ez, List.find?_map]
  have hf : ((fun p => errX (ez l) p != 0) ∘ fun p : Nat × ArgX => (p.1, x0 p.2.a)) = fun p => errX l p != 0 := by
    funext p
    show (errX (ez l) (p.1, x0 p.2.a) != 0) = _
    rw [errX_ez]
  rw [hf]
  cases (placed 0 l).find? (fun p => errX l p != 0) with
  | none => rfl
  | some p => exact errX_ez l p.1 p.2
/-- The error of a helper of a right number and version. -/
def tailM (ck rk lo hi sz : Int) (lx : List ArgX) : Int :=
  if 5 < lx.length then 3 else if errL lx ≠ 0 then errL lx else
  if retM rk lo hi sz (mapsL lx) = false then 36 else if ck = 0 then 0 else if isOwnM ck rk lo hi sz (lx.map ArgX.a) = true then 0 else 9
theorem tailM_ez (ck rk lo hi sz : Int) (lx : List ArgX) : tailM ck rk lo hi sz (ez lx) = tailM ck rk lo hi sz lx := by
  unfold tailM
  have h1 : (ez lx).length = lx.length := by simp [ez]
  have h2 : (ez lx).map ArgX.a = lx.map ArgX.a := by simp [ez, x0, Function.comp_def]
  rw [h1, h2, errL_ez, mapsL_ez]
theorem tailM_of (ck rk lo hi sz : Int) (lx : List ArgX) (l : List ArgM) (h : lx.map ArgX.a = l) : tailM ck rk lo hi sz lx = tailM ck rk lo hi sz (l.map x0) := by
  rw [← tailM_ez]
  have : ez lx = l.map x0 := by rw [← h]; simp [ez, Function.comp_def]
  rw [this]
theorem helperM_right (i mj mn ck rk lo hi sz : Int) (lx : List ArgX) (h : (numberM i && versionM mj mn) = true) : helperM i mj mn ck rk lo hi sz lx = tailM ck rk lo hi sz lx := by
  unfold helperM
  rw [h]
  rfl
def ownFine (l : List ArgM) : Prop := ∀ a ∈ l, a.maps.length ≤ 1000000 ∧ ∀ m ∈ a.maps, 0 ≤ m ∧ m < 256
instance (l : List ArgM) : Decidable (ownFine l) := by unfold ownFine; infer_instance
def OwnRight (k : Int) : Prop :=
  tailM k (ownM k).2.kind (ownM k).2.lo (ownM k).2.hi (ownM k).2.size ((ownM k).1.map x0) = 0 ∧ tailM k (ownM k).2.kind (ownM k).2.lo (ownM k).2.hi (ownM k).2.size (((ownM k).1 ++ [scA 0 0]).map x0) = 9 ∧
  tailM k 1 7 8 0 ((ownM k).1.map x0) = 9 ∧ ownFine ((ownM k).1) ∧ (ownM k).1.length ≤ 4
instance (k : Int) : Decidable (OwnRight k) := by unfold OwnRight; infer_instance
theorem own_right (k : Int) (h1 : 1 ≤ k) (h2 : k ≤ 10) : OwnRight k := by
  have h9 : k = 1 ∨ k = 2 ∨ k = 3 ∨ k = 4 ∨ k = 5 ∨ k = 6 ∨ k = 7 ∨ k = 8 ∨ k = 9 ∨ k = 10 := by omega
  rcases h9 with rfl | rfl | rfl | rfl | rfl | rfl | rfl | rfl | rfl | rfl <;> decide +kernel
theorem own_args_ok {w : World} {v : Value} {lx : List ArgX} (hx : ∀ x ∈ lx, OwnX w v x) (hl : ownFine (lx.map ArgX.a)) : ArgsOk w w.heap.size lx := by
  intro x hm
  obtain ⟨h1, h2, h3⟩ := owns_room (hx x hm).1
  obtain ⟨h4, h5⟩ := hl x.a (List.mem_map_of_mem hm)
  exact ⟨h3, h4, h1, h2, h5⟩
theorem numbers_right (r1 r2 r3 : Int) (h1 : 0 ≤ r1) (h2 : r1 < 1073741824) (h3 : 0 ≤ r2) (h4 : r2 < 65536) (h5 : 0 ≤ r3) (h6 : r3 < 65536) : (numberM (1 + r1) && versionM r2 r3) = true := by
  unfold numberM versionM inI
  simp
  omega
end Go.Proofs.Ytedjmgiblkjonaa
