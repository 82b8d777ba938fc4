/-
  Small words on rows of the call's own, and how a walk is stopped at one operation.
-/
import Derived.Test.YtjndmpockfmenaaGreatPB
namespace Go.Proofs.YtjndmpockfmenaaGreat
open Go.RowKit
set_option linter.unusedVariables false

theorem pcells_one (l : List Ins) : ∀ u ∈ pcells l, u.oneCell' = true := by
  intro u hu
  unfold pcells at hu
  rw [List.mem_flatMap] at hu
  obtain ⟨s, _, hu⟩ := hu
  unfold Ins.cells at hu
  simp only [List.mem_cons, List.not_mem_nil, or_false] at hu
  rcases hu with rfl | rfl | rfl | rfl | rfl <;> rfl
theorem u8s_one (l : List Int) : ∀ u ∈ u8s l, u.oneCell' = true := by
  intro u hu
  unfold u8s at hu
  rw [List.mem_map] at hu
  obtain ⟨b, _, rfl⟩ := hu
  rfl
theorem put_some (m c : Nat) (A : Option Addr) (B : Nat) (l : List Ins) (w : World) (hm : m ≤ 4096) (hp : Prg w B A m l) (hB : B ≤ w.heap.size) (hf : ∀ s ∈ l, s.Fits) :
    Calls Tryz.prog 6 #[.slice A m c] w fun e w' => ∃ v err, e = .returned (.tuple #[v, .int .i64 err]) ∧ Below w.heap.size w w' := by
  cases hr : allRight l with
  | true => exact (put_right m c A B l w hm hp hB hf hr).mono fun e w' ⟨g, he, hm⟩ => ⟨_, _, he, hm.2.2⟩
  | false => exact (put_wrong m c A B l w hm hp hB hf hr).mono fun e w' ⟨he, hb⟩ => ⟨_, _, he, hb⟩

theorem stop_here {p : Prop} (h : Hid p) : p := h
theorem start_here {p : Prop} (h : p) : Hid p := h
theorem longer_below {B : Nat} {w W W' : World} {e : TypeId} {sz n : Nat} {v v' : Value} {xs : List Value} (h : Below B w W) (hB : B ≤ W.heap.size) (hv : ∀ g, v.ownBlock = some g → B ≤ g) (hl : Longer W W' e sz v v' n xs) : Below B w W' :=
  h.grown hl.2.1 hB hv
theorem longer_from {B : Nat} {W W' : World} {e : TypeId} {sz n : Nat} {v v' : Value} {xs : List Value} (hl : Longer W W' e sz v v' n xs) (hB : B ≤ W.heap.size) (hv : ∀ g, v.ownBlock = some g → B ≤ g) : ∀ g, v'.ownBlock = some g → B ≤ g := by
  intro g hg
  rcases hl.2.2 with h | h
  · exact hv g (h ▸ hg)
  · rw [h] at hg
    injection hg with hg
    omega
theorem owns_slice {w : World} {e : TypeId} {sz n : Nat} {v : Value} {xs : List Value} (h : w.ownsRow 0 e sz v n xs) : ∃ A c, v = .slice A n c ∧ Rd w w.heap.size sz A n xs := by
  rcases h.2 with ⟨rfl, rfl⟩ | ⟨g, cap, cur, rfl, hb, hg, rest⟩
  · have : xs = [] := List.eq_nil_of_length_eq_zero (by have := h.1; omega)
    subst this
    exact ⟨none, 0, rfl, Rd.nil⟩
  · exact ⟨_, cap, rfl, (Rd.of_owns h).mono (at_lt hg)⟩
theorem row_below {w w' : World} {g cap : Nat} {e : TypeId} {sz n : Nat} {xs : List Value} (h : Row w g cap e sz n xs) (hb : Below w.heap.size w w') : Row w' g cap e sz n xs := (Stays.of_below (B := 0) hb).owns h
theorem bytes_app (l m : List Ins) : u8s (l.flatMap Ins.bytes) ++ u8s (m.flatMap Ins.bytes) = u8s ((l ++ m).flatMap Ins.bytes) := by simp [u8s]
end Go.Proofs.YtjndmpockfmenaaGreat
