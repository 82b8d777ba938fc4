/-
  A slot of a row of slots is laid: five cells. The marks of slots.
-/
import Derived.Test.YtjndmpockfmenaaGreatF1
namespace Go.Proofs.YtjndmpockfmenaaGreat
open Go.RowKit
set_option linter.unusedVariables false

def mkI (k t : Nat) : List Value := (markI k t).cells
theorem mkI_length (k t : Nat) : (mkI k t).length = 5 := rfl
def set5 (W : World) (g i : Nat) (v0 v1 v2 v3 v4 : Value) : World :=
  ((((W.setCell ⟨g, i, none⟩ v0).setCell ⟨g, i + 1, none⟩ v1).setCell ⟨g, i + 2, none⟩ v2).setCell ⟨g, i + 3, none⟩ v3).setCell ⟨g, i + 4, none⟩ v4
def lset5 (xs : List Value) (i : Nat) (v0 v1 v2 v3 v4 : Value) : List Value := ((((xs.set i v0).set (i + 1) v1).set (i + 2) v2).set (i + 3) v3).set (i + 4) v4
theorem grown5 (w : World) (g i : Nat) (v0 v1 v2 v3 v4 : Value) : w.grownBy (set5 w g i v0 v1 v2 v3 v4) (some g) :=
  ((((grown_set w g i v0).trans (grown_set _ g _ v1)).trans (grown_set _ g _ v2)).trans (grown_set _ g _ v3)).trans (grown_set _ g _ v4)
theorem owns_set5 {w : World} {e : TypeId} {g n cap j : Nat} {xs : List Value} (h : w.ownsRow 0 e 5 (.slice (some ⟨g, 0, none⟩) n cap) n xs) (hj : j < n) (v0 v1 v2 v3 v4 : Value) :
    (set5 w g (j * 5) v0 v1 v2 v3 v4).ownsRow 0 e 5 (.slice (some ⟨g, 0, none⟩) n cap) n (lset5 xs (j * 5) v0 v1 v2 v3 v4) :=
  owns_set (owns_set (owns_set (owns_set (owns_set h (by omega) v0) (by omega) v1) (by omega) v2) (by omega) v3) (by omega) v4
theorem lset5_length (xs : List Value) (i : Nat) (v0 v1 v2 v3 v4 : Value) : (lset5 xs i v0 v1 v2 v3 v4).length = xs.length := by simp [lset5]
theorem lset5_take {xs : List Value} {j : Nat} (hj : j * 5 + 5 ≤ xs.length) (v0 v1 v2 v3 v4 : Value) : (lset5 xs (j * 5) v0 v1 v2 v3 v4).take ((j + 1) * 5) = xs.take (j * 5) ++ [v0, v1, v2, v3, v4] := by
  apply List.ext_getElem?
  intro i
  unfold lset5
  have hl : (xs.take (j * 5)).length = j * 5 := by rw [List.length_take]; omega
  rcases Nat.lt_or_ge i (j * 5) with h | h
  · rw [List.getElem?_append_left (by omega), List.getElem?_take_of_lt (by omega), List.getElem?_take_of_lt h, List.getElem?_set_ne (by omega), List.getElem?_set_ne (by omega), List.getElem?_set_ne (by omega), List.getElem?_set_ne (by omega), List.getElem?_set_ne (by omega)]
  · rw [List.getElem?_append_right (by omega), hl]
    rcases Nat.lt_or_ge i ((j + 1) * 5) with h2 | h2
    · rw [List.getElem?_take_of_lt h2]
      obtain ⟨d, hd, rfl⟩ : ∃ d, d < 5 ∧ i = j * 5 + d := ⟨i - j * 5, by omega, by omega⟩
      rw [Nat.add_sub_cancel_left]
      match d, hd with
      | 0, _ => rw [List.getElem?_set_ne (by omega), List.getElem?_set_ne (by omega), List.getElem?_set_ne (by omega), List.getElem?_set_ne (by omega), Nat.add_zero, List.getElem?_set_self (by omega)]; rfl
      | 1, _ => rw [List.getElem?_set_ne (by omega), List.getElem?_set_ne (by omega), List.getElem?_set_ne (by omega), List.getElem?_set_self (by simp; omega)]; rfl
      | 2, _ => rw [List.getElem?_set_ne (by omega), List.getElem?_set_ne (by omega), List.getElem?_set_self (by simp; omega)]; rfl
      | 3, _ => rw [List.getElem?_set_ne (by omega), List.getElem?_set_self (by simp; omega)]; rfl
      | 4, _ => rw [List.getElem?_set_self (by simp; omega)]; rfl
    · rw [List.getElem?_eq_none (by rw [List.length_take]; omega), List.getElem?_eq_none (by simp; omega)]
/-- A mark of five cells is laid. -/
theorem Marked.set5 {w : World} {e : TypeId} {m : Nat} {v : Nat → Value} {n : Nat → Nat} {mk : Nat → Nat → List Value} {k j g cap : Nat} {v0 v1 v2 v3 v4 : Value} (h : Marked w e 5 m v n mk k j) (hs : Sep m v) (hk : k < m) (hv : v k = .slice (some ⟨g, 0, none⟩) (n k) cap) (hj : j < n k) (hu : mk k j = [v0, v1, v2, v3, v4]) :
    Marked (set5 w g (j * 5) v0 v1 v2 v3 v4) e 5 m v n mk k (j + 1) := fun i hi => by
  obtain ⟨ys, h1, h2, h3⟩ := h i hi
  by_cases hik : i = k
  · subst hik
    rw [hv] at h1
    have hyl : ys.length = n i * 5 := h1.1
    refine ⟨lset5 ys (j * 5) v0 v1 v2 v3 v4, by rw [hv]; exact owns_set5 h1 hj v0 v1 v2 v3 v4, fun hlt => by omega, fun _ => ?_⟩
    rw [lset5_take (by omega), h3 rfl, marks_snoc, hu]
  · refine ⟨ys, h1.kept (grown5 w g _ v0 v1 v2 v3 v4) ?_, h2, fun e => absurd e hik⟩
    cases hb : (v i).ownBlock with
    | none => exact .inl rfl
    | some b =>
      right
      have := hs i k hi hk hik b hb
      rw [hv] at this
      exact fun e => this (by simpa [Value.ownBlock] using e.symm)
theorem take_set_mark5 {k j : Nat} {ys : List Value} (h : ys.take (j * 5) = marks (mkI k) j) (hj : j * 5 + 5 ≤ ys.length) : (lset5 ys (j * 5) (.int .u8 0) (.int .u8 0) (.int .u8 0) (.int .i16 0) (.int .i32 (markV k j))).take ((j + 1) * 5) = marks (mkI k) (j + 1) := by
  rw [lset5_take hj, h, marks_snoc]
  rfl
theorem marksI_one (k N : Nat) : ∀ u ∈ marks (mkI k) N, u.oneCell' = true := by
  intro u hu
  simp only [marks, List.mem_flatMap, mkI, markI, Ins.cells, List.mem_cons, List.not_mem_nil, or_false] at hu
  obtain ⟨t, _, h⟩ := hu
  rcases h with rfl | rfl | rfl | rfl | rfl <;> rfl
theorem mkI_one (k t : Nat) : ∀ u ∈ mkI k t, u.oneCell' = true := by
  intro u hu
  simp only [mkI, markI, Ins.cells, List.mem_cons, List.not_mem_nil, or_false] at hu
  rcases hu with rfl | rfl | rfl | rfl | rfl <;> rfl
theorem new_markI (w : World) (k t : Nat) {b : Nat} (hb : w.heap.size = b) : ∀ j u, (mkI k t)[j]? = some u → (w.alloc (.cells (mkI k t).toArray 27)).cell? ((⟨b, 0, none⟩ : Addr).add j) = some u := by
  subst hb
  obtain ⟨ad, e, _, h⟩ := (cells_rd w (mkI k t) 27 5 1 rfl).2 (by decide)
  cases e
  exact h
/-- The five cells of a slot. -/
theorem own_five {w : World} {e : TypeId} {g n cap j : Nat} {xs : List Value} (h : w.ownsRow 0 e 5 (.slice (some ⟨g, 0, none⟩) n cap) n xs) (hj : j < n) : ∃ u0 u1 u2 u3 u4, ∀ W : World, Below w.heap.size w W →
    W.cell? ⟨g, j * 5, none⟩ = some u0 ∧ W.cell? ⟨g, j * 5 + 1, none⟩ = some u1 ∧ W.cell? ⟨g, j * 5 + 2, none⟩ = some u2 ∧ W.cell? ⟨g, j * 5 + 3, none⟩ = some u3 ∧ W.cell? ⟨g, j * 5 + 4, none⟩ = some u4 ∧
    W.frozen? ⟨g, j * 5, none⟩ = false ∧ W.frozen? ⟨g, j * 5 + 1, none⟩ = false ∧ W.frozen? ⟨g, j * 5 + 2, none⟩ = false ∧ W.frozen? ⟨g, j * 5 + 3, none⟩ = false ∧ W.frozen? ⟨g, j * 5 + 4, none⟩ = false := by
  obtain ⟨u0, _, c0⟩ := owns_at h (show j * 5 < n * 5 by omega)
  obtain ⟨u1, _, c1⟩ := owns_at h (show j * 5 + 1 < n * 5 by omega)
  obtain ⟨u2, _, c2⟩ := owns_at h (show j * 5 + 2 < n * 5 by omega)
  obtain ⟨u3, _, c3⟩ := owns_at h (show j * 5 + 3 < n * 5 by omega)
  obtain ⟨u4, _, c4⟩ := owns_at h (show j * 5 + 4 < n * 5 by omega)
  have hg : g < w.heap.size := (h.lt g rfl).2
  refine ⟨u0, u1, u2, u3, u4, fun W hW => ?_⟩
  have h' := owns_kept_below h hW
  exact ⟨(hW.cell (p := ⟨g, _, none⟩) hg).trans c0, (hW.cell (p := ⟨g, _, none⟩) hg).trans c1, (hW.cell (p := ⟨g, _, none⟩) hg).trans c2, (hW.cell (p := ⟨g, _, none⟩) hg).trans c3, (hW.cell (p := ⟨g, _, none⟩) hg).trans c4, owns_free h' _, owns_free h' _, owns_free h' _, owns_free h' _, owns_free h' _⟩
/-- The five cells of a mark. -/
theorem own_mark {w : World} {e : TypeId} {g n cap j k N : Nat} {ys : List Value} (h : w.ownsRow 0 e 5 (.slice (some ⟨g, 0, none⟩) n cap) n ys) (hj : j < n) (hy : ∀ t, t < 5 → ys[j * 5 + t]? = (mkI k j)[t]?) :
    w.cell? ⟨g, j * 5, none⟩ = some (.int .u8 (markI k j).op) ∧ w.cell? ⟨g, j * 5 + 1, none⟩ = some (.int .u8 (markI k j).dst) ∧ w.cell? ⟨g, j * 5 + 2, none⟩ = some (.int .u8 (markI k j).src) ∧ w.cell? ⟨g, j * 5 + 3, none⟩ = some (.int .i16 (markI k j).off) ∧ w.cell? ⟨g, j * 5 + 4, none⟩ = some (.int .i32 (markI k j).imm) := by
  have hx : ∀ t, t < 5 → ∀ u, (mkI k j)[t]? = some u → w.cell? ⟨g, j * 5 + t, none⟩ = some u := fun t ht u hu => by
    obtain ⟨u', h1, h2⟩ := owns_at h (show j * 5 + t < n * 5 by omega)
    rw [hy t ht, hu] at h1
    rw [h2, ← h1]
  exact ⟨hx 0 (by omega) _ rfl, hx 1 (by omega) _ rfl, hx 2 (by omega) _ rfl, hx 3 (by omega) _ rfl, hx 4 (by omega) _ rfl⟩
theorem later_markI (k j : Nat) (hk : k ≤ 1000) (hj : j ≤ 1000000000) (w : World) : Calls Tryz.prog 27 #[.int .i64 k, .int .i64 j] w fun e w' => e = .returned (.agg #[.int .u8 0, .int .u8 0, .int .u8 0, .int .i16 0, .int .i32 (markV k j)]) ∧ Below w.heap.size w w' :=
  (markInstr_any k j hk hj w).mono fun e w' h => ⟨h.1, by rw [h.2]; exact (Below.refl _ w).alloc (Nat.le_refl _) _⟩
theorem later_markS (k j : Nat) (hk : k ≤ 1000) (hj : j ≤ 1000000000) (w : World) : Calls Tryz.prog 27 #[.int .i64 k, .int .i64 j] w fun e w' => e = .returned (.agg #[.int .u8 (markI k j).op, .int .u8 (markI k j).dst, .int .u8 (markI k j).src, .int .i16 (markI k j).off, .int .i32 (markI k j).imm]) ∧ Below w.heap.size w w' := later_markI k j hk hj w
theorem progInfo : (Tryz.prog.info? 28).map (fun i => (i.zero, i.size, i.bytes)) = some (some (.slice none 0 0), 1, 24) := by kernel_rfl
theorem cell_set5 {w : World} {g i L k : Nat} {v0 v1 v2 v3 v4 u : Value} (hne : L ≠ g) (h : w.cell? ⟨L, k, none⟩ = some u) : (((((w.setCell ⟨g, i, none⟩ v0).setCell ⟨g, i + 1, none⟩ v1).setCell ⟨g, i + 2, none⟩ v2).setCell ⟨g, i + 3, none⟩ v3).setCell ⟨g, i + 4, none⟩ v4).cell? ⟨L, k, none⟩ = some u := by
  have hL : L < w.heap.size := World.block_lt_of_cell? w ⟨L, k, none⟩ h
  exact (World.cell?_of_block (w := w) (a := ⟨L, k, none⟩) ((grown5 w g i v0 v1 v2 v3 v4).block L hL (fun e => hne (by cases e; rfl)))).trans h
theorem mark_sumI (i k j : Nat) (hk : i + k ≤ 1000) (hj : j ≤ 1000000000) (w : World) : Calls Tryz.prog 27 #[.int .i64 ((i : Int) + (k : Int)), .int .i64 j] w fun e w' => e = .returned (.agg #[.int .u8 0, .int .u8 0, .int .u8 0, .int .i16 0, .int .i32 (markV (i + k) j)]) ∧ Below w.heap.size w w' := by
  have h := later_markI (i + k) j hk hj w
  rw [Int.natCast_add] at h
  exact h
end Go.Proofs.YtjndmpockfmenaaGreat
